/- The law EntryReads, given the program's contracts. -/
import Derived.Test.YtfejgedgmaljfaaE16
namespace Go.Proofs.Ytfejgedgmaljfaa
open Go.RowKit

set_option maxRecDepth 100000 in
set_option maxHeartbeats 1000000 in
theorem enreads_dark (hP : EPutC) (hB : EBatchC) (a : Option Addr) (l c : Nat) (es : List En.E) (am : Option Addr) (lm cm : Nat) (z : Int) (w : World) (hr : ERow w a l es) (h : ¬ (ELight es ∧ En.batch es = true ∧ lm ≤ 1000)) :
    Calls Try.prog 5 #[.slice a l c, .slice am lm cm, .int .u16 z] w fun e w' => e = .returned (.bool true) ∧ Below w.heap.size w w' := by
  have hA := fun w => enawake hP hB w
  have hrb := fun W (h : Below w.heap.size w W) => enbatch_any a l c es W (hr.below h (Nat.le_refl _))
  by_cases hL : ELight es
  · have hl := enlight_any a l c es w hr true (by simp [hL])
    cases hM : En.batch es with
    | false =>
      rw [hM] at hrb
      clear h hM
      go_enter Try.func5, Try.ntmps5
      go_wp2_with (first
        | (go_at_call 7; go_must (refine (hA _).mono ?_; rintro e w2 ⟨rfl, hbel2⟩))
        | (go_at_call 11; go_must (refine (hrb _ hbel1).mono ?_; rintro e w3 ⟨rfl, hbel3⟩; have hb3 := hbel1.trans (hbel3.mono hbel1.size)))
        | (go_at_call 6; go_must (refine hl.mono ?_; rintro e w1 ⟨rfl, hbel1⟩)))
      go_ret
      exact ⟨rfl, hb3.trans (hbel2.mono hb3.size)⟩
    | true =>
      rw [hM] at hrb
      have hlm : 1000 < lm := by
        rcases Nat.lt_or_ge 1000 lm with h1 | h1
        · exact h1
        · exact absurd ⟨hL, hM, h1⟩ h
      have hd : decide ((1000 : Int) < (lm : Int)) = true := by simp; omega
      clear h hM
      go_enter Try.func5, Try.ntmps5
      go_wp2_with (first
        | (go_at_call 7; go_must (refine (hA _).mono ?_; rintro e w2 ⟨rfl, hbel2⟩))
        | (go_at_call 11; go_must (refine (hrb _ hbel1).mono ?_; rintro e w3 ⟨rfl, hbel3⟩; have hb3 := hbel1.trans (hbel3.mono hbel1.size)))
        | (go_at_call 6; go_must (refine hl.mono ?_; rintro e w1 ⟨rfl, hbel1⟩)))
      go_ret
      exact ⟨rfl, hb3.trans (hbel2.mono hb3.size)⟩
  · have hl := enlight_any a l c es w hr false (by simp [hL])
    clear h hrb
    go_enter Try.func5, Try.ntmps5
    go_wp2_with (first
      | (go_at_call 7; go_must (refine (hA _).mono ?_; rintro e w2 ⟨rfl, hbel2⟩))
      | (go_at_call 6; go_must (refine hl.mono ?_; rintro e w1 ⟨rfl, hbel1⟩)))
    go_ret
    exact ⟨rfl, hbel1.trans (hbel2.mono hbel1.size)⟩
theorem own_adr {W : World} {B n c : Nat} {a : Option Addr} {e : TypeId} {xs : List Value} (h : W.ownsRow B e 1 (.slice a n c) n xs) (hn : 0 < n) : ∃ g o, a = some ⟨g, o, none⟩ := by
  rcases h.2 with ⟨_, h0⟩ | ⟨g, cap, cur, e, _⟩
  · omega
  · simp only [Value.slice.injEq] at e
    exact ⟨_, _, e.1⟩

set_option maxRecDepth 100000 in
set_option maxHeartbeats 2000000 in
theorem enreads_any (hP : EPutC) (hB : EBatchC) (hG : EGetC) (hS : ESameC) (a : Option Addr) (l c : Nat) (es : List En.E) (am : Option Addr) (lm cm : Nat) (ms : List Nat) (q : Nat) (w : World) (hr : ERow w a l es) (hnil : a = none → l = 0 ∧ c = 0) (hL : ELight es) (hbt : En.batch es = true) (hlm : lm ≤ 1000) (hrm : Row .u8 w am lm ms) (hnilm : am = none → lm = 0 ∧ cm = 0) (hq : q < 65536) :
    Calls Try.prog 5 #[.slice a l c, .slice am lm cm, .int .u16 (q : Nat)] w fun e w' => e = .returned (.bool true) ∧ Below w.heap.size w w' := by
  have hA := fun w => enawake hP hB w
  have hlen := hr.1
  have hl40 : l ≤ 40 := by rw [← hlen]; exact hL.1
  have hl0 : l ≠ 0 := by rw [← hlen]; have := (En.batch_parts hbt).2.2.1; omega
  have hli := enlight_any a l c es w hr true (by simp [hL])
  have hsml := erow_small hr
  have hps := En.put_small hbt hsml
  have hpl := En.put_le hbt
  have hput2 : ∀ W, Below w.heap.size w W → Calls Try.prog 10 #[.slice a l c] W fun e w' => ∃ a c, e = .returned (.tuple #[.slice a (En.put es).length c, .int .i64 0]) ∧ w'.ownsRow W.heap.size 5 1 (.slice a (En.put es).length c) (En.put es).length (kcells .u8 (En.put es)) ∧ Below W.heap.size W w' := fun W h => by
    refine (hP a l c es W hL (hr.below h (Nat.le_refl _)) hnil).mono ?_
    rintro e w' (⟨_, h⟩ | ⟨h, _⟩)
    · exact h
    · rw [hbt] at h; cases h
  have hrb := fun W (h : Below w.heap.size w W) => enbatch_any a l c es W (hr.below h (Nat.le_refl _))
  rw [hbt] at hrb
  have hn0 := En.put_pos es
  have hg1 := fun b c W (h1 : Shape b (En.put es).length c) (h2 : (En.put es).length ≤ c) (h : Row .u8 W b (En.put es).length (En.put es)) (h3 : b = none → (En.put es).length = 0 ∧ c = 0) => hG b _ c _ W h1 h2 (by omega) h h3
  have hms := hrm.2.2.1
  have hml := hrm.1
  have hg2 := fun b c W (h1 : Shape b ((En.put es).length + lm) c) (h2 : (En.put es).length + lm ≤ c) (h : Row .u8 W b ((En.put es).length + lm) (En.put es ++ ms)) (h3 : b = none → (En.put es).length + lm = 0 ∧ c = 0) => hG b _ c _ W h1 h2 (by omega) h h3
  obtain ⟨M, hM⟩ : ∃ M, M = q % (En.put es).length := ⟨_, rfl⟩
  have hMlt : M < (En.put es).length := by rw [hM]; exact Nat.mod_lt _ hn0
  have jr : Int.tmod (q : Int) ((En.put es).length : Int) = (M : Int) := by rw [hM, ← Int.ofNat_tmod]
  have hg3 := fun b c W (h1 : ∃ g o, b = some ⟨g, o, none⟩) (h2 : (En.put es).length ≤ c) (h : Row .u8 W b M ((En.put es).take M)) => hG b M c _ W (by
    obtain ⟨g, o, rfl⟩ := h1
    exact .inr ⟨g, o, rfl, by omega⟩) (by omega) (by omega) h (fun e => by obtain ⟨g, o, rfl⟩ := h1; cases e)
  rw [En.get_put hbt hsml] at hg1
  rw [En.get_cut hbt hsml hMlt] at hg3
  have hss := fun b1 d1 W (h1 : ERow W b1 es.length es) (h2 : ERow W a l es) => hS b1 es.length d1 es a l c es W true (by simp) (by omega) hl40 hL hL h1 h2
  have hrs := fun b1 d1 W (h1 : ERow W b1 es.length es) (h2 : ERow W a l es) => ensame_any b1 es.length d1 es a l c es W true (by simp) h1 h2
  have homs : ∀ x ∈ En.put es ++ ms, x < lim .u8 := fun x hx => by
    rcases List.mem_append.mp hx with hx | hx
    · exact hps x hx
    · exact hms x hx
  unfold EGetRes at hg1 hg2 hg3
  rw [gcode_pos (by rw [hlen]; exact hl0)] at hg1
  have hg3 : ∀ b c W, (∃ g o, b = some ⟨g, o, none⟩) → (En.put es).length ≤ c → Row .u8 W b M ((En.put es).take M) → Calls Try.prog 15 #[.slice b M c] W fun e w' => ∃ a c, e = .returned (.tuple #[.slice a 0 c, .int .i64 2]) ∧ ERow w' a 0 [] ∧ (a = none → 0 = 0 ∧ c = 0) ∧ Below W.heap.size W w' := hg3
  have jq : IntKind.i64.wrap (q : Int) = (q : Int) := by rw [IntKind.wrap_i64]; omega
  have hdl : decide ((1000 : Int) < (lm : Int)) = false := by simp; omega
  by_cases h0 : lm = 0
  · subst h0
    obtain rfl : ms = [] := List.length_eq_zero_iff.mp hml
    rw [List.append_nil] at hg2 homs
    rw [En.get_put hbt hsml] at hg2
    rw [gcode_pos (by rw [hlen]; exact hl0)] at hg2
    rw [hlen] at hg1 hg2 hss hrs
    have hdn : (((En.put es).length : Int) == 0) = false := by rw [beq_eq_false_iff_ne]; omega
    clear hsml hbt hM hml hms hlen
    generalize En.put es = out at *
    have jn : (M : Int) ≤ (out.length : Int) := by omega
    have hnz : ¬ ((out.length : Int) = 0) := by omega
    go_enter Try.func5, Try.ntmps5
    go_wp2_with (first
      | (go_at_call 7; have := hb10; go_must (refine (hA _).mono ?_; rintro e w11 ⟨rfl, hbel11⟩))
      | (go_at_call 15; have := hb9; go_must (refine (hg3 _ _ _ (own_adr hown2 hn0) hnc2 ((r2.1.below hb29 (Nat.le_refl _)).take M (by omega))).mono ?_; rintro e w10 ⟨a10, c10, rfl, r10, nl10, hbel10⟩; have hb10 := hb9.trans (hbel10.mono hb9.size)))
      | (go_at_call 15; have := hown8; go_must (refine (hg2 _ _ _ (own_shape hown8) hrow8.2.2 hrow8.1 hrow8.2.1).mono ?_; rintro e w9 ⟨a9, c9, rfl, r9, nl9, hbel9⟩; have hb9 := hbel8.trans (hbel9.mono hsz8); have hb29 := hb28.trans (hbel9.mono hb28.size)))
      | (at_builtin; have := hown7; go_must (refine append_u8 (w0 := w5) (B := w5.heap.size) rfl (.tmp 65) (.tmp 66) rfl _ out.length out rfl hown7 am 0 cm [] rfl (hrm.below (hb5.trans (hbel7.mono hb5.size)) (Nat.le_refl _)) (fun h => ⟨rfl, (hnilm h).2⟩) (by omega) hbel7 hsz7 ?_; intro a8 c8 w8 hown8 hbel8' hsz8'; rw [List.append_nil, Nat.add_zero] at hown8; rw [Nat.add_zero]; have hbel8 := hb5.trans (hbel8'.mono hb5.size); have hsz8 := hbel8.size; have hb28 := hb25.trans (hbel8'.mono hb25.size); have hrow8 := row_of_owns hown8 homs (by omega)))
      | (at_builtin; have := hb5; go_must (refine append_u8 (w0 := w5) (B := w5.heap.size) rfl (.tmp 63) (.tmp 64) rfl _ 0 [] rfl (made_at w5 5 w5.heap.size rfl (Nat.le_refl _)) a2 out.length c2 out rfl ((r2.1.below hb25 (Nat.le_refl _)).below (below_alloc _ _) (Nat.le_refl _)) r2.2.1 (by omega) (below_alloc _ _) (by simp) ?_; intro a7 c7 w7 hown7 hbel7 hsz7; rw [Nat.zero_add, List.nil_append] at hown7; rw [Nat.zero_add]))
      | (go_at_call 17; have := hb4; go_must (refine (hrs _ _ _ (r3.below hbel4 (Nat.le_refl _)) (hr.below hb4 (Nat.le_refl _))).mono ?_; rintro e w5 ⟨rfl, hbel5⟩; have hb5 := hb4.trans (hbel5.mono hb4.size); have hb25 := hb24.trans (hbel5.mono hb24.size)))
      | (go_at_call 18; have := hb3; go_must (refine (hss _ _ _ r3 (hr.below hb3 (Nat.le_refl _))).mono ?_; rintro e w4 ⟨rfl, hbel4⟩; have hb4 := hb3.trans (hbel4.mono hb3.size); have hb24 := hbel3.trans (hbel4.mono hbel3.size)))
      | (go_at_call 15; have := hb2; go_must (refine (hg1 _ _ _ (own_shape hown2) hnc2 r2.1 r2.2.1).mono ?_; rintro e w3 ⟨a3, c3, rfl, r3, nl3, hbel3⟩; have hb3 := hb2.trans (hbel3.mono hb2.size)))
      | (go_at_call 10; have := hb1; go_must (refine (hput2 _ hb1).mono ?_; rintro e w2 ⟨a2, c2, rfl, hown2, hbel2⟩; have hb2 := hb1.trans (hbel2.mono hb1.size); have r2 := row_of_owns hown2 hps (by omega); have hnc2 := r2.2.2))
      | (go_at_call 11; have := hbel0; go_must (refine (hrb _ hbel0).mono ?_; rintro e w1 ⟨rfl, hbel1⟩; have hb1 := hbel0.trans (hbel1.mono hbel0.size)))
      | (go_at_call 6; go_must (refine hli.mono ?_; rintro e w0 ⟨rfl, hbel0⟩)))
    go_ret
    exact ⟨by simp, hb10.trans (hbel11.mono hb10.size)⟩
  · have hne : ms ≠ [] := fun e => h0 (by rw [← hml, e]; rfl)
    rw [En.get_more hbt hsml hms hne] at hg2
    have hg2 : ∀ b c W, Shape b ((En.put es).length + lm) c → (En.put es).length + lm ≤ c → Row .u8 W b ((En.put es).length + lm) (En.put es ++ ms) → (b = none → (En.put es).length + lm = 0 ∧ c = 0) → Calls Try.prog 15 #[.slice b ((En.put es).length + lm) c] W fun e w' => ∃ a c, e = .returned (.tuple #[.slice a 0 c, .int .i64 2]) ∧ ERow w' a 0 [] ∧ (a = none → 0 = 0 ∧ c = 0) ∧ Below W.heap.size W w' := hg2
    rw [hlen] at hg1 hss hrs
    have hdn : (((En.put es).length : Int) == 0) = false := by rw [beq_eq_false_iff_ne]; omega
    have hdm : ((lm : Int) == 0) = false := by rw [beq_eq_false_iff_ne]; omega
    clear hsml hbt hM hml hms hlen hne
    generalize En.put es = out at *
    have jn : (M : Int) ≤ (out.length : Int) := by omega
    have hnz : ¬ ((out.length : Int) = 0) := by omega
    go_enter Try.func5, Try.ntmps5
    go_wp2_with (first
      | (go_at_call 7; have := hb10; go_must (refine (hA _).mono ?_; rintro e w11 ⟨rfl, hbel11⟩))
      | (go_at_call 15; have := hb9; go_must (refine (hg3 _ _ _ (own_adr hown2 hn0) hnc2 ((r2.1.below hb29 (Nat.le_refl _)).take M (by omega))).mono ?_; rintro e w10 ⟨a10, c10, rfl, r10, nl10, hbel10⟩; have hb10 := hb9.trans (hbel10.mono hb9.size)))
      | (go_at_call 15; have := hown8; go_must (refine (hg2 _ _ _ (own_shape hown8) hrow8.2.2 hrow8.1 hrow8.2.1).mono ?_; rintro e w9 ⟨a9, c9, rfl, r9, nl9, hbel9⟩; have hb9 := hbel8.trans (hbel9.mono hsz8); have hb29 := hb28.trans (hbel9.mono hb28.size)))
      | (at_builtin; have := hown7; go_must (refine append_u8 (w0 := w5) (B := w5.heap.size) rfl (.tmp 65) (.tmp 66) rfl _ out.length out rfl hown7 am lm cm ms rfl (hrm.below (hb5.trans (hbel7.mono hb5.size)) (Nat.le_refl _)) hnilm (by omega) hbel7 hsz7 ?_; intro a8 c8 w8 hown8 hbel8' hsz8'; have hbel8 := hb5.trans (hbel8'.mono hb5.size); have hsz8 := hbel8.size; have hb28 := hb25.trans (hbel8'.mono hb25.size); have hrow8 := row_of_owns hown8 homs (by omega)))
      | (at_builtin; have := hb5; go_must (refine append_u8 (w0 := w5) (B := w5.heap.size) rfl (.tmp 63) (.tmp 64) rfl _ 0 [] rfl (made_at w5 5 w5.heap.size rfl (Nat.le_refl _)) a2 out.length c2 out rfl ((r2.1.below hb25 (Nat.le_refl _)).below (below_alloc _ _) (Nat.le_refl _)) r2.2.1 (by omega) (below_alloc _ _) (by simp) ?_; intro a7 c7 w7 hown7 hbel7 hsz7; rw [Nat.zero_add, List.nil_append] at hown7; rw [Nat.zero_add]))
      | (go_at_call 17; have := hb4; go_must (refine (hrs _ _ _ (r3.below hbel4 (Nat.le_refl _)) (hr.below hb4 (Nat.le_refl _))).mono ?_; rintro e w5 ⟨rfl, hbel5⟩; have hb5 := hb4.trans (hbel5.mono hb4.size); have hb25 := hb24.trans (hbel5.mono hb24.size)))
      | (go_at_call 18; have := hb3; go_must (refine (hss _ _ _ r3 (hr.below hb3 (Nat.le_refl _))).mono ?_; rintro e w4 ⟨rfl, hbel4⟩; have hb4 := hb3.trans (hbel4.mono hb3.size); have hb24 := hbel3.trans (hbel4.mono hbel3.size)))
      | (go_at_call 15; have := hb2; go_must (refine (hg1 _ _ _ (own_shape hown2) hnc2 r2.1 r2.2.1).mono ?_; rintro e w3 ⟨a3, c3, rfl, r3, nl3, hbel3⟩; have hb3 := hb2.trans (hbel3.mono hb2.size)))
      | (go_at_call 10; have := hb1; go_must (refine (hput2 _ hb1).mono ?_; rintro e w2 ⟨a2, c2, rfl, hown2, hbel2⟩; have hb2 := hb1.trans (hbel2.mono hb1.size); have r2 := row_of_owns hown2 hps (by omega); have hnc2 := r2.2.2))
      | (go_at_call 11; have := hbel0; go_must (refine (hrb _ hbel0).mono ?_; rintro e w1 ⟨rfl, hbel1⟩; have hb1 := hbel0.trans (hbel1.mono hbel0.size)))
      | (go_at_call 6; go_must (refine hli.mono ?_; rintro e w0 ⟨rfl, hbel0⟩)))
    go_ret
    exact ⟨by simp, hb10.trans (hbel11.mono hb10.size)⟩

end Go.Proofs.Ytfejgedgmaljfaa
