/- The law EntryPuts, given the program's contracts. -/
import Derived.Test.YtfejgedgmaljfaaE15
namespace Go.Proofs.Ytfejgedgmaljfaa
open Go.RowKit

theorem En.put_small {es : List En.E} (h : En.batch es = true) (hs : ∀ e ∈ es, En.Small e) : ∀ x ∈ En.put es, x < lim .u8 := by
  intro x hx
  unfold En.put at hx
  rcases List.mem_append.mp hx with hx | hx
  · exact Va.put_small _ x hx
  · exact En.flat_small (fun e he => ⟨(En.batch_parts h).1 e he, hs e he⟩) x hx
theorem En.put1_le {e : En.E} (h : En.may e = true) : (En.put1 e).length ≤ 120 := by
  obtain ⟨_, _, h1, h2, hc, hk, _, _⟩ := En.may_parts h
  have l1 := Va.one_len10 (u := e.2.1.toNat) (by omega)
  have l2 := Va.one_len10 (u := e.2.2.2.1.length) (by omega)
  have l3 := Ce.put_len hc
  unfold En.put1
  split <;> simp only [List.length_append, List.length_cons, List.length_nil] <;> omega
theorem En.put_le {es : List En.E} (h : En.batch es = true) : (En.put es).length ≤ 4000 := by
  obtain ⟨h1, _, _, h4⟩ := En.batch_parts h
  have hf : ∀ l : List En.E, (∀ e ∈ l, En.may e = true) → (l.flatMap En.put1).length ≤ 120 * l.length := by
    intro l
    induction l with
    | nil => intro _; simp
    | cons a r ih =>
      intro hl
      have := ih (fun e he => hl e (by simp [he]))
      have := En.put1_le (hl a (by simp))
      simp only [List.flatMap_cons, List.length_append, List.length_cons]; omega
  have := hf es h1
  have hl1 := Va.one_len10 (u := es.length) (by omega)
  have hx : (es.headD En.zero).1.toNat < 18446744073709551616 := by
    cases es with
    | nil => decide
    | cons a r =>
      have := (En.may_parts (h1 a (by simp))).2.1
      show a.1.toNat < _
      omega
  have hl2 := Va.one_len10 hx
  unfold En.put
  simp only [List.length_append, Va.put, List.flatMap_cons, List.flatMap_nil, List.append_nil]
  omega
theorem erow_small {w : World} {a : Option Addr} {n : Nat} {es : List En.E} (hr : ERow w a n es) : ∀ e ∈ es, En.Small e := by
  intro e he
  obtain ⟨j, hj, rfl⟩ := List.mem_iff_getElem.mp he
  obtain ⟨b, o, rfl, hc⟩ := hr.at (by have := hr.1; omega)
  obtain ⟨s, A, L, C, _, _, _, _, _, _, _, _, _, _, hk, _, hrow, _, hf⟩ := hc j (by rw [← hr.1]; exact hj)
  rw [show es.getD j En.zero = es[j] by simp [hj]] at hk hrow hf
  exact ⟨by rw [← hk]; exact kb_small s, hrow.2.2.1, hf.2.2.2.2.2.2⟩

set_option maxRecDepth 100000 in
set_option maxHeartbeats 1000000 in
theorem enputs_dark (hP : EPutC) (hB : EBatchC) (a : Option Addr) (l c : Nat) (es : List En.E) (w : World) (hr : ERow w a l es) (hL : ¬ ELight es) :
    Calls Try.prog 3 #[.slice a l c] w fun e w' => e = .returned (.bool true) ∧ Below w.heap.size w w' := by
  have hA := fun w => enawake hP hB w
  have hl := enlight_any a l c es w hr false (by simp [hL])
  go_enter Try.func3, Try.ntmps3
  go_wp2_with (first
    | (go_at_call 7; go_must (refine (hA _).mono ?_; rintro e w2 ⟨rfl, hbel2⟩))
    | (go_at_call 6; go_must (refine hl.mono ?_; rintro e w1 ⟨rfl, hbel1⟩)))
  go_ret
  exact ⟨rfl, hbel1.trans (hbel2.mono hbel1.size)⟩

set_option maxRecDepth 100000 in
set_option maxHeartbeats 2000000 in
theorem enputs_any (hP : EPutC) (hB : EBatchC) (hC : ECheckC) (a : Option Addr) (l c : Nat) (es : List En.E) (w : World) (hr : ERow w a l es) (hnil : a = none → l = 0 ∧ c = 0) (hL : ELight es) :
    Calls Try.prog 3 #[.slice a l c] w fun e w' => e = .returned (.bool true) ∧ Below w.heap.size w w' := by
  have hA := fun w => enawake hP hB w
  have hlen := hr.1
  have hli := enlight_any a l c es w hr true (by simp [hL])
  have hput := fun W (h : Below w.heap.size w W) => hP a l c es W hL (hr.below h (Nat.le_refl _)) hnil
  have hbat := fun W (h : Below w.heap.size w W) => hB a l c es W hL (hr.below h (Nat.le_refl _)) hnil
  have hrb := fun W (h : Below w.heap.size w W) => enbatch_any a l c es W (hr.below h (Nat.le_refl _))
  have hrp : En.batch es = true → ∀ W, Below w.heap.size w W → Calls Try.prog 14 #[.slice a l c] W (Made .u8 5 W (En.put es)) := fun hb W h => enput_any a l c es W (hr.below h (Nat.le_refl _)) hb
  have hsml := erow_small hr
  go_enter Try.func3, Try.ntmps3
  go_wp2_with (go_at_call 6; go_must (refine hli.mono ?_; rintro e w0 ⟨rfl, hbel0⟩))
  go_loopw [3] (fun i wr => ∃ k : Nat, k ≤ l ∧ i = .int .i64 k ∧ Below w.heap.size w wr) (fun i _ => l - (intOf i).toNat)
  case atStart => exact ⟨0, by omega, rfl, hbel0⟩
  case round =>
    obtain ⟨k, hk, rfl, hbel⟩ := hrel
    clear hbel0 hli
    have i0 : (0 : Int) ≤ (k : Int) := Int.natCast_nonneg _
    by_cases hlt : k < l
    · obtain ⟨b, o, rfl, hc⟩ := hr.at (by omega)
      have i1 : (k : Int) < (l : Int) := by omega
      have hlk := hL.2 (es.getD k En.zero) (by
        have hk' : k < es.length := by rw [hlen]; exact hlt
        rw [show es.getD k En.zero = es[k] by simp [hk']]; exact List.getElem_mem hk')
      have hb15 := hr.2.1
      obtain ⟨s1, A1, L1, C1, p0, p1, p2, p3, p4, p5, p6, p7, p8, p9, hk1, hz1, r1, t1, ff1⟩ := (hc k hlt).below hbel (Nat.le_refl _)
      obtain ⟨⟨xi, xt, xk, y1, f1, v1, ps, py, pl, pm⟩, hf1⟩ : ∃ f, f = es.getD k En.zero := ⟨_, rfl⟩
      rw [← hf1] at p0 p1 p2 p4 p6 p7 p8 p9 hk1 r1 ff1 hlk
      simp only at p0 p1 p2 p4 p6 p7 p8 p9 hk1 r1 hlk
      subst hk1
      rw [kb_len, r1.1] at hlk
      have hmy := fun W (h : Below wr.heap.size wr W) => enmay_any xi xt xk s1 f1 A1 L1 C1 v1 (ps, py, pl, pm) W (r1.below h (Nat.le_refl _)) hz1
      have hck := fun W (h : Below wr.heap.size wr W) => hC xi xt xk s1 f1 A1 L1 C1 v1 (ps, py, pl, pm) W hlk.2 hlk.1 ff1 (r1.below h (Nat.le_refl _)) t1
      simp only [ev] at hmy hck
      have hec : Hid (ECells wr b (o + k * 10) (.int .i64 xi) (.int .i64 xt) (.int .i64 xk) (.string s1) (.bool f1) (.slice A1 L1 C1) (.int .i64 ps) (.int .i64 py) (.int .i64 pl) (.int .u32 (pm : Nat))) := (⟨p0, p1, p2, p3, p4, p5, p6, p7, p8, p9⟩ : ECells wr b (o + k * 10) (.int .i64 xi) (.int .i64 xt) (.int .i64 xk) (.string s1) (.bool f1) (.slice A1 L1 C1) (.int .i64 ps) (.int .i64 py) (.int .i64 pl) (.int .u32 (pm : Nat)))
      clear hf1 hc hput hbat hrb hrp hsml hA ff1 hz1 r1 t1 hr hlk hL hlen
      cases hM : En.may (xi, xt, xk, kb s1, f1, v1, ps, py, pl, pm) with
      | true =>
        rw [hM] at hmy hck
        have hck : ∀ W, Below wr.heap.size wr W → Calls Try.prog 8 #[.agg #[.int .i64 xi, .int .i64 xt, .int .i64 xk, .string s1, .bool f1, .slice A1 L1 C1, .int .i64 ps, .int .i64 py, .int .i64 pl, .int .u32 (pm : Nat)]] W fun e w' => e = .returned (.int .i64 0) ∧ Below W.heap.size W w' := hck
        clear hM
        go_wp2_with fail
        go_region_held3 (fun w' => w'.cell? ⟨b, o + k * 10, none⟩ = some (.int .i64 xi) ∧ w'.cell? ⟨b, o + k * 10 + 1, none⟩ = some (.int .i64 xt) ∧ w'.cell? ⟨b, o + k * 10 + 2, none⟩ = some (.int .i64 xk) ∧ w'.cell? ⟨b, o + k * 10 + 3, none⟩ = some (.string s1) ∧ w'.cell? ⟨b, o + k * 10 + 4, none⟩ = some (.bool f1) ∧ w'.cell? ⟨b, o + k * 10 + 5, none⟩ = some (.slice A1 L1 C1) ∧ w'.cell? ⟨b, o + k * 10 + 6, none⟩ = some (.int .i64 ps) ∧ w'.cell? ⟨b, o + k * 10 + 7, none⟩ = some (.int .i64 py) ∧ w'.cell? ⟨b, o + k * 10 + 8, none⟩ = some (.int .i64 pl) ∧ w'.cell? ⟨b, o + k * 10 + 9, none⟩ = some (.int .u32 (pm : Nat))) (first | go_keep | (refine ⟨?_, ?_, ?_, ?_, ?_, ?_, ?_, ?_, ?_, ?_⟩ <;> assumption))
          (first
            | ((go_at_call 9; have := hbel1; refine (hmy _ hbel1).mono ?_; rintro e w2 ⟨rfl, hbel2⟩; have hbel12 := hbel1.trans (hbel2.mono hbel1.size); obtain ⟨v0, v1, v2, v3, v4, v5, v6, v7, v8, v9⟩ := hec.out.below hbel12))
            | ((go_at_call 8; refine (hck _ ((Below.refl _ _).drew)).mono ?_; rintro e w1 ⟨rfl, hbel1d⟩; have hbel1 := below_of_drew hbel1d; obtain ⟨u0, u1, u2, u3, u4, u5, u6, u7, u8, u9⟩ := hec.out.below hbel1)))
        go_wp2
        go_roundw
        case rel => exact ⟨k + 1, by omega, by go_num, hbel.trans (hbel12.mono hbel.size)⟩
        case measure => simp [intOf]; omega
      | false =>
        rw [hM] at hmy hck
        have hck : ∀ W, Below wr.heap.size wr W → Calls Try.prog 8 #[.agg #[.int .i64 xi, .int .i64 xt, .int .i64 xk, .string s1, .bool f1, .slice A1 L1 C1, .int .i64 ps, .int .i64 py, .int .i64 pl, .int .u32 (pm : Nat)]] W fun e w' => e = .returned (.int .i64 1) ∧ Below W.heap.size W w' := hck
        clear hM
        go_wp2_with fail
        go_region_held3 (fun w' => w'.cell? ⟨b, o + k * 10, none⟩ = some (.int .i64 xi) ∧ w'.cell? ⟨b, o + k * 10 + 1, none⟩ = some (.int .i64 xt) ∧ w'.cell? ⟨b, o + k * 10 + 2, none⟩ = some (.int .i64 xk) ∧ w'.cell? ⟨b, o + k * 10 + 3, none⟩ = some (.string s1) ∧ w'.cell? ⟨b, o + k * 10 + 4, none⟩ = some (.bool f1) ∧ w'.cell? ⟨b, o + k * 10 + 5, none⟩ = some (.slice A1 L1 C1) ∧ w'.cell? ⟨b, o + k * 10 + 6, none⟩ = some (.int .i64 ps) ∧ w'.cell? ⟨b, o + k * 10 + 7, none⟩ = some (.int .i64 py) ∧ w'.cell? ⟨b, o + k * 10 + 8, none⟩ = some (.int .i64 pl) ∧ w'.cell? ⟨b, o + k * 10 + 9, none⟩ = some (.int .u32 (pm : Nat))) (first | go_keep | (refine ⟨?_, ?_, ?_, ?_, ?_, ?_, ?_, ?_, ?_, ?_⟩ <;> assumption))
          (first
            | ((go_at_call 9; have := hbel1; refine (hmy _ hbel1).mono ?_; rintro e w2 ⟨rfl, hbel2⟩; have hbel12 := hbel1.trans (hbel2.mono hbel1.size); obtain ⟨v0, v1, v2, v3, v4, v5, v6, v7, v8, v9⟩ := hec.out.below hbel12))
            | ((go_at_call 8; refine (hck _ ((Below.refl _ _).drew)).mono ?_; rintro e w1 ⟨rfl, hbel1d⟩; have hbel1 := below_of_drew hbel1d; obtain ⟨u0, u1, u2, u3, u4, u5, u6, u7, u8, u9⟩ := hec.out.below hbel1)))
        go_wp2
        go_roundw
        case rel => exact ⟨k + 1, by omega, by go_num, hbel.trans (hbel12.mono hbel.size)⟩
        case measure => simp [intOf]; omega
    · obtain rfl : k = l := by omega
      cases hM : En.batch es with
      | false =>
        have hput2 : ∀ W, Below w.heap.size w W → Calls Try.prog 10 #[.slice a k c] W fun e w' => ∃ a c, e = .returned (.tuple #[.slice a 0 c, .int .i64 1]) ∧ Below W.heap.size W w' := fun W h => by
          refine (hput W h).mono ?_
          rintro e w' (⟨h, _⟩ | ⟨_, h⟩)
          · rw [hM] at h; cases h
          · exact h
        rw [hM] at hbat hrb
        have hbat2 : ∀ W, Below w.heap.size w W → Calls Try.prog 12 #[.slice a k c] W fun e w' => e = .returned (.int .i64 1) ∧ Below W.heap.size W w' := hbat
        clear hM hput hbat hrp hsml
        go_wp2_with (first
          | (go_at_call 7; have := hb4; go_must (refine (hA _).mono ?_; rintro e w5 ⟨rfl, hbel5⟩))
          | (go_at_call 12; have := hb3; go_must (refine (hbat2 _ hb3).mono ?_; rintro e w4 ⟨rfl, hbel4⟩; have hb4 := hb3.trans (hbel4.mono hb3.size)))
          | (go_at_call 11; have := hb2; go_must (refine (hrb _ hb2).mono ?_; rintro e w3 ⟨rfl, hbel3⟩; have hb3 := hb2.trans (hbel3.mono hb2.size)))
          | (go_at_call 10; go_must (refine (hput2 _ hbel).mono ?_; rintro e w2 ⟨a2, c2, rfl, hbel2⟩; have hb2 := hbel.trans (hbel2.mono hbel.size))))
        go_ret
        exact ⟨by simp, hb4.trans (hbel5.mono hb4.size)⟩
      | true =>
        have hps := En.put_small hM hsml
        have hpl := En.put_le hM
        have hput2 : ∀ W, Below w.heap.size w W → Calls Try.prog 10 #[.slice a k c] W fun e w' => ∃ a c, e = .returned (.tuple #[.slice a (En.put es).length c, .int .i64 0]) ∧ w'.ownsRow W.heap.size 5 1 (.slice a (En.put es).length c) (En.put es).length (kcells .u8 (En.put es)) ∧ Below W.heap.size W w' := fun W h => by
          refine (hput W h).mono ?_
          rintro e w' (⟨_, h⟩ | ⟨h, _⟩)
          · exact h
          · rw [hM] at h; cases h
        have hrp := hrp hM
        rw [hM] at hbat hrb
        have hbat2 : ∀ W, Below w.heap.size w W → Calls Try.prog 12 #[.slice a k c] W fun e w' => e = .returned (.int .i64 0) ∧ Below W.heap.size W w' := hbat
        clear hM hput hbat hsml
        generalize En.put es = out at *
        go_wp2_with (first
          | (go_at_call 7; have := hb5; go_must (refine (hA _).mono ?_; rintro e w7 ⟨rfl, hbel7⟩))
          | (go_at_call 13; have := hb5; go_must (refine (bytes_any a2 out.length c2 out a5 out.length c5 out _ ((r2.1.below hb25 (Nat.le_refl _))) (row_of_owns hown5 hps (by omega)).1).mono ?_; rintro e w6 ⟨rfl, n6, rfl⟩))
          | (go_at_call 14; have := hb4; go_must (refine (hrp _ hb4).mono ?_; rintro e w5 ⟨a5, c5, rfl, hown5, hbel5⟩; have hb5 := hb4.trans (hbel5.mono hb4.size); have hb25 := hb24.trans (hbel5.mono hb24.size)))
          | (go_at_call 12; have := hb3; go_must (refine (hbat2 _ hb3).mono ?_; rintro e w4 ⟨rfl, hbel4⟩; have hb4 := hb3.trans (hbel4.mono hb3.size); have hb24 := hbel3.trans (hbel4.mono hbel3.size)))
          | (go_at_call 11; have := hb2; go_must (refine (hrb _ hb2).mono ?_; rintro e w3 ⟨rfl, hbel3⟩; have hb3 := hb2.trans (hbel3.mono hb2.size)))
          | (go_at_call 10; go_must (refine (hput2 _ hbel).mono ?_; rintro e w2 ⟨a2, c2, rfl, hown2, hbel2⟩; have hb2 := hbel.trans (hbel2.mono hbel.size); have r2 := row_of_owns hown2 hps (by omega))))
        have hb6 := hb5.trans (below_drewN _ _ n6)
        go_ret
        exact ⟨by simp, hb6.trans (hbel7.mono hb6.size)⟩
end Go.Proofs.Ytfejgedgmaljfaa
