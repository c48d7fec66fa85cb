/- The law of merging in parts. -/
import Derived.Test.YtchiilhdkbpboaaMU
namespace Go.Proofs.Ytchiilhdkbpboaa
open Go.RowKit

theorem PartsAt.cons {w : World} {ps : List PH} {gss : List (List IH)} {xss : List (List It.I)} (h : PartsAt w ps gss xss) {p : PH} {gs : List IH} {xs : List It.I} (hx : InI w p.a p.n p.c gs xs) : PartsAt w (p :: ps) (gs :: gss) (xs :: xss) := by
  refine ⟨by simp [h.1], by simp [h.2.1], fun i hi => ?_⟩
  cases i with
  | zero => simpa using hx
  | succ i => simpa using h.2.2 i (by simpa using hi)
theorem lit_own_at {W : World} {B g n s : Nat} {C : Array Value} {e : TypeId} (h : W.heap[g]? = some (.cells C e (0, 0))) (hC : C.size = n * s) (hn : n ≤ 1000) (hB : B ≤ g) : W.ownsRow B e s (.slice (some ⟨g, 0, none⟩) n n) n C.toList := by
  refine ⟨by simpa using hC, .inr ⟨g, n, C, rfl, hB, h, Nat.le_refl _, by unfold maxLen; omega, hC, ?_⟩⟩
  rw [List.take_of_length_le (by simp [hC])]
/-- a row of one part, just laid -/
theorem one_part (w : World) (p : PH) {g : Nat} (hg : w.heap.size = g) : (w.alloc (.cells #[.slice p.a p.n p.c] 25)).ownsRow w.heap.size 25 1 (.slice (some ⟨g, 0, none⟩) 1 1) 1 (tcells phe [p]) := by
  subst hg
  exact lit_own_at (heap_alloc_new _ _) rfl (by omega) (Nat.le_refl _)
theorem prow_from {w : World} {b off n : Nat} {sp : Option Nat} {ps : List PH} (h : TRow 1 phe phz w (some ⟨b, off, sp⟩) n ps) (k : Nat) (hk : k ≤ n) : TRow 1 phe phz w (some (Addr.add ⟨b, off, sp⟩ k)) (n - k) (ps.drop k) := by
  rcases Nat.eq_zero_or_pos n with rfl | h0
  · exact ⟨by rw [List.length_drop, h.1], by omega, .inl (by omega)⟩
  · obtain ⟨b', o', e, -⟩ := h.at h0
    simp only [Option.some.injEq, Addr.mk.injEq] at e
    obtain ⟨-, -, rfl⟩ := e
    have := h.drop k hk
    rw [Nat.mul_one] at this
    rw [add_at]
    exact this
theorem may_take {l : List (List It.I)} (h : Mg.may l = true) (k : Nat) : Mg.may (l.take k) = true := by
  unfold Mg.may at h ⊢
  rw [Bool.and_eq_true, List.all_eq_true] at h ⊢
  refine ⟨fun a ha => h.1 a (List.mem_of_mem_take ha), ?_⟩
  have := of_decide_eq_true h.2
  rw [List.length_take]
  exact decide_eq_true (by omega)
theorem may_parts {l : List (List It.I)} (h : Mg.may l = true) (k : Nat) : Mg.may (Mg.all (l.take k) false :: l.drop k) = decide (1 + (l.length - k) ≤ 100) := by
  have h1 : It.sorted (Mg.all (l.take k) false) = true := by
    have e : Mg.all (l.take k) false = Mg.mall (l.take k) := by unfold Mg.all; rw [List.filter_eq_self]; intro x _; rfl
    rw [e]
    exact Mg.sorted_mall (may_take h k)
  unfold Mg.may at h ⊢
  rw [Bool.and_eq_true, List.all_eq_true] at h
  have h2 : (Mg.all (l.take k) false :: l.drop k).all It.sorted = true := by
    rw [List.all_eq_true]
    intro a ha
    rcases List.mem_cons.mp ha with rfl | ha
    · exact h1
    · exact h.1 a (List.mem_of_mem_drop ha)
  rw [h2, Bool.true_and, List.length_cons, List.length_drop, Nat.add_comm]
/-- something is told -/
def SomeRes (w : World) (e : Ending) (w' : World) : Prop := ∃ (a : Option Addr) (m c : Nat) (z : Int), e = .returned (.tuple #[.slice a m c, .int .i64 z]) ∧ Below w.heap.size w w'
theorem mall_some (a : Option Addr) (n c : Nat) (ps : List PH) (gss : List (List IH)) (xss : List (List It.I)) (drop : Bool) (w : World) (hi : InP w a n ps gss xss) (hnc : n ≤ c) (hsz : ∀ i, i < n → (ps.getD i phz).n ≤ 100000) :
    Calls Try.prog 9 #[.slice a n c, .bool drop] w (SomeRes w) := by
  cases hm : Mg.may xss with
  | true => exact (mall_yes a n c ps gss xss drop w hi hnc hsz hm).mono fun e w' ⟨a', c', hs, h1, _, h3⟩ => ⟨a', _, c', 0, h1, h3⟩
  | false => exact (mall_no a n c ps gss xss drop w hi hsz hm).mono fun e w' ⟨h1, h2⟩ => ⟨none, 0, 0, 1, h1, h2⟩

set_option maxRecDepth 100000 in
set_option maxHeartbeats 4000000 in
theorem mergeparts_yes (a : Option Addr) (n c : Nat) (ps : List PH) (gss : List (List IH)) (xss : List (List It.I)) (A : Nat) (hA : A < 256) (w : World) (hi : InQ w a n c ps gss xss) (hL : Lite n ps gss) (hm : Mg.may xss = true) :
    Calls Try.prog 6 #[.slice a n c, .int .u8 (A : Nat)] w fun e w' => e = .returned (.bool true) ∧ Below w.heap.size w w' := by
  have hp := hi.1
  have hnc := hi.2.2
  have hnil := hi.2.1
  have haw := fun W => mgawake W
  have hl := mlightT a n c ps gss xss w hp hL
  have hK := hL.le 100000 (by omega)
  have hK9 := hL.le 900 (by omega)
  have hK1 := hL.le 1000 (by omega)
  have hn := hL.1
  have hmay := fun W (hW : Below w.heap.size w W) => rmay_any a n c ps gss xss W (hp.below hW (Nat.le_refl _)) hK1
  rw [hm] at hmay
  obtain ⟨hU, -, hl100⟩ := Mg.may_keys hm
  rw [hp.len] at hl100
  obtain ⟨k, hk⟩ : ∃ k, k = A % (n + 1) := ⟨_, rfl⟩
  have hkn : k ≤ n := by rw [hk]; have := Nat.mod_lt A (show 0 < n + 1 by omega); omega
  have e0 : IntKind.i64.wrap (A : Int) = (A : Int) := by rw [IntKind.wrap_i64]; omega
  have e1 : (A : Int) % ((n : Int) + 1) = (k : Int) := by rw [hk]; simp
  have k0 : (0 : Int) ≤ (k : Int) := by omega
  have k1 : (k : Int) ≤ (n : Int) := by omega
  have k2 : (k : Int) ≤ (c : Int) := by omega
  have k3 : (n : Int) ≤ (c : Int) := by omega
  clear hk
  have hpt := hp.take k hkn
  have hKt : ∀ i, i < k → ((ps.take k).getD i phz).n ≤ 100000 := fun i hi' => by rw [getD_take' _ _ hi']; exact hK i (by omega)
  have hall1 := fun W (hW : Below w.heap.size w W) => mall_yes a k c _ _ _ false W (hpt.below hW (Nat.le_refl _)) (by omega) hKt (may_take hm k)
  have hl1 : (Mg.all (xss.take k) false).length ≤ 100000 := by
    have h1 : (Mg.all (xss.take k) false).length ≤ (Mg.mall (xss.take k)).length := by unfold Mg.all; exact List.length_filter_le _ _
    rw [← Mg.tag_mall 0 (fun x hx => hU x (List.mem_of_mem_take hx)), List.length_map] at h1
    have h2 := Mg.tag_len 900 0 (l := xss.take k) (fun x hx => parts_le hp hK9 x (List.mem_of_mem_take hx))
    have h3 : (xss.take k).length ≤ n := by rw [List.length_take, hp.len]; omega
    have h4 : (xss.take k).length * 900 ≤ n * 900 := Nat.mul_le_mul_right _ h3
    omega
  have hmp := may_parts hm k
  rw [hp.len] at hmp
  have hpa := Mg.parts_all hU k true
  have hInP : ∀ (W3 W : World) a3 c3 hs3 a4 c4, InI W3 a3 (Mg.all (xss.take k) false).length c3 hs3 (Mg.all (xss.take k) false) → Below W3.heap.size W3 W → Below w.heap.size w W → W.ownsRow W3.heap.size 25 1 (.slice a4 (1 + (n - k)) c4) (1 + (n - k)) (tcells phe ([⟨a3, (Mg.all (xss.take k) false).length, c3⟩] ++ ps.drop k)) → InP W a4 (1 + (n - k)) (⟨a3, (Mg.all (xss.take k) false).length, c3⟩ :: ps.drop k) (hs3 :: gss.drop k) (Mg.all (xss.take k) false :: xss.drop k) := fun W3 W a3 c3 hs3 a4 c4 h1 h2 h3 h4 => ⟨trow_of_owns phE h4 (by omega) (by omega), ((hp.2.below h3 (Nat.le_refl _)).drop k).cons (h1.below h2 (Nat.le_refl _))⟩
  have hKp : ∀ a3 c3, ∀ i, i < 1 + (n - k) → (((⟨a3, (Mg.all (xss.take k) false).length, c3⟩ : PH) :: ps.drop k).getD i phz).n ≤ 100000 := fun a3 c3 i hi' => by
    cases i with
    | zero => simpa using hl1
    | succ i =>
      have : ((⟨a3, (Mg.all (xss.take k) false).length, c3⟩ : PH) :: ps.drop k).getD (i + 1) phz = (ps.drop k).getD i phz := by simp
      rw [this, getD_drop']
      exact hK _ (by omega)
  have hall2 : n < 100 → ∀ (W : World) (W3 : World) (a3 : Option Addr) (c3 : Nat) {hs3 : List IH} {a4 : Option Addr} {c4 : Nat}, InI W3 a3 (Mg.all (xss.take k) false).length c3 hs3 (Mg.all (xss.take k) false) → Below W3.heap.size W3 W → Below w.heap.size w W → W.ownsRow W3.heap.size 25 1 (.slice a4 (1 + (n - k)) c4) (1 + (n - k)) (tcells phe ([⟨a3, (Mg.all (xss.take k) false).length, c3⟩] ++ ps.drop k)) → 1 + (n - k) ≤ c4 → Calls Try.prog 9 #[.slice a4 (1 + (n - k)) c4, .bool true] W (MAllRes W (Mg.all xss true)) := fun h100 W W3 a3 c3 hs3 a4 c4 h1 h2 h3 h4 h5 => by
    have := mall_yes a4 (1 + (n - k)) c4 _ _ _ true W (hInP W3 W a3 c3 hs3 a4 c4 h1 h2 h3 h4) h5 (hKp a3 c3) (by rw [hmp]; exact decide_eq_true (by omega))
    rw [hpa] at this
    exact this
  have hall2s : ∀ (W : World) (W3 : World) (a3 : Option Addr) (c3 : Nat) {hs3 : List IH} {a4 : Option Addr} {c4 : Nat}, InI W3 a3 (Mg.all (xss.take k) false).length c3 hs3 (Mg.all (xss.take k) false) → Below W3.heap.size W3 W → Below w.heap.size w W → W.ownsRow W3.heap.size 25 1 (.slice a4 (1 + (n - k)) c4) (1 + (n - k)) (tcells phe ([⟨a3, (Mg.all (xss.take k) false).length, c3⟩] ++ ps.drop k)) → 1 + (n - k) ≤ c4 → Calls Try.prog 9 #[.slice a4 (1 + (n - k)) c4, .bool true] W (SomeRes W) := fun W W3 a3 c3 hs3 a4 c4 h1 h2 h3 h4 h5 => mall_some a4 (1 + (n - k)) c4 _ _ _ true W (hInP W3 W a3 c3 hs3 a4 c4 h1 h2 h3 h4) h5 (hKp a3 c3)
  have hall3 := fun W (hW : Below w.heap.size w W) => mall_yes a n c ps gss xss true W (hp.below hW (Nat.le_refl _)) hnc hK hm
  have hall3s := fun W (hW : Below w.heap.size w W) => mall_some a n c ps gss xss true W (hp.below hW (Nat.le_refl _)) hnc hK
  have hsame := fun (w2 w1 : World) a2 c2 (hs2 : List IH) a4 c4 (hs4 : List IH) W => isame_any w2 w1 a2 (Mg.all xss true).length c2 hs2 (Mg.all xss true) a4 (Mg.all xss true).length c4 hs4 (Mg.all xss true) W
  rw [show It.sameGo (Mg.all xss true) (Mg.all xss true) = true from (It.sameGo_iff _ _).mpr rfl] at hsame
  have hTR : Hid (TRow 1 phe phz w a n ps) := hp.1
  have Hn1 : Hid (hl1 = hl1) := rfl
  generalize Mg.all xss true = L at *
  generalize Mg.all (xss.take k) false = L1 at *
  clear hInP hKp hmp hpa Hn1 hpt hKt hU hl1 hp hi hK hK9 hK1 hL hm hl100
  rcases a with _ | ⟨b, off, sp⟩
  · obtain ⟨rfl, rfl⟩ := hnil rfl
    obtain rfl : k = 0 := by omega
    have hsrc := fun W (hW : Below w.heap.size w W) => (show TRow 1 phe phz W none 0 (ps.drop 0) from ⟨hTR.out.1, by omega, .inl rfl⟩)
    rw [Nat.sub_self] at hall2
    replace hall2 := hall2 (by omega)
    clear hall2s hall3s
    go_enter Try.func6, Try.ntmps6
    go_wp2_with (first
      | (go_at_call 14; go_must (refine (hsame w5 w6 _ _ _ _ _ _ w6 (hi5.1.1.below hbel6 (Nat.le_refl _)) hi5.1.2 hi6.1.1 hi6.1.2 hbel6 (Below.refl _ _)).mono ?_; rintro e w7 ⟨rfl, hbel7⟩; have b7 := b6.trans (hbel7.mono b6.size)))
      | (go_at_call 9; have hz := b5; go_must (refine (hall3 _ b5).mono ?_; rintro e w6 ⟨a6, c6, hs6, rfl, hi6, hbel6⟩; have b6 := b5.trans (hbel6.mono b5.size)))
      | (go_at_call 9; have hz := b4; go_must (refine (hall2 _ _ _ _ hi3 hbel4 b4 ho4 hc4).mono ?_; rintro e w5 ⟨a5, c5, hs5, rfl, hi5, hbel5⟩; have b5 := b4.trans (hbel5.mono b4.size)))
      | (go_at_call 7; go_must (refine hl.mono ?_; rintro e w1 ⟨rfl, b1⟩))
      | (go_at_call 10; go_must (refine (hmay _ b1).mono ?_; rintro e w2 ⟨rfl, hbel2⟩; have b2 := b1.trans (hbel2.mono b1.size)))
      | (go_at_call 9; go_must (refine (hall1 _ b2).mono ?_; rintro e w3 ⟨a3, c3, hs3, rfl, hi3, hbel3⟩; have b3 := b2.trans (hbel3.mono b2.size); have b3a := b3.alloc b3.size (.cells #[.slice a3 L1.length c3] 25)))
      | (at_builtin; go_must (refine append_t partE phE (w0 := w3) (B := w3.heap.size) rfl (.tmp 36) (.tmp 39) rfl _ 1 [⟨a3, L1.length, c3⟩] rfl (one_part w3 ⟨a3, L1.length, c3⟩ rfl) none 0 0 (ps.drop 0) rfl (hsrc _ b3a) (fun _ => ⟨rfl, rfl⟩) (by omega) (below_alloc _ _) (below_alloc _ _).size ?_; intro a4 c4 w4 hc4 hn4 _ ho4 hbel4 _; have b4 := b3.trans (hbel4.mono b3.size)))
      | (go_at_call 8; go_must (refine (haw _).mono ?_; rintro e wz ⟨rfl, hbelz⟩; have bz := b7.trans (hbelz.mono b7.size))))
    go_ret
    exact ⟨rfl, bz⟩
  · clear hnil
    by_cases hck : c = k
    · obtain rfl : k = n := by omega
      obtain rfl : k = c := by omega
      have hsrc := fun W (hW : Below w.heap.size w W) => (show TRow 1 phe phz W (some ⟨b, off, sp⟩) 0 (ps.drop k) from ⟨by rw [List.length_drop, hTR.out.1]; omega, by omega, .inl rfl⟩)
      rw [Nat.sub_self] at hall2 hall2s
      clear hck hkn hnc
      by_cases h100 : 100 ≤ k
      · have d1 : decide (100 ≤ (k : Int)) = true := by simp; omega
        clear hall2 hall3 hsame
        go_enter Try.func6, Try.ntmps6
        go_wp2_with (first
          | (go_at_call 9; have hz := b5; go_must (refine (hall3s _ b5).mono ?_; rintro e w6 ⟨a6, m6, c6, z6, rfl, hbel6⟩; have b6 := b5.trans (hbel6.mono b5.size)))
          | (go_at_call 9; have hz := b4; go_must (refine (hall2s _ _ _ _ hi3 hbel4 b4 ho4 hc4).mono ?_; rintro e w5 ⟨a5, m5, c5, z5, rfl, hbel5⟩; have b5 := b4.trans (hbel5.mono b4.size)))
          | (go_at_call 7; go_must (refine hl.mono ?_; rintro e w1 ⟨rfl, b1⟩))
          | (go_at_call 10; go_must (refine (hmay _ b1).mono ?_; rintro e w2 ⟨rfl, hbel2⟩; have b2 := b1.trans (hbel2.mono b1.size)))
          | (go_at_call 9; go_must (refine (hall1 _ b2).mono ?_; rintro e w3 ⟨a3, c3, hs3, rfl, hi3, hbel3⟩; have b3 := b2.trans (hbel3.mono b2.size); have b3a := b3.alloc b3.size (.cells #[.slice a3 L1.length c3] 25)))
          | (at_builtin; go_must (refine append_t partE phE (w0 := w3) (B := w3.heap.size) rfl (.tmp 36) (.tmp 39) rfl _ 1 [⟨a3, L1.length, c3⟩] rfl (one_part w3 ⟨a3, L1.length, c3⟩ rfl) _ 0 0 (ps.drop k) rfl (hsrc _ b3a) (fun _ => ⟨rfl, rfl⟩) (by omega) (below_alloc _ _) (below_alloc _ _).size ?_; intro a4 c4 w4 hc4 hn4 _ ho4 hbel4 _; have b4 := b3.trans (hbel4.mono b3.size)))
          | (go_at_call 8; go_must (refine (haw _).mono ?_; rintro e wz ⟨rfl, hbelz⟩; have bz := b6.trans (hbelz.mono b6.size))))
        go_ret
        exact ⟨rfl, bz⟩
      · have d1 : decide (100 ≤ (k : Int)) = false := by simp; omega
        have d1' : ¬ (100 ≤ (k : Int)) := by omega
        replace hall2 := hall2 (by omega)
        clear hall2s hall3s
        go_enter Try.func6, Try.ntmps6
        go_wp2_with (first
          | (go_at_call 14; go_must (refine (hsame w5 w6 _ _ _ _ _ _ w6 (hi5.1.1.below hbel6 (Nat.le_refl _)) hi5.1.2 hi6.1.1 hi6.1.2 hbel6 (Below.refl _ _)).mono ?_; rintro e w7 ⟨rfl, hbel7⟩; have b7 := b6.trans (hbel7.mono b6.size)))
          | (go_at_call 9; have hz := b5; go_must (refine (hall3 _ b5).mono ?_; rintro e w6 ⟨a6, c6, hs6, rfl, hi6, hbel6⟩; have b6 := b5.trans (hbel6.mono b5.size)))
          | (go_at_call 9; have hz := b4; go_must (refine (hall2 _ _ _ _ hi3 hbel4 b4 ho4 hc4).mono ?_; rintro e w5 ⟨a5, c5, hs5, rfl, hi5, hbel5⟩; have b5 := b4.trans (hbel5.mono b4.size)))
          | (go_at_call 7; go_must (refine hl.mono ?_; rintro e w1 ⟨rfl, b1⟩))
          | (go_at_call 10; go_must (refine (hmay _ b1).mono ?_; rintro e w2 ⟨rfl, hbel2⟩; have b2 := b1.trans (hbel2.mono b1.size)))
          | (go_at_call 9; go_must (refine (hall1 _ b2).mono ?_; rintro e w3 ⟨a3, c3, hs3, rfl, hi3, hbel3⟩; have b3 := b2.trans (hbel3.mono b2.size); have b3a := b3.alloc b3.size (.cells #[.slice a3 L1.length c3] 25)))
          | (at_builtin; go_must (refine append_t partE phE (w0 := w3) (B := w3.heap.size) rfl (.tmp 36) (.tmp 39) rfl _ 1 [⟨a3, L1.length, c3⟩] rfl (one_part w3 ⟨a3, L1.length, c3⟩ rfl) _ 0 0 (ps.drop k) rfl (hsrc _ b3a) (fun _ => ⟨rfl, rfl⟩) (by omega) (below_alloc _ _) (below_alloc _ _).size ?_; intro a4 c4 w4 hc4 hn4 _ ho4 hbel4 _; have b4 := b3.trans (hbel4.mono b3.size)))
          | (go_at_call 8; go_must (refine (haw _).mono ?_; rintro e wz ⟨rfl, hbelz⟩; have bz := b7.trans (hbelz.mono b7.size))))
        go_ret
        exact ⟨rfl, bz⟩
    · have hsrc := fun W (hW : Below w.heap.size w W) => (prow_from hTR.out k hkn).below hW (Nat.le_refl _)
      have hsn : (some (Addr.add ⟨b, off, sp⟩ k) : Option Addr) = none → n - k = 0 ∧ c - k = 0 := fun h => by cases h
      by_cases h100 : 100 ≤ n
      · have d1 : decide (100 ≤ (n : Int)) = true := by simp; omega
        clear hall2 hall3 hsame
        go_enter Try.func6, Try.ntmps6
        go_wp2_with (first
          | (go_at_call 9; have hz := b5; go_must (refine (hall3s _ b5).mono ?_; rintro e w6 ⟨a6, m6, c6, z6, rfl, hbel6⟩; have b6 := b5.trans (hbel6.mono b5.size)))
          | (go_at_call 9; have hz := b4; go_must (refine (hall2s _ _ _ _ hi3 hbel4 b4 ho4 hc4).mono ?_; rintro e w5 ⟨a5, m5, c5, z5, rfl, hbel5⟩; have b5 := b4.trans (hbel5.mono b4.size)))
          | (go_at_call 7; go_must (refine hl.mono ?_; rintro e w1 ⟨rfl, b1⟩))
          | (go_at_call 10; go_must (refine (hmay _ b1).mono ?_; rintro e w2 ⟨rfl, hbel2⟩; have b2 := b1.trans (hbel2.mono b1.size)))
          | (go_at_call 9; go_must (refine (hall1 _ b2).mono ?_; rintro e w3 ⟨a3, c3, hs3, rfl, hi3, hbel3⟩; have b3 := b2.trans (hbel3.mono b2.size); have b3a := b3.alloc b3.size (.cells #[.slice a3 L1.length c3] 25)))
          | (at_builtin; go_must (refine append_t partE phE (w0 := w3) (B := w3.heap.size) rfl (.tmp 36) (.tmp 39) rfl _ 1 [⟨a3, L1.length, c3⟩] rfl (one_part w3 ⟨a3, L1.length, c3⟩ rfl) _ (n - k) (c - k) (ps.drop k) rfl (hsrc _ b3a) hsn (by omega) (below_alloc _ _) (below_alloc _ _).size ?_; intro a4 c4 w4 hc4 hn4 _ ho4 hbel4 _; have b4 := b3.trans (hbel4.mono b3.size)))
          | (go_at_call 8; go_must (refine (haw _).mono ?_; rintro e wz ⟨rfl, hbelz⟩; have bz := b6.trans (hbelz.mono b6.size))))
        go_ret
        exact ⟨rfl, bz⟩
      · have d1 : decide (100 ≤ (n : Int)) = false := by simp; omega
        have d1' : ¬ (100 ≤ (n : Int)) := by omega
        replace hall2 := hall2 (by omega)
        clear hall2s hall3s
        go_enter Try.func6, Try.ntmps6
        go_wp2_with (first
          | (go_at_call 14; go_must (refine (hsame w5 w6 _ _ _ _ _ _ w6 (hi5.1.1.below hbel6 (Nat.le_refl _)) hi5.1.2 hi6.1.1 hi6.1.2 hbel6 (Below.refl _ _)).mono ?_; rintro e w7 ⟨rfl, hbel7⟩; have b7 := b6.trans (hbel7.mono b6.size)))
          | (go_at_call 9; have hz := b5; go_must (refine (hall3 _ b5).mono ?_; rintro e w6 ⟨a6, c6, hs6, rfl, hi6, hbel6⟩; have b6 := b5.trans (hbel6.mono b5.size)))
          | (go_at_call 9; have hz := b4; go_must (refine (hall2 _ _ _ _ hi3 hbel4 b4 ho4 hc4).mono ?_; rintro e w5 ⟨a5, c5, hs5, rfl, hi5, hbel5⟩; have b5 := b4.trans (hbel5.mono b4.size)))
          | (go_at_call 7; go_must (refine hl.mono ?_; rintro e w1 ⟨rfl, b1⟩))
          | (go_at_call 10; go_must (refine (hmay _ b1).mono ?_; rintro e w2 ⟨rfl, hbel2⟩; have b2 := b1.trans (hbel2.mono b1.size)))
          | (go_at_call 9; go_must (refine (hall1 _ b2).mono ?_; rintro e w3 ⟨a3, c3, hs3, rfl, hi3, hbel3⟩; have b3 := b2.trans (hbel3.mono b2.size); have b3a := b3.alloc b3.size (.cells #[.slice a3 L1.length c3] 25)))
          | (at_builtin; go_must (refine append_t partE phE (w0 := w3) (B := w3.heap.size) rfl (.tmp 36) (.tmp 39) rfl _ 1 [⟨a3, L1.length, c3⟩] rfl (one_part w3 ⟨a3, L1.length, c3⟩ rfl) _ (n - k) (c - k) (ps.drop k) rfl (hsrc _ b3a) hsn (by omega) (below_alloc _ _) (below_alloc _ _).size ?_; intro a4 c4 w4 hc4 hn4 _ ho4 hbel4 _; have b4 := b3.trans (hbel4.mono b3.size)))
          | (go_at_call 8; go_must (refine (haw _).mono ?_; rintro e wz ⟨rfl, hbelz⟩; have bz := b7.trans (hbelz.mono b7.size))))
        go_ret
        exact ⟨rfl, bz⟩

set_option maxRecDepth 100000 in
set_option maxHeartbeats 1000000 in
theorem mergeparts_no (a : Option Addr) (n c : Nat) (ps : List PH) (gss : List (List IH)) (xss : List (List It.I)) (A : Nat) (w : World) (hi : InQ w a n c ps gss xss) (h : ¬ (Lite n ps gss ∧ Mg.may xss = true)) :
    Calls Try.prog 6 #[.slice a n c, .int .u8 (A : Nat)] w fun e w' => e = .returned (.bool true) ∧ Below w.heap.size w w' := by
  have hp := hi.1
  have haw := fun W => mgawake W
  by_cases hL : Lite n ps gss
  · have hl := mlightT a n c ps gss xss w hp hL
    have hK1 := hL.le 1000 (by omega)
    have hmay := fun W (hW : Below w.heap.size w W) => rmay_any a n c ps gss xss W (hp.below hW (Nat.le_refl _)) hK1
    have hm : Mg.may xss = false := by
      cases hm : Mg.may xss with
      | false => rfl
      | true => exact absurd ⟨hL, hm⟩ h
    rw [hm] at hmay
    clear hi hp hL hK1 hm h
    go_enter Try.func6, Try.ntmps6
    go_wp2_with (first
      | (go_at_call 7; go_must (refine hl.mono ?_; rintro e w1 ⟨rfl, b1⟩))
      | (go_at_call 10; go_must (refine (hmay _ b1).mono ?_; rintro e w2 ⟨rfl, hbel2⟩; have b2 := b1.trans (hbel2.mono b1.size)))
      | (go_at_call 8; go_must (refine (haw _).mono ?_; rintro e wz ⟨rfl, hbelz⟩; have bz := b2.trans (hbelz.mono b2.size))))
    go_ret
    exact ⟨rfl, bz⟩
  · have hl := mlightF a n c ps gss xss w hp hL
    clear hi hp hL h
    go_enter Try.func6, Try.ntmps6
    go_wp2_with (first
      | (go_at_call 7; go_must (refine hl.mono ?_; rintro e w1 ⟨rfl, b1⟩))
      | (go_at_call 8; go_must (refine (haw _).mono ?_; rintro e wz ⟨rfl, hbelz⟩; have bz := b1.trans (hbelz.mono b1.size))))
    go_ret
    exact ⟨rfl, bz⟩
theorem mergeparts_any (a : Option Addr) (n c : Nat) (ps : List PH) (gss : List (List IH)) (xss : List (List It.I)) (x : Int) (hx : 0 ≤ x ∧ x < 256) (w : World) (hi : InQ w a n c ps gss xss) :
    Calls Try.prog 6 #[.slice a n c, .int .u8 x] w fun e w' => e = .returned (.bool true) ∧ Below w.heap.size w w' := by
  obtain ⟨A, rfl⟩ : ∃ A : Nat, x = (A : Int) := ⟨x.toNat, by omega⟩
  by_cases h : Lite n ps gss ∧ Mg.may xss = true
  · exact mergeparts_yes a n c ps gss xss A (by omega) w hi h.1 h.2
  · exact mergeparts_no a n c ps gss xss A w hi h
end Go.Proofs.Ytchiilhdkbpboaa
