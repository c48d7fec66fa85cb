/- Whether segments, moves, snapshots may be: the program's. -/
import Derived.Test.YtmodogmjfbcddaaGreatRC
namespace Go.Proofs.YtmodogmjfbcddaaGreat
open Go.RowKit

theorem rcont_any (a : Option Addr) (n c : Nat) (l : List Int) (x : Int) (w : World) (hn : n ≤ 1000000) (hr : ZRow w a n l) (R : Bool) (hR : R = l.contains x) :
    Calls Tryz.prog 69 #[.slice a n c, .int .i64 x] w fun e w' => e = .returned (.bool R) ∧ w' = w := by
  obtain rfl := hr.1
  cases hz : l.length with
  | zero =>
    obtain rfl : l = [] := List.length_eq_zero_iff.mp hz
    subst hR
    exact Tryz.slices_Contains_int_empty a c x w
  | succ m =>
    rw [← hz]
    obtain ⟨b, off, rfl, hc⟩ := hr.at (by omega)
    have h := Tryz.slices_Contains_int b off l.length c l x w (Nat.le_refl _) (by omega) (fun j hj => by
      have := hc j hj 0 _ rfl
      rw [Nat.mul_one] at this
      exact this)
    rw [List.take_length, ← hR] at h
    exact h

set_option maxRecDepth 100000 in
set_option maxHeartbeats 1000000 in
theorem rsegs_any (a : Option Addr) (n c : Nat) (l : List Int) (w : World) (hn : n ≤ 1000000) (hr : ZRow w a n l) (R : Bool) (hR : R = Ro.segsMay l) :
    Calls Tryz.prog 26 #[.slice a n c] w fun e w' => e = .returned (.bool R) ∧ Below w.heap.size w w' := by
  have hll : Hid (l.length = n) := hr.1
  have HR : Hid (R = (decide (n ≤ 64) && Ro.rise l)) := (by rw [hR, Ro.segsMay, hll.out] : _ = _)
  have hri := fun W h => rrise_any a n c l W hn h (Ro.rise l) rfl
  clear hR
  by_cases h : n ≤ 64
  · have d1 : decide ((n : Int) ≤ 64) = true := by simp; omega
    have HR2 : Hid (R = Ro.rise l) := (by rw [HR.out]; simp [h] : _ = _)
    generalize Ro.rise l = q at *
    clear HR
    go_enter Tryz.func26, Tryz.ntmps26
    go_wp2_with (go_at_call 67; go_must (refine (hri _ hr).mono ?_; rintro e w3 ⟨rfl, hb3⟩))
    go_ret
    exact ⟨by rw [HR2.out]; rfl, hb3⟩
  · have d1 : decide ((n : Int) ≤ 64) = false := by simp; omega
    have HR2 : Hid (R = false) := (by rw [HR.out]; simp [h] : _ = _)
    clear HR
    go_enter Tryz.func26, Tryz.ntmps26
    go_wp2_with (go_at_call 67; go_must (refine (hri _ hr).mono ?_; rintro e w3 ⟨rfl, hb3⟩))
    go_ret
    exact ⟨by rw [HR2.out]; rfl, Below.refl _ _⟩

set_option maxRecDepth 100000 in
set_option maxHeartbeats 2000000 in
theorem rmoves_any (a : Option Addr) (n c : Nat) (l : List (Int × Int)) (a2 : Option Addr) (n2 c2 : Nat) (s : List Int) (w : World) (hn : n ≤ 1000000) (hn2 : n2 ≤ 1000000) (hr : MRow w a n l) (hr2 : ZRow w a2 n2 s) (R : Bool) (hR : R = Ro.movesMay l s) :
    Calls Tryz.prog 27 #[.slice a n c, .slice a2 n2 c2] w fun e w' => e = .returned (.bool R) ∧ Below w.heap.size w w' := by
  have hll : Hid (l.length = n) := hr.1
  by_cases h : 64 < n
  · have d1 : decide ((64 : Int) < (n : Int)) = true := by simp; omega
    have HR2 : Hid (R = false) := (by rw [hR, Ro.movesMay, hll.out]; simp [show ¬ n ≤ 64 by omega] : _ = _)
    clear hR
    go_enter Tryz.func27, Tryz.ntmps27
    go_wp2
    go_ret
    exact ⟨by rw [HR2.out]; rfl, Below.refl _ _⟩
  · have d1 : decide ((64 : Int) < (n : Int)) = false := by simp; omega
    obtain ⟨M, hM⟩ : ∃ M, M = l.map (·.1) := ⟨_, rfl⟩
    obtain ⟨L, hL⟩ : ∃ L, L = Ro.lastOf s := ⟨_, rfl⟩
    have hMn : M.length = n := by rw [hM, List.length_map]; exact hr.1
    have HR : Hid (R = ((M.drop 0).all (fun g => decide (g < L) && !s.contains g) && (Ro.rise M && Ro.differ (l.map (·.2))))) := (by rw [hR, Ro.movesMay, hll.out, hL, hM]; simp [show n ≤ 64 by omega] : _ = _)
    have hnum := rmsegs a n c l w hn hr
    have hnum2 := fun W hW => rmnums a n c l W hn (hr.below hW (Nat.le_refl _))
    unfold ZRes at hnum hnum2
    rw [← hM, hMn] at hnum
    have hm2 : (l.map (·.2)).length = n := by rw [List.length_map]; exact hr.1
    rw [hm2] at hnum2
    have hlast := fun W hW => rlast_any a2 n2 c2 s W hn2 (hr2.below hW (Nat.le_refl _)) L hL
    have hcon := fun x W hW => rcont_any a2 n2 c2 s x W hn2 (hr2.below hW (Nat.le_refl _)) (s.contains x) rfl
    have hri := fun g c W h => rrise_any g n c M W hn h (Ro.rise M) rfl
    have hdi := fun g c W h => rdiffer_any g n c (l.map (·.2)) hn W h (Ro.differ (l.map (·.2))) rfl
    generalize l.map (·.2) = M2 at *
    have HM : Hid (M.length = n) := hMn
    clear hR hM hL hMn hm2 hr hll h
    go_enter Tryz.func27, Tryz.ntmps27
    go_wp2_with (go_at_call 41; go_must (refine hnum.mono ?_; rintro e w1 ⟨g, gc, rfl, hown1, hb1⟩; have hz1 : ZRow w1 g n M := trow_of_owns zeE hown1 (by omega) (by omega); clear hnum hown1))
    go_loopw [15] (fun i wr => ∃ (k : Nat), k ≤ n ∧ i = .int .i64 k ∧ Hid (R = ((M.drop k).all (fun g => decide (g < L) && !s.contains g) && (Ro.rise M && Ro.differ M2))) ∧ Below w1.heap.size w1 wr) (fun i _ => n - (intOf i).toNat)
    case atStart => exact ⟨0, by omega, rfl, HR, Below.refl _ _⟩
    case round =>
      obtain ⟨k, hk, rfl, H, hbel⟩ := hrel
      have hB := hb1.trans (hbel.mono hb1.size)
      by_cases hlt : k < n
      · obtain ⟨b, off, x, rfl, hx, q0⟩ := zget hz1 hbel hlt
        have hk' : k < M.length := by rw [HM.out]; exact hlt
        have H2 : Hid (R = (((decide (x < L) && !s.contains x) && (M.drop (k + 1)).all (fun g => decide (g < L) && !s.contains g)) && (Ro.rise M && Ro.differ M2))) := (by rw [H.out, gdrop 0 hk', hx.out]; rfl : R = _)
        have i0 : (0 : Int) ≤ (k : Int) := by omega
        have i1 : (k : Int) < (n : Int) := by omega
        have hcx := fun W hW => hcon x W hW
        clear hx H HR hcon
        by_cases h1 : L ≤ x
        · have HF : Hid (R = false) := (by rw [H2.out]; simp [Int.not_lt.mpr h1] : R = false)
          have d2 : decide (L ≤ x) = true := by simpa using h1
          clear H2
          go_wp2_with (first
            | (go_at_call 68; go_must (refine (hlast _ hB).mono ?_; rintro e w2 ⟨rfl, hb2⟩))
            | (go_at_call 69; go_must (refine (hcx _ (hB.trans (hb2.mono hB.size))).mono ?_; rintro e w3 ⟨rfl, rfl⟩)))
          go_ret
          exact ⟨by rw [HF.out]; rfl, hB.trans (hb2.mono hB.size)⟩
        · have d2 : decide (L ≤ x) = false := by simpa using h1
          cases hq : s.contains x with
          | true =>
            have HF : Hid (R = false) := (by rw [H2.out, hq]; simp : R = false)
            rw [hq] at hcx
            clear H2 hq
            go_wp2_with (first
              | (go_at_call 68; go_must (refine (hlast _ hB).mono ?_; rintro e w2 ⟨rfl, hb2⟩))
              | (go_at_call 69; go_must (refine (hcx _ (hB.trans (hb2.mono hB.size))).mono ?_; rintro e w3 ⟨rfl, rfl⟩)))
            go_ret
            exact ⟨by rw [HF.out]; rfl, hB.trans (hb2.mono hB.size)⟩
          | false =>
            have H3 : Hid (R = ((M.drop (k + 1)).all (fun g => decide (g < L) && !s.contains g) && (Ro.rise M && Ro.differ M2))) := (by rw [H2.out, hq]; simp [Int.not_le.mp h1] : R = _)
            rw [hq] at hcx
            clear H2 hq
            go_wp2_with (first
              | (go_at_call 68; go_must (refine (hlast _ hB).mono ?_; rintro e w2 ⟨rfl, hb2⟩))
              | (go_at_call 69; go_must (refine (hcx _ (hB.trans (hb2.mono hB.size))).mono ?_; rintro e w3 ⟨rfl, rfl⟩)))
            go_roundw
            case rel => exact ⟨k + 1, by omega, by go_num, H3, hbel.trans (hb2.mono hbel.size)⟩
            case measure => simp [intOf]; omega
      · obtain rfl : k = n := by omega
        have HE : Hid (R = (Ro.rise M && Ro.differ M2)) := (by rw [H.out, List.drop_of_length_le (by rw [HM.out]; exact Nat.le_refl _)]; rfl : R = _)
        clear H HR hcon hlast
        generalize Ro.differ M2 = q2 at *
        generalize Ro.rise M = q1 at *
        cases q1 with
        | false =>
          go_wp2_with (first
            | (go_at_call 67; go_must (refine (hri _ _ _ (hz1.below hbel (Nat.le_refl _))).mono ?_; rintro e w2 ⟨rfl, hb2⟩)))
          go_ret
          exact ⟨by rw [HE.out]; rfl, hB.trans (hb2.mono hB.size)⟩
        | true =>
          go_wp2_with (first
            | (go_at_call 67; go_must (refine (hri _ _ _ (hz1.below hbel (Nat.le_refl _))).mono ?_; rintro e w2 ⟨rfl, hb2⟩; have hB2 := hB.trans (hb2.mono hB.size)))
            | (go_at_call 41; go_must (refine (hnum2 _ hB2).mono ?_; rintro e w3 ⟨g3, gc3, rfl, hown3, hb3⟩; have hB3 := hB2.trans (hb3.mono hB2.size)))
            | (go_at_call 70; go_must (refine (hdi _ _ _ (trow_of_owns zeE hown3 (by omega) (by omega))).mono ?_; rintro e w4 ⟨rfl, hb4⟩)))
          go_ret
          exact ⟨by rw [HE.out]; rfl, hB3.trans (hb4.mono hB3.size)⟩
end Go.Proofs.YtmodogmjfbcddaaGreat
