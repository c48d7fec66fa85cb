/- What the reference's Get does. -/
import Derived.Test.YtgmcjalcpgldhaaW9
import Derived.Deep.RegionHeld3
namespace Go.Proofs.Ytgmcjalcpgldhaa
open Go.RowKit

theorem ret2 {k1 k2 : IntKind} {a a' b b' : Int} (h1 : a = a') (h2 : b = b') :
    Ending.returned (.tuple #[.int k1 a, .int k2 b]) = .returned (.tuple #[.int k1 a', .int k2 b']) := by rw [h1, h2]
theorem high_step {bs : List Nat} {k : Nat} (h : ∀ j, j < k → 128 ≤ bs.getD j 0) (hx : 128 ≤ bs.getD k 0) : ∀ j, j < k + 1 → 128 ≤ bs.getD j 0 := by
  intro j hj
  rcases Nat.lt_or_ge j k with h' | h'
  · exact h j h'
  · obtain rfl : j = k := by omega
    exact hx

theorem below_of_drew {B : Nat} {W w1 : World} (h : Below B W.drew w1) : Below B W w1 := ⟨h.os, h.tape, h.output, h.size, h.block⟩

set_option maxRecDepth 100000 in
set_option maxHeartbeats 1000000 in
theorem refget_any (a : Option Addr) (len cap : Nat) (bs : List Nat) (w : World) (hcap : len ≤ cap) (hbig : len ≤ 100000) (hr : Row .u8 w a len bs) :
    Calls Try.prog 33 #[.slice a len cap] w fun e w' => e = .returned (.tuple #[.int .u64 ((Va.get bs).1 : Nat), .int .i64 ((Va.get bs).2 : Nat)]) ∧ Below w.heap.size w w' := by
  have hlen : Hid (bs.length = len) := hr.1
  obtain ⟨g, hg⟩ : ∃ g, g = Va.get bs := ⟨_, rfl⟩
  rw [← hg]
  have HG : Hid (g = Va.get bs) := hg
  clear hg
  go_enter Try.func33, Try.ntmps33
  go_wp2
  go_loop [4] (fun i => ∃ k : Nat, k ≤ len ∧ k ≤ 10 ∧ i = .int .i64 (k + 1 : Nat) ∧ Hid (∀ j, j < k → 128 ≤ bs.getD j 0)) (fun i => len + 1 - (intOf i).toNat)
  case atStart => exact ⟨0, by omega, by omega, rfl, (fun j hj => by omega : ∀ j, j < 0 → 128 ≤ bs.getD j 0)⟩
  case round =>
    obtain ⟨k, hk, hk10, rfl, hh⟩ := hrel
    by_cases hlt : k < len ∧ k < 10
    · obtain ⟨hlt, hlt10⟩ := hlt
      obtain ⟨b, off, rfl, hc⟩ := hr.at (by omega)
      have hcell := hc k hlt
      have hx := getD_lt8 hr.2.2.1 k
      have H0 := fun h => Va.get_at (k := k) hr.2.2.1 (by omega) (by rw [hlen.out]; exact hlt) hh.out h
      have H1 := fun h => high_step (k := k) hh.out h
      have hrt := hr.take (k + 1) (by omega)
      have hval := fun c => value_any (some ⟨b, off, none⟩) (k + 1) c _ w hrt
      clear hc hr hh
      generalize bs.getD k 0 = x at *
      have hul : Va.val (bs.take (k + 1)) % 18446744073709551616 < 18446744073709551616 := Nat.mod_lt _ (by omega)
      generalize Va.val (bs.take (k + 1)) % 18446744073709551616 = u at *
      have e1 : ((k + 1 : Nat) : Int) - 1 = (k : Int) := by omega
      have i2 : (k : Int) + 1 ≤ (cap : Int) := by omega
      have i3 : (0 : Int) ≤ (k : Int) + 1 := by omega
      have i4 : (k : Int) + 1 ≤ (len : Int) := by omega
      by_cases hx128 : x < 128
      · replace H0 := H0 hx128
        clear H1
        have hsm := Va.one_small u
        have hone := fun W => one_any u u W (Nat.le_refl _) hul
        have hl10 := Va.one_len10 hul
        generalize Va.one u = r at *
        by_cases hs : r = bs.take (k + 1)
        · rw [if_pos hs] at H0
          have H2 : Hid (g = (u, k + 1)) := (HG.out.trans H0 : g = (u, k + 1))
          clear H0 HG
          have hd : decide (r = bs.take (k + 1)) = true := by simp [hs]
          clear hs
          go_wp2_with (go_at_call 46; refine (hval _).mono ?_; rintro e w' ⟨rfl, rfl⟩)
          go_region_held3 (fun _ => True) (trivial)
            (first | ((go_at_call 29; refine (hone _).mono ?_; rintro e w1 ⟨a1, c1, rfl, hown1, hbel1⟩)) | ((go_at_call 27; have := hown1; refine (same_any _ _ _ _ _ _ _ _ _ (row_of_owns hown1 hsm (by omega)).1 (hrt.below (below_of_drew hbel1) (Nat.le_refl _))).mono ?_; rintro e w2 ⟨rfl, m, rfl⟩)))
          go_wp2
          go_ret2
          exact ⟨ret2 (by rw [H2.out]) (by rw [H2.out]; show (k : Int) + 1 = ((k + 1 : Nat) : Int); omega), (below_of_drew hbel1).trans (below_drewN _ _ _)⟩
        · rw [if_neg hs] at H0
          have H2 : Hid (g = (0, 0)) := (HG.out.trans H0 : g = (0, 0))
          clear H0 HG
          have hd : decide (r = bs.take (k + 1)) = false := by simp [hs]
          clear hs
          go_wp2_with (go_at_call 46; refine (hval _).mono ?_; rintro e w' ⟨rfl, rfl⟩)
          go_region_held3 (fun _ => True) (trivial)
            (first | ((go_at_call 29; refine (hone _).mono ?_; rintro e w1 ⟨a1, c1, rfl, hown1, hbel1⟩)) | ((go_at_call 27; have := hown1; refine (same_any _ _ _ _ _ _ _ _ _ (row_of_owns hown1 hsm (by omega)).1 (hrt.below (below_of_drew hbel1) (Nat.le_refl _))).mono ?_; rintro e w2 ⟨rfl, m, rfl⟩)))
          go_wp2
          go_ret2
          exact ⟨ret2 (by rw [H2.out]; rfl) (by rw [H2.out]; rfl), (below_of_drew hbel1).trans (below_drewN _ _ _)⟩
      · have H2 : Hid (∀ j, j < k + 1 → 128 ≤ bs.getD j 0) := H1 (by omega)
        clear H0 H1
        go_wp2
        go_round
        case rel => exact ⟨k + 1, by omega, by omega, by go_num, H2⟩
        case measure => simp [intOf]; omega
    · have H2 : Hid (g = (0, 0)) := (HG.out.trans (Va.get_end (k := k) hk10 (by rw [hlen.out]; exact hk) (by rw [hlen.out]; omega) hh.out) : g = (0, 0))
      clear HG
      by_cases hkl : k < len
      · have : k = 10 := by omega
        subst this
        go_wp2
        go_ret2
        exact ⟨ret2 (by rw [H2.out]; rfl) (by rw [H2.out]; rfl), Below.refl _ _⟩
      · go_wp2
        go_ret2
        exact ⟨ret2 (by rw [H2.out]; rfl) (by rw [H2.out]; rfl), Below.refl _ _⟩
end Go.Proofs.Ytgmcjalcpgldhaa
