/- What the reference's Alike and May of blocks do. -/
import Derived.Test.YtikieblokfjphaaGreatMa
import Derived.Test.YtikieblokfjphaaGreatTR11
import Derived.Deep.QuietTactic
import Derived.BigQuiet
namespace Go.Proofs.YtikieblokfjphaaGreat
open Go.RowKit

theorem kb_at {s : ByteArray} {j : Nat} (h : j < s.size) : (kb s).getD j 0 = (s[j]'h).toNat := by
  unfold kb
  have h1 : j < s.data.toList.length := by rw [Array.length_toList]; exact h
  simp only [List.getD_eq_getElem?_getD, List.getElem?_map, List.getElem?_eq_getElem h1, Option.map_some, Option.getD_some, Array.getElem_toList]
  rfl

theorem kb_extract (s : ByteArray) (A : Nat) : kb (s.extract A s.size) = (kb s).drop A := by
  unfold kb
  rw [ByteArray.data_extract, Array.toList_extract, List.extract_eq_take_drop, List.map_take, List.map_drop, List.take_of_length_le]
  rw [List.length_drop, List.length_map, Array.length_toList]
  exact Nat.le_refl _

set_option maxRecDepth 100000 in
set_option maxHeartbeats 2000000 in
theorem refalike_q (s t : ByteArray) (w : World) (hs : s.size ≤ 1000) (ht : t.size ≤ 1000) :
    Calls Tryz.prog 73 #[.string s, .string t] w fun e w' => e = .returned (.int .i64 (Bl.alike (kb s) (kb t) : Nat)) ∧ ∃ q, w' = w.drewN q := by
  go_enter Tryz.func73, Tryz.ntmps73
  go_wp2
  go_loopw [5] (fun i wr => ∃ k : Nat, k ≤ s.size ∧ k ≤ t.size ∧ i = .int .i64 k ∧ Hid (∀ j, j < k → (kb s).getD j 0 = (kb t).getD j 0) ∧ ∃ q, wr = w.drewN q) (fun i _ => s.size - (intOf i).toNat)
  case atStart => exact ⟨0, by omega, by omega, rfl, (fun j hj => by omega : ∀ j, j < 0 → (kb s).getD j 0 = (kb t).getD j 0), 0, rfl⟩
  case round =>
    obtain ⟨k, hk1, hk2, rfl, H, q0, rfl⟩ := hrel
    by_cases h1 : k < s.size
    · by_cases h2 : k < t.size
      · have i0 : (0 : Int) ≤ (k : Int) := by omega
        have i1 : (k : Int) < (s.size : Int) := by omega
        have i2 : (k : Int) < (t.size : Int) := by omega
        have h4 := kb_at h1
        have h5 := kb_at h2
        obtain ⟨x, hx⟩ : ∃ x, (s[k]'h1).toNat = x := ⟨_, rfl⟩
        obtain ⟨y, hy⟩ : ∃ y, (t[k]'h2).toNat = y := ⟨_, rfl⟩
        rw [hx] at h4
        rw [hy] at h5
        by_cases h3 : x = y
        · have H2 : Hid (∀ j, j < k + 1 → (kb s).getD j 0 = (kb t).getD j 0) := (fun j hj => by
            rcases Nat.lt_or_ge j k with h' | h'
            · exact H.out j h'
            · obtain rfl : j = k := by omega
              rw [h4, h5]; exact h3 : ∀ j, j < k + 1 → (kb s).getD j 0 = (kb t).getD j 0)
          have hxy : ((x : Int) == (y : Int)) = true := by simp; omega
          clear h4 h5 H
          go_wp2_with fail
          go_quiet (fail)
          go_wp2
          go_roundw
          case rel => exact ⟨k + 1, by omega, by omega, by go_num, H2, _, by first | rfl | exact (World.drewN_drewN _ _ _)⟩
          case measure => simp [intOf]; omega
        · have E : Hid (Bl.alike (kb s) (kb t) = k) := Bl.alike_at _ _ k (by rw [kb_len]; omega) (by rw [kb_len]; omega) H.out (.inr (.inr (by rw [h4, h5]; exact h3)))
          have hxy : ((x : Int) == (y : Int)) = false := by simp; omega
          clear h4 h5 H
          go_wp2_with fail
          go_quiet (fail)
          go_wp2
          go_ret
          exact ⟨by rw [E.out]; rfl, _, by first | rfl | exact (World.drewN_drewN _ _ _)⟩
      · have E : Hid (Bl.alike (kb s) (kb t) = k) := Bl.alike_at _ _ k (by rw [kb_len]; omega) (by rw [kb_len]; omega) H.out (.inr (.inl (by rw [kb_len]; omega)))
        have i1 : (k : Int) < (s.size : Int) := by omega
        have i2 : decide ((k : Int) < (t.size : Int)) = false := by simp; omega
        have i3 : decide (k < t.size) = false := by simp; omega
        clear H
        go_wp2_with fail
        go_quiet (fail)
        go_wp2
        go_ret
        exact ⟨by rw [E.out]; rfl, _, by first | rfl | exact (World.drewN_drewN _ _ _)⟩
    · have E : Hid (Bl.alike (kb s) (kb t) = k) := Bl.alike_at _ _ k (by rw [kb_len]; omega) (by rw [kb_len]; omega) H.out (.inl (by rw [kb_len]; omega))
      have i2 : decide ((k : Int) < (s.size : Int)) = false := by simp; omega
      have i3 : decide (k < s.size) = false := by simp; omega
      clear H
      go_wp2_with fail
      go_quiet (fail)
      go_wp2
      go_ret
      exact ⟨by rw [E.out]; rfl, _, by first | rfl | exact (World.drewN_drewN _ _ _)⟩
theorem refalike_any (s t : ByteArray) (w : World) (hs : s.size ≤ 1000) (ht : t.size ≤ 1000) :
    Calls Tryz.prog 73 #[.string s, .string t] w fun e w' => e = .returned (.int .i64 (Bl.alike (kb s) (kb t) : Nat)) ∧ Below w.heap.size w w' :=
  (refalike_q s t w hs ht).mono fun _ _ h => ⟨h.1, by obtain ⟨q, rfl⟩ := h.2; exact below_drewN _ _ _⟩

set_option maxRecDepth 100000 in
set_option maxHeartbeats 2000000 in
theorem brefmay_any (a : Option Addr) (n c : Nat) (gs : List IH) (xs : List It.I) (w : World) (hn : n ≤ 1000) (hi : ItRow w a n gs xs) :
    Calls Tryz.prog 43 #[.slice a n c] w fun e w' => e = .returned (.bool (Bl.may xs)) ∧ Below w.heap.size w w' := by
  have hlen : xs.length = n := hi.len
  have hso := isorted_any a n c gs xs w hn hi
  have HE : Hid (Bl.may xs = (decide (1 ≤ n ∧ n ≤ 256) && It.sorted xs)) := (by unfold Bl.may; rw [hlen] : Bl.may xs = (decide (1 ≤ n ∧ n ≤ 256) && It.sorted xs))
  clear hi
  generalize It.sorted xs = r at *
  generalize Bl.may xs = m at *
  by_cases h1 : 1 ≤ n
  · by_cases h2 : n ≤ 256
    · have E : Hid (m = r) := (by rw [HE.out]; simp [h1, h2] : m = r)
      have i1 : (1 : Int) ≤ (n : Int) := by omega
      have i2 : (n : Int) ≤ 256 := by omega
      clear HE
      go_enter Tryz.func43, Tryz.ntmps43
      go_wp2_with (go_at_call 18; go_must (refine hso.mono ?_; rintro e w1 ⟨rfl, hb1⟩))
      go_ret
      exact ⟨by rw [E.out]; simp, hb1⟩
    · have E : Hid (m = false) := (by rw [HE.out]; simp [h1, h2] : m = false)
      have i1 : (1 : Int) ≤ (n : Int) := by omega
      have i2 : decide ((n : Int) ≤ 256) = false := by simp; omega
      clear HE
      go_enter Tryz.func43, Tryz.ntmps43
      go_wp2
      go_ret
      exact ⟨by rw [E.out]; rfl, Below.refl _ _⟩
  · have E : Hid (m = false) := (by rw [HE.out]; simp [h1] : m = false)
    have i1 : decide ((1 : Int) ≤ (n : Int)) = false := by simp; omega
    clear HE
    go_enter Tryz.func43, Tryz.ntmps43
    go_wp2
    go_ret
    exact ⟨by rw [E.out]; rfl, Below.refl _ _⟩
end Go.Proofs.YtikieblokfjphaaGreat
