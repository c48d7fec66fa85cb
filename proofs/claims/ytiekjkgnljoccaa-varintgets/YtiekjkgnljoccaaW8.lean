/- Parts of rows; what the law VarintPrefix does. -/
import Derived.Test.YtiekjkgnljoccaaW6
namespace Go.Proofs.Ytiekjkgnljoccaa
open Go.RowKit

theorem Row.take {k : IntKind} {w : World} {a : Option Addr} {n : Nat} {bs : List Nat} (h : Row k w a n bs) (j : Nat) (hj : j ≤ n) : Row k w a j (bs.take j) := by
  obtain ⟨h1, h2, h3, h4⟩ := h
  refine ⟨by rw [List.length_take]; omega, by omega, take_small h3 j, ?_⟩
  rcases Nat.eq_zero_or_pos j with h0 | h0
  · exact .inl h0
  · rcases h4 with h0 | ⟨b, off, e, hc⟩
    · omega
    · refine .inr ⟨b, off, e, fun i hi => ?_⟩
      rw [hc i (by omega)]
      congr 3
      rw [List.getD_eq_getElem?_getD, List.getD_eq_getElem?_getD, List.getElem?_take, if_pos hi]
theorem Row.drop {k : IntKind} {w : World} {b off n : Nat} {bs : List Nat} (h : Row k w (some ⟨b, off, none⟩) n bs) (j : Nat) (hj : j ≤ n) : Row k w (some ⟨b, off + j, none⟩) (n - j) (bs.drop j) := by
  obtain ⟨h1, h2, h3, h4⟩ := h
  refine ⟨by rw [List.length_drop]; omega, by omega, drop_small h3 j, ?_⟩
  rcases Nat.eq_zero_or_pos (n - j) with h0 | h0
  · exact .inl h0
  · rcases h4 with h0 | ⟨b', off', e, hc⟩
    · omega
    · simp only [Option.some.injEq, Addr.mk.injEq] at e
      obtain ⟨rfl, rfl, _⟩ := e
      refine .inr ⟨b, off + j, rfl, fun i hi => ?_⟩
      have := hc (j + i) (by omega)
      rw [← Nat.add_assoc] at this
      rw [this]
      congr 3
      rw [List.getD_eq_getElem?_getD, List.getD_eq_getElem?_getD, List.getElem?_drop]

theorem rowU (w : World) (u : Nat) (h : u < 18446744073709551616) : Row .u64 (w.alloc (.cells #[.int .u64 (u : Nat)] 25)) (some ⟨w.heap.size, 0, none⟩) 1 [u] := row_new .u64 w 25 u h

set_option maxRecDepth 100000 in
set_option maxHeartbeats 1000000 in
theorem prefix_any (u cut : Nat) (w : World) (hu : u < 18446744073709551616) (hcut : cut < 256) :
    Calls Try.prog 6 #[.int .u64 u, .int .u8 cut] w fun e w' => e = .returned (.bool true) ∧ Below w.heap.size w w' := by
  have hp := put_any _ _ 1 _ _ (by omega) (rowU w u hu)
  rw [Va.put_one] at hp
  have h0 := Va.one_pos u
  have h10 := Va.one_len10 hu
  have hsm := Va.one_small u
  have hg := fun j hj => Va.get_cut hu j hj
  have hb0 : Below w.heap.size w (w.alloc (.cells #[.int .u64 (u : Nat)] 25)) := (Below.refl _ _).alloc (Nat.le_refl _) _
  have hB0 := hb0.size
  generalize Va.one u = r at *
  obtain ⟨n, hn⟩ : ∃ n, n = r.length := ⟨_, rfl⟩
  obtain ⟨j, hj⟩ : ∃ j, j = cut % n := ⟨_, rfl⟩
  rw [← hn] at h0 h10 hg
  have hjn : j < n := by rw [hj]; exact Nat.mod_lt _ h0
  have hj' : (cut : Int) % (n : Int) = (j : Int) := by rw [hj]; simp
  have hne : ((n : Int) == 0) = false := by simp; omega
  unfold Made at hp
  rw [← hn] at hp
  have hgj := hg j hjn
  have hnr : Hid (n = r.length) := hn
  clear hg hj hn
  have hc2 : code 0 = 2 := rfl
  go_enter Try.func6, Try.ntmps6
  go_wp2_with (first
    | (go_at_call 10; refine hp.mono ?_; rintro e w1 ⟨a1, c1, rfl, hown1, hbel1⟩; obtain ⟨hr1, hn1, hc1⟩ := row_of_owns hown1 hsm (by omega); obtain ⟨b, off, rfl, _⟩ := hr1.at h0)
    | (go_at_call 16; have := hr1; go_must (have hgt := get_any _ _ c1 _ _ (hr1.take j (by omega)); rw [hgj] at hgt; refine hgt.mono ?_; rintro e w2 ⟨rfl, rfl⟩))
    | (go_at_call 7; refine (awake_any _).mono ?_; rintro e w4 ⟨rfl, hbel4⟩))
  have hB1 := hb0.trans (hbel1.mono hB0)
  go_ret
  exact ⟨rfl, hB1.trans (hbel4.mono hB1.size)⟩
end Go.Proofs.Ytiekjkgnljoccaa
