/- What the law VarintPuts does. -/
import Derived.Test.YtiekjkgnljoccaaW6
import Derived.Deep.RegionHeld3
namespace Go.Proofs.Ytiekjkgnljoccaa
open Go.RowKit

theorem puts_long (a : Option Addr) (len cap : Nat) (z : Int) (w : World) (h : 500 < len) :
    Calls Try.prog 3 #[.slice a len cap, .int .i64 z] w fun e w' => e = .returned (.bool true) ∧ Below w.heap.size w w' := by
  go_enter Try.func3, Try.ntmps3
  go_wp2_with (go_at_call 7; refine (awake_any _).mono ?_; rintro e w' ⟨rfl, hbel⟩)
  go_ret
  exact ⟨rfl, by assumption⟩

set_option maxRecDepth 100000 in
set_option maxHeartbeats 1000000 in
theorem puts_any (a : Option Addr) (len cap : Nat) (z : Int) (l : List Nat) (w : World) (hlen : len ≤ 500) (hz1 : -9223372036854775808 ≤ z) (hz2 : z ≤ 9223372036854775807) (hr : Row .u64 w a len l) :
    Calls Try.prog 3 #[.slice a len cap, .int .i64 z] w fun e w' => e = .returned (.bool true) ∧ Below w.heap.size w w' := by
  have hll : Hid (l.length = len) := hr.1
  go_enter Try.func3, Try.ntmps3
  go_wp2
  go_loopw [5, 6] (fun t i wr => ∃ k : Nat, k ≤ len ∧ i = .int .i64 k ∧ t = .int .i64 ((Va.put (l.take k)).length : Nat) ∧ Below w.heap.size w wr) (fun _ i _ => len - (intOf i).toNat)
  case atStart => exact ⟨0, by omega, rfl, rfl, Below.refl _ _⟩
  case round =>
    obtain ⟨k, hk, rfl, rfl, hbel⟩ := hrel
    have hb := put_take_len l hr.2.2.1 k (by omega)
    have hsz := hbel.size
    by_cases hlt : k < len
    · have hr' := hr.below hbel (Nat.le_refl _)
      obtain ⟨b, off, rfl, hc⟩ := hr'.at (by omega)
      have hcell := hc k hlt
      have hblt := cell_lt hcell
      simp only at hblt
      have hx := getD_lt64 hr.2.2.1 k
      have H : Hid ((Va.put (l.take (k + 1))).length = (Va.put (l.take k)).length + Va.size (l.getD k 0)) := (by
        rw [put_take l k (by rw [hll.out]; exact hlt), List.length_append, Va.size_one _ hx] : (Va.put (l.take (k + 1))).length = (Va.put (l.take k)).length + Va.size (l.getD k 0))
      clear hc hr' hr
      generalize l.getD k 0 = x at *
      generalize (Va.put (l.take k)).length = n at *
      have hc1 := fun w => one_any x x w (Nat.le_refl _) hx
      have hs10 := Va.one_len10 hx
      have hs8 := fun w => size_any x w hx
      have hsz1 := Va.size_one _ hx
      rw [hsz1] at H hs8
      clear hsz1
      generalize Va.one x = r at *
      have i0 : (0 : Int) ≤ (k : Int) := Int.natCast_nonneg _
      have i1 : (k : Int) < (len : Int) := by omega
      go_wp2_with fail
      go_region_held3 (fun w' => w'.cell? ⟨b, off + k, none⟩ = some (.int .u64 x)) (first | go_keep | assumption)
        (first | ((go_at_call 8; refine (hs8 _).mono ?_; rintro e w' ⟨rfl, rfl⟩)) | ((go_at_call 9; refine (hc1 _).mono ?_; rintro e w1 ⟨a1, c1, rfl, hown1, hbel1⟩; have hk1 := (hbel1.cell (p := ⟨b, off + k, none⟩) hblt).trans hcell)))
      have hbel2 := hbel.drew.trans (hbel1.mono hsz)
      clear hown1 hbel1 hcell
      go_wp2_with (go_at_call 8; refine (hs8 _).mono ?_; rintro e w' ⟨rfl, rfl⟩)
      go_roundw
      case rel => exact ⟨k + 1, by omega, by go_num, val_int (by rw [H.out]; omega), hbel2⟩
      case measure => simp [intOf]; omega
    · have hkl : Hid (l.take k = l) := (List.take_of_length_le (by rw [hll.out]; omega) : l.take k = l)
      rw [hkl.out] at hb ⊢
      clear hkl
      have hp1 := fun W (h : Below w.heap.size w W) => put_any a len cap l W (by omega) (hr.below h (Nat.le_refl _))
      have hp2 := fun W (h : Below w.heap.size w W) => refput_any a len cap l W (by omega) (hr.below h (Nat.le_refl _))
      have hsm := Va.put_small l
      have hf1 := fun W => fold_any z W hz1 hz2
      have hf2 := fun W => reffold_any z W hz1 hz2
      have hf3 := fun W => unfold_any (Va.fold z) W (Va.fold_lt hz1 hz2)
      simp only [Va.unfold_fold] at hf3
      have hfl := Va.fold_lt hz1 hz2
      generalize Va.fold z = y at *
      generalize Va.put l = r at *
      clear hr
      go_wp2_with (first
        | (go_at_call 10; refine (hp1 _ hbel).mono ?_; rintro e w1 ⟨a1, c1, rfl, hown1, hbel1⟩)
        | (go_at_call 12; have := hown1; go_must (have hB1 := hbel.trans (hbel1.mono hsz); refine (hp2 _ hB1).mono ?_; rintro e w2 ⟨a2, c2, rfl, hown2, hbel2⟩))
        | (go_at_call 11; have := hown2; go_must (have hr1 := (row_of_owns hown1 hsm (by omega)).1.below hbel2 (Nat.le_refl _); have hr2 := (row_of_owns hown2 hsm (by omega)).1; refine (bytes_any _ _ _ _ _ _ _ _ _ hr1 hr2).mono ?_; rintro e w3 ⟨rfl, n3, rfl⟩))
        | (go_at_call 13; refine (hf1 _).mono ?_; rintro e w' ⟨rfl, rfl⟩)
        | (go_at_call 14; refine (hf2 _).mono ?_; rintro e w' ⟨rfl, rfl⟩)
        | (go_at_call 15; refine (hf3 _).mono ?_; rintro e w' ⟨rfl, rfl⟩)
        | (go_at_call 7; refine (awake_any _).mono ?_; rintro e w4 ⟨rfl, hbel4⟩))
      have hB2 := hB1.trans (hbel2.mono hB1.size)
      have hB3 := hB2.trans (below_drewN _ _ n3)
      go_ret
      exact ⟨rfl, hB3.trans (hbel4.mono hB3.size)⟩
end Go.Proofs.Ytiekjkgnljoccaa
