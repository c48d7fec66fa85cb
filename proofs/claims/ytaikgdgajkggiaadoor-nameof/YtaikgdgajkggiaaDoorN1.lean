/- What the reference's Of of a file does. -/
import Derived.Test.YtaikgdgajkggiaaDoorNaMath
import Derived.Test.YtaikgdgajkggiaaDoorK1
import Derived.Test.YtaikgdgajkggiaaDoorU1
import Derived.WalkKit
import Derived.OwnWalk
import Derived.Below
namespace Go.Proofs.YtaikgdgajkggiaaDoor
open Go.RowKit

/-- a file as a value -/
abbrev fv (f : Na.F) : Value := .agg #[.int .i64 f.1, .int .i64 f.2]

/-- a text of one byte -/
def one1 (x : Nat) : ByteArray := ⟨#[UInt8.ofNat x]⟩
theorem kb_one1 {x : Nat} (h : x < 256) : kb (one1 x) = [x] := by
  simp [kb, one1, Nat.mod_eq_of_lt h]
set_option maxRecDepth 100000 in
set_option maxHeartbeats 1000000 in
theorem nof_num (k n : Int) (w : World) (hm : 3 ≤ k ∧ k ≤ 7 ∧ 1 ≤ n ∧ n ≤ 2147483647) :
    Calls Tryd.prog 8 #[.agg #[.int .i64 k, .int .i64 n]] w fun e w' => ∃ s, e = .returned (.string s) ∧ kb s = Na.of (k, n) ∧ Below w.heap.size w w' := by
  obtain ⟨h1, h2, h3, h4⟩ := hm
  have d1 : (k == 1) = false := by simp; omega
  have d2 : (k == 2) = false := by simp; omega
  have d3 : decide (k < 3) = false := by simp; omega
  have d4 : decide (7 < k) = false := by simp; omega
  have d5 : decide (n < 1) = false := by simp; omega
  have d6 : decide (2147483647 < n) = false := by simp; omega
  obtain ⟨m, rfl⟩ : ∃ m : Nat, n = (m : Int) := ⟨n.toNat, by omega⟩
  go_enter Tryd.func8, Tryd.ntmps8
  go_wp2
  go_loopw [3, 4, 5] (fun s t i wr => ∃ (j q : Nat) (b : ByteArray), j ≤ 10 ∧ i = .int .i64 j ∧ t = .int .i64 q ∧ q ≤ 2147483647 ∧ s = .string b ∧ Hid (q = m / 10 ^ j) ∧ Hid (kb b = Na.dig j m) ∧ wr.cell? ⟨w.heap.size, 0, none⟩ = some (.int .i64 k) ∧ Below w.heap.size w wr) (fun _ _ i _ => 10 - (intOf i).toNat)
  case atStart => exact ⟨0, m, ⟨#[]⟩, by omega, rfl, rfl, by omega, rfl, (by simp : m = m / 10 ^ 0), (rfl : kb ⟨#[]⟩ = Na.dig 0 m), cell_new w _ _ 0, below_alloc _ _⟩
  case round =>
    obtain ⟨j, q, b, hj, rfl, rfl, hq, rfl, Hq, Hb, hcl, hbel⟩ := hrel
    by_cases hlt : j < 10
    · obtain ⟨x, hx⟩ : ∃ x, x = q % 10 := ⟨_, rfl⟩
      have jq : Int.tdiv (q : Int) 10 = ((q / 10 : Nat) : Int) := (Int.ofNat_tdiv q 10).symm
      have jj : (j : Int) < 10 := by omega
      have HQ : Hid (q / 10 = m / 10 ^ (j + 1)) := (by rw [Hq.out, Nat.pow_succ, Nat.div_div_eq_div_mul] : q / 10 = m / 10 ^ (j + 1))
      have HX : Hid (m / 10 ^ j % 10 = x) := (by rw [hx, Hq.out] : m / 10 ^ j % 10 = x)
      have jr : Int.tmod (q : Int) 10 = (x : Int) := by rw [hx]; exact (Int.ofNat_tmod q 10).symm
      have hx10 : x = 0 ∨ x = 1 ∨ x = 2 ∨ x = 3 ∨ x = 4 ∨ x = 5 ∨ x = 6 ∨ x = 7 ∨ x = 8 ∨ x = 9 := by omega
      have hbs : b.size ≤ 10 := by rw [← kb_len, Hb.out, Na.dig_len]; omega
      clear hx Hq
      rcases hx10 with rfl | rfl | rfl | rfl | rfl | rfl | rfl | rfl | rfl | rfl
      · go_wp2
        go_roundw
        case rel => exact ⟨j + 1, q / 10, _, by omega, by go_num, val_int (by omega), by omega, rfl, HQ, (by rw [kb_app, Hb.out, Na.dig_cons, HX.out]; rfl : kb (_ ++ b) = Na.dig (j + 1) m), (cell_past wr _ ⟨w.heap.size, 0, none⟩ (cell_lt hcl)).trans hcl, hbel.alloc hbel.size _⟩
        case measure => simp [intOf]; omega
      · go_wp2
        go_roundw
        case rel => exact ⟨j + 1, q / 10, _, by omega, by go_num, val_int (by omega), by omega, rfl, HQ, (by rw [kb_app, Hb.out, Na.dig_cons, HX.out]; rfl : kb (_ ++ b) = Na.dig (j + 1) m), (cell_past wr _ ⟨w.heap.size, 0, none⟩ (cell_lt hcl)).trans hcl, hbel.alloc hbel.size _⟩
        case measure => simp [intOf]; omega
      · go_wp2
        go_roundw
        case rel => exact ⟨j + 1, q / 10, _, by omega, by go_num, val_int (by omega), by omega, rfl, HQ, (by rw [kb_app, Hb.out, Na.dig_cons, HX.out]; rfl : kb (_ ++ b) = Na.dig (j + 1) m), (cell_past wr _ ⟨w.heap.size, 0, none⟩ (cell_lt hcl)).trans hcl, hbel.alloc hbel.size _⟩
        case measure => simp [intOf]; omega
      · go_wp2
        go_roundw
        case rel => exact ⟨j + 1, q / 10, _, by omega, by go_num, val_int (by omega), by omega, rfl, HQ, (by rw [kb_app, Hb.out, Na.dig_cons, HX.out]; rfl : kb (_ ++ b) = Na.dig (j + 1) m), (cell_past wr _ ⟨w.heap.size, 0, none⟩ (cell_lt hcl)).trans hcl, hbel.alloc hbel.size _⟩
        case measure => simp [intOf]; omega
      · go_wp2
        go_roundw
        case rel => exact ⟨j + 1, q / 10, _, by omega, by go_num, val_int (by omega), by omega, rfl, HQ, (by rw [kb_app, Hb.out, Na.dig_cons, HX.out]; rfl : kb (_ ++ b) = Na.dig (j + 1) m), (cell_past wr _ ⟨w.heap.size, 0, none⟩ (cell_lt hcl)).trans hcl, hbel.alloc hbel.size _⟩
        case measure => simp [intOf]; omega
      · go_wp2
        go_roundw
        case rel => exact ⟨j + 1, q / 10, _, by omega, by go_num, val_int (by omega), by omega, rfl, HQ, (by rw [kb_app, Hb.out, Na.dig_cons, HX.out]; rfl : kb (_ ++ b) = Na.dig (j + 1) m), (cell_past wr _ ⟨w.heap.size, 0, none⟩ (cell_lt hcl)).trans hcl, hbel.alloc hbel.size _⟩
        case measure => simp [intOf]; omega
      · go_wp2
        go_roundw
        case rel => exact ⟨j + 1, q / 10, _, by omega, by go_num, val_int (by omega), by omega, rfl, HQ, (by rw [kb_app, Hb.out, Na.dig_cons, HX.out]; rfl : kb (_ ++ b) = Na.dig (j + 1) m), (cell_past wr _ ⟨w.heap.size, 0, none⟩ (cell_lt hcl)).trans hcl, hbel.alloc hbel.size _⟩
        case measure => simp [intOf]; omega
      · go_wp2
        go_roundw
        case rel => exact ⟨j + 1, q / 10, _, by omega, by go_num, val_int (by omega), by omega, rfl, HQ, (by rw [kb_app, Hb.out, Na.dig_cons, HX.out]; rfl : kb (_ ++ b) = Na.dig (j + 1) m), (cell_past wr _ ⟨w.heap.size, 0, none⟩ (cell_lt hcl)).trans hcl, hbel.alloc hbel.size _⟩
        case measure => simp [intOf]; omega
      · go_wp2
        go_roundw
        case rel => exact ⟨j + 1, q / 10, _, by omega, by go_num, val_int (by omega), by omega, rfl, HQ, (by rw [kb_app, Hb.out, Na.dig_cons, HX.out]; rfl : kb (_ ++ b) = Na.dig (j + 1) m), (cell_past wr _ ⟨w.heap.size, 0, none⟩ (cell_lt hcl)).trans hcl, hbel.alloc hbel.size _⟩
        case measure => simp [intOf]; omega
      · go_wp2
        go_roundw
        case rel => exact ⟨j + 1, q / 10, _, by omega, by go_num, val_int (by omega), by omega, rfl, HQ, (by rw [kb_app, Hb.out, Na.dig_cons, HX.out]; rfl : kb (_ ++ b) = Na.dig (j + 1) m), (cell_past wr _ ⟨w.heap.size, 0, none⟩ (cell_lt hcl)).trans hcl, hbel.alloc hbel.size _⟩
        case measure => simp [intOf]; omega
    · obtain rfl : j = 10 := by omega
      have hk5 : k = 3 ∨ k = 4 ∨ k = 5 ∨ k = 6 ∨ k = 7 := by omega
      have HO : Hid (Na.of (k, (m : Int)) = Na.letter k :: Na.dig 10 m) := (by rw [Na.of_num ⟨h1, h2, h3, h4⟩]; simp : Na.of (k, (m : Int)) = Na.letter k :: Na.dig 10 m)
      have hbs : b.size ≤ 10 := by rw [← kb_len, Hb.out, Na.dig_len]; omega
      have hlt1 : w.heap.size < wr.heap.size := cell_lt hcl
      clear Hq
      rcases hk5 with rfl | rfl | rfl | rfl | rfl
      · go_wp2
        go_ret
        exact ⟨_, rfl, by rw [kb_app, Hb.out, HO.out]; rfl, hbel.alloc hbel.size _⟩
      · go_wp2
        go_ret
        exact ⟨_, rfl, by rw [kb_app, Hb.out, HO.out]; rfl, hbel.alloc hbel.size _⟩
      · go_wp2
        go_ret
        exact ⟨_, rfl, by rw [kb_app, Hb.out, HO.out]; rfl, hbel.alloc hbel.size _⟩
      · go_wp2
        go_ret
        exact ⟨_, rfl, by rw [kb_app, Hb.out, HO.out]; rfl, hbel.alloc hbel.size _⟩
      · go_wp2
        go_ret
        exact ⟨_, rfl, by rw [kb_app, Hb.out, HO.out]; rfl, hbel.alloc hbel.size _⟩

set_option maxRecDepth 100000 in
set_option maxHeartbeats 1000000 in
theorem nof_any (f : Na.F) (w : World) : Calls Tryd.prog 8 #[fv f] w fun e w' => ∃ s, e = .returned (.string s) ∧ kb s = Na.of f ∧ Below w.heap.size w w' := by
  obtain ⟨k, n⟩ := f
  simp only [fv]
  by_cases hm : 3 ≤ k ∧ k ≤ 7 ∧ 1 ≤ n ∧ n ≤ 2147483647
  · exact nof_num k n w hm
  · have hb0 := below_alloc w (.cells #[.int .i64 k, .int .i64 n] 23)
    by_cases h1 : k = 1
    · subst h1
      by_cases h2 : n = 0
      · subst h2
        go_enter Tryd.func8, Tryd.ntmps8
        go_wp2
        go_ret
        exact ⟨_, rfl, by decide, hb0⟩
      · have H : Hid (Na.of (1, n) = []) := (by unfold Na.of; rw [if_neg (by simp only [Prod.mk.injEq]; omega), if_neg (by simp only [Prod.mk.injEq]; omega), if_neg (by simp only; omega)] : Na.of (1, n) = [])
        have d1 : (n == 0) = false := by simpa using h2
        clear hm
        go_enter Tryd.func8, Tryd.ntmps8
        go_wp2
        go_ret
        exact ⟨_, rfl, by rw [H.out]; rfl, hb0⟩
    · have d1 : (k == 1) = false := by simpa using h1
      by_cases h3 : k = 2
      · subst h3
        by_cases h2 : n = 0
        · subst h2
          go_enter Tryd.func8, Tryd.ntmps8
          go_wp2
          go_ret
          exact ⟨_, rfl, by decide, hb0⟩
        · have H : Hid (Na.of (2, n) = []) := (by unfold Na.of; rw [if_neg (by simp only [Prod.mk.injEq]; omega), if_neg (by simp only [Prod.mk.injEq]; omega), if_neg (by simp only; omega)] : Na.of (2, n) = [])
          have d2 : (n == 0) = false := by simpa using h2
          clear hm
          go_enter Tryd.func8, Tryd.ntmps8
          go_wp2
          go_ret
          exact ⟨_, rfl, by rw [H.out]; rfl, hb0⟩
      · have d2 : (k == 2) = false := by simpa using h3
        have H : Hid (Na.of (k, n) = []) := (by unfold Na.of; rw [if_neg (by simp only [Prod.mk.injEq]; omega), if_neg (by simp only [Prod.mk.injEq]; omega), if_neg hm] : Na.of (k, n) = [])
        by_cases g1 : 3 ≤ k
        · by_cases g2 : k ≤ 7
          · by_cases g3 : 1 ≤ n
            · have g4 : 2147483647 < n := by omega
              clear hm
              go_enter Tryd.func8, Tryd.ntmps8
              go_wp2
              go_ret
              exact ⟨_, rfl, by rw [H.out]; rfl, hb0⟩
            · clear hm
              go_enter Tryd.func8, Tryd.ntmps8
              go_wp2
              go_ret
              exact ⟨_, rfl, by rw [H.out]; rfl, hb0⟩
          · clear hm
            go_enter Tryd.func8, Tryd.ntmps8
            go_wp2
            go_ret
            exact ⟨_, rfl, by rw [H.out]; rfl, hb0⟩
        · clear hm
          go_enter Tryd.func8, Tryd.ntmps8
          go_wp2
          go_ret
          exact ⟨_, rfl, by rw [H.out]; rfl, hb0⟩
end Go.Proofs.YtaikgdgajkggiaaDoor
