/- Edits: row, ofRow, placeMayBe, hardMayBe. -/
import Derived.Test.YtmodogmjfbcddaaGreatEA
namespace Go.Proofs.YtmodogmjfbcddaaGreat
open Go.RowKit

set_option maxRecDepth 100000 in
set_option maxHeartbeats 400000 in
theorem erow_any (k n i t a b c p q r : Int) (f g : ByteArray) (w : World) : Calls Tryz.prog 115 #[ed12 k n i t a b c p q r f g] w fun e w' => e = .returned (.agg #[.int .i64 n, .int .i64 i, .int .i64 t, .int .i64 a, .int .i64 b, .int .i64 c]) ∧ Below w.heap.size w w' := by
  go_enter Tryz.func115, Tryz.ntmps115
  go_wp2
  exact bodyPost_ret (v := .agg #[.int .i64 n, .int .i64 i, .int .i64 t, .int .i64 a, .int .i64 b, .int .i64 c]) (by simp [results, Tryz.results115, go_sem]) rfl ⟨rfl, below_two _ _ _⟩
set_option maxRecDepth 100000 in
set_option maxHeartbeats 400000 in
theorem eofrow_any (k n i t a b c : Int) (w : World) : Calls Tryz.prog 117 #[.int .i64 k, .agg #[.int .i64 n, .int .i64 i, .int .i64 t, .int .i64 a, .int .i64 b, .int .i64 c]] w fun e w' => e = .returned (ed12 k n i t a b c 0 0 0 ⟨#[]⟩ ⟨#[]⟩) ∧ Below w.heap.size w w' := by
  go_enter Tryz.func117, Tryz.ntmps117
  go_wp2
  exact bodyPost_ret (v := ed12 k n i t a b c 0 0 0 ⟨#[]⟩ ⟨#[]⟩) (by simp [results, Tryz.results117, go_sem]) rfl ⟨rfl, (below_two _ _ _).alloc (by simp; omega) _⟩
set_option maxRecDepth 100000 in
set_option maxHeartbeats 400000 in
theorem eplace_any (i t : Int) (r : Bool) (hr : r = ((Ed.counts i && Ed.counts t) || (decide (i = 0) && decide (t = 0)))) (w : World) : Calls Tryz.prog 120 #[.int .i64 i, .int .i64 t] w fun e w' => e = .returned (.bool r) ∧ w' = w := by
  have hc := fun x W => ecounts_any x W
  have H : Hid (r = _) := hr
  clear hr
  cases h1 : Ed.counts i with
  | true =>
    cases h2 : Ed.counts t with
    | true =>
      go_enter Tryz.func120, Tryz.ntmps120
      go_wp2_with (go_at_call 118; refine (hc _ _).mono ?_; rintro e w2 ⟨rfl, rfl⟩)
      go_ret
      rw [H.out, h1, h2]
      exact ⟨rfl, rfl⟩
    | false =>
      have h3 : ¬ i = 0 := by have := (Ed.counts_iff i).mp h1; omega
      go_enter Tryz.func120, Tryz.ntmps120
      go_wp2_with (go_at_call 118; refine (hc _ _).mono ?_; rintro e w2 ⟨rfl, rfl⟩)
      go_ret
      rw [H.out, h1, h2]
      exact ⟨by simp [h3], rfl⟩
  | false =>
    by_cases h3 : i = 0
    · go_enter Tryz.func120, Tryz.ntmps120
      go_wp2_with (go_at_call 118; refine (hc _ _).mono ?_; rintro e w2 ⟨rfl, rfl⟩)
      go_ret
      rw [H.out, h1]
      exact ⟨by simp [h3]; rfl, rfl⟩
    · go_enter Tryz.func120, Tryz.ntmps120
      go_wp2_with (go_at_call 118; refine (hc _ _).mono ?_; rintro e w2 ⟨rfl, rfl⟩)
      go_ret
      rw [H.out, h1]
      exact ⟨by simp [h3], rfl⟩
set_option maxRecDepth 100000 in
set_option maxHeartbeats 400000 in
theorem ehard_any (a b c : Int) (r : Bool) (hr : r = (Ed.cz a && (Ed.cz b && Ed.cz c))) (w : World) : Calls Tryz.prog 121 #[.agg #[.int .i64 a, .int .i64 b, .int .i64 c]] w fun e w' => e = .returned (.bool r) ∧ Below w.heap.size w w' := by
  have hc := fun x W => ecz_any x W
  have H : Hid (r = _) := hr
  clear hr
  have hb := below_alloc w (.cells #[.int .i64 a, .int .i64 b, .int .i64 c] 27)
  cases h1 : Ed.cz a with
  | false =>
    go_enter Tryz.func121, Tryz.ntmps121
    go_wp2_with (go_at_call 119; refine (hc _ _).mono ?_; rintro e w2 ⟨rfl, rfl⟩)
    go_ret
    rw [H.out, h1]
    exact ⟨rfl, hb⟩
  | true =>
    cases h2 : Ed.cz b with
    | false =>
      go_enter Tryz.func121, Tryz.ntmps121
      go_wp2_with (go_at_call 119; refine (hc _ _).mono ?_; rintro e w2 ⟨rfl, rfl⟩)
      go_ret
      rw [H.out, h1, h2]
      exact ⟨rfl, hb⟩
    | true =>
      go_enter Tryz.func121, Tryz.ntmps121
      go_wp2_with (go_at_call 119; refine (hc _ _).mono ?_; rintro e w2 ⟨rfl, rfl⟩)
      go_ret
      rw [H.out, h1, h2]
      exact ⟨by simp, hb⟩
end Go.Proofs.YtmodogmjfbcddaaGreat
