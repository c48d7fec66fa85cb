/- Edits: cells, the small functions of the program. -/
import Derived.Test.YtfogodbbgbnhkaaGreatDoorRoMath
import Derived.Test.YtfogodbbgbnhkaaGreatDoorLCk
namespace Go.Proofs.YtfogodbbgbnhkaaGreatDoor
open Go.RowKit

/-- an edit's twelve cells -/
def ee (e : Ed.E) : List Value := [.int .i64 e.kind, .int .i64 e.num, .int .i64 e.index, .int .i64 e.term, .int .i64 e.ht, .int .i64 e.hv, .int .i64 e.hc, .int .i64 e.tab.num, .int .i64 e.tab.lev, .int .i64 e.tab.size, .string e.tab.first, .string e.tab.last]
theorem eeE : Enc 12 ee := ⟨fun _ => rfl, fun x u hu => by simp only [ee, List.mem_cons, List.not_mem_nil, or_false] at hu; rcases hu with h | h | h | h | h | h | h | h | h | h | h | h <;> (rw [h]; rfl)⟩
abbrev ERow (w : World) (a : Option Addr) (n : Nat) (l : List Ed.E) : Prop := TRow 12 ee Ed.zero w a n l
abbrev ed12 (k n i t a b c p q r : Int) (f g : ByteArray) : Value := .agg #[.int .i64 k, .int .i64 n, .int .i64 i, .int .i64 t, .int .i64 a, .int .i64 b, .int .i64 c, .int .i64 p, .int .i64 q, .int .i64 r, .string f, .string g]
abbrev oed (k n i t a b c p q r : Int) (f g : ByteArray) : Obj := .cells #[.int .i64 k, .int .i64 n, .int .i64 i, .int .i64 t, .int .i64 a, .int .i64 b, .int .i64 c, .int .i64 p, .int .i64 q, .int .i64 r, .string f, .string g] 52

set_option maxRecDepth 100000 in
set_option maxHeartbeats 400000 in
theorem ecounts_any (n : Int) (w : World) : Calls Tryz.prog 167 #[.int .i64 n] w fun e w' => e = .returned (.bool (Ed.counts n)) ∧ w' = w := by
  generalize hr : Ed.counts n = r
  have H : Hid ((decide (1 ≤ n) && decide (n ≤ 2147483647)) = r) := hr
  clear hr
  by_cases h1 : 1 ≤ n
  · have HR : Hid (r = decide (n ≤ 2147483647)) := (by rw [← H.out]; simp only [h1, decide_true, Bool.true_and] : r = decide (n ≤ 2147483647))
    clear H
    go_enter Tryz.func167, Tryz.ntmps167
    go_wp2
    go_ret
    obtain rfl := HR.out
    exact ⟨rfl, rfl⟩
  · have HR : Hid (r = false) := (by rw [← H.out]; simp only [h1, decide_false, Bool.false_and] : r = false)
    clear H
    go_enter Tryz.func167, Tryz.ntmps167
    go_wp2
    go_ret
    obtain rfl := HR.out
    exact ⟨rfl, rfl⟩

set_option maxRecDepth 100000 in
set_option maxHeartbeats 400000 in
theorem ecz_any (n : Int) (w : World) : Calls Tryz.prog 168 #[.int .i64 n] w fun e w' => e = .returned (.bool (Ed.cz n)) ∧ w' = w := by
  have hc := fun x W => ecounts_any x W
  generalize hr : Ed.cz n = r
  have H : Hid ((decide (n = 0) || Ed.counts n) = r) := hr
  clear hr
  by_cases h1 : n = 0
  · have HR : Hid (r = true) := (by rw [← H.out]; simp only [h1, decide_true, Bool.true_or] : r = true)
    clear H
    go_enter Tryz.func168, Tryz.ntmps168
    go_wp2
    go_ret
    obtain rfl := HR.out
    exact ⟨rfl, rfl⟩
  · have HR : Hid ((n == 0 || Ed.counts n) = r) := (by rw [← H.out]; simp only [h1, decide_false, Bool.false_or]; simp [h1] : (n == 0 || Ed.counts n) = r)
    clear H
    go_enter Tryz.func168, Tryz.ntmps168
    go_wp2_with (go_at_call 167; refine (hc _ _).mono ?_; rintro e w2 ⟨rfl, rfl⟩)
    go_ret
    obtain rfl := HR.out
    exact ⟨rfl, rfl⟩

/-- where the numbers named of a kind begin in the row, and where they end -/
def pfr (k : Int) : Nat := if k = 3 ∨ k = 7 ∨ k = 9 then 1 else 0
def pto (k : Int) : Nat := if k = 1 ∨ k = 5 then 1 else if k = 2 ∨ k = 3 ∨ k = 7 ∨ k = 9 then 2 else if k = 6 then 3 else if k = 8 then 6 else 0

set_option maxRecDepth 100000 in
set_option maxHeartbeats 4000000 in
theorem enamed_any (k : Int) (w : World) : Calls Tryz.prog 165 #[.int .i64 k] w fun e w' => e = .returned (.tuple #[.int .i64 (pfr k : Nat), .int .i64 (pto k : Nat)]) ∧ w' = w := by
  rcases Ed.kinds k with rfl | rfl | rfl | rfl | rfl | rfl | rfl | rfl | rfl | h
  case inr.inr.inr.inr.inr.inr.inr.inr.inr =>
    have h1 : ¬ k = 1 := by omega
    have h2 : ¬ k = 2 := by omega
    have h3 : ¬ k = 3 := by omega
    have h5 : ¬ k = 5 := by omega
    have h6 : ¬ k = 6 := by omega
    have h7 : ¬ k = 7 := by omega
    have h8 : ¬ k = 8 := by omega
    have h9 : ¬ k = 9 := by omega
    have e1 : Hid (pfr k = 0) := (by unfold pfr; rw [if_neg (by omega)] : pfr k = 0)
    have e2 : Hid (pto k = 0) := (by unfold pto; rw [if_neg (by omega), if_neg (by omega), if_neg (by omega), if_neg (by omega)] : pto k = 0)
    clear h
    go_enter Tryz.func165, Tryz.ntmps165
    go_wp2
    go_ret2
    rw [e1.out, e2.out]
    exact ⟨rfl, rfl⟩
  all_goals
    go_enter Tryz.func165, Tryz.ntmps165
    go_wp2
    go_ret2
    exact ⟨rfl, rfl⟩
end Go.Proofs.YtfogodbbgbnhkaaGreatDoor

/- Edits: row, ofRow, placeMayBe, hardMayBe. -/
namespace Go.Proofs.YtfogodbbgbnhkaaGreatDoor
open Go.RowKit

set_option maxRecDepth 100000 in
set_option maxHeartbeats 400000 in
theorem erow_any (k n i t a b c p q r : Int) (f g : ByteArray) (w : World) : Calls Tryz.prog 164 #[ed12 k n i t a b c p q r f g] w fun e w' => e = .returned (.agg #[.int .i64 n, .int .i64 i, .int .i64 t, .int .i64 a, .int .i64 b, .int .i64 c]) ∧ Below w.heap.size w w' := by
  go_enter Tryz.func164, Tryz.ntmps164
  go_wp2
  exact bodyPost_ret (v := .agg #[.int .i64 n, .int .i64 i, .int .i64 t, .int .i64 a, .int .i64 b, .int .i64 c]) (by simp [results, Tryz.results164, go_sem]) rfl ⟨rfl, below_two _ _ _⟩
set_option maxRecDepth 100000 in
set_option maxHeartbeats 400000 in
theorem eofrow_any (k n i t a b c : Int) (w : World) : Calls Tryz.prog 166 #[.int .i64 k, .agg #[.int .i64 n, .int .i64 i, .int .i64 t, .int .i64 a, .int .i64 b, .int .i64 c]] w fun e w' => e = .returned (ed12 k n i t a b c 0 0 0 ⟨#[]⟩ ⟨#[]⟩) ∧ Below w.heap.size w w' := by
  go_enter Tryz.func166, Tryz.ntmps166
  go_wp2
  exact bodyPost_ret (v := ed12 k n i t a b c 0 0 0 ⟨#[]⟩ ⟨#[]⟩) (by simp [results, Tryz.results166, go_sem]) rfl ⟨rfl, (below_two _ _ _).alloc (by simp; omega) _⟩
set_option maxRecDepth 100000 in
set_option maxHeartbeats 400000 in
theorem eplace_any (i t : Int) (r : Bool) (hr : r = ((Ed.counts i && Ed.counts t) || (decide (i = 0) && decide (t = 0)))) (w : World) : Calls Tryz.prog 169 #[.int .i64 i, .int .i64 t] w fun e w' => e = .returned (.bool r) ∧ w' = w := by
  have hc := fun x W => ecounts_any x W
  have H : Hid (r = _) := hr
  clear hr
  cases h1 : Ed.counts i with
  | true =>
    cases h2 : Ed.counts t with
    | true =>
      go_enter Tryz.func169, Tryz.ntmps169
      go_wp2_with (go_at_call 167; refine (hc _ _).mono ?_; rintro e w2 ⟨rfl, rfl⟩)
      go_ret
      rw [H.out, h1, h2]
      exact ⟨rfl, rfl⟩
    | false =>
      have h3 : ¬ i = 0 := by have := (Ed.counts_iff i).mp h1; omega
      go_enter Tryz.func169, Tryz.ntmps169
      go_wp2_with (go_at_call 167; refine (hc _ _).mono ?_; rintro e w2 ⟨rfl, rfl⟩)
      go_ret
      rw [H.out, h1, h2]
      exact ⟨by simp [h3], rfl⟩
  | false =>
    by_cases h3 : i = 0
    · go_enter Tryz.func169, Tryz.ntmps169
      go_wp2_with (go_at_call 167; refine (hc _ _).mono ?_; rintro e w2 ⟨rfl, rfl⟩)
      go_ret
      rw [H.out, h1]
      exact ⟨by simp [h3]; rfl, rfl⟩
    · go_enter Tryz.func169, Tryz.ntmps169
      go_wp2_with (go_at_call 167; refine (hc _ _).mono ?_; rintro e w2 ⟨rfl, rfl⟩)
      go_ret
      rw [H.out, h1]
      exact ⟨by simp [h3], rfl⟩
set_option maxRecDepth 100000 in
set_option maxHeartbeats 400000 in
theorem ehard_any (a b c : Int) (r : Bool) (hr : r = (Ed.cz a && (Ed.cz b && Ed.cz c))) (w : World) : Calls Tryz.prog 170 #[.agg #[.int .i64 a, .int .i64 b, .int .i64 c]] w fun e w' => e = .returned (.bool r) ∧ Below w.heap.size w w' := by
  have hc := fun x W => ecz_any x W
  have H : Hid (r = _) := hr
  clear hr
  have hb := below_alloc w (.cells #[.int .i64 a, .int .i64 b, .int .i64 c] 32)
  cases h1 : Ed.cz a with
  | false =>
    go_enter Tryz.func170, Tryz.ntmps170
    go_wp2_with (go_at_call 168; refine (hc _ _).mono ?_; rintro e w2 ⟨rfl, rfl⟩)
    go_ret
    rw [H.out, h1]
    exact ⟨rfl, hb⟩
  | true =>
    cases h2 : Ed.cz b with
    | false =>
      go_enter Tryz.func170, Tryz.ntmps170
      go_wp2_with (go_at_call 168; refine (hc _ _).mono ?_; rintro e w2 ⟨rfl, rfl⟩)
      go_ret
      rw [H.out, h1, h2]
      exact ⟨rfl, hb⟩
    | true =>
      go_enter Tryz.func170, Tryz.ntmps170
      go_wp2_with (go_at_call 168; refine (hc _ _).mono ?_; rintro e w2 ⟨rfl, rfl⟩)
      go_ret
      rw [H.out, h1, h2]
      exact ⟨by simp, hb⟩
end Go.Proofs.YtfogodbbgbnhkaaGreatDoor
