/- What slices.Clone, slices.Grow and slices.Concat of three rows of bytes do. -/
import Derived.Test.YtgdefibgifcbaaaGa
import Derived.Lib.AppendZeros
import Derived.Test.YtgdefibgifcbaaaWa
namespace Go.Proofs.Ytgdefibgifcbaaa
open Go.RowKit

/-- a copy: a row of the call's own, nil if it was nil -/
def Copied (w : World) (n : Nat) (bs : List Nat) (e : Ending) (w' : World) : Prop :=
  ∃ a c, e = .returned (.slice a n c) ∧ Row .u8 w' a n bs ∧ (a = none → n = 0 ∧ c = 0) ∧ w'.ownsRow w.heap.size 5 1 (.slice a n c) n (kcells .u8 bs) ∧ Below w.heap.size w w'

set_option maxRecDepth 100000 in
set_option maxHeartbeats 400000 in
theorem copy_any (a : Option Addr) (n c : Nat) (bs : List Nat) (w : World) (hn : n ≤ 1000000) (hr : Row .u8 w a n bs) (hnil : a = none → n = 0 ∧ c = 0) :
    Calls Try.prog 45 #[.slice a n c] w (Copied w n bs) := by
  cases a with
  | none =>
    obtain ⟨rfl, rfl⟩ := hnil rfl
    go_enter Try.func45, Try.ntmps45
    go_wp2_with fail
    rw [Lib.run_eql_slice_nil _ 23 5 none 0 0 0 0 Try.underlying23]
    go_wp2
    go_ret
    obtain rfl : bs = [] := List.length_eq_zero_iff.mp hr.1
    exact ⟨none, 0, rfl, hr, fun _ => ⟨rfl, rfl⟩, ⟨rfl, .inl ⟨rfl, rfl⟩⟩, Below.refl _ _⟩
  | some p =>
    have hsm := hr.2.2.1
    have hr2 := hr.below (below_alloc w (.cells #[] 5)) (Nat.le_refl _)
    go_enter Try.func45, Try.ntmps45
    go_wp2_with fail
    rw [Lib.run_eql_slice_nil _ 23 5 (some p) n c 0 0 Try.underlying23]
    go_wp2_with (at_builtin; refine append_u8 (w0 := w) (B := w.heap.size) rfl (.tmp 5) (.tmp 6) rfl _ 0 [] rfl (made_at w 5 w.heap.size rfl (Nat.le_refl _)) (some p) n c bs rfl hr2 (fun h => by cases h) (by omega) (below_alloc _ _) (by simp) ?_; intro A C w2 hown2 hbel2 hsz2)
    rw [Nat.zero_add, List.nil_append] at hown2
    have k := row_of_owns hown2 hsm (by omega)
    go_ret
    exact ⟨A, C, rfl, k.1, k.2.1, hown2, hbel2⟩

end Go.Proofs.Ytgdefibgifcbaaa


/- What the program's getBytes of a near cell does. -/
namespace Go.Proofs.Ytgdefibgifcbaaa
open Go.RowKit

/-- the bytes of a near cell that bytes begin with, and how many these and their number are; 0: there are none -/
def nearOf (bs : List Nat) : List Nat × Nat :=
  if (Va.get bs).2 = 0 ∨ 32 < (Va.get bs).1 ∨ bs.length < (Va.get bs).2 + (Va.get bs).1 then ([], 0)
  else ((bs.drop (Va.get bs).2).take (Va.get bs).1, (Va.get bs).2 + (Va.get bs).1)

def NearRes (w : World) (R : List Nat × Nat) (e : Ending) (w' : World) : Prop :=
  ∃ a c, e = .returned (.tuple #[.slice a R.1.length c, .int .i64 (R.2 : Nat), .int .i64 (code R.2 : Nat)]) ∧ Row .u8 w' a R.1.length R.1 ∧ (a = none → R.1.length = 0 ∧ c = 0) ∧ w'.ownsRow w.heap.size 5 1 (.slice a R.1.length c) R.1.length (kcells .u8 R.1) ∧ Below w.heap.size w w'
theorem nearres_none {w : World} {G : List Nat × Nat} (hG : G = ([], 0)) : NearRes w G (.returned (.tuple #[.slice none 0 0, .int .i64 0, .int .i64 2])) w := by
  subst hG
  exact ⟨none, 0, rfl, ⟨rfl, by simp, by simp, .inl rfl⟩, fun _ => ⟨rfl, rfl⟩, ⟨rfl, .inl ⟨rfl, rfl⟩⟩, Below.refl _ _⟩
theorem nearres_some {w w' : World} {G : List Nat × Nat} {v : List Nat} {n u k c : Nat} {a : Option Addr} (hG : G = (v, k)) (hk : 0 < k) (hv : v.length = u) (hr : Row .u8 w' a u v) (hnil : a = none → u = 0 ∧ c = 0) (hnew : w'.ownsRow w.heap.size 5 1 (.slice a u c) u (kcells .u8 v)) (hb : Below w.heap.size w w') (hn : n = k) : NearRes w G (.returned (.tuple #[.slice a u c, .int .i64 (n : Nat), .int .i64 0])) w' := by
  subst hG; subst hv; subst hn
  refine ⟨a, c, ?_, hr, hnil, hnew, hb⟩
  have : code n = 0 := by unfold code; rw [if_neg (by omega)]
  simp only [this]; rfl

end Go.Proofs.Ytgdefibgifcbaaa
