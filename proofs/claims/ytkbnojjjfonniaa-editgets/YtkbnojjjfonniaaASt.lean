/- Append of texts. -/
import Derived.Test.YtkbnojjjfonniaaGa
import Derived.Lib.AppendStr
import Derived.Lib.AppendZeros
namespace Go.Proofs.Ytkbnojjjfonniaa
open Go.RowKit

theorem str_kcells (s : ByteArray) : Lib.strCells s = kcells .u8 (kb s) := by
  simp [Lib.strCells, kcells, kb]
/-- append of a text's bytes -/
theorem append_str {w0 w : World} {B : Nat} {ops : Array Oper} {rest : List Oper} {o : Oper} {a : Act} {Q : Exit → Act → World → Prop} (hgd : o.guard = none) (s x : Operand)
    (ho : o.op = .call { callee := .builtin .append, args := #[s, x], argTypes := #[34, 9] })
    (v : Value) (n : Nat) (xs : List Nat) (hs : a.eval s = v) (hown : w.ownsRow B 5 1 v n (kcells .u8 xs)) (t : ByteArray) (hx : a.eval x = .string t)
    (hnm : n + t.size ≤ 1000000000000) (hbel : Below B w0 w) (hB : B ≤ w.heap.size)
    (h : ∀ a' c' w', w'.ownsRow B 5 1 (.slice a' (n + t.size) c') (n + t.size) (kcells .u8 (xs ++ kb t)) → Below B w0 w' → B ≤ w'.heap.size → w.grownBy w' v.ownBlock → wpList Try.prog ops Q rest (a.put o.dst (.slice a' (n + t.size) c')) w') : wpList Try.prog ops Q (o :: rest) a w := by
  obtain ⟨i0, hi, hz0, hz1, hz2⟩ := info_parts Try.info5
  obtain ⟨v', w', hrun, hown', hg, _⟩ := Lib.run_append_own_string (P := Try.prog) w B 34 9 o.type 5 i0 Try.underlying34 Try.underlying9 hi hz0 hz1 hz2 v n (kcells .u8 xs) hown t (by unfold maxLen; omega) (by omega) hB
  refine Lib.wpList_append_run w hgd s x _ _ ho _ _ hs hx _ _ hrun ?_
  obtain ⟨a', c', rfl⟩ := slice_of_owns hown'
  rw [str_kcells, ← kcells_append] at hown'
  exact h a' c' w' hown' (hbel.grown hg hB (fun k hk => (hown.lt k hk).1)) (Nat.le_trans hB hg.size) hg
theorem step_str {w0 w : World} {B : Nat} {ops : Array Oper} {o : Oper} {a : Act} {K : Act → World → Prop} {Q : Exit → Act → World → Prop} {E : Prop} (hgd : o.guard = none) (s x : Operand)
    (ho : o.op = .call { callee := .builtin .append, args := #[s, x], argTypes := #[34, 9] })
    (v : Value) (n : Nat) (xs : List Nat) (hs : a.eval s = v) (hown : w.ownsRow B 5 1 v n (kcells .u8 xs)) (t : ByteArray) (hx : a.eval x = .string t)
    (hnm : n + t.size ≤ 1000000000000) (hbel : Below B w0 w) (hB : B ≤ w.heap.size)
    (h : ∀ a' c' w', w'.ownsRow B 5 1 (.slice a' (n + t.size) c') (n + t.size) (kcells .u8 (xs ++ kb t)) → Below B w0 w' → B ≤ w'.heap.size → w.grownBy w' v.ownBlock → K (a.put o.dst (.slice a' (n + t.size) c')) w') :
    if Region.wanted o (yielded ops a.tmps) = true then Oper.wp Try.prog o a w K Q else E := by
  have hw : Region.wanted o (yielded ops a.tmps) = true := by simp [Region.wanted, hgd]
  rw [if_pos hw]
  obtain ⟨i0, hi, hz0, hz1, hz2⟩ := info_parts Try.info5
  obtain ⟨v', w', hrun, hown', hg, _⟩ := Lib.run_append_own_string (P := Try.prog) w B 34 9 o.type 5 i0 Try.underlying34 Try.underlying9 hi hz0 hz1 hz2 v n (kcells .u8 xs) hown t (by unfold maxLen; omega) (by omega) hB
  refine Lib.wp_append_run w s x _ _ ho _ _ hs hx _ _ hrun ?_
  obtain ⟨a', c', rfl⟩ := slice_of_owns hown'
  rw [str_kcells, ← kcells_append] at hown'
  exact h a' c' w' hown' (hbel.grown hg hB (fun k hk => (hown.lt k hk).1)) (Nat.le_trans hB hg.size) hg
end Go.Proofs.Ytkbnojjjfonniaa
