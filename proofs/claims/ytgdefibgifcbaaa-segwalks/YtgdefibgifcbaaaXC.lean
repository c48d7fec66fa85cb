/- What the program's Check and Same of cells, and bytes.Equal, do. -/
import Derived.Test.YtgdefibgifcbaaaV1
import Derived.Test.YtgdefibgifcbaaaQC
import Derived.Laws.BytesArg
import Derived.Laws.BytesString
namespace Go.Proofs.Ytgdefibgifcbaaa
open Go.RowKit

/-- the text of bytes -/
def nstr (bs : List Nat) : ByteArray := strOfNums (bs.map fun n : Nat => (n : Int))
theorem conv_any {w : World} {a : Option Addr} {n : Nat} {bs : List Nat} (c : Nat) (hr : Row .u8 w a n bs) : (convert 23 9 (.slice a n c)).run Try.prog w = .ok (.string (nstr bs)) w := by
  rcases hr.2.2.2 with h0 | ⟨b, off, rfl, hc⟩
  · subst h0
    obtain rfl : bs = [] := List.length_eq_zero_iff.mp hr.1
    rw [run_convert_bytes_string w _ _ 5 _ _ _ Try.underlying23 Try.underlying5 Try.underlying9]
    cases a <;> simp [Conv.bytesToString, loadCells, nstr, strOfNums] <;> rfl
  · refine run_convert_bytes_arg w 23 5 Try.underlying23 Try.underlying5 b off n c _ (by rw [List.length_map]; exact hr.1) (fun i hi => ?_) 9 Try.underlying9
    rw [hr.cell i hi]
    have : i < bs.length := by rw [hr.1]; exact hi
    simp [this]
theorem nstr_inj {bs bs' : List Nat} (h : ∀ x ∈ bs, x < 256) (h' : ∀ x ∈ bs', x < 256) (e : nstr bs = nstr bs') : bs = bs' := by
  have k : ∀ l : List Nat, (∀ x ∈ l, x < 256) → (nstr l).data.toList.map (·.toNat) = l := by
    intro l hl
    have e : (nstr l).data.toList.map (·.toNat) = l.map fun n => n % 256 := by simp [nstr, strOfNums]
    rw [e]
    apply List.ext_getElem (by simp)
    intro i h1 h2
    rw [List.getElem_map]
    exact Nat.mod_eq_of_lt (hl _ (List.getElem_mem h2))
  rw [← k bs h, ← k bs' h', e]
theorem nstr_beq {bs bs' : List Nat} (h : ∀ x ∈ bs, x < 256) (h' : ∀ x ∈ bs', x < 256) : ((nstr bs).toList == (nstr bs').toList) = decide (bs = bs') := by
  by_cases e : bs = bs'
  · subst e; simp
  · rw [decide_eq_false e, beq_eq_false_iff_ne]
    intro k
    rw [Lib.toList_data, Lib.toList_data] at k
    exact e (nstr_inj h h' (ByteArray.ext (Array.toList_inj.mp k)))

end Go.Proofs.Ytgdefibgifcbaaa
