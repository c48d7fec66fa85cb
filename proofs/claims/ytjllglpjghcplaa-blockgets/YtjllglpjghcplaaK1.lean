/- Texts and their bytes. -/
import Derived.Test.YtjllglpjghcplaaMath
import Derived.WalkKit
import Derived.Laws.Closers25
import Derived.Laws.BytesArg
import Derived.Lib.Strings
namespace Go.Proofs.Ytjllglpjghcplaa
open Go.RowKit

/-- a text's bytes -/
def kb (s : ByteArray) : List Nat := s.data.toList.map (·.toNat)
theorem kb_len (s : ByteArray) : (kb s).length = s.size := by unfold kb; rw [List.length_map, Array.length_toList]; rfl
theorem kb_nil (s : ByteArray) : kb s = [] ↔ s = ⟨#[]⟩ := by
  constructor
  · intro h
    have : s.data.toList = [] := by simpa [kb] using h
    cases s with | mk d => simp_all
  · rintro rfl; rfl
theorem isEmpty_kb (s : ByteArray) : s.toList.isEmpty = decide (s = ⟨#[]⟩) := (decide_eq_emptyBytes s).symm
theorem kb_small (s : ByteArray) : ∀ x ∈ kb s, x < 256 := by
  intro x hx
  simp only [kb, List.mem_map] at hx
  obtain ⟨y, _, rfl⟩ := hx
  exact y.toNat_lt
/-- the text of bytes -/
def bstr (bs : List Nat) : ByteArray := strOfNums (bs.map fun n : Nat => (n : Int))
theorem kb_bstr {bs : List Nat} (h : ∀ x ∈ bs, x < 256) : kb (bstr bs) = bs := by
  have e : kb (bstr bs) = bs.map fun n => n % 256 := by simp [kb, bstr, strOfNums]
  rw [e]
  apply List.ext_getElem (by simp)
  intro i h1 h2
  rw [List.getElem_map]
  exact Nat.mod_eq_of_lt (h _ (List.getElem_mem h2))
theorem kb_inj {s t : ByteArray} (h : kb s = kb t) : s = t := by
  have e : s.data.toList = t.data.toList := by
    unfold kb at h
    exact (List.map_inj_right (fun a b e => UInt8.toNat_inj.mp e)).mp h
  exact ByteArray.ext (Array.toList_inj.mp e)
theorem str_ne {s t : ByteArray} (h : ¬ (kb s = kb t)) : (s.toList == t.toList) = false := by
  rw [beq_eq_false_iff_ne]
  intro e
  rw [Lib.toList_data, Lib.toList_data] at e
  apply h
  rw [show s = t from ByteArray.ext (Array.toList_inj.mp e)]
theorem str_eq {s t : ByteArray} (r : Bool) (h : r = true ↔ kb s = kb t) : (s.toList == t.toList) = r := by
  cases r with
  | true => rw [kb_inj (h.mp rfl)]; simp
  | false => exact str_ne (fun e => by have := h.mpr e; cases this)
theorem kb_app (s t : ByteArray) : kb (s ++ t) = kb s ++ kb t := by
  simp [kb]
end Go.Proofs.Ytjllglpjghcplaa
