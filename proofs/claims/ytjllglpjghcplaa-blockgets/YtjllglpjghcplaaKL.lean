/- The order of texts is the order of their bytes. -/
import Derived.Test.YtjllglpjghcplaaK1
import Derived.Test.YtjllglpjghcplaaIMa
namespace Go.Proofs.Ytjllglpjghcplaa
open Go.RowKit

theorem less_list : ∀ l m : List UInt8, Op.bytesLess l m = Na.lt (l.map (·.toNat)) (m.map (·.toNat))
  | [], [] => rfl
  | _ :: _, [] => rfl
  | [], _ :: _ => by simp [Op.bytesLess, Na.lt]
  | a :: x, b :: y => by
    simp only [Op.bytesLess, List.map_cons, Na.lt, less_list x y]
    by_cases h1 : a < b
    · have : a.toNat < b.toNat := h1
      simp [h1, this]
    · have h1' : ¬ a.toNat < b.toNat := h1
      by_cases h2 : a = b
      · subst h2; simp [h1]
      · have h2' : ¬ a.toNat = b.toNat := fun e => h2 (UInt8.toNat_inj.mp e)
        simp [h1, h2, h1', h2']
theorem less_kb (s t : ByteArray) : Op.bytesLess s.toList t.toList = Na.lt (kb s) (kb t) := by
  rw [less_list, Lib.toList_data, Lib.toList_data]; rfl
end Go.Proofs.Ytjllglpjghcplaa
