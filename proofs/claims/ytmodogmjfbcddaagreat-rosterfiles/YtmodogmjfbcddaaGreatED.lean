/- Edits: bare of any kind. -/
import Derived.Test.YtmodogmjfbcddaaGreatEC
namespace Go.Proofs.YtmodogmjfbcddaaGreat
open Go.RowKit

/-- what is left of the row's j-th number -/
def sel (k : Int) (j : Nat) (x : Int) : Int := if pfr k ≤ j ∧ j < pto k then x else 0
def selt (k : Int) (x : Int) : Int := if k = 4 then x else 0
def sels (k : Int) (x : ByteArray) : ByteArray := if k = 4 then x else ⟨#[]⟩
theorem ebare_any (k n i t a b c p q r : Int) (f g : ByteArray) (w : World) :
    Calls Tryz.prog 89 #[ed12 k n i t a b c p q r f g] w fun e w' => e = .returned (ed12 k (sel k 0 n) (sel k 1 i) (sel k 2 t) (sel k 3 a) (sel k 4 b) (sel k 5 c) (selt k p) (selt k q) (selt k r) (sels k f) (sels k g)) ∧ Below w.heap.size w w' := by
  rcases Ed.kinds k with rfl | rfl | rfl | rfl | rfl | rfl | rfl | rfl | rfl | h
  · exact ebare_01 1 n i t a b c p q r f g w (by decide) (fun W => enamed_any 1 W)
  · exact ebare_02 2 n i t a b c p q r f g w (by decide) (fun W => enamed_any 2 W)
  · exact ebare_12 3 n i t a b c p q r f g w (by decide) (fun W => enamed_any 3 W)
  · exact ebare_00t n i t a b c p q r f g w (fun W => enamed_any 4 W)
  · exact ebare_01 5 n i t a b c p q r f g w (by decide) (fun W => enamed_any 5 W)
  · exact ebare_03 6 n i t a b c p q r f g w (by decide) (fun W => enamed_any 6 W)
  · exact ebare_12 7 n i t a b c p q r f g w (by decide) (fun W => enamed_any 7 W)
  · exact ebare_06 8 n i t a b c p q r f g w (by decide) (fun W => enamed_any 8 W)
  · exact ebare_12 9 n i t a b c p q r f g w (by decide) (fun W => enamed_any 9 W)
  · have e1 : pfr k = 0 := by unfold pfr; rw [if_neg (by omega)]
    have e2 : pto k = 0 := by unfold pto; rw [if_neg (by omega), if_neg (by omega), if_neg (by omega), if_neg (by omega)]
    have e3 : ¬ k = 4 := by omega
    have := ebare_00 k n i t a b c p q r f g w e3 (fun W => by have := enamed_any k W; rw [e1, e2] at this; exact this)
    simpa [sel, selt, sels, e1, e2, e3] using this
end Go.Proofs.YtmodogmjfbcddaaGreat
