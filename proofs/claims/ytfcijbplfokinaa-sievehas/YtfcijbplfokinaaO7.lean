/- From the reading of an argument that is a slice of texts to the row of them. -/
import Derived.Test.YtfcijbplfokinaaGI
import Derived.Test.YtfcijbplfokinaaOT
namespace Go.Proofs.Ytfcijbplfokinaa
open Go.ChangeShapes Go.WideShapes Go.RowKit

/-- what came in, as texts -/
def IsStrs (w : World) (a : Option Addr) (len cap : Nat) (l : List ByteArray) : Prop := InT w a len cap l ∧ (∀ i, i < len → (l.getD i ⟨#[]⟩).size ≤ maxLen) ∧ len ≤ 140737488355328
theorem open_strs {H : Type} {enc : TypeId × Value → H} {W : World} {fuel : Nat} {cs : List Value} {d : DataW H} {p : List MemPlace} {a : Option Addr} {len cap : Nat} {ts : List TypeId} {ds : List (DataW H)} {j : Nat}
    (hf : DataW.trod enc Try.prog W 0 (fun _ => true) true fuel 22 cs = some (d, p)) (hcs : cs = [.slice a len cap])
    (hsz : (DataW.weightsEach Try.prog ts ds).all (· ≤ reachBytes) = true) (ht : ts[j]? = some 22) (hd : ds[j]? = some d) : ∃ l, IsStrs W a len cap l := by
  obtain ⟨l, h1, h2, h3, h4, h5⟩ := open_t (en := ste) (d0 := ⟨#[]⟩) (Good := fun x => x.size ≤ maxLen) Try.underlying22 (E := 9) (s := 1) (by kernel_rfl) (by0 := 16) (by kernel_rfl) (by omega) (by omega) (fun n cs y hl ht => by
    match cs, hl with
    | [V0], _ =>
      obtain ⟨s, hs, _, hss⟩ := DataW.trod_string Try.underlying9 ht
      exact ⟨s, hs.symm, hss⟩) hf hcs hsz ht hd
  refine ⟨l, ⟨h1, h3, h4⟩, fun i hi => ?_, h5⟩
  have hi' : i < l.length := by rw [h1.1]; exact hi
  rw [show l.getD i ⟨#[]⟩ = l[i] by simp [hi']]
  exact h2 _ (List.getElem_mem _)
end Go.Proofs.Ytfcijbplfokinaa
