/- From the reading of an argument that is a slice of flat structs to the row of them; shares. -/
import Derived.Test.YtfeaablomceejaaTA5
import Derived.Test.YtfeaablomceejaaO2
import Derived.Test.YtfeaablomceejaaOT
namespace Go.Proofs.Ytfeaablomceejaa
open Go.ChangeShapes Go.WideShapes Go.RowKit

/-- two cells that read as two ints -/
theorem two_ints {H : Type} {enc : TypeId × Value → H} {W : World} {n : Nat} {V0 V1 : Value} {y0 y1 : DataW H × List MemPlace}
    (t0 : DataW.trod enc Try.prog W 0 (fun _ => true) true n 3 [V0] = some y0) (t1 : DataW.trod enc Try.prog W 0 (fun _ => true) true n 3 [V1] = some y1) :
    ∃ k0 k1 : Int, ((-9223372036854775808 ≤ k0 ∧ k0 ≤ 9223372036854775807) ∧ (-9223372036854775808 ≤ k1 ∧ k1 ≤ 9223372036854775807)) ∧ V0 = .int .i64 k0 ∧ V1 = .int .i64 k1 := by
  obtain ⟨k0, h0, _, w0⟩ := DataW.trod_int Try.underlying3 t0
  obtain ⟨k1, h1, _, w1⟩ := DataW.trod_int Try.underlying3 t1
  simp only [List.cons.injEq, and_true] at h0 h1
  exact ⟨k0, k1, ⟨i64_fits w0, i64_fits w1⟩, h0, h1⟩
/-- what came in, as shares -/
def IsShares (w : World) (a : Option Addr) (len cap : Nat) (l : List Ta.S) : Prop := InS w a len cap l ∧ len ≤ 140737488355328
theorem open_shares {H : Type} {enc : TypeId × Value → H} {W : World} {fuel : Nat} {cs : List Value} {d : DataW H} {p : List MemPlace} {a : Option Addr} {len cap : Nat} {ts : List TypeId} {ds : List (DataW H)} {j : Nat}
    (hf : DataW.trod enc Try.prog W 0 (fun _ => true) true fuel 22 cs = some (d, p)) (hcs : cs = [.slice a len cap])
    (hsz : (DataW.weightsEach Try.prog ts ds).all (· ≤ reachBytes) = true) (ht : ts[j]? = some 22) (hd : ds[j]? = some d) : ∃ l, IsShares W a len cap l := by
  obtain ⟨l, h1, h2, h3, h4, h5⟩ := open_t (en := se) (d0 := (0, 0)) (Good := fun x => (-9223372036854775808 ≤ x.1 ∧ x.1 ≤ 9223372036854775807) ∧ (-9223372036854775808 ≤ x.2 ∧ x.2 ≤ 9223372036854775807)) Try.underlying22 (E := 47) (s := 2) (by kernel_rfl) (by0 := 16) (by kernel_rfl) (by omega) (by omega) (fun n cs y hl ht => by
    match cs, hl with
    | [V0, V1], _ =>
      obtain ⟨y0, y1, n', _, _, t0, t1⟩ := trod_struct2 Try.underlying47 ht
      obtain ⟨k0, k1, hk, rfl, rfl⟩ := two_ints (n := n') (V0 := V0) (V1 := V1) t0 t1
      exact ⟨(k0, k1), rfl, hk⟩) hf hcs hsz ht hd
  exact ⟨l, ⟨h1, h2, h3, h4⟩, h5⟩
theorem IsPoints.inP {w : World} {a : Option Addr} {len cap : Nat} {ps : List Po.P} (h : IsPoints w a len cap ps) : InP w a len cap ps ∧ len ≤ 140737488355328 := by
  obtain ⟨h1, h2, h3, h4⟩ := h
  refine ⟨⟨h1, h2, ?_⟩, h4⟩
  rcases h3 with ⟨e, _⟩ | ⟨_, _, _, e⟩
  · omega
  · exact e
end Go.Proofs.Ytfeaablomceejaa
