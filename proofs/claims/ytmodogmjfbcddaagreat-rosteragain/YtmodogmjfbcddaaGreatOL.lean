/- From the reading of an argument that is a slice of tables to the row of them. -/
import Derived.Test.YtmodogmjfbcddaaGreatLA
import Derived.Test.YtmodogmjfbcddaaGreatOT
namespace Go.Proofs.YtmodogmjfbcddaaGreat
open Go.ChangeShapes Go.WideShapes Go.RowKit

theorem ltrod_struct5 {H : Type} {enc : TypeId × Value → H} {P : Program} {w : World} {base : Nat} {spare : Nat → Bool} {held : Bool} {t : TypeId} {f0 f1 f2 f3 f4 : Field} {fuel : Nat} {cs : List Value} {x : DataW H × List MemPlace} (ht : P.underlying t = some (.struct #[f0, f1, f2, f3, f4])) (h : DataW.trod enc P w base spare held fuel t cs = some x) :
    ∃ y0 y1 y2 y3 y4 n, x = (.agg [y0.1, y1.1, y2.1, y3.1, y4.1], y0.2 ++ (y1.2 ++ (y2.2 ++ (y3.2 ++ y4.2)))) ∧ cs.length = P.cellsOf t ∧ DataW.trod enc P w base spare held n f0.type ((cs.drop f0.offset).take (P.cellsOf f0.type)) = some y0 ∧
      DataW.trod enc P w base spare held n f1.type ((cs.drop f1.offset).take (P.cellsOf f1.type)) = some y1 ∧ DataW.trod enc P w base spare held n f2.type ((cs.drop f2.offset).take (P.cellsOf f2.type)) = some y2 ∧
      DataW.trod enc P w base spare held n f3.type ((cs.drop f3.offset).take (P.cellsOf f3.type)) = some y3 ∧ DataW.trod enc P w base spare held n f4.type ((cs.drop f4.offset).take (P.cellsOf f4.type)) = some y4 := by
  obtain ⟨xs, n, _, rfl, hl, hlen, hf⟩ := DataW.trod_struct ht h
  match xs, hlen with
  | [y0, y1, y2, y3, y4], _ => exact ⟨y0, y1, y2, y3, y4, n, by simp, hl, by simpa using hf 0 f0 rfl, by simpa using hf 1 f1 rfl, by simpa using hf 2 f2 rfl, by simpa using hf 3 f3 rfl, by simpa using hf 4 f4 rfl⟩

/-- what came in, as tables -/
def IsTabs (w : World) (a : Option Addr) (len cap : Nat) (l : List Lv.T) : Prop := LRow w a len l ∧ (a = none → len = 0 ∧ cap = 0) ∧ len ≤ cap ∧ len ≤ 140737488355328
set_option maxRecDepth 100000 in
theorem open_tabs {H : Type} {enc : TypeId × Value → H} {W : World} {fuel : Nat} {cs : List Value} {d : DataW H} {p : List MemPlace} {a : Option Addr} {len cap : Nat} {ts : List TypeId} {ds : List (DataW H)} {j : Nat}
    (hf : DataW.trod enc Tryz.prog W 0 (fun _ => true) true fuel 24 cs = some (d, p)) (hcs : cs = [.slice a len cap])
    (hsz : (DataW.weightsEach Tryz.prog ts ds).all (· ≤ reachBytes) = true) (ht : ts[j]? = some 24) (hd : ds[j]? = some d) : ∃ l, IsTabs W a len cap l := by
  obtain ⟨l, h1, _, h3, h4, h5⟩ := open_t (en := le) (d0 := Lv.zero) (Good := fun _ => True) Tryz.underlying24 (E := 44) (s := 5) (by kernel_rfl) (by0 := 56) (by kernel_rfl) (by omega) (by omega) (fun n cs y hl ht => by
    match cs, hl with
    | [V0, V1, V2, V3, V4], _ =>
      obtain ⟨y0, y1, y2, y3, y4, n', _, _, t0, t1, t2, t3, t4⟩ := ltrod_struct5 Tryz.underlying44 ht
      have t0' : DataW.trod enc Tryz.prog W 0 (fun _ => true) true n' 3 [V0] = some y0 := t0
      have t1' : DataW.trod enc Tryz.prog W 0 (fun _ => true) true n' 3 [V1] = some y1 := t1
      have t2' : DataW.trod enc Tryz.prog W 0 (fun _ => true) true n' 3 [V2] = some y2 := t2
      have t3' : DataW.trod enc Tryz.prog W 0 (fun _ => true) true n' 9 [V3] = some y3 := t3
      have t4' : DataW.trod enc Tryz.prog W 0 (fun _ => true) true n' 9 [V4] = some y4 := t4
      obtain ⟨k0, h0, _, _⟩ := DataW.trod_int Tryz.underlying3 t0'
      obtain ⟨k1, h1, _, _⟩ := DataW.trod_int Tryz.underlying3 t1'
      obtain ⟨k2, h2, _, _⟩ := DataW.trod_int Tryz.underlying3 t2'
      obtain ⟨s3, h3, _, _⟩ := DataW.trod_string Tryz.underlying9 t3'
      obtain ⟨s4, h4, _, _⟩ := DataW.trod_string Tryz.underlying9 t4'
      simp only [List.cons.injEq, and_true] at h0 h1 h2 h3 h4
      subst h0 h1 h2 h3 h4
      exact ⟨⟨k0, k1, k2, s3, s4⟩, rfl, trivial⟩) hf hcs hsz ht hd
  exact ⟨l, h1, h3, h4, h5⟩
end Go.Proofs.YtmodogmjfbcddaaGreat
