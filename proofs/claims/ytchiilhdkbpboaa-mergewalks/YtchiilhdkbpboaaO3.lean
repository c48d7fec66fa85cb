/- From the reading of an argument that is a cell to the cell. -/
import Derived.Test.YtchiilhdkbpboaaO2
import Derived.Test.YtchiilhdkbpboaaV1
namespace Go.Proofs.Ytchiilhdkbpboaa
open Go.ChangeShapes Go.WideShapes Go.RowKit

set_option maxRecDepth 100000 in
theorem array6 {α : Type} {cs : Array α} (h : cs.size = 6) : ∃ c0 c1 c2 c3 c4 c5, cs = #[c0, c1, c2, c3, c4, c5] := by
  obtain ⟨l⟩ := cs
  match l, h with
  | [c0, c1, c2, c3, c4, c5], _ => exact ⟨c0, c1, c2, c3, c4, c5, rfl⟩

/-- what came in, as a cell's bytes -/
def IsBytes (w : World) (a : Option Addr) (n c : Nat) (bs : List Nat) : Prop := Row .u8 w a n bs ∧ (a = none → n = 0 ∧ c = 0) ∧ n ≤ c

set_option maxRecDepth 100000 in
theorem bytes_of {H : Type} {enc : TypeId × Value → H} {W : World} {fuel : Nat} {v : Value} {y : DataW H × List MemPlace}
    (h : DataW.trod enc Try.prog W 0 (fun _ => true) true fuel 30 [v] = some y) (hs : ∀ e' sp', y.1 = .slice e' sp' → e'.length + sp'.length ≤ 140737488355328) : ∃ a n c bs, v = .slice a n c ∧ IsBytes W a n c bs := by
  rcases open_ints Try.underlying30 Try.underlying5 (by kernel_rfl) h with ⟨hcs, _⟩ | ⟨x, l, c, zs, hcs, _, hl, hm, hz, hd, hcell, hwz⟩
  · simp only [List.cons.injEq, and_true] at hcs
    subst hcs
    exact ⟨none, 0, 0, [], rfl, ⟨rfl, by omega, by simp, .inl rfl⟩, fun _ => ⟨rfl, rfl⟩, Nat.le_refl _⟩
  · simp only [List.cons.injEq, and_true] at hcs
    subst hcs
    simp only [if_true] at hz
    have hsz := hs (lits .u8 (zs.take l)) (lits .u8 (zs.drop l)) (by rw [hd])
    have hl' : l + (c - l) ≤ 140737488355328 := by
      simp only [lits, List.length_map, List.length_take, List.length_drop, hz] at hsz
      omega
    have hrow : IsRow .u8 W (some x) l c zs := .inr ⟨x, rfl, hl, hm, hz, hcell, hwz⟩
    obtain ⟨bs, hbs⟩ := row_of (.inl rfl) hrow (by omega)
    exact ⟨some x, l, c, bs, rfl, hbs, (fun h => by cases h), hl⟩

set_option maxRecDepth 100000 in
/-- the size of a slice that is the second of three fields of an argument -/
theorem sized_second {H : Type} {P : Program} {ts : List TypeId} {ds : List (DataW H)} (h : (DataW.weightsEach P ts ds).all (· ≤ reachBytes) = true) {j : Nat} {t q : TypeId} {f0 f1 f2 : Field} {e' sp' : List (DataW H)} {d0 d2 : DataW H}
    (ht : ts[j]? = some t) (hd : ds[j]? = some (.agg [d0, .slice e' sp', d2])) (hs : P.underlying t = some (.struct #[f0, f1, f2])) (hf : P.underlying f1.type = some (.slice q)) :
    (e'.length + sp'.length) * P.bytesOf q ≤ reachBytes := by
  refine of_decide_eq_true (List.all_eq_true.1 h _ (DataW.weights_mem_each ht hd _ ?_))
  simp only [DataW.weights, hs, List.map_cons, List.map_nil, DataW.weightsEach, List.mem_append]
  refine .inr (.inl ?_)
  simp [hf]

set_option maxRecDepth 100000 in
theorem open_cell {H : Type} {enc : TypeId × Value → H} {W : World} {r : Reach} {b0 : Nat} {v : Value} {d : DataW H} {p : List MemPlace} {ts : List TypeId} {ds : List (DataW H)} {j : Nat}
    (hv : Value.okWide Try.prog W r b0 35 v) (h : DataW.Trod enc Try.prog W 0 (fun _ => true) true 35 v d p)
    (hsz : (DataW.weightsEach Try.prog ts ds).all (· ≤ reachBytes) = true) (ht : ts[j]? = some 35) (hd : ds[j]? = some d) : ∃ f a n c bs q, v = cv f a n c q ∧ IsBytes W a n c bs ∧ Po.Fits q := by
  have hrb : reachBytes ≤ 140737488355328 := Nat.le_of_lt reachBytes_lt
  obtain ⟨cs, rfl, hcs⟩ := okWide_struct Try.underlying35 hv
  obtain ⟨c0, c1, c2, c3, c4, c5, rfl⟩ := array6 (hcs.trans (by kernel_rfl))
  obtain ⟨fuel, hf⟩ := h
  obtain ⟨y0, y1, y2, n, hx, _, h0, h1, h2⟩ := Go.Deep.trod_struct3 Try.underlying35 hf
  have k1 : Try.prog.cellsOf 4 = 1 := by kernel_rfl
  have k2 : Try.prog.cellsOf 30 = 1 := by kernel_rfl
  have k3 : Try.prog.cellsOf 33 = 4 := by kernel_rfl
  simp only [k1, k2, k3, Value.cells] at h0 h1 h2
  simp only [Prod.mk.injEq] at hx
  obtain ⟨rfl, _⟩ := hx
  obtain ⟨f, hb, _⟩ := DataW.trod_bool Try.underlying4 h0
  have hb1 : c0 = .bool f := by simpa using hb
  have h1' : DataW.trod enc Try.prog W 0 (fun _ => true) true n 30 [c1] = some y1 := by simpa using h1
  obtain ⟨a, len, cap, bs, hc1, hbs⟩ := bytes_of h1' (fun e' sp' he => by
    rw [he] at hd
    have := sized_second hsz ht hd Try.underlying35 Try.underlying30
    have hb : Try.prog.bytesOf 5 = 1 := by kernel_rfl
    rw [hb] at this
    omega)
  have h2' : DataW.trod enc Try.prog W 0 (fun _ => true) true n 33 [c2, c3, c4, c5] = some y2 := by simpa using h2
  obtain ⟨z0, z1, z2, z3, n', _, _, t0, t1, t2, t3⟩ := Go.Joins.trod_struct4 Try.underlying33 h2'
  obtain ⟨q, hq, e2, e3, e4, e5⟩ := point_cells (n := n') (V0 := c2) (V1 := c3) (V2 := c4) (V3 := c5) t0 t1 t2 t3
  refine ⟨f, a, len, cap, bs, q, ?_, hbs, hq⟩
  rw [hb1, hc1, e2, e3, e4, e5]
end Go.Proofs.Ytchiilhdkbpboaa
