/- From the reading of an argument that is a point, or a slice of points, to the points. -/
import Derived.Test.YtgdefibgifcbaaaS4
import Derived.Lib.SmallJoins
import Derived.SizedLaws
import Derived.ProofKit
namespace Go.Proofs.Ytgdefibgifcbaaa
open Go.ChangeShapes Go.WideShapes Go.RowKit

set_option maxRecDepth 100000 in
theorem i64_fits {k : Int} (h : (Lit.int .i64 k).wf = true) : -9223372036854775808 ≤ k ∧ k ≤ 9223372036854775807 := by
  simp [Lit.wf, IntKind.min, IntKind.max, IntKind.bits, IntKind.signed] at h
  omega
set_option maxRecDepth 100000 in
theorem u32_fits {k : Int} (h : (Lit.int .u32 k).wf = true) : 0 ≤ k ∧ k < 4294967296 := by
  simp [Lit.wf, IntKind.min, IntKind.max, IntKind.bits, IntKind.signed] at h
  omega

set_option maxRecDepth 100000 in
/-- four cells that read as a point's fields -/
theorem point_cells {H : Type} {enc : TypeId × Value → H} {W : World} {n : Nat} {V0 V1 V2 V3 : Value} {y0 y1 y2 y3 : DataW H × List MemPlace}
    (t0 : DataW.trod enc Try.prog W 0 (fun _ => true) true n 3 [V0] = some y0) (t1 : DataW.trod enc Try.prog W 0 (fun _ => true) true n 3 [V1] = some y1) (t2 : DataW.trod enc Try.prog W 0 (fun _ => true) true n 3 [V2] = some y2) (t3 : DataW.trod enc Try.prog W 0 (fun _ => true) true n 30 [V3] = some y3) :
    ∃ q : Po.P, Po.Fits q ∧ V0 = .int .i64 q.1 ∧ V1 = .int .i64 q.2.1 ∧ V2 = .int .i64 q.2.2.1 ∧ V3 = .int .u32 (q.2.2.2 : Nat) := by
  obtain ⟨k0, h0, _, w0⟩ := DataW.trod_int Try.underlying3 t0
  obtain ⟨k1, h1, _, w1⟩ := DataW.trod_int Try.underlying3 t1
  obtain ⟨k2, h2, _, w2⟩ := DataW.trod_int Try.underlying3 t2
  obtain ⟨k3, h3, _, w3⟩ := DataW.trod_int Try.underlying30 t3
  simp only [List.cons.injEq, and_true] at h0 h1 h2 h3
  have f3 := u32_fits w3
  obtain ⟨m, rfl⟩ : ∃ m : Nat, k3 = (m : Int) := ⟨k3.toNat, by omega⟩
  exact ⟨(k0, k1, k2, m), ⟨i64_fits w0, i64_fits w1, i64_fits w2, by simp only []; omega⟩, h0, h1, h2, h3⟩

set_option maxRecDepth 100000 in
theorem open_point {H : Type} {enc : TypeId × Value → H} {W : World} {r : Reach} {b0 : Nat} {v : Value} {d : DataW H} {p : List MemPlace}
    (hv : Value.okWide Try.prog W r b0 32 v) (h : DataW.Trod enc Try.prog W 0 (fun _ => true) true 32 v d p) : ∃ q : Po.P, Po.Fits q ∧ v = pv q := by
  obtain ⟨v0, v1, v2, v3, y0, y1, y2, y3, n, rfl, _, _, t0, t1, t2, t3⟩ := Go.Joins.open_agg4 Try.underlying32 (by kernel_rfl) (by kernel_rfl) hv h
  obtain ⟨q, hq, rfl, rfl, rfl, rfl⟩ := point_cells t0 t1 t2 t3
  exact ⟨q, hq, rfl⟩

/-- what came in, as points -/
def IsPoints (w : World) (a : Option Addr) (len cap : Nat) (ps : List Po.P) : Prop :=
  PRow w a len ps ∧ (a = none → len = 0 ∧ cap = 0) ∧ Shape a len cap ∧ len ≤ 140737488355328

set_option maxRecDepth 100000 in
theorem cells_four {w : World} {base : Nat} {a : Addr} {cs : List Value} (h : w.cells? base a 4 = some cs) : ∃ V0 V1 V2 V3, cs = [V0, V1, V2, V3] ∧ w.cell? a = some V0 ∧ w.cell? (a.add 1) = some V1 ∧ w.cell? (a.add 2) = some V2 ∧ w.cell? (a.add 3) = some V3 := by
  obtain ⟨_, hlen, hcell⟩ := World.cells?_some h
  match cs, hlen with
  | [V0, V1, V2, V3], _ => exact ⟨V0, V1, V2, V3, rfl, by simpa [Addr.add] using hcell 0 (by omega), hcell 1 (by omega), hcell 2 (by omega), hcell 3 (by omega)⟩

set_option maxRecDepth 100000 in
theorem open_points {H : Type} {enc : TypeId × Value → H} {W : World} {fuel : Nat} {cs : List Value} {d : DataW H} {p : List MemPlace} {a : Option Addr} {len cap : Nat} {ts : List TypeId} {ds : List (DataW H)} {j : Nat}
    (hf : DataW.trod enc Try.prog W 0 (fun _ => true) true fuel 43 cs = some (d, p)) (hcs : cs = [.slice a len cap])
    (hsz : (DataW.weightsEach Try.prog ts ds).all (· ≤ reachBytes) = true) (ht : ts[j]? = some 43) (hd : ds[j]? = some d) : ∃ ps, IsPoints W a len cap ps := by
  have hrb : reachBytes ≤ 140737488355328 := Nat.le_of_lt reachBytes_lt
  have hc4 : Try.prog.cellsOf 32 = 4 := by kernel_rfl
  rcases Go.Deep.open_slice Try.underlying43 hf with ⟨h0, _⟩ | ⟨x, l, c, m, n, D, Pl, h0, _, hl, hm, hmm, hx, hall⟩
  · rw [hcs] at h0
    simp only [List.cons.injEq, Value.slice.injEq, and_true] at h0
    obtain ⟨rfl, rfl, rfl⟩ := h0
    exact ⟨[], ⟨rfl, by omega, .inl rfl⟩, fun _ => ⟨rfl, rfl⟩, .inl ⟨rfl, rfl⟩, by omega⟩
  · rw [hcs] at h0
    simp only [List.cons.injEq, Value.slice.injEq, and_true] at h0
    obtain ⟨rfl, rfl, rfl⟩ := h0
    simp only [if_true] at hmm
    subst hmm
    simp only [Prod.mk.injEq] at hx
    obtain ⟨rfl, _⟩ := hx
    have hlen : len ≤ 140737488355328 := by
      have := sized_slice hsz ht hd Try.underlying43
      simp only [List.length_map, List.length_range] at this
      have hb : Try.prog.bytesOf 32 = 32 := by kernel_rfl
      rw [hb] at this
      omega
    rw [hc4] at hall
    rcases Nat.eq_zero_or_pos m with h0 | h0
    · obtain rfl : len = 0 := by omega
      exact ⟨[], ⟨rfl, by omega, .inl rfl⟩, (fun h => by cases h), .inl ⟨rfl, h0⟩, by omega⟩
    · obtain ⟨b, off, spot⟩ := x
      have hs : spot = none := by
        obtain ⟨cs', h1, _⟩ := hall 0 h0
        obtain ⟨_, _, _, _, _, q0, _⟩ := cells_four h1
        simpa [Addr.add] using World.cell?_spot q0
      subst hs
      have hfr : ∀ i, i < len → ∃ q : Po.P, PAt W b (off + i * 4) q := by
        intro i hi
        obtain ⟨cs', h1, h2⟩ := hall i (by omega)
        obtain ⟨V0, V1, V2, V3, rfl, q0, q1, q2, q3⟩ := cells_four h1
        simp only [add_at] at q0 q1 q2 q3
        obtain ⟨y0, y1, y2, y3, n', _, _, t0, t1, t2, t3⟩ := Go.Joins.trod_struct4 Try.underlying32 h2
        obtain ⟨q, hq, rfl, rfl, rfl, rfl⟩ := point_cells (n := n') (V0 := V0) (V1 := V1) (V2 := V2) (V3 := V3) t0 t1 t2 t3
        exact ⟨q, q0, q1, q2, q3, hq⟩
      obtain ⟨f, hf⟩ := Go.Deep.choose_lt hfr
      refine ⟨(List.range len).map f, ⟨by simp, by omega, .inr ⟨b, off, rfl, fun i hi => ?_⟩⟩, (fun h => by cases h), .inr ⟨b, off, rfl, hl⟩, hlen⟩
      have : ((List.range len).map f).getD i Po.zero = f i := by simp [hi]
      rw [this]; exact hf i hi
end Go.Proofs.Ytgdefibgifcbaaa
