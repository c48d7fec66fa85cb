/- From the reading of an argument that is a slice of items to the items. -/
import Derived.Test.YtchiilhdkbpboaaO3
import Derived.Test.YtchiilhdkbpboaaOT
import Derived.Test.YtchiilhdkbpboaaTRa
namespace Go.Proofs.Ytchiilhdkbpboaa
open Go.ChangeShapes Go.WideShapes Go.RowKit

set_option maxRecDepth 100000 in
theorem weightsAll_in8 {H : Type} {P : Program} {e : TypeId} : ∀ {l : List (DataW H)} {d : DataW H}, d ∈ l → ∀ n ∈ d.weights P e, n ∈ DataW.weightsAll P e l
  | x :: l, d, h, n, hn => by
    simp only [DataW.weightsAll, List.mem_append]
    rcases List.mem_cons.1 h with rfl | h
    · exact .inl hn
    · exact .inr (weightsAll_in8 h n hn)
set_option maxRecDepth 100000 in
/-- the size of a slice that is the second of three fields of the third field of an element -/
theorem sized_third {H : Type} {P : Program} {ts : List TypeId} {ds : List (DataW H)} (h : (DataW.weightsEach P ts ds).all (· ≤ reachBytes) = true) {j : Nat} {t e q : TypeId} {f0 f1 f2 g0 g1 g2 : Field} {elems spare e' sp' : List (DataW H)} {d0 d1 c0 c2 : DataW H}
    (ht : ts[j]? = some t) (hd : ds[j]? = some (.slice elems spare)) (hu : P.underlying t = some (.slice e)) (hs : P.underlying e = some (.struct #[f0, f1, f2])) (hg : P.underlying f2.type = some (.struct #[g0, g1, g2])) (hf : P.underlying g1.type = some (.slice q)) (hx : DataW.agg [d0, d1, .agg [c0, .slice e' sp', c2]] ∈ elems) :
    (e'.length + sp'.length) * P.bytesOf q ≤ reachBytes := by
  refine of_decide_eq_true (List.all_eq_true.1 h _ (DataW.weights_mem_each ht hd _ ?_))
  simp only [DataW.weights, hu, List.mem_cons, List.mem_append]
  refine Or.inr (Or.inl (weightsAll_in8 hx _ ?_))
  simp only [DataW.weights, hs, hg, List.map_cons, List.map_nil, DataW.weightsEach, List.mem_append]
  simp [hf]

set_option maxRecDepth 100000 in
theorem cells_eight {w : World} {base b o : Nat} {cs : List Value} (h : w.cells? base ⟨b, o, none⟩ 8 = some cs) : ∃ V0 V1 V2 V3 V4 V5 V6 V7, cs = [V0, V1, V2, V3, V4, V5, V6, V7] ∧ w.cell? ⟨b, o, none⟩ = some V0 ∧ w.cell? ⟨b, o + 1, none⟩ = some V1 ∧ w.cell? ⟨b, o + 2, none⟩ = some V2 ∧ w.cell? ⟨b, o + 3, none⟩ = some V3 ∧ w.cell? ⟨b, o + 4, none⟩ = some V4 ∧ w.cell? ⟨b, o + 5, none⟩ = some V5 ∧ w.cell? ⟨b, o + 6, none⟩ = some V6 ∧ w.cell? ⟨b, o + 7, none⟩ = some V7 := by
  obtain ⟨_, hlen, hcell⟩ := World.cells?_some h
  match cs, hlen with
  | [V0, V1, V2, V3, V4, V5, V6, V7], _ => exact ⟨V0, V1, V2, V3, V4, V5, V6, V7, rfl, by simpa [Addr.add] using hcell 0 (by omega), by simpa [Addr.add] using hcell 1 (by omega), by simpa [Addr.add] using hcell 2 (by omega), by simpa [Addr.add] using hcell 3 (by omega), by simpa [Addr.add] using hcell 4 (by omega), by simpa [Addr.add] using hcell 5 (by omega), by simpa [Addr.add] using hcell 6 (by omega), by simpa [Addr.add] using hcell 7 (by omega)⟩

set_option maxRecDepth 100000 in
theorem item_at {H : Type} {enc : TypeId × Value → H} {W : World} {b o n : Nat} {V0 V1 V2 V3 V4 V5 V6 V7 : Value} {y : DataW H × List MemPlace} (hcells : W.cell? ⟨b, o, none⟩ = some V0 ∧ W.cell? ⟨b, o + 1, none⟩ = some V1 ∧ W.cell? ⟨b, o + 2, none⟩ = some V2 ∧ W.cell? ⟨b, o + 3, none⟩ = some V3 ∧ W.cell? ⟨b, o + 4, none⟩ = some V4 ∧ W.cell? ⟨b, o + 5, none⟩ = some V5 ∧ W.cell? ⟨b, o + 6, none⟩ = some V6 ∧ W.cell? ⟨b, o + 7, none⟩ = some V7)
    (h : DataW.trod enc Try.prog W 0 (fun _ => true) true n 37 [V0, V1, V2, V3, V4, V5, V6, V7] = some y)
    (hs : ∀ d0 d1 c0 c2 e' sp', y.1 = .agg [d0, d1, .agg [c0, .slice e' sp', c2]] → e'.length + sp'.length ≤ 140737488355328) : ∃ hx : IH × It.I, TAt ih W b o hx.1 ∧ IsItem W hx.1 hx.2 := by
  obtain ⟨h0, h1, h2, h3, h4, h5, h6, h7⟩ := hcells
  obtain ⟨y0, y1, y2, m, hx, _, t0, t1, t2⟩ := Go.Deep.trod_struct3 Try.underlying37 h
  have k1 : Try.prog.cellsOf 9 = 1 := by kernel_rfl
  have k2 : Try.prog.cellsOf 4 = 1 := by kernel_rfl
  have k3 : Try.prog.cellsOf 35 = 6 := by kernel_rfl
  simp only [k1, k2, k3] at t0 t1 t2
  have t0' : DataW.trod enc Try.prog W 0 (fun _ => true) true m 9 [V0] = some y0 := by simpa using t0
  have t1' : DataW.trod enc Try.prog W 0 (fun _ => true) true m 4 [V1] = some y1 := by simpa using t1
  have t2' : DataW.trod enc Try.prog W 0 (fun _ => true) true m 35 [V2, V3, V4, V5, V6, V7] = some y2 := by simpa using t2
  obtain ⟨s, hstr, _, hss⟩ := DataW.trod_string Try.underlying9 t0'
  obtain ⟨dd, hdd, _⟩ := DataW.trod_bool Try.underlying4 t1'
  simp only [List.cons.injEq, and_true] at hstr hdd
  subst hstr; subst hdd
  obtain ⟨z0, z1, z2, m', hx4, _, u0, u1, u2⟩ := Go.Deep.trod_struct3 Try.underlying35 t2'
  have q2 : Try.prog.cellsOf 30 = 1 := by kernel_rfl
  have q3 : Try.prog.cellsOf 33 = 4 := by kernel_rfl
  simp only [k2, q2, q3] at u0 u1 u2
  obtain ⟨f, hb, _⟩ := DataW.trod_bool Try.underlying4 u0
  have hb1 : V2 = .bool f := by simpa using hb
  have u1' : DataW.trod enc Try.prog W 0 (fun _ => true) true m' 30 [V3] = some z1 := by simpa using u1
  obtain ⟨a, len, cap, bs, hc1, hbs⟩ := bytes_of u1' (fun e' sp' he => by
    refine hs y0.1 y1.1 z0.1 z2.1 e' sp' ?_
    rw [hx, hx4, he])
  have u2' : DataW.trod enc Try.prog W 0 (fun _ => true) true m' 33 [V4, V5, V6, V7] = some z2 := by simpa using u2
  obtain ⟨x0, x1, x2, x3, n', _, _, v0, v1, v2, v3⟩ := Go.Joins.trod_struct4 Try.underlying33 u2'
  obtain ⟨q, hq, e2, e3, e4, e5⟩ := point_cells (n := n') (V0 := V4) (V1 := V5) (V2 := V6) (V3 := V7) v0 v1 v2 v3
  subst hb1; subst hc1; subst e2; subst e3; subst e4; subst e5
  refine ⟨(⟨s, dd, f, a, len, cap, q⟩, (kb s, dd, f, bs, q)), fun j v hj => ?_, ⟨rfl, rfl, rfl, rfl, hbs.1, hbs.2.1, hbs.2.2, hq, hss⟩⟩
  match j, hj with
  | 0, hj => cases hj; exact h0
  | 1, hj => cases hj; exact h1
  | 2, hj => cases hj; exact h2
  | 3, hj => cases hj; exact h3
  | 4, hj => cases hj; exact h4
  | 5, hj => cases hj; exact h5
  | 6, hj => cases hj; exact h6
  | 7, hj => cases hj; exact h7
  | j + 8, hj => simp [ih] at hj

set_option maxRecDepth 100000 in
theorem open_items {H : Type} {enc : TypeId × Value → H} {W : World} {fuel : Nat} {cs : List Value} {d : DataW H} {p : List MemPlace} {a : Option Addr} {len cap : Nat} {ts : List TypeId} {ds : List (DataW H)} {j : Nat}
    (hf : DataW.trod enc Try.prog W 0 (fun _ => true) true fuel 25 cs = some (d, p)) (hcs : cs = [.slice a len cap])
    (hsz : (DataW.weightsEach Try.prog ts ds).all (· ≤ reachBytes) = true) (ht : ts[j]? = some 25) (hd : ds[j]? = some d) : ∃ hs xs, InI W a len cap hs xs := by
  have hrb : reachBytes ≤ 140737488355328 := Nat.le_of_lt reachBytes_lt
  have hc8 : Try.prog.cellsOf 37 = 8 := by kernel_rfl
  rcases Go.Deep.open_slice Try.underlying25 hf with ⟨h0, _⟩ | ⟨x, l, c, m, n, D, Pl, h0, _, hl, hm, hmm, hx, hall⟩
  · rw [hcs] at h0
    simp only [List.cons.injEq, Value.slice.injEq, and_true] at h0
    obtain ⟨rfl, rfl, rfl⟩ := h0
    exact ⟨[], [], ⟨TRow.nil _ _, ItAll.nil _⟩, fun _ => ⟨rfl, rfl⟩, by omega⟩
  · rw [hcs] at h0
    simp only [List.cons.injEq, Value.slice.injEq, and_true] at h0
    obtain ⟨rfl, rfl, rfl⟩ := h0
    simp only [if_true] at hmm
    subst hmm
    simp only [Prod.mk.injEq] at hx
    obtain ⟨rfl, _⟩ := hx
    have hlen : len ≤ 140737488355328 := by
      have := sized_slice hsz ht hd Try.underlying25
      simp only [List.length_map, List.length_range] at this
      have hb : Try.prog.bytesOf 37 = 88 := by kernel_rfl
      rw [hb] at this
      omega
    rw [hc8] at hall
    rcases Nat.eq_zero_or_pos m with h0 | h0
    · obtain rfl : len = 0 := by omega
      exact ⟨[], [], ⟨TRow.nil _ _, ItAll.nil _⟩, (fun h => by cases h), by omega⟩
    · obtain ⟨b, off, spot⟩ := x
      have hs : spot = none := by
        obtain ⟨cs', h1, _⟩ := hall 0 h0
        obtain ⟨_, hlen', hcell⟩ := World.cells?_some h1
        have q0 := hcell 0 (by omega)
        have : 0 < cs'.length := by omega
        rw [List.getElem?_eq_getElem this] at q0
        simpa [Addr.add] using World.cell?_spot q0
      subst hs
      have hfr : ∀ i, i < len → ∃ hx : IH × It.I, TAt ih W b (off + i * 8) hx.1 ∧ IsItem W hx.1 hx.2 := by
        intro i hi
        obtain ⟨cs', h1, h2⟩ := hall i (by omega)
        rw [add_at] at h1
        obtain ⟨V0, V1, V2, V3, V4, V5, V6, V7, rfl, hcells⟩ := cells_eight h1
        refine item_at hcells h2 ?_
        intro d0 d1 c0 c2 e' sp' hD
        have := sized_third (d0 := d0) (d1 := d1) (c0 := c0) (c2 := c2) (e' := e') (sp' := sp') hsz ht hd Try.underlying25 Try.underlying37 Try.underlying35 Try.underlying30 (by
          simp only [List.mem_map, List.mem_range]
          exact ⟨i, hi, hD⟩)
        have hb : Try.prog.bytesOf 5 = 1 := by kernel_rfl
        rw [hb] at this
        omega
      haveI : Inhabited (IH × It.I) := ⟨(ihz, It.zero)⟩
      obtain ⟨f, hf⟩ := Go.Deep.choose_lt hfr
      refine ⟨(List.range len).map (fun i => (f i).1), (List.range len).map (fun i => (f i).2), ⟨⟨by simp, by omega, .inr ⟨b, off, rfl, fun i hi => ?_⟩⟩, by simp, fun i hi => ?_⟩, (fun h => by cases h), hl⟩
      · rw [show ((List.range len).map (fun i => (f i).1)).getD i ihz = (f i).1 by simp [hi]]
        exact (hf i hi).1
      · have hi' : i < len := by simpa using hi
        rw [show ((List.range len).map (fun i => (f i).1)).getD i ihz = (f i).1 by simp [hi'], show ((List.range len).map (fun i => (f i).2)).getD i It.zero = (f i).2 by simp [hi']]
        exact (hf i hi').2

set_option maxRecDepth 100000 in
/-- an argument that is keys from one on, up to one, so many -/
theorem open_asked {H : Type} {enc : TypeId × Value → H} {W : World} {r : Reach} {b0 : Nat} {v : Value} {d : DataW H} {p : List MemPlace}
    (hv : Value.okWide Try.prog W r b0 47 v) (h : DataW.Trod enc Try.prog W 0 (fun _ => true) true 47 v d p) : ∃ (lo hi : ByteArray) (most : Int), v = .agg #[.string lo, .string hi, .int .i64 most] ∧ lo.size ≤ maxLen ∧ hi.size ≤ maxLen ∧ (-9223372036854775808 ≤ most ∧ most ≤ 9223372036854775807) := by
  obtain ⟨v0, v1, v2, y0, y1, y2, n, rfl, _, _, t0, t1, t2⟩ := Go.Joins.open_agg3 Try.underlying47 (by kernel_rfl) (by kernel_rfl) hv h
  obtain ⟨k0, h0, _, w0⟩ := DataW.trod_string Try.underlying9 t0
  obtain ⟨k1, h1, _, w1⟩ := DataW.trod_string Try.underlying9 t1
  obtain ⟨k2, h2, _, w2⟩ := DataW.trod_int Try.underlying3 t2
  simp only [List.cons.injEq, and_true] at h0 h1 h2
  subst h0; subst h1; subst h2
  exact ⟨k0, k1, k2, rfl, w0, w1, i64_in w2⟩
end Go.Proofs.Ytchiilhdkbpboaa
