/- From the reading of an argument that is a slice of entries to the entries. -/
import Derived.Test.YtfejgedgmaljfaaO3
import Derived.Test.YtfejgedgmaljfaaBEa
namespace Go.Proofs.Ytfejgedgmaljfaa
open Go.ChangeShapes Go.WideShapes Go.RowKit

/-- what came in, as entries -/
def IsEntries (w : World) (a : Option Addr) (len cap : Nat) (es : List En.E) : Prop :=
  ERow w a len es ∧ (a = none → len = 0 ∧ cap = 0) ∧ Shape a len cap ∧ len ≤ 140737488355328

theorem weightsAll_in6 {H : Type} {P : Program} {e : TypeId} : ∀ {l : List (DataW H)} {d : DataW H}, d ∈ l → ∀ n ∈ d.weights P e, n ∈ DataW.weightsAll P e l
  | x :: l, d, h, n, hn => by
    simp only [DataW.weightsAll, List.mem_append]
    rcases List.mem_cons.1 h with rfl | h
    · exact .inl hn
    · exact .inr (weightsAll_in6 h n hn)
/-- the size of a slice that is the second of three fields of the fifth field of an element -/
theorem sized_fifth {H : Type} {P : Program} {ts : List TypeId} {ds : List (DataW H)} (h : (DataW.weightsEach P ts ds).all (· ≤ reachBytes) = true) {j : Nat} {t e q : TypeId} {f0 f1 f2 f3 f4 g0 g1 g2 : Field} {elems spare e' sp' : List (DataW H)} {d0 d1 d2 d3 c0 c2 : DataW H}
    (ht : ts[j]? = some t) (hd : ds[j]? = some (.slice elems spare)) (hu : P.underlying t = some (.slice e)) (hs : P.underlying e = some (.struct #[f0, f1, f2, f3, f4])) (hg : P.underlying f4.type = some (.struct #[g0, g1, g2])) (hf : P.underlying g1.type = some (.slice q)) (hx : DataW.agg [d0, d1, d2, d3, .agg [c0, .slice e' sp', c2]] ∈ elems) :
    (e'.length + sp'.length) * P.bytesOf q ≤ reachBytes := by
  refine of_decide_eq_true (List.all_eq_true.1 h _ (DataW.weights_mem_each ht hd _ ?_))
  simp only [DataW.weights, hu, List.mem_cons, List.mem_append]
  refine Or.inr (Or.inl (weightsAll_in6 hx _ ?_))
  simp only [DataW.weights, hs, hg, List.map_cons, List.map_nil, DataW.weightsEach, List.mem_append]
  simp [hf]

theorem trod_struct5 {H : Type} {enc : TypeId × Value → H} {P : Program} {w : World} {base : Nat} {spare : Nat → Bool} {held : Bool} {t : TypeId} {f0 f1 f2 f3 f4 : Field} {fuel : Nat} {cs : List Value} {x : DataW H × List MemPlace} (ht : P.underlying t = some (.struct #[f0, f1, f2, f3, f4])) (h : DataW.trod enc P w base spare held fuel t cs = some x) :
    ∃ y0 y1 y2 y3 y4 n, x = (.agg [y0.1, y1.1, y2.1, y3.1, y4.1], y0.2 ++ (y1.2 ++ (y2.2 ++ (y3.2 ++ y4.2)))) ∧ cs.length = P.cellsOf t ∧ DataW.trod enc P w base spare held n f0.type ((cs.drop f0.offset).take (P.cellsOf f0.type)) = some y0 ∧
      DataW.trod enc P w base spare held n f1.type ((cs.drop f1.offset).take (P.cellsOf f1.type)) = some y1 ∧ DataW.trod enc P w base spare held n f2.type ((cs.drop f2.offset).take (P.cellsOf f2.type)) = some y2 ∧
      DataW.trod enc P w base spare held n f3.type ((cs.drop f3.offset).take (P.cellsOf f3.type)) = some y3 ∧ DataW.trod enc P w base spare held n f4.type ((cs.drop f4.offset).take (P.cellsOf f4.type)) = some y4 := by
  obtain ⟨xs, n, _, rfl, hl, hlen, hf⟩ := DataW.trod_struct ht h
  match xs, hlen with
  | [y0, y1, y2, y3, y4], _ => exact ⟨y0, y1, y2, y3, y4, n, by simp, hl, by simpa using hf 0 f0 rfl, by simpa using hf 1 f1 rfl, by simpa using hf 2 f2 rfl, by simpa using hf 3 f3 rfl, by simpa using hf 4 f4 rfl⟩

theorem cells_ten {w : World} {base b o : Nat} {cs : List Value} (h : w.cells? base ⟨b, o, none⟩ 10 = some cs) : ∃ V0 V1 V2 V3 V4 V5 V6 V7 V8 V9, cs = [V0, V1, V2, V3, V4, V5, V6, V7, V8, V9] ∧ w.cell? ⟨b, o, none⟩ = some V0 ∧ w.cell? ⟨b, o + 1, none⟩ = some V1 ∧ w.cell? ⟨b, o + 2, none⟩ = some V2 ∧ w.cell? ⟨b, o + 3, none⟩ = some V3 ∧ w.cell? ⟨b, o + 4, none⟩ = some V4 ∧ w.cell? ⟨b, o + 5, none⟩ = some V5 ∧ w.cell? ⟨b, o + 6, none⟩ = some V6 ∧ w.cell? ⟨b, o + 7, none⟩ = some V7 ∧ w.cell? ⟨b, o + 8, none⟩ = some V8 ∧ w.cell? ⟨b, o + 9, none⟩ = some V9 := by
  obtain ⟨_, hlen, hcell⟩ := World.cells?_some h
  match cs, hlen with
  | [V0, V1, V2, V3, V4, V5, V6, V7, V8, V9], _ => exact ⟨V0, V1, V2, V3, V4, V5, V6, V7, V8, V9, rfl, by simpa [Addr.add] using hcell 0 (by omega), by simpa [Addr.add] using hcell 1 (by omega), by simpa [Addr.add] using hcell 2 (by omega), by simpa [Addr.add] using hcell 3 (by omega), by simpa [Addr.add] using hcell 4 (by omega), by simpa [Addr.add] using hcell 5 (by omega), by simpa [Addr.add] using hcell 6 (by omega), by simpa [Addr.add] using hcell 7 (by omega), by simpa [Addr.add] using hcell 8 (by omega), by simpa [Addr.add] using hcell 9 (by omega)⟩

theorem entry_at {H : Type} {enc : TypeId × Value → H} {W : World} {b o n : Nat} {V0 V1 V2 V3 V4 V5 V6 V7 V8 V9 : Value} {y : DataW H × List MemPlace} (hcells : W.cell? ⟨b, o, none⟩ = some V0 ∧ W.cell? ⟨b, o + 1, none⟩ = some V1 ∧ W.cell? ⟨b, o + 2, none⟩ = some V2 ∧ W.cell? ⟨b, o + 3, none⟩ = some V3 ∧ W.cell? ⟨b, o + 4, none⟩ = some V4 ∧ W.cell? ⟨b, o + 5, none⟩ = some V5 ∧ W.cell? ⟨b, o + 6, none⟩ = some V6 ∧ W.cell? ⟨b, o + 7, none⟩ = some V7 ∧ W.cell? ⟨b, o + 8, none⟩ = some V8 ∧ W.cell? ⟨b, o + 9, none⟩ = some V9)
    (h : DataW.trod enc Try.prog W 0 (fun _ => true) true n 34 [V0, V1, V2, V3, V4, V5, V6, V7, V8, V9] = some y)
    (hs : ∀ d0 d1 d2 d3 c0 c2 e' sp', y.1 = .agg [d0, d1, d2, d3, .agg [c0, .slice e' sp', c2]] → e'.length + sp'.length ≤ 140737488355328) : ∃ e : En.E, EAt W b o e := by
  obtain ⟨h0, h1, h2, h3, h4, h5, h6, h7, h8, h9⟩ := hcells
  obtain ⟨y0, y1, y2, y3, y4, m, hx, _, t0, t1, t2, t3, t4⟩ := trod_struct5 Try.underlying34 h
  have k1 : Try.prog.cellsOf 3 = 1 := by kernel_rfl
  have k2 : Try.prog.cellsOf 9 = 1 := by kernel_rfl
  have k3 : Try.prog.cellsOf 32 = 6 := by kernel_rfl
  simp only [k1, k2, k3] at t0 t1 t2 t3 t4
  have t0' : DataW.trod enc Try.prog W 0 (fun _ => true) true m 3 [V0] = some y0 := by simpa using t0
  have t1' : DataW.trod enc Try.prog W 0 (fun _ => true) true m 3 [V1] = some y1 := by simpa using t1
  have t2' : DataW.trod enc Try.prog W 0 (fun _ => true) true m 3 [V2] = some y2 := by simpa using t2
  have t3' : DataW.trod enc Try.prog W 0 (fun _ => true) true m 9 [V3] = some y3 := by simpa using t3
  have t4' : DataW.trod enc Try.prog W 0 (fun _ => true) true m 32 [V4, V5, V6, V7, V8, V9] = some y4 := by simpa using t4
  obtain ⟨i, hi, _, wi⟩ := DataW.trod_int Try.underlying3 t0'
  obtain ⟨t, ht, _, wt⟩ := DataW.trod_int Try.underlying3 t1'
  obtain ⟨k, hk, _, wk⟩ := DataW.trod_int Try.underlying3 t2'
  obtain ⟨s, hstr, _, hss⟩ := DataW.trod_string Try.underlying9 t3'
  simp only [List.cons.injEq, and_true] at hi ht hk hstr
  subst hi; subst ht; subst hk; subst hstr
  obtain ⟨z0, z1, z2, m', hx4, _, u0, u1, u2⟩ := Go.Deep.trod_struct3 Try.underlying32 t4'
  have q1 : Try.prog.cellsOf 4 = 1 := by kernel_rfl
  have q2 : Try.prog.cellsOf 27 = 1 := by kernel_rfl
  have q3 : Try.prog.cellsOf 30 = 4 := by kernel_rfl
  simp only [q1, q2, q3] at u0 u1 u2
  obtain ⟨f, hb, _⟩ := DataW.trod_bool Try.underlying4 u0
  have hb1 : V4 = .bool f := by simpa using hb
  have u1' : DataW.trod enc Try.prog W 0 (fun _ => true) true m' 27 [V5] = some z1 := by simpa using u1
  obtain ⟨a, len, cap, bs, hc1, hbs⟩ := bytes_of u1' (fun e' sp' he => by
    refine hs y0.1 y1.1 y2.1 y3.1 z0.1 z2.1 e' sp' ?_
    rw [hx, hx4, he])
  have u2' : DataW.trod enc Try.prog W 0 (fun _ => true) true m' 30 [V6, V7, V8, V9] = some z2 := by simpa using u2
  obtain ⟨x0, x1, x2, x3, n', _, _, v0, v1, v2, v3⟩ := Go.Joins.trod_struct4 Try.underlying30 u2'
  obtain ⟨q, hq, e2, e3, e4, e5⟩ := point_cells (n := n') (V0 := V6) (V1 := V7) (V2 := V8) (V3 := V9) v0 v1 v2 v3
  subst hb1; subst hc1; subst e2; subst e3; subst e4; subst e5
  exact ⟨(i, t, k, kb s, f, bs, q), s, a, len, cap, h0, h1, h2, h3, h4, h5, h6, h7, h8, h9, rfl, hss, hbs.1, hbs.2.1, i64_fits wi, i64_fits wt, i64_fits wk, hq⟩

theorem open_entries {H : Type} {enc : TypeId × Value → H} {W : World} {fuel : Nat} {cs : List Value} {d : DataW H} {p : List MemPlace} {a : Option Addr} {len cap : Nat} {ts : List TypeId} {ds : List (DataW H)} {j : Nat}
    (hf : DataW.trod enc Try.prog W 0 (fun _ => true) true fuel 22 cs = some (d, p)) (hcs : cs = [.slice a len cap])
    (hsz : (DataW.weightsEach Try.prog ts ds).all (· ≤ reachBytes) = true) (ht : ts[j]? = some 22) (hd : ds[j]? = some d) : ∃ es, IsEntries W a len cap es := by
  have hrb : reachBytes ≤ 140737488355328 := Nat.le_of_lt reachBytes_lt
  have hc10 : Try.prog.cellsOf 34 = 10 := by kernel_rfl
  rcases Go.Deep.open_slice Try.underlying22 hf with ⟨h0, _⟩ | ⟨x, l, c, m, n, D, Pl, h0, _, hl, hm, hmm, hx, hall⟩
  · rw [hcs] at h0
    simp only [List.cons.injEq, Value.slice.injEq, and_true] at h0
    obtain ⟨rfl, rfl, rfl⟩ := h0
    exact ⟨[], ⟨rfl, by omega, .inl rfl⟩, fun _ => ⟨rfl, rfl⟩, .inl ⟨rfl, rfl⟩, by omega⟩
  · rw [hcs] at h0
    simp only [List.cons.injEq, Value.slice.injEq, and_true] at h0
    obtain ⟨rfl, rfl, rfl⟩ := h0
    simp only [if_true] at hmm
    subst hmm
    simp only [Prod.mk.injEq] at hx
    obtain ⟨rfl, _⟩ := hx
    have hlen : len ≤ 140737488355328 := by
      have := sized_slice hsz ht hd Try.underlying22
      simp only [List.length_map, List.length_range] at this
      have hb : Try.prog.bytesOf 34 = 104 := by kernel_rfl
      rw [hb] at this
      omega
    rw [hc10] at hall
    rcases Nat.eq_zero_or_pos m with h0 | h0
    · obtain rfl : len = 0 := by omega
      exact ⟨[], ⟨rfl, by omega, .inl rfl⟩, (fun h => by cases h), .inl ⟨rfl, h0⟩, by omega⟩
    · obtain ⟨b, off, spot⟩ := x
      have hs : spot = none := by
        obtain ⟨cs', h1, _⟩ := hall 0 h0
        obtain ⟨_, hlen', hcell⟩ := World.cells?_some h1
        have q0 := hcell 0 (by omega)
        have : 0 < cs'.length := by omega
        rw [List.getElem?_eq_getElem this] at q0
        simpa [Addr.add] using World.cell?_spot q0
      subst hs
      have hfr : ∀ i, i < len → ∃ e : En.E, EAt W b (off + i * 10) e := by
        intro i hi
        obtain ⟨cs', h1, h2⟩ := hall i (by omega)
        rw [add_at] at h1
        obtain ⟨V0, V1, V2, V3, V4, V5, V6, V7, V8, V9, rfl, hcells⟩ := cells_ten h1
        refine entry_at hcells h2 ?_
        intro d0 d1 d2 d3 c0 c2 e' sp' hD
        have := sized_fifth (d0 := d0) (d1 := d1) (d2 := d2) (d3 := d3) (c0 := c0) (c2 := c2) (e' := e') (sp' := sp') hsz ht hd Try.underlying22 Try.underlying34 Try.underlying32 Try.underlying27 (by
          simp only [List.mem_map, List.mem_range]
          exact ⟨i, hi, hD⟩)
        have hb : Try.prog.bytesOf 5 = 1 := by kernel_rfl
        rw [hb] at this
        omega
      obtain ⟨f, hf⟩ := Go.Deep.choose_lt hfr
      refine ⟨(List.range len).map f, ⟨by simp, by omega, .inr ⟨b, off, rfl, fun i hi => ?_⟩⟩, (fun h => by cases h), .inr ⟨b, off, rfl, hl⟩, hlen⟩
      have : ((List.range len).map f).getD i En.zero = f i := by simp [hi]
      rw [this]; exact hf i hi
end Go.Proofs.Ytfejgedgmaljfaa
