/- From the reading of an argument that is a slice of acts to the acts. -/
import Derived.Test.YtefadkengfjdmaaDKU
import Derived.Test.YtefadkengfjdmaaOT
import Derived.Deep.SlicePairs
namespace Go.Proofs.Ytefadkengfjdmaa
open Go.ChangeShapes Go.WideShapes Go.RowKit

theorem weightsAll_in8 {H : Type} {P : Program} {e : TypeId} : ∀ {l : List (DataW H)} {d : DataW H}, d ∈ l → ∀ n ∈ d.weights P e, n ∈ DataW.weightsAll P e l
  | x :: l, d, h, n, hn => by
    simp only [DataW.weightsAll, List.mem_append]
    rcases List.mem_cons.1 h with rfl | h
    · exact .inl hn
    · exact .inr (weightsAll_in8 h n hn)
/-- the size of a slice that is the fourth of six fields of an element -/
theorem sized_b {H : Type} {P : Program} {ts : List TypeId} {ds : List (DataW H)} (h : (DataW.weightsEach P ts ds).all (· ≤ reachBytes) = true) {j : Nat} {t e q : TypeId} {f0 f1 f2 f3 f4 f5 : Field} {elems spare e' sp' : List (DataW H)} {d0 d1 d2 d4 d5 : DataW H}
    (ht : ts[j]? = some t) (hd : ds[j]? = some (.slice elems spare)) (hu : P.underlying t = some (.slice e)) (hs : P.underlying e = some (.struct #[f0, f1, f2, f3, f4, f5])) (hf : P.underlying f3.type = some (.slice q)) (hx : DataW.agg [d0, d1, d2, .slice e' sp', d4, d5] ∈ elems) :
    (e'.length + sp'.length) * P.bytesOf q ≤ reachBytes := by
  refine of_decide_eq_true (List.all_eq_true.1 h _ (DataW.weights_mem_each ht hd _ ?_))
  simp only [DataW.weights, hu, List.mem_cons, List.mem_append]
  refine Or.inr (Or.inl (weightsAll_in8 hx _ ?_))
  simp only [DataW.weights, hs, List.map_cons, List.map_nil, DataW.weightsEach, List.mem_append]
  simp [hf]
/-- the size of a slice that is the second of two fields of the sixth of six fields of an element -/
theorem sized_t {H : Type} {P : Program} {ts : List TypeId} {ds : List (DataW H)} (h : (DataW.weightsEach P ts ds).all (· ≤ reachBytes) = true) {j : Nat} {t e q : TypeId} {f0 f1 f2 f3 f4 f5 g0 g1 : Field} {elems spare e' sp' : List (DataW H)} {d0 d1 d2 d3 d4 c0 : DataW H}
    (ht : ts[j]? = some t) (hd : ds[j]? = some (.slice elems spare)) (hu : P.underlying t = some (.slice e)) (hs : P.underlying e = some (.struct #[f0, f1, f2, f3, f4, f5])) (hg : P.underlying f5.type = some (.struct #[g0, g1])) (hf : P.underlying g1.type = some (.slice q)) (hx : DataW.agg [d0, d1, d2, d3, d4, .agg [c0, .slice e' sp']] ∈ elems) :
    (e'.length + sp'.length) * P.bytesOf q ≤ reachBytes := by
  refine of_decide_eq_true (List.all_eq_true.1 h _ (DataW.weights_mem_each ht hd _ ?_))
  simp only [DataW.weights, hu, List.mem_cons, List.mem_append]
  refine Or.inr (Or.inl (weightsAll_in8 hx _ ?_))
  simp only [DataW.weights, hs, hg, List.map_cons, List.map_nil, DataW.weightsEach, List.mem_append]
  simp [hf]
theorem trod_struct6 {H : Type} {enc : TypeId × Value → H} {P : Program} {w : World} {base : Nat} {spare : Nat → Bool} {held : Bool} {t : TypeId} {f0 f1 f2 f3 f4 f5 : Field} {fuel : Nat} {cs : List Value} {x : DataW H × List MemPlace} (ht : P.underlying t = some (.struct #[f0, f1, f2, f3, f4, f5])) (h : DataW.trod enc P w base spare held fuel t cs = some x) :
    ∃ y0 y1 y2 y3 y4 y5 n, x.1 = .agg [y0.1, y1.1, y2.1, y3.1, y4.1, y5.1] ∧ cs.length = P.cellsOf t ∧ DataW.trod enc P w base spare held n f0.type ((cs.drop f0.offset).take (P.cellsOf f0.type)) = some y0 ∧
      DataW.trod enc P w base spare held n f1.type ((cs.drop f1.offset).take (P.cellsOf f1.type)) = some y1 ∧ DataW.trod enc P w base spare held n f2.type ((cs.drop f2.offset).take (P.cellsOf f2.type)) = some y2 ∧
      DataW.trod enc P w base spare held n f3.type ((cs.drop f3.offset).take (P.cellsOf f3.type)) = some y3 ∧ DataW.trod enc P w base spare held n f4.type ((cs.drop f4.offset).take (P.cellsOf f4.type)) = some y4 ∧
      DataW.trod enc P w base spare held n f5.type ((cs.drop f5.offset).take (P.cellsOf f5.type)) = some y5 := by
  obtain ⟨xs, n, _, rfl, hl, hlen, hf⟩ := DataW.trod_struct ht h
  match xs, hlen with
  | [y0, y1, y2, y3, y4, y5], _ => exact ⟨y0, y1, y2, y3, y4, y5, n, by simp, hl, by simpa using hf 0 f0 rfl, by simpa using hf 1 f1 rfl, by simpa using hf 2 f2 rfl, by simpa using hf 3 f3 rfl, by simpa using hf 4 f4 rfl, by simpa using hf 5 f5 rfl⟩

theorem abytes_of {H : Type} {enc : TypeId × Value → H} {W : World} {fuel : Nat} {v : Value} {y : DataW H × List MemPlace}
    (h : DataW.trod enc Try.prog W 0 (fun _ => true) true fuel 31 [v] = some y) (hs : ∀ e' sp', y.1 = .slice e' sp' → e'.length + sp'.length ≤ 140737488355328) : ∃ a n c bs, v = .slice a n c ∧ Row .u8 W a n bs ∧ (a = none → n = 0 ∧ c = 0) ∧ n ≤ c := by
  rcases open_ints Try.underlying31 Try.underlying5 (by kernel_rfl) h with ⟨hcs, _⟩ | ⟨x, l, c, zs, hcs, _, hl, hm, hz, hd, hcell, hwz⟩
  · simp only [List.cons.injEq, and_true] at hcs
    subst hcs
    exact ⟨none, 0, 0, [], rfl, ⟨rfl, by omega, by simp, .inl rfl⟩, fun _ => ⟨rfl, rfl⟩, Nat.le_refl _⟩
  · simp only [List.cons.injEq, and_true] at hcs
    subst hcs
    simp only [if_true] at hz
    have hsz := hs (lits .u8 (zs.take l)) (lits .u8 (zs.drop l)) (by rw [hd])
    have hl' : l + (c - l) ≤ 140737488355328 := by
      simp only [lits, List.length_map, List.length_take, List.length_drop, hz] at hsz
      omega
    have hrow : IsRow .u8 W (some x) l c zs := .inr ⟨x, rfl, hl, hm, hz, hcell, hwz⟩
    obtain ⟨bs, hbs⟩ := row_of (.inl rfl) hrow (by omega)
    exact ⟨some x, l, c, bs, rfl, hbs, (fun h => by cases h), hl⟩

theorem aints_of {H : Type} {enc : TypeId × Value → H} {W : World} {fuel : Nat} {v : Value} {y : DataW H × List MemPlace}
    (h : DataW.trod enc Try.prog W 0 (fun _ => true) true fuel 32 [v] = some y) (hs : ∀ e' sp', y.1 = .slice e' sp' → e'.length + sp'.length ≤ 140737488355328) : ∃ a n c zs, v = .slice a n c ∧ ZIn W a n c zs := by
  rcases open_ints Try.underlying32 Try.underlying3 (by kernel_rfl) h with ⟨hcs, _⟩ | ⟨x, l, c, zs, hcs, _, hl, hm, hz, hd, hcell, hwz⟩
  · simp only [List.cons.injEq, and_true] at hcs
    subst hcs
    exact ⟨none, 0, 0, [], rfl, ⟨rfl, by omega, .inl rfl⟩, fun _ => ⟨rfl, rfl⟩, Nat.le_refl _⟩
  · simp only [List.cons.injEq, and_true] at hcs
    subst hcs
    simp only [if_true] at hz
    have hsz := hs (lits .i64 (zs.take l)) (lits .i64 (zs.drop l)) (by rw [hd])
    have hl' : l + (c - l) ≤ 140737488355328 := by
      simp only [lits, List.length_map, List.length_take, List.length_drop, hz] at hsz
      omega
    refine ⟨some x, l, c, zs.take l, rfl, ⟨by rw [List.length_take]; omega, by omega, ?_⟩, (fun h => by cases h), hl⟩
    rcases Nat.eq_zero_or_pos l with h0 | h0
    · exact .inl h0
    · obtain ⟨b, off, spot⟩ := x
      have hsp : spot = none := by
        have h3 := hcell 0 (by omega)
        simpa [Addr.add] using World.cell?_spot h3
      subst hsp
      refine .inr ⟨b, off, rfl, fun i hi j v hj => ?_⟩
      have h3 := hcell i (by omega)
      rw [add_at] at h3
      have h4 : (zs.take l).getD i 0 = zs.getD i 0 := by simp [List.getD, hi]
      rw [h4] at hj
      match j, hj with
      | 0, hj => cases hj; simpa using h3
      | j + 1, hj => simp [ize] at hj

theorem cells_seven {w : World} {base b o : Nat} {cs : List Value} (h : w.cells? base ⟨b, o, none⟩ 7 = some cs) : ∃ V0 V1 V2 V3 V4 V5 V6, cs = [V0, V1, V2, V3, V4, V5, V6] ∧ w.cell? ⟨b, o, none⟩ = some V0 ∧ w.cell? ⟨b, o + 1, none⟩ = some V1 ∧ w.cell? ⟨b, o + 2, none⟩ = some V2 ∧ w.cell? ⟨b, o + 3, none⟩ = some V3 ∧ w.cell? ⟨b, o + 4, none⟩ = some V4 ∧ w.cell? ⟨b, o + 5, none⟩ = some V5 ∧ w.cell? ⟨b, o + 6, none⟩ = some V6 := by
  obtain ⟨_, hlen, hcell⟩ := World.cells?_some h
  match cs, hlen with
  | [V0, V1, V2, V3, V4, V5, V6], _ => exact ⟨V0, V1, V2, V3, V4, V5, V6, rfl, by simpa [Addr.add] using hcell 0 (by omega), by simpa [Addr.add] using hcell 1 (by omega), by simpa [Addr.add] using hcell 2 (by omega), by simpa [Addr.add] using hcell 3 (by omega), by simpa [Addr.add] using hcell 4 (by omega), by simpa [Addr.add] using hcell 5 (by omega), by simpa [Addr.add] using hcell 6 (by omega)⟩

theorem act_at {H : Type} {enc : TypeId × Value → H} {W : World} {b o n : Nat} {V0 V1 V2 V3 V4 V5 V6 : Value} {y : DataW H × List MemPlace} (hcells : W.cell? ⟨b, o, none⟩ = some V0 ∧ W.cell? ⟨b, o + 1, none⟩ = some V1 ∧ W.cell? ⟨b, o + 2, none⟩ = some V2 ∧ W.cell? ⟨b, o + 3, none⟩ = some V3 ∧ W.cell? ⟨b, o + 4, none⟩ = some V4 ∧ W.cell? ⟨b, o + 5, none⟩ = some V5 ∧ W.cell? ⟨b, o + 6, none⟩ = some V6)
    (h : DataW.trod enc Try.prog W 0 (fun _ => true) true n 36 [V0, V1, V2, V3, V4, V5, V6] = some y)
    (hs : ∀ d0 d1 d2 d4 d5 e' sp', y.1 = .agg [d0, d1, d2, .slice e' sp', d4, d5] → e'.length + sp'.length ≤ 140737488355328)
    (hs2 : ∀ d0 d1 d2 d3 d4 c0 e' sp', y.1 = .agg [d0, d1, d2, d3, d4, .agg [c0, .slice e' sp']] → e'.length + sp'.length ≤ 140737488355328) : ∃ x : AH, TAt ah W b o x ∧ ∃ bs zs, IsAct W x bs zs := by
  obtain ⟨h0, h1, h2, h3, h4, h5, h6⟩ := hcells
  obtain ⟨y0, y1, y2, y3, y4, y5, m, hx, _, t0, t1, t2, t3, t4, t5⟩ := trod_struct6 Try.underlying36 h
  have k1 : Try.prog.cellsOf 3 = 1 := by kernel_rfl
  have k2 : Try.prog.cellsOf 9 = 1 := by kernel_rfl
  have k3 : Try.prog.cellsOf 31 = 1 := by kernel_rfl
  have k4 : Try.prog.cellsOf 34 = 2 := by kernel_rfl
  have k5 : Try.prog.cellsOf 32 = 1 := by kernel_rfl
  simp only [k1, k2, k3, k4] at t0 t1 t2 t3 t4 t5
  have t0' : DataW.trod enc Try.prog W 0 (fun _ => true) true m 3 [V0] = some y0 := by simpa using t0
  have t1' : DataW.trod enc Try.prog W 0 (fun _ => true) true m 9 [V1] = some y1 := by simpa using t1
  have t2' : DataW.trod enc Try.prog W 0 (fun _ => true) true m 9 [V2] = some y2 := by simpa using t2
  have t3' : DataW.trod enc Try.prog W 0 (fun _ => true) true m 31 [V3] = some y3 := by simpa using t3
  have t4' : DataW.trod enc Try.prog W 0 (fun _ => true) true m 3 [V4] = some y4 := by simpa using t4
  have t5' : DataW.trod enc Try.prog W 0 (fun _ => true) true m 34 [V5, V6] = some y5 := by simpa using t5
  obtain ⟨d, e0, _, _⟩ := DataW.trod_int Try.underlying3 t0'
  obtain ⟨s1, e1, _, w1⟩ := DataW.trod_string Try.underlying9 t1'
  obtain ⟨s2, e2, _, w2⟩ := DataW.trod_string Try.underlying9 t2'
  obtain ⟨n4, e4, _, w4⟩ := DataW.trod_int Try.underlying3 t4'
  obtain ⟨z0, z1, m', hx5, _, u0, u1⟩ := trod_struct2 Try.underlying34 t5'
  simp only [k1, k5] at u0 u1
  have u0' : DataW.trod enc Try.prog W 0 (fun _ => true) true m' 3 [V5] = some z0 := by simpa using u0
  have u1' : DataW.trod enc Try.prog W 0 (fun _ => true) true m' 32 [V6] = some z1 := by simpa using u1
  obtain ⟨n5, e5, _, _⟩ := DataW.trod_int Try.underlying3 u0'
  obtain ⟨ba, bn, bc, bs, hv3, hb1, hb2, hb3⟩ := abytes_of t3' (fun e' sp' he => hs y0.1 y1.1 y2.1 y4.1 y5.1 e' sp' (by rw [hx, he]))
  obtain ⟨ta, tn, tc, zs, hv6, hz⟩ := aints_of u1' (fun e' sp' he => hs2 y0.1 y1.1 y2.1 y3.1 y4.1 z0.1 e' sp' (by rw [hx, hx5, he]))
  simp only [List.cons.injEq, and_true] at e0 e1 e2 e4 e5
  subst e0; subst e1; subst e2; subst e4; subst e5; subst hv3; subst hv6
  refine ⟨⟨d, s1, s2, ba, bn, bc, n4, n5, ta, tn, tc⟩, fun j v hj => ?_, bs, zs, ⟨hb1, hb2, hb3, hz, i64_in w4, w1, w2⟩⟩
  match j, hj with
  | 0, hj => cases hj; exact h0
  | 1, hj => cases hj; exact h1
  | 2, hj => cases hj; exact h2
  | 3, hj => cases hj; exact h3
  | 4, hj => cases hj; exact h4
  | 5, hj => cases hj; exact h5
  | 6, hj => cases hj; exact h6
  | j + 7, hj => simp [ah] at hj

theorem open_acts {H : Type} {enc : TypeId × Value → H} {W : World} {fuel : Nat} {cs : List Value} {d : DataW H} {p : List MemPlace} {a : Option Addr} {len cap : Nat} {ts : List TypeId} {ds : List (DataW H)} {j : Nat}
    (hf : DataW.trod enc Try.prog W 0 (fun _ => true) true fuel 23 cs = some (d, p)) (hcs : cs = [.slice a len cap])
    (hsz : (DataW.weightsEach Try.prog ts ds).all (· ≤ reachBytes) = true) (ht : ts[j]? = some 23) (hd : ds[j]? = some d) : ∃ hs, AIn W a len cap hs := by
  have hrb : reachBytes ≤ 140737488355328 := Nat.le_of_lt reachBytes_lt
  have hc7 : Try.prog.cellsOf 36 = 7 := by kernel_rfl
  rcases Go.Deep.open_slice Try.underlying23 hf with ⟨h0, _⟩ | ⟨x, l, c, m, n, D, Pl, h0, _, hl, hm, hmm, hx, hall⟩
  · rw [hcs] at h0
    simp only [List.cons.injEq, Value.slice.injEq, and_true] at h0
    obtain ⟨rfl, rfl, rfl⟩ := h0
    exact ⟨[], ⟨rfl, by omega, .inl rfl⟩, (fun _ => ⟨rfl, rfl⟩), by omega, fun i hi => by omega⟩
  · rw [hcs] at h0
    simp only [List.cons.injEq, Value.slice.injEq, and_true] at h0
    obtain ⟨rfl, rfl, rfl⟩ := h0
    simp only [if_true] at hmm
    subst hmm
    simp only [Prod.mk.injEq] at hx
    obtain ⟨rfl, _⟩ := hx
    have hlen : len ≤ 140737488355328 := by
      have := sized_slice hsz ht hd Try.underlying23
      simp only [List.length_map, List.length_range] at this
      have hb : Try.prog.bytesOf 36 = 104 := by kernel_rfl
      rw [hb] at this
      omega
    rw [hc7] at hall
    rcases Nat.eq_zero_or_pos m with h0 | h0
    · obtain rfl : len = 0 := by omega
      exact ⟨[], ⟨rfl, by omega, .inl rfl⟩, (fun h => by cases h), by omega, fun i hi => by omega⟩
    · obtain ⟨b, off, spot⟩ := x
      have hs : spot = none := by
        obtain ⟨cs', h1, _⟩ := hall 0 h0
        obtain ⟨_, hlen', hcell⟩ := World.cells?_some h1
        have q0 := hcell 0 (by omega)
        have : 0 < cs'.length := by omega
        rw [List.getElem?_eq_getElem this] at q0
        simpa [Addr.add] using World.cell?_spot q0
      subst hs
      have hfr : ∀ i, i < len → ∃ x : AH, TAt ah W b (off + i * 7) x ∧ ∃ bs zs, IsAct W x bs zs := by
        intro i hi
        obtain ⟨cs', h1, h2⟩ := hall i (by omega)
        rw [add_at] at h1
        obtain ⟨V0, V1, V2, V3, V4, V5, V6, rfl, hcells⟩ := cells_seven h1
        refine act_at hcells h2 ?_ ?_
        · intro d0 d1 d2 d4 d5 e' sp' hD
          have := sized_b (d0 := d0) (d1 := d1) (d2 := d2) (d4 := d4) (d5 := d5) (e' := e') (sp' := sp') hsz ht hd Try.underlying23 Try.underlying36 Try.underlying31 (by
            simp only [List.mem_map, List.mem_range]
            exact ⟨i, hi, hD⟩)
          have hb : Try.prog.bytesOf 5 = 1 := by kernel_rfl
          rw [hb] at this
          omega
        · intro d0 d1 d2 d3 d4 c0 e' sp' hD
          have := sized_t (d0 := d0) (d1 := d1) (d2 := d2) (d3 := d3) (d4 := d4) (c0 := c0) (e' := e') (sp' := sp') hsz ht hd Try.underlying23 Try.underlying36 Try.underlying34 Try.underlying32 (by
            simp only [List.mem_map, List.mem_range]
            exact ⟨i, hi, hD⟩)
          have hb : Try.prog.bytesOf 3 = 8 := by kernel_rfl
          rw [hb] at this
          omega
      haveI : Inhabited AH := ⟨ahz⟩
      obtain ⟨f, hf⟩ := Go.Deep.choose_lt hfr
      refine ⟨(List.range len).map f, ⟨by simp, by omega, .inr ⟨b, off, rfl, fun i hi => ?_⟩⟩, (fun h => by cases h), hl, fun i hi => ?_⟩
      · rw [show ((List.range len).map f).getD i ahz = f i by simp [hi]]
        exact (hf i hi).1
      · rw [show ((List.range len).map f).getD i ahz = f i by simp [hi]]
        exact (hf i hi).2
end Go.Proofs.Ytefadkengfjdmaa
