/- From the reading of an argument that is a slice of frames to a row of frames. -/
import Derived.Test.YtgdefibgifcbaaaFA
import Derived.Deep.SlicePairs
import Derived.SizedLaws
import Derived.ProofKit
namespace Go.Proofs.Ytgdefibgifcbaaa
open Go.ChangeShapes Go.WideShapes Go.RowKit

set_option maxRecDepth 100000 in
theorem weightsAll_in {H : Type} {P : Program} {e : TypeId} : ∀ {l : List (DataW H)} {d : DataW H}, d ∈ l → ∀ n ∈ d.weights P e, n ∈ DataW.weightsAll P e l
  | x :: l, d, h, n, hn => by
    simp only [DataW.weightsAll, List.mem_append]
    rcases List.mem_cons.1 h with rfl | h
    · exact .inl hn
    · exact .inr (weightsAll_in h n hn)
set_option maxRecDepth 100000 in
/-- the size of a slice that is the second field of an element -/
theorem sized_field {H : Type} {P : Program} {ts : List TypeId} {ds : List (DataW H)} (h : (DataW.weightsEach P ts ds).all (· ≤ reachBytes) = true) {j : Nat} {t e q : TypeId} {f0 f1 : Field} {elems spare e' sp' : List (DataW H)} {d0 : DataW H}
    (ht : ts[j]? = some t) (hd : ds[j]? = some (.slice elems spare)) (hu : P.underlying t = some (.slice e)) (hs : P.underlying e = some (.struct #[f0, f1])) (hf : P.underlying f1.type = some (.slice q)) (hx : DataW.agg [d0, .slice e' sp'] ∈ elems) :
    (e'.length + sp'.length) * P.bytesOf q ≤ reachBytes := by
  refine of_decide_eq_true (List.all_eq_true.1 h _ (DataW.weights_mem_each ht hd _ ?_))
  simp only [DataW.weights, hu, List.mem_cons, List.mem_append]
  refine Or.inr (Or.inl (weightsAll_in hx _ ?_))
  simp only [DataW.weights, hs, List.map_cons, List.map_nil, DataW.weightsEach, List.mem_append]
  refine .inr (.inl ?_)
  simp [hf]

/-- what came in, as frames -/
def IsFrames (w : World) (a : Option Addr) (len cap : Nat) (fs : List Fr.F) : Prop :=
  FRow w a len fs ∧ (a = none → len = 0 ∧ cap = 0) ∧ Shape a len cap ∧ (∀ f ∈ fs, f.2.length ≤ 140737488355328) ∧ len ≤ 140737488355328

set_option maxRecDepth 100000 in
theorem frame_at {H : Type} {enc : TypeId × Value → H} {W : World} {b o n : Nat} {V0 V1 : Value} {D0 D1 : DataW H} {P0 P1 : List MemPlace}
    (h0 : W.cell? ⟨b, o, none⟩ = some V0) (h1 : W.cell? ⟨b, o + 1, none⟩ = some V1)
    (t0 : DataW.trod enc Try.prog W 0 (fun _ => true) true n 3 [V0] = some (D0, P0)) (t1 : DataW.trod enc Try.prog W 0 (fun _ => true) true n 23 [V1] = some (D1, P1))
    (hs : ∀ e' sp', D1 = .slice e' sp' → e'.length + sp'.length ≤ 140737488355328) : ∃ f : Fr.F, FAt W b o f ∧ f.2.length ≤ 140737488355328 := by
  obtain ⟨k, hk, _, hkw⟩ := DataW.trod_int Try.underlying3 t0
  simp only [List.cons.injEq, and_true] at hk
  subst hk
  have hkb : -9223372036854775808 ≤ k ∧ k ≤ 9223372036854775807 := by
    simp [Lit.wf, IntKind.min, IntKind.max, IntKind.bits, IntKind.signed] at hkw
    omega
  rcases open_ints Try.underlying23 Try.underlying5 (by kernel_rfl) t1 with ⟨hcs, _⟩ | ⟨x, l, c, zs, hcs, _, hl, hm, hz, hd, hcell, hwz⟩
  · simp only [List.cons.injEq, and_true] at hcs
    subst hcs
    exact ⟨(k, []), ⟨none, 0, 0, h0, h1, ⟨rfl, by omega, by simp, .inl rfl⟩, .inl ⟨rfl, rfl⟩, fun _ => ⟨rfl, rfl⟩, hkb⟩, by simp⟩
  · simp only [List.cons.injEq, and_true] at hcs
    subst hcs
    simp only [if_true] at hz
    have hsz := hs (lits .u8 (zs.take l)) (lits .u8 (zs.drop l)) (by have := hd; simp only [Prod.mk.injEq] at this; exact this.1)
    have hl' : l + (c - l) ≤ 140737488355328 := by
      simp only [lits, List.length_map, List.length_take, List.length_drop, hz] at hsz
      omega
    have hrow : IsRow .u8 W (some x) l c zs := .inr ⟨x, rfl, hl, hm, hz, hcell, hwz⟩
    have : ∃ bs, Row .u8 W (some x) l bs := row_of (.inl rfl) hrow (by omega)
    obtain ⟨bs, hbs⟩ := this
    exact ⟨(k, bs), ⟨some x, l, c, h0, h1, hbs, shape_of hrow, (fun h => by cases h), hkb⟩, by show bs.length ≤ _; rw [hbs.1]; omega⟩

set_option maxRecDepth 100000 in
theorem open_frames {H : Type} {enc : TypeId × Value → H} {W : World} {fuel : Nat} {cs : List Value} {d : DataW H} {p : List MemPlace} {a : Option Addr} {len cap : Nat} {ts : List TypeId} {ds : List (DataW H)} {j : Nat}
    (hf : DataW.trod enc Try.prog W 0 (fun _ => true) true fuel 52 cs = some (d, p)) (hcs : cs = [.slice a len cap])
    (hsz : (DataW.weightsEach Try.prog ts ds).all (· ≤ reachBytes) = true) (ht : ts[j]? = some 52) (hd : ds[j]? = some d) : ∃ fs, IsFrames W a len cap fs := by
  have hrb : reachBytes ≤ 140737488355328 := Nat.le_of_lt reachBytes_lt
  rcases Go.Deep.open_slice_pairs Try.underlying52 Try.underlying39 (by kernel_rfl) rfl rfl (by kernel_rfl) (by kernel_rfl) hf with ⟨h0, _⟩ | ⟨x, l, c, m, n, V0, V1, D0, D1, P0, P1, h0, _, hl, hm, hmm, hx, hall⟩
  · rw [hcs] at h0
    simp only [List.cons.injEq, Value.slice.injEq, and_true] at h0
    obtain ⟨rfl, rfl, rfl⟩ := h0
    exact ⟨[], ⟨rfl, by omega, .inl rfl⟩, fun _ => ⟨rfl, rfl⟩, .inl ⟨rfl, rfl⟩, by simp, by omega⟩
  · rw [hcs] at h0
    simp only [List.cons.injEq, Value.slice.injEq, and_true] at h0
    obtain ⟨rfl, rfl, rfl⟩ := h0
    simp only [if_true] at hmm
    subst hmm
    simp only [Prod.mk.injEq] at hx
    obtain ⟨rfl, _⟩ := hx
    have hlen : len ≤ 140737488355328 := by
      have := sized_slice hsz ht hd Try.underlying52
      simp only [List.length_map, List.length_range] at this
      have hb : Try.prog.bytesOf 39 = 32 := by kernel_rfl
      rw [hb] at this
      omega
    rcases Nat.eq_zero_or_pos m with h0 | h0
    · obtain rfl : len = 0 := by omega
      exact ⟨[], ⟨rfl, by omega, .inl rfl⟩, (fun h => by cases h), .inl ⟨rfl, h0⟩, by simp, by omega⟩
    · obtain ⟨b, off, spot⟩ := x
      have hs : spot = none := by simpa [Addr.add] using World.cell?_spot (hall 0 h0).1
      subst hs
      have hfr : ∀ i, i < len → ∃ f : Fr.F, FAt W b (off + i * 2) f ∧ f.2.length ≤ 140737488355328 := by
        intro i hi
        obtain ⟨q0, q1, t0, t1⟩ := hall i (by omega)
        rw [add_at] at q0 q1
        refine frame_at q0 (by rw [Nat.add_assoc]; exact q1) t0 t1 ?_
        intro e' sp' hD
        have := sized_field (d0 := D0 i) (e' := e') (sp' := sp') hsz ht hd Try.underlying52 Try.underlying39 Try.underlying23 (by
          simp only [List.mem_map, List.mem_range]
          exact ⟨i, hi, by rw [hD]⟩)
        have hb : Try.prog.bytesOf 5 = 1 := by kernel_rfl
        rw [hb] at this
        omega
      obtain ⟨f, hf⟩ := Go.Deep.choose_lt hfr
      refine ⟨(List.range len).map f, ⟨by simp, by omega, .inr ⟨b, off, rfl, fun i hi => ?_⟩⟩, (fun h => by cases h), .inr ⟨b, off, rfl, hl⟩, ?_, hlen⟩
      · have : ((List.range len).map f).getD i (0, []) = f i := by simp [hi]
        rw [this]; exact (hf i hi).1
      · intro g hg
        simp only [List.mem_map, List.mem_range] at hg
        obtain ⟨i, hi, rfl⟩ := hg
        exact (hf i hi).2
end Go.Proofs.Ytgdefibgifcbaaa
