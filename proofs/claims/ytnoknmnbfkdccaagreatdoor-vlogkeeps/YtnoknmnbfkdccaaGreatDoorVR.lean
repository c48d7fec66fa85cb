/- Rows of values: slices of slices of bytes; how they come in as an argument. -/
import Derived.Test.YtnoknmnbfkdccaaGreatDoorGa
import Derived.Test.YtnoknmnbfkdccaaGreatDoorG2
import Derived.Test.YtnoknmnbfkdccaaGreatDoorOT
namespace Go.Proofs.YtnoknmnbfkdccaaGreatDoor
open Go.ChangeShapes Go.WideShapes Go.RowKit

/-- a value as it lies in a row: where, how many bytes, room -/
structure VH where
  a : Option Addr
  n : Nat
  c : Nat
def vhz : VH := ⟨none, 0, 0⟩
def vhe (h : VH) : List Value := [.slice h.a h.n h.c]
/-- what is behind them -/
def VAt (w : World) (h : VH) (v : List Nat) : Prop := Row .u8 w h.a h.n v ∧ (h.a = none → h.n = 0 ∧ h.c = 0) ∧ h.n ≤ h.c ∧ Shape h.a h.n h.c
theorem VAt.below {w w' : World} {B : Nat} {h : VH} {v : List Nat} (hv : VAt w h v) (hb : Below B w w') (hB : w.heap.size ≤ B) : VAt w' h v := ⟨hv.1.below hb hB, hv.2⟩
def VAll (w : World) (hs : List VH) (vs : List (List Nat)) : Prop := hs.length = vs.length ∧ ∀ i, i < hs.length → VAt w (hs.getD i vhz) (vs.getD i [])
theorem VAll.below {w w' : World} {B : Nat} {hs : List VH} {vs : List (List Nat)} (hv : VAll w hs vs) (hb : Below B w w') (hB : w.heap.size ≤ B) : VAll w' hs vs := ⟨hv.1, fun i hi => (hv.2 i hi).below hb hB⟩
def InV (w : World) (a : Option Addr) (n c : Nat) (hs : List VH) (vs : List (List Nat)) : Prop := TRow 1 vhe vhz w a n hs ∧ VAll w hs vs ∧ (a = none → n = 0 ∧ c = 0) ∧ n ≤ c
theorem InV.below {w w' : World} {B : Nat} {a : Option Addr} {n c : Nat} {hs : List VH} {vs : List (List Nat)} (h : InV w a n c hs vs) (hb : Below B w w') (hB : w.heap.size ≤ B) : InV w' a n c hs vs := ⟨h.1.below hb hB, h.2.1.below hb hB, h.2.2⟩
theorem InV.len {w : World} {a : Option Addr} {n c : Nat} {hs : List VH} {vs : List (List Nat)} (h : InV w a n c hs vs) : vs.length = n := h.2.1.1.symm.trans h.1.1
/-- the i-th slice, and the value behind it -/
theorem InV.get {w : World} {a : Option Addr} {n c : Nat} {hs : List VH} {vs : List (List Nat)} (h : InV w a n c hs vs) (hn : 0 < n) :
    ∃ b off, a = some ⟨b, off, none⟩ ∧ ∀ i, i < n → w.cell? ⟨b, off + i, none⟩ = some (.slice (hs.getD i vhz).a (hs.getD i vhz).n (hs.getD i vhz).c) ∧ VAt w (hs.getD i vhz) (vs.getD i []) := by
  obtain ⟨b, off, rfl, hc⟩ := h.1.at hn
  refine ⟨b, off, rfl, fun i hi => ⟨?_, h.2.1.2 i (by rw [h.1.1]; exact hi)⟩⟩
  have := hc i hi 0 _ (rfl : (vhe (hs.getD i vhz))[0]? = some (.slice (hs.getD i vhz).a (hs.getD i vhz).n (hs.getD i vhz).c))
  simpa using this

set_option maxRecDepth 100000 in
theorem open_vals {H : Type} {enc : TypeId × Value → H} {W : World} {fuel : Nat} {cs : List Value} {d : DataW H} {p : List MemPlace} {a : Option Addr} {len cap : Nat} {ts : List TypeId} {ds : List (DataW H)} {j : Nat}
    (hf : DataW.trod enc Tryz.prog W 0 (fun _ => true) true fuel 48 cs = some (d, p)) (hcs : cs = [.slice a len cap])
    (hsz : (DataW.weightsEach Tryz.prog ts ds).all (· ≤ reachBytes) = true) (ht : ts[j]? = some 48) (hd : ds[j]? = some d) : ∃ hs vs, InV W a len cap hs vs ∧ len ≤ 140737488355328 ∧ (∀ v ∈ vs, v.length ≤ 140737488355328) := by
  have hrb : reachBytes ≤ 140737488355328 := Nat.le_of_lt reachBytes_lt
  have hc1 : Tryz.prog.cellsOf 39 = 1 := by kernel_rfl
  rcases Go.Deep.open_slice Tryz.underlying48 hf with ⟨h0, _⟩ | ⟨x, l, c, m, n, D, Pl, h0, _, hl, hm, hmm, hx, hall⟩
  · rw [hcs] at h0
    simp only [List.cons.injEq, Value.slice.injEq, and_true] at h0
    obtain ⟨rfl, rfl, rfl⟩ := h0
    exact ⟨[], [], ⟨TRow.nil _ _, ⟨rfl, fun i hi => by simp at hi⟩, fun _ => ⟨rfl, rfl⟩, by omega⟩, by omega, fun v hv => by cases hv⟩
  · rw [hcs] at h0
    simp only [List.cons.injEq, Value.slice.injEq, and_true] at h0
    obtain ⟨rfl, rfl, rfl⟩ := h0
    simp only [if_true] at hmm
    subst hmm
    simp only [Prod.mk.injEq] at hx
    obtain ⟨rfl, _⟩ := hx
    have hlen : len ≤ 140737488355328 := by
      have := sized_slice hsz ht hd Tryz.underlying48
      simp only [List.length_map, List.length_range] at this
      have hb : Tryz.prog.bytesOf 39 = 24 := by kernel_rfl
      rw [hb] at this
      omega
    rw [hc1] at hall
    rcases Nat.eq_zero_or_pos m with h0 | h0
    · obtain rfl : len = 0 := by omega
      exact ⟨[], [], ⟨TRow.nil _ _, ⟨rfl, fun i hi => by simp at hi⟩, (fun h => by cases h), by omega⟩, by omega, fun v hv => by cases hv⟩
    · obtain ⟨b, off, spot⟩ := x
      have hs : spot = none := by
        obtain ⟨cs', h1, _⟩ := hall 0 h0
        obtain ⟨_, hlen', hcell⟩ := World.cells?_some h1
        have q0 := hcell 0 (by omega)
        have : 0 < cs'.length := by omega
        rw [List.getElem?_eq_getElem this] at q0
        simpa [Addr.add] using World.cell?_spot q0
      subst hs
      have hfr : ∀ i, i < len → ∃ z : VH × List Nat, TAt vhe W b (off + i * 1) z.1 ∧ VAt W z.1 z.2 ∧ z.2.length ≤ 140737488355328 := by
        intro i hi
        obtain ⟨cs', h1, h2⟩ := hall i (by omega)
        rw [add_at] at h1
        obtain ⟨_, hlen', hcell⟩ := World.cells?_some h1
        match cs', hlen' with
        | [V], _ =>
          have hv : W.cell? ⟨b, off + i * 1, none⟩ = some V := by simpa [Addr.add] using hcell 0 (by omega)
          have hall' := hsz
          rw [List.all_eq_true] at hall'
          rcases open_ints Tryz.underlying39 Tryz.underlying5 (by kernel_rfl) h2 with ⟨hcs, _⟩ | ⟨x, l, c, zs, hcs, _, hl, hm, hz, hD, hcl, hwz⟩
          · simp only [List.cons.injEq, and_true] at hcs
            subst hcs
            refine ⟨(vhz, []), fun j v hj => ?_, ⟨⟨rfl, by show (0 : Nat) ≤ _; omega, by simp, .inl rfl⟩, fun _ => ⟨rfl, rfl⟩, Nat.le_refl _, .inl ⟨rfl, rfl⟩⟩, by simp⟩
            match j, hj with
            | 0, hj => cases hj; exact hv
            | j + 1, hj => simp [vhe] at hj
          · simp only [List.cons.injEq, and_true] at hcs
            subst hcs
            simp only [if_true] at hz
            have hw := hall' ((lits .u8 (zs.take l)).length + (lits .u8 (zs.drop l)).length) (DataW.weights_mem_each ht hd _ (by
              simp only [DataW.weights, Tryz.underlying48, List.mem_cons, List.mem_append]
              refine Or.inr (Or.inl (weightsAll_in (d := (D i)) ?_ _ ?_))
              · simp only [List.mem_map, List.mem_range]
                exact ⟨i, hi, rfl⟩
              · have hb : Tryz.prog.bytesOf 5 = 1 := by kernel_rfl
                have e := hD
                simp only [Prod.mk.injEq] at e
                rw [e.1]
                simp [DataW.weights, Tryz.underlying39, hb]
                exact .inl rfl))
            have hw' := of_decide_eq_true hw
            have hl' : l + (c - l) ≤ 140737488355328 := by
              simp only [lits, List.length_map, List.length_take, List.length_drop, hz] at hw'
              omega
            have hrow : IsRow .u8 W (some x) l c zs := .inr ⟨x, rfl, hl, hm, hz, hcl, hwz⟩
            obtain ⟨bs, hbs⟩ : ∃ bs, Row .u8 W (some x) l bs := row_of (.inl rfl) hrow (by omega)
            refine ⟨(⟨some x, l, c⟩, bs), fun j v hj => ?_, ⟨hbs, (fun h => by cases h), hl, shape_of hrow⟩, by show bs.length ≤ _; rw [hbs.1]; omega⟩
            match j, hj with
            | 0, hj => cases hj; exact hv
            | j + 1, hj => simp [vhe] at hj
      haveI : Inhabited (VH × List Nat) := ⟨(vhz, [])⟩
      obtain ⟨f, hf⟩ := Go.Deep.choose_lt hfr
      refine ⟨(List.range len).map (fun i => (f i).1), (List.range len).map (fun i => (f i).2), ⟨⟨by simp, by omega, .inr ⟨b, off, rfl, fun i hi => ?_⟩⟩, ⟨by simp, fun i hi => ?_⟩, (fun h => by cases h), hl⟩, hlen, ?_⟩
      · rw [show ((List.range len).map (fun i => (f i).1)).getD i vhz = (f i).1 by simp [hi]]
        exact (hf i hi).1
      · have hi' : i < len := by simpa using hi
        rw [show ((List.range len).map (fun i => (f i).1)).getD i vhz = (f i).1 by simp [hi'], show ((List.range len).map (fun i => (f i).2)).getD i [] = (f i).2 by simp [hi']]
        exact (hf i hi').2.1
      · intro v hv
        simp only [List.mem_map, List.mem_range] at hv
        obtain ⟨i, hi, rfl⟩ := hv
        exact (hf i hi).2.2
end Go.Proofs.YtnoknmnbfkdccaaGreatDoor
