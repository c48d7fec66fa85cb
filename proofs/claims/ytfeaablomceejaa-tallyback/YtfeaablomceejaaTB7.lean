/- What slices.IndexFunc and slices.DeleteFunc over shares do, with isEmpty. -/
import Derived.Test.YtfeaablomceejaaTB6
import Derived.Lib.SliceRun
namespace Go.Proofs.Ytfeaablomceejaa
open Go.RowKit

/-- isEmpty, as a value -/
abbrev temptyv : Value := .func (.func 29) #[] #[]
theorem temptyB (x : Ta.S) (r : Bool) (hr : r = decide (x.2 = 0)) (w : World) : Calls Try.prog 29 #[sv x] w fun e w' => e = .returned (.bool r) ∧ Below w.heap.size w w' :=
  (tempty_any x r hr w).mono fun e w' h => ⟨h.1, by rw [h.2]; exact below_alloc _ _⟩

/-- the first empty share -/
def Fst (l : List Ta.S) (n : Nat) (r : Int) : Prop := (r = -1 ∧ ∀ x ∈ l, x.2 ≠ 0) ∨ ∃ k : Nat, r = k ∧ k < n ∧ (l.getD k (0, 0)).2 = 0 ∧ ∀ j, j < k → (l.getD j (0, 0)).2 ≠ 0

set_option maxRecDepth 100000 in
set_option maxHeartbeats 1000000 in
theorem tindex_any (a : Option Addr) (n c : Nat) (l : List Ta.S) (w : World) (hn : n ≤ 1000000) (hr : ShRow w a n l) :
    Calls Try.prog 35 #[.slice a n c, temptyv] w fun e w' => ∃ r : Int, e = .returned (.int .i64 r) ∧ Fst l n r ∧ Below w.heap.size w w' := by
  have hll : Hid (l.length = n) := hr.1
  go_enter Try.func35, Try.ntmps35
  go_wp2
  go_loopw [8] (fun i wr => ∃ k : Nat, k ≤ n ∧ i = .int .i64 k ∧ Hid (∀ j, j < k → (l.getD j (0, 0)).2 ≠ 0) ∧ Below w.heap.size w wr) (fun i _ => n - (intOf i).toNat)
  case atStart => exact ⟨0, by omega, rfl, (fun j hj => by omega : ∀ j, j < 0 → (l.getD j (0, 0)).2 ≠ 0), Below.refl _ _⟩
  case round =>
    obtain ⟨k, hk, rfl, H, hbel⟩ := hrel
    by_cases hlt : k < n
    · obtain ⟨b, off, rfl, hc⟩ := hr.cell (by omega)
      obtain ⟨e0, e1⟩ := hc k hlt
      have p0 := (hbel.cell (p := ⟨b, off + k * 2, none⟩) (cell_lt e0)).trans e0
      have p1 := (hbel.cell (p := ⟨b, off + k * 2 + 1, none⟩) (cell_lt e1)).trans e1
      have Hz : Hid (∀ z, z = (l.getD k (0, 0)).2 → z ≠ 0 → ∀ j, j < k + 1 → (l.getD j (0, 0)).2 ≠ 0) := (fun z hz hz' j hj => by
        rcases Nat.lt_or_ge j k with h | h
        · exact H.out j h
        · obtain rfl : j = k := by omega
          rw [← hz]; exact hz' : ∀ z, z = (l.getD k (0, 0)).2 → z ≠ 0 → ∀ j, j < k + 1 → (l.getD j (0, 0)).2 ≠ 0)
      have hem := fun r hr W => temptyB (l.getD k (0, 0)) r hr W
      obtain ⟨x, hx⟩ : ∃ x, x = l.getD k (0, 0) := ⟨_, rfl⟩
      rw [← hx] at p0 p1 hem
      have HX : Hid (x = l.getD k (0, 0)) := hx
      obtain ⟨x1, x2⟩ := x
      simp only [sv] at p0 p1 hem
      have i0 : (0 : Int) ≤ (k : Int) := by omega
      have i1 : (k : Int) < (n : Int) := by omega
      clear e0 e1 hc hx
      by_cases hx2 : x2 = 0
      · have hem1 := fun W => hem true (by simp [hx2]) W
        have HX2 : Hid (x2 = 0) := hx2
        clear hem hx2
        go_wp2_with (go_at_call 29; go_must (refine (hem1 _).mono ?_; rintro e w2 ⟨rfl, hb2⟩))
        go_ret
        exact ⟨(k : Int), rfl, .inr ⟨k, rfl, hlt, by rw [← HX.out]; exact HX2.out, H.out⟩, hbel.trans (hb2.mono hbel.size)⟩
      · have hem1 := fun W => hem false (by simp [hx2]) W
        have H2 : Hid (∀ j, j < k + 1 → (l.getD j (0, 0)).2 ≠ 0) := Hz.out x2 (by rw [← HX.out]) hx2
        clear hem hx2
        go_wp2_with (go_at_call 29; go_must (refine (hem1 _).mono ?_; rintro e w2 ⟨rfl, hb2⟩))
        go_roundw
        case rel => exact ⟨k + 1, by omega, by go_num, H2, hbel.trans (hb2.mono hbel.size)⟩
        case measure => simp [intOf]; omega
    · obtain rfl : k = n := by omega
      have HF : Hid (Fst l k (-1)) := (.inl ⟨rfl, fun x hx => by
        obtain ⟨t, ht, rfl⟩ := List.getElem_of_mem hx
        have := H.out t (by rw [← hll.out]; exact ht)
        simpa [ht] using this⟩ : Fst l k (-1))
      go_wp2
      go_ret
      exact ⟨-1, rfl, HF.out, hbel⟩

/-- clear of a slice of shares -/
theorem run_clear2 (w : World) (ty : TypeId) (b o n c : Nat) (hn : 0 < n) (hc : ∀ j, j < n * 2 → (w.cell? ⟨b, o + j, none⟩).isSome = true) (hf : ∀ j, j < n * 2 → w.frozen? ⟨b, o + j, none⟩ = false) :
    (Builtin.clear_ #[22] ty #[.slice (some ⟨b, o, none⟩) n c]).run Try.prog w = .ok (.tuple #[]) (w.setCells b o (Builtin.zeroCells (Value.agg #[.int .i64 0, .int .i64 0]).cells n).toList) := by
  have hlen : (Builtin.zeroCells (Value.agg #[.int .i64 0, .int .i64 0]).cells n).toList.length = n * 2 := by simp [Builtin.zeroCells, Value.cells]
  have hone : ∀ v ∈ (Builtin.zeroCells (Value.agg #[.int .i64 0, .int .i64 0]).cells n).toList, v.oneCell' = true := by
    intro v hv
    simp [Builtin.zeroCells, Value.cells] at hv
    obtain ⟨t, _, rfl⟩ := hv
    have : t % 2 = 0 ∨ t % 2 = 1 := by omega
    rcases this with h | h <;> simp [h] <;> rfl
  have hst := run_storeCells_cells (P := Try.prog) b o _ 0 w (by rw [hlen]; simpa using hc) (by rw [hlen]; simpa using hf) hone
  simp only [Nat.add_zero] at hst
  obtain ⟨m, rfl⟩ : ∃ m, n = m + 1 := ⟨n - 1, by omega⟩
  have hv : ∀ w, (zeroValue 47).run Try.prog w = .ok (.agg #[.int .i64 0, .int .i64 0]) w := Try.zeroValue47
  simp [Builtin.clear_, run_underlying Try.underlying22, hv, hst]

theorem own_take {w : World} {B E g n c m : Nat} {xs : List Value} (h : w.ownsRow B E 2 (.slice (some ⟨g, 0, none⟩) n c) n xs) (hm : m ≤ n) : w.ownsRow B E 2 (.slice (some ⟨g, 0, none⟩) m c) m (xs.take (m * 2)) := by
  obtain ⟨h1, h2⟩ := h
  refine ⟨by rw [List.length_take, h1]; omega, ?_⟩
  rcases h2 with ⟨e, _⟩ | ⟨g', cap, cur, e, hB, hg, hn, hmx, hs, ht⟩
  · cases e
  · simp only [Value.slice.injEq, Option.some.injEq, Addr.mk.injEq] at e
    obtain ⟨⟨rfl, _⟩, _, rfl⟩ := e
    refine .inr ⟨g, c, cur, rfl, hB, hg, by omega, hmx, hs, ?_⟩
    rw [← ht, List.take_take, Nat.min_eq_left (by omega)]
theorem own_sets {B E g n c : Nat} : ∀ (vs : List Value) (o : Nat) {w : World} {xs : List Value}, n * 2 ≤ o → w.ownsRow B E 2 (.slice (some ⟨g, 0, none⟩) n c) n xs → (w.setCells g o vs).ownsRow B E 2 (.slice (some ⟨g, 0, none⟩) n c) n xs
  | [], _, _, _, _, h => h
  | v :: vs, o, w, xs, ho, h => by
    have h2 := own_store h o v
    rw [List.set_eq_of_length_le (by rw [h.1]; exact ho)] at h2
    exact own_sets vs (o + 1) (by omega) h2
theorem turned_sets (g : Nat) : ∀ (vs : List Value) (o : Nat) (w : World), w.grownBy (w.setCells g o vs) (some g)
  | [], _, _ => ⟨rfl, rfl, rfl, Nat.le_refl _, fun _ _ _ => rfl⟩
  | v :: vs, o, w => (turned_set w g o v).trans (turned_sets g vs (o + 1) _)
theorem tcells_set_both (z0 z1 : Int) : ∀ (l : List Ta.S) (j : Nat), j < l.length → ((tcells se l).set (j * 2) (.int .i64 z0)).set (j * 2 + 1) (.int .i64 z1) = tcells se (l.set j (z0, z1))
  | [], j, h => by simp at h
  | x :: l, 0, _ => by simp [tcells, se]
  | x :: l, j + 1, h => by
    have e : tcells se (x :: l) = .int .i64 x.1 :: .int .i64 x.2 :: tcells se l := rfl
    have e2 : tcells se ((x :: l).set (j + 1) (z0, z1)) = .int .i64 x.1 :: .int .i64 x.2 :: tcells se (l.set j (z0, z1)) := by
      rw [List.set_cons_succ]; rfl
    rw [e, e2, show (j + 1) * 2 = j * 2 + 1 + 1 by omega, List.set_cons_succ, List.set_cons_succ, List.set_cons_succ, List.set_cons_succ, tcells_set_both z0 z1 l j (by simpa using h)]
theorem tcells_take (l : List Ta.S) (m : Nat) : (tcells se l).take (m * 2) = tcells se (l.take m) := by
  induction l generalizing m with
  | nil => simp [tcells]
  | cons x l ih =>
    cases m with
    | zero => simp [tcells]
    | succ m =>
      have e : tcells se (x :: l) = .int .i64 x.1 :: .int .i64 x.2 :: tcells se l := rfl
      have e2 : tcells se ((x :: l).take (m + 1)) = .int .i64 x.1 :: .int .i64 x.2 :: tcells se (l.take m) := by rw [List.take_succ_cons]; rfl
      rw [e, e2, show (m + 1) * 2 = m * 2 + 1 + 1 by omega, List.take_succ_cons, List.take_succ_cons, ih]
theorem grown_none {w w' : World} (h : Below w.heap.size w w') : w.grownBy w' none := ⟨h.os, h.tape, h.output, h.size, fun k hk _ => h.block k hk⟩
theorem own_kept {w w' : World} {B E s n : Nat} {v : Value} {xs : List Value} (h : w.ownsRow B E s v n xs) (hb : Below w.heap.size w w') : w'.ownsRow B E s v n xs := h.kept (grown_none hb) (by cases hv : v.ownBlock <;> simp)

namespace Ta
/-- what has bytes -/
def keep (l : List S) : List S := l.filter (fun x => decide (x.2 ≠ 0))
/-- how a tally stands whose empty shares are being taken out: i shares are kept of the first j -/
structure Del (l : List S) (i j : Nat) (cur : List S) : Prop where
  lt : i < j
  le : j ≤ l.length
  len : cur.length = l.length
  front : cur.take i = keep (l.take j)
  rest : cur.drop j = l.drop j
theorem keep_all {l : List S} (h : ∀ x ∈ l, x.2 ≠ 0) : keep l = l := by
  unfold keep; rw [List.filter_eq_self]; intro x hx; simp [h x hx]
theorem keep_snoc (l : List S) (x : S) : keep (l ++ [x]) = keep l ++ if x.2 = 0 then [] else [x] := by
  unfold keep; rw [List.filter_append]; congr 1; by_cases h : x.2 = 0 <;> simp [h]
theorem take_snoc {l : List S} {j : Nat} (hj : j < l.length) : l.take (j + 1) = l.take j ++ [l.getD j (0, 0)] := by rw [List.take_succ_eq_append_getElem hj]; simp [hj]
theorem del_start {l : List S} {k : Nat} (hk : k < l.length) (h0 : (l.getD k (0, 0)).2 = 0) (h : ∀ j, j < k → (l.getD j (0, 0)).2 ≠ 0) : Del l k (k + 1) l := by
  refine ⟨by omega, by omega, rfl, ?_, rfl⟩
  rw [take_snoc hk, keep_snoc, if_pos h0, List.append_nil, keep_all]
  intro x hx
  obtain ⟨t, ht, rfl⟩ := List.getElem_of_mem hx
  rw [List.length_take] at ht
  have := h t (by omega)
  simpa [show t < l.length by omega] using this
theorem del_at {l cur : List S} {i j : Nat} (h : Del l i j cur) : cur.getD j (0, 0) = l.getD j (0, 0) := by
  have e := h.rest
  have h1 : (cur.drop j)[0]? = (l.drop j)[0]? := by rw [e]
  rw [List.getElem?_drop, List.getElem?_drop, Nat.add_zero] at h1
  rw [List.getD_eq_getElem?_getD, List.getD_eq_getElem?_getD, h1]
theorem del_skip {l cur : List S} {i j : Nat} (h : Del l i j cur) (hj : j < l.length) (h0 : (l.getD j (0, 0)).2 = 0) : Del l i (j + 1) cur := by
  refine ⟨by have := h.lt; omega, hj, h.len, ?_, ?_⟩
  · rw [take_snoc hj, keep_snoc, if_pos h0, List.append_nil, h.front]
  · have := h.rest
    rw [← List.drop_drop, ← List.drop_drop, this]
theorem del_keep {l cur : List S} {i j : Nat} (h : Del l i j cur) (hj : j < l.length) (h0 : (l.getD j (0, 0)).2 ≠ 0) : Del l (i + 1) (j + 1) (cur.set i (l.getD j (0, 0))) := by
  have hlt := h.lt
  have hl := h.len
  refine ⟨by omega, hj, by rw [List.length_set]; exact hl, ?_, ?_⟩
  · rw [take_snoc hj, keep_snoc, if_neg h0, ← h.front, List.take_succ_eq_append_getElem (by rw [List.length_set]; omega), List.take_set_of_le (Nat.le_refl _)]
    simp
  · rw [List.drop_set_of_lt (by omega)]
    have := h.rest
    rw [← List.drop_drop, ← List.drop_drop, this]
theorem del_end {l cur : List S} {i : Nat} (h : Del l i l.length cur) : cur.take i = keep l ∧ (keep l).length = i := by
  have := h.front
  rw [List.take_length] at this
  refine ⟨this, ?_⟩
  rw [← this, List.length_take, h.len]
  have := h.lt
  omega
end Ta
end Go.Proofs.Ytfeaablomceejaa
