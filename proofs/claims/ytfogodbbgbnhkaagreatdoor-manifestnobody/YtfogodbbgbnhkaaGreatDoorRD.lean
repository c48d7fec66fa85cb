/- Numbers in order: slices.Sorted(slices.Values(l)) of the library, as far as differ asks for it; differ. -/
import Derived.Test.YtfogodbbgbnhkaaGreatDoorRA
import Derived.Test.YtfogodbbgbnhkaaGreatDoorSeq
import Derived.Test.YtfogodbbgbnhkaaGreatDoorShelf
import Derived.Test.YtfogodbbgbnhkaaGreatDoorLCk
namespace Go.Proofs.YtfogodbbgbnhkaaGreatDoor
open Go.RowKit Go.Shelf
attribute [local go_sem] Oper.semAt_some

set_option maxRecDepth 100000 in
set_option maxHeartbeats 2000000 in
/-- the iterator over a row of numbers, whatever a round does that leaves alone what lay there before -/
theorem rvals_in (n l Bs B : Nat) (a : Option Addr) (len cap : Nat) (zs : List Int) (hlen : len ≤ 1000000) (W0 : World) (hB : B = W0.heap.size) (hr : ZRow W0 a len zs) (J : List Int → World → Prop) (hn : 1 ≤ n)
    (hJ : ∀ ss W, J ss W → Below B W0 W)
    (hY : ∀ pre x W, J pre W → pre.length < len → YieldAt Fence.wide (n - 1) Tryz.prog l #[.int .i64 x] W fun e W' => e = .returned (.bool true) ∧ J (pre ++ [x]) W')
    (W : World) (hBs : W.cell? ⟨Bs, 0, none⟩ = some (.slice a len cap)) (h0 : J [] W) :
    CallsIn Fence.wide n Tryz.prog 203 #[.func (.yield l) #[] #[], .pointer (some ⟨Bs, 0, none⟩)] W fun e W' => (∃ v, e = .returned v) ∧ J zs W' := by
  subst hB
  have hll : Hid (zs.length = len) := hr.1
  refine callsIn_of_wp Tryz.func203 rfl trivial ?_ rfl
  simp only [Tryz.ntmps203, List.size_toArray, List.length_cons, List.length_nil, Nat.reduceAdd, Nat.reduceSub, Array.replicate_succ, Array.replicate_zero, List.push_toArray, List.append_toArray, List.nil_append, List.cons_append]
  gi_wp2
  gi_loopw [7] (fun i wr => ∃ k : Nat, k ≤ len ∧ i = .int .i64 k ∧ J (zs.take k) wr) (fun i _ => len - (intOf i).toNat)
  case atStart => exact ⟨0, Nat.zero_le _, rfl, by simpa using h0⟩
  case round =>
    obtain ⟨k, hk, rfl, hJs⟩ := hrel
    by_cases hlt : k < len
    · obtain ⟨b, off, x, rfl, hx, q0⟩ := zget hr (hJ _ _ hJs) hlt
      have hk' : k < zs.length := by rw [hll.out]; exact hlt
      obtain ⟨fn, tmps, assign, body, hy, hR⟩ := hY _ x wr hJs (by rw [List.length_take]; omega)
      rw [← hx.out, ← gtake 0 hk'] at hR
      clear hx
      gi_wp2
      refine hR.mono ?_
      rintro e W3 ⟨rfl, hJ3⟩
      gi_wp2
      go_roundw
      case rel => exact ⟨k + 1, by omega, by simp, hJ3⟩
      case measure => simp [intOf]; omega
    · obtain rfl : k = len := by omega
      rw [List.take_of_length_le (by rw [hll.out]; exact Nat.le_refl _)] at hJs
      gi_wp2
      go_end0
      exact ⟨⟨_, rfl⟩, hJs⟩

set_option maxRecDepth 100000 in
set_option maxHeartbeats 4000000 in
theorem rapseq_any (a : Option Addr) (len cap Bs : Nat) (zs : List Int) (hlen : len ≤ 1000000) (w : World) (hr : ZRow w a len zs) (hBs : w.cell? ⟨Bs, 0, none⟩ = some (.slice a len cap)) :
    Calls Tryz.prog 226 #[.slice none 0 0, .func (.func 203) #[] #[.pointer (some ⟨Bs, 0, none⟩)]] w fun e w' => ∃ v, e = .returned v ∧ w'.ownsRow w.heap.size 3 1 v zs.length (zs.map encZ) ∧ (v = .slice none 0 0 ↔ zs = []) ∧ Below w.heap.size w w' := by
  refine (callsIn_wide (n := 3)).1 ?_
  have hBl : Bs < w.heap.size := cell_lt hBs
  refine callsIn_of_wp_marks Tryz.func226 rfl trivial ?_ rfl
  simp only [Tryz.ntmps226, List.size_toArray, List.length_cons, List.length_nil, Nat.reduceAdd, Nat.reduceSub, Array.replicate_succ, Array.replicate_zero, List.push_toArray, List.append_toArray, List.nil_append, List.cons_append]
  gi_wp2
  refine wpIn_rangeFunc ?_
  intro fn hfn
  obtain ⟨W0, hW0⟩ : ∃ W0, w.alloc (.cells #[.slice none 0 0] 27) = W0 := ⟨_, rfl⟩
  have hs0 : W0.heap.size = w.heap.size + 1 := by rw [← hW0]; simp
  have hv0 : W0.heap[w.heap.size]? = some (.cells #[.slice none 0 0] 27 (0, 0)) := by rw [← hW0]; exact World.alloc_heap_new w _
  have hb0 : Below w.heap.size w W0 := by rw [← hW0]; exact (Below.refl _ w).alloc (Nat.le_refl _) _
  rw [hW0]
  obtain ⟨sv, hsv⟩ : ∃ sv, sv = Value.func (.func 203) #[] #[.pointer (some ⟨Bs, 0, none⟩)] := ⟨_, rfl⟩
  obtain ⟨W1, hW1⟩ : ∃ W1, (W0.alloc (.deferred (some []))).alloc (.loop (AnyZI.apRec Tryz.apseq_ren fn sv w.heap.size W0.heap.size .ready none)) = W1 := ⟨_, rfl⟩
  have hold : ∀ k, k < W0.heap.size → W1.heap[k]? = W0.heap[k]? := fun k hk => by
    rw [← hW1]; exact (Below.heap_alloc _ _ k (by simp; omega)).trans (Below.heap_alloc _ _ k hk)
  have hb1 : Below w.heap.size w W1 := by rw [← hW1]; exact (hb0.alloc hb0.size _).alloc (by have := hb0.size; simp; omega) _
  have hM : AnyZI.ApAt Tryz.apseq_ren w fn sv w.heap.size (W0.heap.size + 1) W0.heap.size [] W1 :=
    ⟨⟨_, (hold w.heap.size (by omega)).trans hv0, ⟨rfl, .inl ⟨rfl, rfl⟩⟩, by simp⟩,
     by rw [← hW1]; have := World.alloc_heap_new (W0.alloc (.deferred (some []))) (.loop (AnyZI.apRec Tryz.apseq_ren fn sv w.heap.size W0.heap.size .ready none)); rwa [World.size_alloc] at this,
     by rw [← hW1]; exact (Below.heap_alloc _ _ _ (by simp)).trans (World.alloc_heap_new W0 _), hb1⟩
  have hit := rvals_in 2 (W0.heap.size + 1) Bs w.heap.size a len cap zs hlen w rfl hr (AnyZI.ApAt Tryz.apseq_ren w fn sv w.heap.size (W0.heap.size + 1) W0.heap.size) (by omega) (fun ss W h => h.below)
    (fun pre x W hJ hl => (AnyZI.apYield Tryz.apseq Fence.wide _ w fn hfn _ w.heap.size (W0.heap.size + 1) W0.heap.size (by omega) (by omega) (by omega) (Nat.le_refl _) (by omega) len (by unfold maxLen; omega) (by omega) pre x W hJ hl).imp fun _ h => h.imp fun _ h => h.imp fun _ h => h.imp fun _ h => ⟨h.1, h.2.mono fun e W' h => ⟨h.1, h.2.1⟩⟩) W1 ((hb1.cell (p := ⟨Bs, 0, none⟩) hBl).trans hBs) hM
  refine ⟨W0.heap.size + 1, [{ target := .collected W0.heap.size, args := #[] }], W1, { target := .fn (.func 203) #[.pointer (some ⟨Bs, 0, none⟩)], args := #[.func (.yield (W0.heap.size + 1)) #[] #[]] }, W1, 203,
    #[.func (.yield (W0.heap.size + 1)) #[] #[], .pointer (some ⟨Bs, 0, none⟩)], W1, ?_, ?_, ?_, ?_, fun _ => by omega, ?_⟩
  · rw [← hW1, hsv]; exact run_enterLoop_outer _ _ _ _ _
  · simp [resolve, go_sem]
  · intro f' hf'; trivial
  · simp [invoke, go_sem]
  · refine hit.mono ?_
    rintro e W2 ⟨⟨v0, rfl⟩, h2⟩
    obtain ⟨v, hv, hrow, hnil⟩ := h2.box
    have hend := run_endLoop (P := Tryz.prog) h2.L (by simp [AnyZI.apRec])
    obtain ⟨W3, hW3⟩ : ∃ W3, W2.putObj (W0.heap.size + 1) (.loop { AnyZI.apRec Tryz.apseq_ren fn sv w.heap.size W0.heap.size .ready none with state := .exhausted }) = W3 := ⟨_, rfl⟩
    rw [hW3] at hend
    have hg3 : W2.grownBy W3 (some (W0.heap.size + 1)) := by rw [← hW3]; exact grownBy_putObj_a _ _ _
    have hv3 : W3.heap[w.heap.size]? = some (.cells #[v] 27 (0, 0)) := by rw [← hW3]; exact (World.putObj_heap_other (by omega)).trans hv
    have hK3 : W3.heap[W0.heap.size]? = some (.deferred (some [])) := by rw [← hW3]; exact (World.putObj_heap_other (by omega)).trans h2.K
    have hrow3 := hrow.kept hg3 (ownsRow_ne_a hrow h2.L (fun cur e => by cases e))
    have hb3 : Below w.heap.size w W3 := h2.below.grown hg3 h2.below.size (fun k e => by cases e; omega)
    obtain ⟨hc3, hf3⟩ := cell_of_box_a hv3
    clear hW3
    refine ⟨none, W3, hend, ?_⟩
    gi_wp2
    rw [← hs0]
    refine ⟨by simp, .inl ⟨_, _, rfl, run_takeDeferred hK3, ?_⟩⟩
    exact ⟨_, results_tmp rfl _ _ _, v, rfl, hrow3.kept (grownBy_putObj_a _ _ _) (ownsRow_ne_a hrow3 hK3 (fun cur e => by cases e)), hnil, hb3.grown (grownBy_putObj_a _ _ _) hb3.size (fun k e => by cases e; omega)⟩

theorem encz_cells (l : List Int) : l.map encZ = tcells ze l := by
  unfold tcells
  induction l with
  | nil => rfl
  | cons x l ih => rw [List.map_cons, List.flatMap_cons, ih]; rfl
/-- a new row of numbers -/
def ZRes (w : World) (l : List Int) (e : Ending) (w' : World) : Prop := ∃ g c, e = .returned (.slice g l.length c) ∧ w'.ownsRow w.heap.size 3 1 (.slice g l.length c) l.length (tcells ze l) ∧ Below w.heap.size w w'

set_option maxRecDepth 100000 in
set_option maxHeartbeats 1000000 in
theorem rvalues_any (a : Option Addr) (len cap : Nat) (w : World) :
    Calls Tryz.prog 161 #[.slice a len cap] w fun e w' => e = .returned (.func (.func 203) #[] #[.pointer (some ⟨w.heap.size, 0, none⟩)]) ∧ w' = w.alloc (.cells #[.slice a len cap] 27) := by
  go_enter Tryz.func161, Tryz.ntmps161
  go_wp2
  go_ret
  exact ⟨rfl, rfl⟩

set_option maxRecDepth 100000 in
set_option maxHeartbeats 1000000 in
theorem rcollect_any (a : Option Addr) (len cap Bs : Nat) (zs : List Int) (hlen : len ≤ 1000000) (w : World) (hr : ZRow w a len zs) (hBs : w.cell? ⟨Bs, 0, none⟩ = some (.slice a len cap)) :
    Calls Tryz.prog 201 #[.func (.func 203) #[] #[.pointer (some ⟨Bs, 0, none⟩)]] w (ZRes w zs) := by
  have ha := rapseq_any a len cap Bs zs hlen w hr hBs
  go_enter Tryz.func201, Tryz.ntmps201
  go_wp2_with (go_at_call 226; go_must (refine ha.mono ?_; rintro e w1 ⟨v, rfl, hown, _, hb⟩))
  go_ret
  rw [encz_cells] at hown
  obtain ⟨g, c, rfl, _, _⟩ := t_shape hown
  exact ⟨g, c, rfl, hown, hb⟩

theorem sorted_length (l : List Int) : (Ro.sorted l).length = l.length := by unfold Ro.sorted; exact List.length_mergeSort l
theorem grown_self (w : World) {row : Option Nat} : w.grownBy w row := ⟨rfl, rfl, rfl, Nat.le_refl _, fun _ _ _ => rfl⟩
theorem own_base {w : World} {B e s : Nat} {v : Value} {n k : Nat} {xs : List Value} (h : w.ownsRow B e s v n xs) (hk : v.ownBlock = some k) : B ≤ k := by
  rcases Nat.lt_or_ge k B with h1 | h1
  · exact absurd hk.symm (own_ne h h1)
  · exact h1
/-- slices.Sort of a row of the call's own -/
theorem rsort_any (a : Option Addr) (n c B : Nat) (l : List Int) (w : World) (hn : n ≤ 1000000) (hown : w.ownsRow B 3 1 (.slice a n c) n (tcells ze l)) :
    Calls Tryz.prog 202 #[.slice a n c] w fun e w' => e = .returned (.tuple #[]) ∧ w'.ownsRow B 3 1 (.slice a n c) n (tcells ze (Ro.sorted l)) ∧ w.grownBy w' (Value.slice a n c).ownBlock := by
  have hl : l.length = n := by have := hown.1; rw [tcells_length zeE] at this; omega
  rcases hown.2 with ⟨e, h0⟩ | ⟨g, cap, cur, e, hB, hg, h1, h2, h3, h4⟩
  · simp only [Value.slice.injEq] at e
    obtain ⟨rfl, rfl, rfl⟩ := e
    obtain rfl : l = [] := List.length_eq_zero_iff.mp hl
    refine (Tryz.slices_Sort_int_none none 0 w).mono ?_
    rintro e w' ⟨rfl, rfl⟩
    exact ⟨rfl, by simpa [Ro.sorted] using hown, grown_self _⟩
  · simp only [Value.slice.injEq] at e
    obtain ⟨rfl, _, rfl⟩ := e
    subst hl
    rw [← encz_cells, Nat.mul_one] at h4
    refine (Tryz.slices_Sort_int g 0 c l w (holds_of_block_i hg h4) (Array.getElem?_eq_some_iff.1 hg).1 (by omega)).mono ?_
    rintro e w' ⟨rfl, m, os, rfl⟩
    have hs : (l.mergeSort fun x y => decide (x ≤ y)).length = l.length := List.length_mergeSort l
    have ho := ownsRow_sorted_i (base := B) (n := m) (os := os) hs hB hg h1 h2 h3
    rw [encz_cells] at ho
    exact ⟨rfl, ho, grownBy_sorted_i _⟩

set_option maxRecDepth 100000 in
set_option maxHeartbeats 1000000 in
theorem rsorted_any (a : Option Addr) (len cap Bs : Nat) (zs : List Int) (hlen : len ≤ 1000000) (w : World) (hr : ZRow w a len zs) (hBs : w.cell? ⟨Bs, 0, none⟩ = some (.slice a len cap)) :
    Calls Tryz.prog 160 #[.func (.func 203) #[] #[.pointer (some ⟨Bs, 0, none⟩)]] w (ZRes w (Ro.sorted zs)) := by
  have ha := rcollect_any a len cap Bs zs hlen w hr hBs
  have hzl : zs.length ≤ 1000000 := by rw [hr.1]; exact hlen
  have hs := sorted_length zs
  obtain ⟨N, hN⟩ : ∃ N, N = zs.length := ⟨_, rfl⟩
  unfold ZRes at ha ⊢
  rw [hs]
  rw [← hN] at ha hzl ⊢
  clear hs hr hBs hN
  have hso := fun g c W hown => rsort_any g N c w.heap.size zs W hzl hown
  go_enter Tryz.func160, Tryz.ntmps160
  go_wp2_with (first
    | (go_at_call 201; go_must (refine ha.mono ?_; rintro e w1 ⟨g, c, rfl, hown, hb⟩))
    | (go_at_call 202; go_must (refine (hso _ _ _ hown).mono ?_; rintro e w2 ⟨rfl, hown2, hg2⟩)))
  go_ret
  exact ⟨g, c, rfl, hown2, hb.grown hg2 hb.size (fun k hk => own_base hown hk)⟩

set_option maxRecDepth 100000 in
set_option maxHeartbeats 1000000 in
theorem rdiffer_any (a : Option Addr) (len cap : Nat) (zs : List Int) (hlen : len ≤ 1000000) (w : World) (hr : ZRow w a len zs) (R : Bool) (hR : R = Ro.differ zs) :
    Calls Tryz.prog 115 #[.slice a len cap] w fun e w' => e = .returned (.bool R) ∧ Below w.heap.size w w' := by
  have hv := rvalues_any a len cap w
  have hb0 := below_alloc w (.cells #[.slice a len cap] 27)
  have hso := rsorted_any a len cap w.heap.size zs hlen (w.alloc (.cells #[.slice a len cap] 27)) (hr.below hb0 (Nat.le_refl _)) (cell_new w #[.slice a len cap] 27 0)
  have hsl : (Ro.sorted zs).length ≤ 1000000 := by rw [sorted_length, hr.1]; exact hlen
  have hri := fun g c W h => rrise_any g (Ro.sorted zs).length c (Ro.sorted zs) W hsl h R hR
  unfold ZRes at hso
  generalize Ro.sorted zs = S at *
  obtain ⟨N, hN⟩ : ∃ N, N = S.length := ⟨_, rfl⟩
  rw [← hN] at hso hri hsl
  clear hN hr hR
  go_enter Tryz.func115, Tryz.ntmps115
  go_wp2_with (first
    | (go_at_call 161; go_must (refine hv.mono ?_; rintro e w1 ⟨rfl, rfl⟩))
    | (go_at_call 160; go_must (refine hso.mono ?_; rintro e w2 ⟨g, c, rfl, hown, hb⟩))
    | (go_at_call 111; go_must (refine (hri _ _ _ (trow_of_owns zeE hown (by omega) (by omega))).mono ?_; rintro e w3 ⟨rfl, hb3⟩)))
  go_ret
  exact ⟨rfl, (hb0.trans (hb.mono hb0.size)).trans (hb3.mono (hb0.trans (hb.mono hb0.size)).size)⟩
end Go.Proofs.YtfogodbbgbnhkaaGreatDoor

/- Rows of whatever there is, turned in place: copy, clear, one more, one set. -/
namespace Go.Proofs.YtfogodbbgbnhkaaGreatDoor
open Go.RowKit

/-- copy of elements of s cells -/
theorem run_copy_s {P : Program} (w : World) (dT sT ty elem : TypeId) (s b o dLen dCap : Nat) (a : Addr) (sLen sCap : Nat) (cs : List Value)
    (hu : P.underlying dT = some (.slice elem)) (hs : (P.info? elem).map (·.size) = some s) (hn : cs.length = Nat.min sLen dLen * s)
    (hsrc : ∀ j v, cs[j]? = some v → w.cell? (a.add j) = some v) (hc : ∀ j, j < cs.length → (w.cell? ⟨b, o + j, none⟩).isSome = true) (hf : ∀ j, j < cs.length → w.frozen? ⟨b, o + j, none⟩ = false) (h1 : ∀ v ∈ cs, v.oneCell' = true) :
    (Builtin.copy_ #[dT, sT] ty #[.slice (some ⟨b, o, none⟩) dLen dCap, .slice (some a) sLen sCap]).run P w = .ok (goInt (Nat.min sLen dLen)) (w.setCells b o cs) := by
  have hl := run_loadCells_list (P := P) w a cs hsrc
  have hst := run_storeCells_cells (P := P) b o cs 0 w (by simpa using hc) (by simpa using hf) h1
  cases hq : P.info? elem with
  | none => simp [hq] at hs
  | some i =>
    have hi : i.size = s := by simpa [hq] using hs
    simp [Builtin.copy_, run_underlying hu, Builtin.lenOf, Builtin.firstCells, sizeOf, typeInfo, hq, hi, ← hn, hl, hst]

/-- values laid into a list -/
def setL : List Value → Nat → List Value → List Value
  | xs, _, [] => xs
  | xs, o, v :: r => setL (xs.set o v) (o + 1) r
theorem setL_len : ∀ (vs xs : List Value) (o : Nat), (setL xs o vs).length = xs.length
  | [], _, _ => rfl
  | v :: r, xs, o => by rw [setL, setL_len r]; simp
theorem setL_eq : ∀ (vs xs : List Value) (o : Nat), o + vs.length ≤ xs.length → setL xs o vs = xs.take o ++ vs ++ xs.drop (o + vs.length)
  | [], xs, o, _ => by simp [setL]
  | v :: r, xs, o, h => by
    simp only [List.length_cons] at h
    rw [setL, setL_eq r (xs.set o v) (o + 1) (by simp; omega)]
    have e1 : (xs.set o v).take (o + 1) = xs.take o ++ [v] := by
      rw [List.take_succ_eq_append_getElem (by simp; omega), List.take_set_of_le (Nat.le_refl _)]; simp
    have e2 : (xs.set o v).drop (o + 1 + r.length) = xs.drop (o + (v :: r).length) := by
      rw [List.drop_set_of_lt (by omega)]; simp only [List.length_cons]; congr 1; omega
    rw [e1, e2]; simp
theorem setL_out : ∀ (vs xs : List Value) (o : Nat), xs.length ≤ o → setL xs o vs = xs
  | [], _, _, _ => rfl
  | v :: r, xs, o, h => by rw [setL, List.set_eq_of_length_le h]; exact setL_out r xs (o + 1) (by omega)
theorem own_setL {B E s g n c : Nat} : ∀ (vs : List Value) (o : Nat) {w : World} {xs : List Value}, w.ownsRow B E s (.slice (some ⟨g, 0, none⟩) n c) n xs → (w.setCells g o vs).ownsRow B E s (.slice (some ⟨g, 0, none⟩) n c) n (setL xs o vs)
  | [], _, _, _, h => h
  | v :: r, o, _, _, h => own_setL r (o + 1) (own_store h o v)
theorem turned_setL (g : Nat) : ∀ (vs : List Value) (o : Nat) (w : World), w.grownBy (w.setCells g o vs) (some g)
  | [], _, _ => ⟨rfl, rfl, rfl, Nat.le_refl _, fun _ _ _ => rfl⟩
  | v :: vs, o, w => (turned_set w g o v).trans (turned_setL g vs (o + 1) _)
theorem below_setL {B g : Nat} (hg : B ≤ g) {a : World} : ∀ (vs : List Value) (o : Nat) {w : World}, Below B a w → Below B a (w.setCells g o vs)
  | [], _, _, h => h
  | v :: r, o, _, h => below_setL hg r (o + 1) (h.setCell (p := ⟨g, o, none⟩) hg v)
theorem grown_any {w w' : World} (h : Below w.heap.size w w') (row : Option Nat) : w.grownBy w' row := ⟨h.os, h.tape, h.output, h.size, fun k hk _ => h.block k hk⟩
/-- one element more of the spare room -/
theorem own_more {w : World} {B E s g n c : Nat} {xs : List Value} (h : w.ownsRow B E s (.slice (some ⟨g, 0, none⟩) n c) n xs) (hn : n + 1 ≤ c) : ∃ js, js.length = s ∧ w.ownsRow B E s (.slice (some ⟨g, 0, none⟩) (n + 1) c) (n + 1) (xs ++ js) := by
  obtain ⟨h1, h2⟩ := h
  rcases h2 with ⟨e, _⟩ | ⟨g', cap, cur, e, hB, hg, hnc, hmx, hs, ht⟩
  · cases e
  · simp only [Value.slice.injEq, Option.some.injEq, Addr.mk.injEq] at e
    obtain ⟨⟨rfl, _⟩, _, rfl⟩ := e
    have hle : (n + 1) * s ≤ c * s := Nat.mul_le_mul_right s hn
    have e1 : (n + 1) * s = n * s + s := Nat.succ_mul n s
    have hlen : cur.toList.length = c * s := by simpa using hs
    refine ⟨(cur.toList.drop (n * s)).take s, by rw [List.length_take, List.length_drop, hlen]; omega, ?_, .inr ⟨g, c, cur, rfl, hB, hg, hn, hmx, hs, ?_⟩⟩
    · rw [List.length_append, h1, List.length_take, List.length_drop, hlen]; omega
    · rw [← ht, e1, List.take_add]
theorem own_take {w : World} {B E s g n c m : Nat} {xs : List Value} (h : w.ownsRow B E s (.slice (some ⟨g, 0, none⟩) n c) n xs) (hm : m ≤ n) : w.ownsRow B E s (.slice (some ⟨g, 0, none⟩) m c) m (xs.take (m * s)) := by
  have hms : m * s ≤ n * s := Nat.mul_le_mul_right s hm
  obtain ⟨h1, h2⟩ := h
  refine ⟨by rw [List.length_take, h1]; omega, ?_⟩
  rcases h2 with ⟨e, _⟩ | ⟨g', cap, cur, e, hB, hg, hn, hmx, hs, ht⟩
  · cases e
  · simp only [Value.slice.injEq, Option.some.injEq, Addr.mk.injEq] at e
    obtain ⟨⟨rfl, _⟩, _, rfl⟩ := e
    refine .inr ⟨g, c, cur, rfl, hB, hg, by omega, hmx, hs, ?_⟩
    rw [← ht, List.take_take, Nat.min_eq_left hms]
theorem own_sets {B E s g n c : Nat} (vs : List Value) (o : Nat) {w : World} {xs : List Value} (ho : n * s ≤ o) (h : w.ownsRow B E s (.slice (some ⟨g, 0, none⟩) n c) n xs) : (w.setCells g o vs).ownsRow B E s (.slice (some ⟨g, 0, none⟩) n c) n xs := by
  have h2 := own_setL vs o h
  rwa [setL_out vs xs o (by rw [h.1]; exact ho)] at h2
theorem town_blk {w : World} {B n c : Nat} {a : Option Addr} {xs : List Value} {E s : Nat} (h : w.ownsRow B E s (.slice a n c) n xs) (hn : 0 < n) : ∃ g, a = some ⟨g, 0, none⟩ := by
  rcases h.2 with ⟨_, h⟩ | ⟨g', cap, cur, e, _⟩
  · omega
  · simp only [Value.slice.injEq] at e
    exact ⟨g', e.1⟩

theorem grown_noneB {w w' : World} (h : Below w.heap.size w w') : w.grownBy w' none := ⟨h.os, h.tape, h.output, h.size, fun k hk _ => h.block k hk⟩
theorem own_keptB {w w' : World} {B E s n : Nat} {v : Value} {xs : List Value} (h : w.ownsRow B E s v n xs) (hb : Below w.heap.size w w') : w'.ownsRow B E s v n xs := h.kept (grown_noneB hb) (by cases hv : v.ownBlock <;> simp)
theorem below_putB {w W : World} {B g : Nat} (h : Below B w W) (hg : B ≤ g) (i : Nat) (v : Value) : Below B w (W.setCell ⟨g, i, none⟩ v) :=
  ⟨h.os, h.tape, h.output, by simpa using h.size, fun k hk => (Below.heap_setCell W ⟨g, i, none⟩ v k (fun e => by have : k = g := e; omega)).trans (h.block k hk)⟩
theorem obr_apart {W : World} {g B n s e e' : Nat} {v : Value} {cs : Array Value} {xs : List Value} {fz : Nat × Nat} (h : W.heap[g]? = some (.cells cs e' fz)) (hown : W.ownsRow B e s v n xs) (hne : e' ≠ e) : some g ≠ v.ownBlock := by
  intro hk
  rcases hown.2 with ⟨rfl, _⟩ | ⟨g', cap, cur, rfl, _, hg, _⟩
  · cases hk
  · have : g = g' := by simpa [Value.ownBlock] using hk
    subst this
    rw [h] at hg
    exact hne (Obj.cells.inj (Option.some.inj hg)).2.1
theorem blkc {W : World} {g : Nat} {cs : Array Value} {e : TypeId} (h : W.heap[g]? = some (.cells cs e (0, 0))) : (∀ i, W.cell? ⟨g, i, none⟩ = cs[i]?) ∧ ∀ i, W.frozen? ⟨g, i, none⟩ = false :=
  ⟨fun i => by simp [World.cell?, h], fun i => by simp [World.frozen?, h]⟩
theorem ob_ltB {W : World} {g : Nat} {x : Obj} (h : W.heap[g]? = some x) : g < W.heap.size := (Array.getElem?_eq_some_iff.1 h).1

section
variable {α : Type} {s : Nat} {enc : α → List Value} {d : α}
theorem tcells_take_s (hE : Enc s enc) (l : List α) (m : Nat) : (tcells enc l).take (m * s) = tcells enc (l.take m) := by
  rcases Nat.lt_or_ge m l.length with h | h
  · have e : tcells enc l = tcells enc (l.take m) ++ tcells enc (l.drop m) := by rw [← tcells_append, List.take_append_drop]
    have hl : (tcells enc (l.take m)).length = m * s := by rw [tcells_length hE, List.length_take, Nat.min_eq_left (by omega)]
    rw [e, List.take_append_of_le_length (by omega), List.take_of_length_le (by omega)]
  · rw [List.take_of_length_le h, List.take_of_length_le (by rw [tcells_length hE]; exact Nat.mul_le_mul_right s h)]
theorem tcells_setL (hE : Enc s enc) (l : List α) (j : Nat) (x : α) (hj : j < l.length) : setL (tcells enc l) (j * s) (enc x) = tcells enc (l.set j x) := by
  have hle : (j + 1) * s ≤ l.length * s := Nat.mul_le_mul_right s hj
  have e1 : (j + 1) * s = j * s + s := Nat.succ_mul j s
  rw [setL_eq _ _ _ (by rw [hE.len, tcells_length hE]; omega), hE.len, ← e1, tcells_take_s hE]
  have hd : (tcells enc l).drop ((j + 1) * s) = tcells enc (l.drop (j + 1)) := by
    have e : tcells enc l = tcells enc (l.take (j + 1)) ++ tcells enc (l.drop (j + 1)) := by rw [← tcells_append, List.take_append_drop]
    have hl : (tcells enc (l.take (j + 1))).length = (j + 1) * s := by rw [tcells_length hE, List.length_take, Nat.min_eq_left (by omega)]
    rw [e, List.drop_append_of_le_length (by omega), List.drop_of_length_le (by omega), List.nil_append]
  rw [hd, List.set_eq_take_append_cons_drop, if_pos hj, tcells_append, List.append_assoc]
  rfl
theorem ihs_split (hs : List α) (i : Nat) : tcells enc hs = tcells enc (hs.take i) ++ tcells enc (hs.drop i) := by rw [← tcells_append, List.take_append_drop]
def insAt (hs : List α) (i : Nat) (h : α) : List α := hs.take i ++ h :: hs.drop i
theorem tcells_ins (hs : List α) (i : Nat) (h : α) : tcells enc (insAt hs i h) = tcells enc (hs.take i) ++ (enc h ++ tcells enc (hs.drop i)) := by
  unfold insAt
  rw [tcells_append]; rfl
theorem take_cells (hE : Enc s enc) (hs : List α) {i : Nat} (hi : i ≤ hs.length) : (tcells enc (hs.take i)).length = i * s ∧ (tcells enc (hs.drop i)).length = (hs.length - i) * s := by
  rw [tcells_length hE, tcells_length hE, List.length_take, List.length_drop, Nat.min_eq_left hi]
  exact ⟨rfl, rfl⟩
/-- what stood from a place on is laid one element further, the new one ahead of it -/
theorem set_ins (hE : Enc s enc) (hs : List α) (h : α) (xs : List Value) {i : Nat} (hi : i ≤ hs.length) (hl : xs.length = (hs.length + 1) * s) (ht : xs.take (i * s) = tcells enc (hs.take i)) :
    setL (setL xs ((i + 1) * s) (tcells enc (hs.drop i))) (i * s) (enc h) = tcells enc (insAt hs i h) ∧ setL (setL xs (i * s) (enc h)) ((i + 1) * s) (tcells enc (hs.drop i)) = tcells enc (insAt hs i h) := by
  obtain ⟨l1, l2⟩ := take_cells hE hs hi
  have l3 : (enc h).length = s := hE.len h
  have e8 : (i + 1) * s = i * s + s := Nat.succ_mul i s
  have e9 : (hs.length + 1) * s = i * s + s + (hs.length - i) * s := by
    rw [← e8, ← Nat.add_mul]; congr 1; omega
  rw [tcells_ins]
  constructor
  · rw [setL_eq _ xs _ (by omega)]
    have d1 : xs.drop ((i + 1) * s + (tcells enc (hs.drop i)).length) = [] := List.drop_of_length_le (by omega)
    rw [d1, List.append_nil, setL_eq _ _ _ (by simp only [List.length_append, List.length_take]; omega)]
    have t1 : (xs.take ((i + 1) * s) ++ tcells enc (hs.drop i)).take (i * s) = tcells enc (hs.take i) := by
      rw [List.take_append_of_le_length (by rw [List.length_take]; omega), List.take_take, Nat.min_eq_left (by omega), ht]
    have t2 : (xs.take ((i + 1) * s) ++ tcells enc (hs.drop i)).drop (i * s + (enc h).length) = tcells enc (hs.drop i) := by
      rw [l3, ← e8, List.drop_append_of_le_length (by rw [List.length_take]; omega), List.drop_of_length_le (by rw [List.length_take]; omega), List.nil_append]
    rw [t1, t2, List.append_assoc]
  · rw [setL_eq _ xs _ (by omega)]
    rw [setL_eq _ _ _ (by simp only [List.length_append, List.length_take, List.length_drop]; omega)]
    have t1 : (xs.take (i * s) ++ enc h ++ xs.drop (i * s + (enc h).length)).take ((i + 1) * s) = tcells enc (hs.take i) ++ enc h := by
      rw [List.take_append_of_le_length (by simp only [List.length_append, List.length_take]; omega), List.take_of_length_le (by simp only [List.length_append, List.length_take]; omega), ht]
    have d1 : (xs.take (i * s) ++ enc h ++ xs.drop (i * s + (enc h).length)).drop ((i + 1) * s + (tcells enc (hs.drop i)).length) = [] := List.drop_of_length_le (by simp only [List.length_append, List.length_take, List.length_drop]; omega)
    rw [t1, d1, List.append_nil, List.append_assoc]
end

/-- clear of a slice of whatever there is -/
theorem run_clear_s {T E : TypeId} {s bytes : Nat} {z : Value} (he : Elem T E s bytes z) (hz1 : ∀ v ∈ z.cells, v.oneCell' = true) (w : World) (ty : TypeId) (b o n c : Nat) (hn : 0 < n) (hc : ∀ j, j < n * s → (w.cell? ⟨b, o + j, none⟩).isSome = true) (hf : ∀ j, j < n * s → w.frozen? ⟨b, o + j, none⟩ = false) :
    (Builtin.clear_ #[T] ty #[.slice (some ⟨b, o, none⟩) n c]).run Tryz.prog w = .ok (.tuple #[]) (w.setCells b o (Builtin.zeroCells z.cells n).toList) := by
  have hpos := he.pos
  have hlen : (Builtin.zeroCells z.cells n).toList.length = n * s := by simp [Builtin.zeroCells, he.zero]
  have hone : ∀ v ∈ (Builtin.zeroCells z.cells n).toList, v.oneCell' = true := by
    intro v hv
    simp only [Builtin.zeroCells, Array.toList_map, List.mem_map] at hv
    obtain ⟨t, _, rfl⟩ := hv
    have ht : t % z.cells.size < z.cells.size := Nat.mod_lt _ (by rw [he.zero]; exact hpos)
    rw [getElem!_pos z.cells _ ht]
    exact hz1 _ (Array.getElem_mem ht)
  have hst := run_storeCells_cells (P := Tryz.prog) b o _ 0 w (by rw [hlen]; simpa using hc) (by rw [hlen]; simpa using hf) hone
  simp only [Nat.add_zero] at hst
  obtain ⟨m, rfl⟩ : ∃ m, n = m + 1 := ⟨n - 1, by omega⟩
  obtain ⟨i0, hi0, hz0, _, _⟩ := info_parts he.info
  have hv : ∀ w, (zeroValue E).run Tryz.prog w = .ok z w := fun w => by simp [zeroValue, typeInfo, hi0, hz0]
  simp [Builtin.clear_, run_underlying he.und, hv, hst]
end Go.Proofs.YtfogodbbgbnhkaaGreatDoor

/- numbers of the program: of moves, tables, snapshots. -/
namespace Go.Proofs.YtfogodbbgbnhkaaGreatDoor
open Go.RowKit

theorem made_z (n : Nat) : (madeCells (Value.int .i64 0).cells (n * 1)).toList = tcells ze (List.replicate n 0) := by
  rw [← encz_cells, List.map_replicate]
  apply List.ext_getElem?
  intro j
  rw [List.getElem?_replicate]
  by_cases h : j < n <;> simp [madeCells, Value.cells, h, Nat.mod_one, encZ]
theorem set_z (l : List Int) (n j : Nat) (x : Int) (hj : j < n) (hl : l.length = n) (hx : l.getD j 0 = x) : (tcells ze (l.take j ++ List.replicate (n - j) 0)).set j (.int .i64 x) = tcells ze (l.take (j + 1) ++ List.replicate (n - (j + 1)) 0) := by
  have e1 : (l.take j).length = j := by rw [List.length_take]; omega
  have e2 : n - j = (n - (j + 1)) + 1 := by omega
  rw [e2, List.replicate_succ, gtake 0 (by omega), hx, ← encz_cells, ← encz_cells]
  simp only [List.map_append, List.map_cons, List.map_nil, List.append_assoc]
  rw [List.set_append_right _ _ (by rw [List.length_map]; omega), List.length_map, e1, Nat.sub_self]
  rfl
theorem at_z (l : List Int) (n j : Nat) (hj : j < n) (hl : l.length = n) : (tcells ze (l.take j ++ List.replicate (n - j) 0))[j]? = some (.int .i64 0) := by
  have e1 : (l.take j).length = j := by rw [List.length_take]; omega
  rw [← encz_cells, List.map_append, List.getElem?_append_right (by rw [List.length_map, e1]; exact Nat.le_refl _), List.length_map, e1, Nat.sub_self, show n - j = (n - (j + 1)) + 1 by omega, List.replicate_succ]
  rfl

set_option maxRecDepth 100000 in
set_option maxHeartbeats 1000000 in
theorem rnums_m (f : Int × Int → Int) (fid : Nat) (eg : ∀ args w, (callFunc fid args).run Tryz.prog w = .ok (.enter fid args) w)
    (hdo : ∀ (x y : Int) (W : World), Calls Tryz.prog fid #[.agg #[.int .i64 x, .int .i64 y]] W fun e W' => e = .returned (.int .i64 (f (x, y))) ∧ Below W.heap.size W W')
    (a : Option Addr) (n c : Nat) (l : List (Int × Int)) (w : World) (hn : n ≤ 1000000) (hr : MRow w a n l) :
    Calls Tryz.prog 112 #[.slice a n c, .func (.func fid) #[] #[]] w (ZRes w (l.map f)) := by
  have hll : Hid (l.length = n) := hr.1
  obtain ⟨L, hL⟩ : ∃ L, L = l.map f := ⟨_, rfl⟩
  have hLn : L.length = n := by rw [hL, List.length_map]; exact hr.1
  rw [← hL]
  unfold ZRes
  rw [hLn]
  have HL : Hid (L = l.map f) := hL
  have HN : Hid (L.length = n) := hLn
  clear hL hLn
  obtain ⟨i0, hi0, hz0, hz1, hz2⟩ := info_parts intZ.info
  go_enter Tryz.func112, Tryz.ntmps112
  go_wp2_with (at_make; go_must (refine make_full _ rfl _ _ 27 rfl w.heap.size 3 i0 _ 1 Tryz.underlying27 hi0 hz0 hz1 .i64 .i64 n rfl rfl (by rw [hz2]; omega) (by unfold maxLen; omega) (Nat.le_refl _) ?_; intro w3 hmade hb3; rw [made_z] at hmade))
  go_loopw [13] (fun iv wr => ∃ (j : Nat), j ≤ n ∧ iv = .int .i64 j ∧ wr.ownsRow w.heap.size 3 1 (.slice (some ⟨w.heap.size, 0, none⟩) n n) n (tcells ze (L.take j ++ List.replicate (n - j) 0)) ∧ Below w.heap.size w wr) (fun iv _ => n - (intOf iv).toNat)
  case atStart => exact ⟨0, by omega, rfl, hmade, hb3⟩
  case round =>
    obtain ⟨j, hj, rfl, hown, hbel⟩ := hrel
    clear hmade hb3
    by_cases hlt : j < n
    · obtain ⟨b, off, x, y, rfl, hx, q0, q1⟩ := mget hr hbel hlt
      have hj' : j < l.length := by rw [hll.out]; exact hlt
      have hg : L.getD j 0 = f (x, y) := by rw [HL.out, ← hx.out]; simp [hj']
      have HS : Hid ((tcells ze (L.take j ++ List.replicate (n - j) 0)).set j (.int .i64 (f (x, y))) = tcells ze (L.take (j + 1) ++ List.replicate (n - (j + 1)) 0)) := (set_z L n j _ hlt HN.out hg : _ = _)
      have hb2 := hbel.alloc hbel.size (.cells #[.int .i64 x, .int .i64 y] 64)
      have hown2 := hown.alloc (.cells #[.int .i64 x, .int .i64 y] 64)
      have hat := at_z L n j hlt HN.out
      have hd := fun W => hdo x y W
      generalize f (x, y) = y at *
      have i0 : (0 : Int) ≤ (j : Int) := by omega
      have i5 : (j : Int) < (n : Int) := by omega
      have c0 := cell_new wr #[.int .i64 x, .int .i64 y] 64
      clear hx hg
      go_wp2_with (go_at_fn fid; go_must (refine (hd _).mono ?_; rintro e w4 ⟨rfl, hb4⟩; have hown4 := own_keptB hown2 hb4; have hb5 := hb2.trans (hb4.mono hb2.size); obtain ⟨k1, k2⟩ := own_cells hown4 hat; clear hown2 hb2 hown))
      go_roundw
      case rel => exact ⟨j + 1, by omega, by go_num, by rw [← HS.out]; exact own_store hown4 j _, below_putB hb5 (Nat.le_refl _) _ _⟩
      case measure => simp [intOf]; omega
    · obtain rfl : j = n := by omega
      have HC : Hid (L.take j ++ List.replicate (j - j) 0 = L) := (by
        rw [List.take_of_length_le (by rw [HN.out]; exact Nat.le_refl _)]; simp : _ = _)
      go_wp2
      go_ret
      rw [HC.out] at hown
      exact ⟨some ⟨w.heap.size, 0, none⟩, j, rfl, hown, hbel⟩

set_option maxRecDepth 100000 in
set_option maxHeartbeats 1000000 in
theorem rnums_k (f : Int × Int × Int → Int) (fid : Nat) (eg : ∀ args w, (callFunc fid args).run Tryz.prog w = .ok (.enter fid args) w)
    (hdo : ∀ (x y z : Int) (W : World), Calls Tryz.prog fid #[.agg #[.int .i64 x, .int .i64 y, .int .i64 z]] W fun e W' => e = .returned (.int .i64 (f (x, y, z))) ∧ Below W.heap.size W W')
    (a : Option Addr) (n c : Nat) (l : List (Int × Int × Int)) (w : World) (hn : n ≤ 1000000) (hr : KRow w a n l) :
    Calls Tryz.prog 120 #[.slice a n c, .func (.func fid) #[] #[]] w (ZRes w (l.map f)) := by
  have hll : Hid (l.length = n) := hr.1
  obtain ⟨L, hL⟩ : ∃ L, L = l.map f := ⟨_, rfl⟩
  have hLn : L.length = n := by rw [hL, List.length_map]; exact hr.1
  rw [← hL]
  unfold ZRes
  rw [hLn]
  have HL : Hid (L = l.map f) := hL
  have HN : Hid (L.length = n) := hLn
  clear hL hLn
  obtain ⟨i0, hi0, hz0, hz1, hz2⟩ := info_parts intZ.info
  go_enter Tryz.func120, Tryz.ntmps120
  go_wp2_with (at_make; go_must (refine make_full _ rfl _ _ 27 rfl w.heap.size 3 i0 _ 1 Tryz.underlying27 hi0 hz0 hz1 .i64 .i64 n rfl rfl (by rw [hz2]; omega) (by unfold maxLen; omega) (Nat.le_refl _) ?_; intro w3 hmade hb3; rw [made_z] at hmade))
  go_loopw [13] (fun iv wr => ∃ (j : Nat), j ≤ n ∧ iv = .int .i64 j ∧ wr.ownsRow w.heap.size 3 1 (.slice (some ⟨w.heap.size, 0, none⟩) n n) n (tcells ze (L.take j ++ List.replicate (n - j) 0)) ∧ Below w.heap.size w wr) (fun iv _ => n - (intOf iv).toNat)
  case atStart => exact ⟨0, by omega, rfl, hmade, hb3⟩
  case round =>
    obtain ⟨j, hj, rfl, hown, hbel⟩ := hrel
    clear hmade hb3
    by_cases hlt : j < n
    · obtain ⟨b, off, x, y, z, rfl, hx, q0, q1, q2⟩ := kget hr hbel hlt
      have hj' : j < l.length := by rw [hll.out]; exact hlt
      have hg : L.getD j 0 = f (x, y, z) := by rw [HL.out, ← hx.out]; simp [hj']
      have HS : Hid ((tcells ze (L.take j ++ List.replicate (n - j) 0)).set j (.int .i64 (f (x, y, z))) = tcells ze (L.take (j + 1) ++ List.replicate (n - (j + 1)) 0)) := (set_z L n j _ hlt HN.out hg : _ = _)
      have hb2 := hbel.alloc hbel.size (.cells #[.int .i64 x, .int .i64 y, .int .i64 z] 66)
      have hown2 := hown.alloc (.cells #[.int .i64 x, .int .i64 y, .int .i64 z] 66)
      have hat := at_z L n j hlt HN.out
      have hd := fun W => hdo x y z W
      generalize f (x, y, z) = y at *
      have i0 : (0 : Int) ≤ (j : Int) := by omega
      have i5 : (j : Int) < (n : Int) := by omega
      have c0 := cell_new wr #[.int .i64 x, .int .i64 y, .int .i64 z] 66
      clear hx hg
      go_wp2_with (go_at_fn fid; go_must (refine (hd _).mono ?_; rintro e w4 ⟨rfl, hb4⟩; have hown4 := own_keptB hown2 hb4; have hb5 := hb2.trans (hb4.mono hb2.size); obtain ⟨k1, k2⟩ := own_cells hown4 hat; clear hown2 hb2 hown))
      go_roundw
      case rel => exact ⟨j + 1, by omega, by go_num, by rw [← HS.out]; exact own_store hown4 j _, below_putB hb5 (Nat.le_refl _) _ _⟩
      case measure => simp [intOf]; omega
    · obtain rfl : j = n := by omega
      have HC : Hid (L.take j ++ List.replicate (j - j) 0 = L) := (by
        rw [List.take_of_length_le (by rw [HN.out]; exact Nat.le_refl _)]; simp : _ = _)
      go_wp2
      go_ret
      rw [HC.out] at hown
      exact ⟨some ⟨w.heap.size, 0, none⟩, j, rfl, hown, hbel⟩

theorem rmsegs (a : Option Addr) (n c : Nat) (l : List (Int × Int)) (w : World) (hn : n ≤ 1000000) (hr : MRow w a n l) : Calls Tryz.prog 112 #[.slice a n c, .func (.func 73) #[] #[]] w (ZRes w (l.map (·.1))) :=
  rnums_m (·.1) _ (enters_of Tryz.func73 (by kernel_rfl) rfl) (fun x y W => rmseg_any x y W) a n c l w hn hr
theorem rmnums (a : Option Addr) (n c : Nat) (l : List (Int × Int)) (w : World) (hn : n ≤ 1000000) (hr : MRow w a n l) : Calls Tryz.prog 112 #[.slice a n c, .func (.func 116) #[] #[]] w (ZRes w (l.map (·.2))) :=
  rnums_m (·.2) _ (enters_of Tryz.func116 (by kernel_rfl) rfl) (fun x y W => rmnum_any x y W) a n c l w hn hr

theorem rknums (a : Option Addr) (n c : Nat) (l : List (Int × Int × Int)) (w : World) (hn : n ≤ 1000000) (hr : KRow w a n l) : Calls Tryz.prog 120 #[.slice a n c, .func (.func 121) #[] #[]] w (ZRes w (l.map (·.1))) :=
  rnums_k (·.1) _ (enters_of Tryz.func121 (by kernel_rfl) rfl) (fun x y z W => rknum_any x y z W) a n c l w hn hr
theorem rkidxs (a : Option Addr) (n c : Nat) (l : List (Int × Int × Int)) (w : World) (hn : n ≤ 1000000) (hr : KRow w a n l) : Calls Tryz.prog 120 #[.slice a n c, .func (.func 77) #[] #[]] w (ZRes w (l.map (·.2.1))) :=
  rnums_k (·.2.1) _ (enters_of Tryz.func77 (by kernel_rfl) rfl) (fun x y z W => rkidx_any x y z W) a n c l w hn hr
end Go.Proofs.YtfogodbbgbnhkaaGreatDoor

/- Whether segments, moves, snapshots may be: the program's. -/
namespace Go.Proofs.YtfogodbbgbnhkaaGreatDoor
open Go.RowKit

theorem rcont_any (a : Option Addr) (n c : Nat) (l : List Int) (x : Int) (w : World) (hn : n ≤ 1000000) (hr : ZRow w a n l) (R : Bool) (hR : R = l.contains x) :
    Calls Tryz.prog 114 #[.slice a n c, .int .i64 x] w fun e w' => e = .returned (.bool R) ∧ w' = w := by
  obtain rfl := hr.1
  cases hz : l.length with
  | zero =>
    obtain rfl : l = [] := List.length_eq_zero_iff.mp hz
    subst hR
    exact Tryz.slices_Contains_int_empty a c x w
  | succ m =>
    rw [← hz]
    obtain ⟨b, off, rfl, hc⟩ := hr.at (by omega)
    have h := Tryz.slices_Contains_int b off l.length c l x w (Nat.le_refl _) (by omega) (fun j hj => by
      have := hc j hj 0 _ rfl
      rw [Nat.mul_one] at this
      exact this)
    rw [List.take_length, ← hR] at h
    exact h

set_option maxRecDepth 100000 in
set_option maxHeartbeats 1000000 in
theorem rsegs_any (a : Option Addr) (n c : Nat) (l : List Int) (w : World) (hn : n ≤ 1000000) (hr : ZRow w a n l) (R : Bool) (hR : R = Ro.segsMay l) :
    Calls Tryz.prog 58 #[.slice a n c] w fun e w' => e = .returned (.bool R) ∧ Below w.heap.size w w' := by
  have hll : Hid (l.length = n) := hr.1
  have HR : Hid (R = (decide (n ≤ 64) && Ro.rise l)) := (by rw [hR, Ro.segsMay, hll.out] : _ = _)
  have hri := fun W h => rrise_any a n c l W hn h (Ro.rise l) rfl
  clear hR
  by_cases h : n ≤ 64
  · have d1 : decide ((n : Int) ≤ 64) = true := by simp; omega
    have HR2 : Hid (R = Ro.rise l) := (by rw [HR.out]; simp [h] : _ = _)
    generalize Ro.rise l = q at *
    clear HR
    go_enter Tryz.func58, Tryz.ntmps58
    go_wp2_with (go_at_call 111; go_must (refine (hri _ hr).mono ?_; rintro e w3 ⟨rfl, hb3⟩))
    go_ret
    exact ⟨by rw [HR2.out]; rfl, hb3⟩
  · have d1 : decide ((n : Int) ≤ 64) = false := by simp; omega
    have HR2 : Hid (R = false) := (by rw [HR.out]; simp [h] : _ = _)
    clear HR
    go_enter Tryz.func58, Tryz.ntmps58
    go_wp2_with (go_at_call 111; go_must (refine (hri _ hr).mono ?_; rintro e w3 ⟨rfl, hb3⟩))
    go_ret
    exact ⟨by rw [HR2.out]; rfl, Below.refl _ _⟩

set_option maxRecDepth 100000 in
set_option maxHeartbeats 2000000 in
theorem rmoves_any (a : Option Addr) (n c : Nat) (l : List (Int × Int)) (a2 : Option Addr) (n2 c2 : Nat) (s : List Int) (w : World) (hn : n ≤ 1000000) (hn2 : n2 ≤ 1000000) (hr : MRow w a n l) (hr2 : ZRow w a2 n2 s) (R : Bool) (hR : R = Ro.movesMay l s) :
    Calls Tryz.prog 59 #[.slice a n c, .slice a2 n2 c2] w fun e w' => e = .returned (.bool R) ∧ Below w.heap.size w w' := by
  have hll : Hid (l.length = n) := hr.1
  by_cases h : 64 < n
  · have d1 : decide ((64 : Int) < (n : Int)) = true := by simp; omega
    have HR2 : Hid (R = false) := (by rw [hR, Ro.movesMay, hll.out]; simp [show ¬ n ≤ 64 by omega] : _ = _)
    clear hR
    go_enter Tryz.func59, Tryz.ntmps59
    go_wp2
    go_ret
    exact ⟨by rw [HR2.out]; rfl, Below.refl _ _⟩
  · have d1 : decide ((64 : Int) < (n : Int)) = false := by simp; omega
    obtain ⟨M, hM⟩ : ∃ M, M = l.map (·.1) := ⟨_, rfl⟩
    obtain ⟨L, hL⟩ : ∃ L, L = Ro.lastOf s := ⟨_, rfl⟩
    have hMn : M.length = n := by rw [hM, List.length_map]; exact hr.1
    have HR : Hid (R = ((M.drop 0).all (fun g => decide (g < L) && !s.contains g) && (Ro.rise M && Ro.differ (l.map (·.2))))) := (by rw [hR, Ro.movesMay, hll.out, hL, hM]; simp [show n ≤ 64 by omega] : _ = _)
    have hnum := rmsegs a n c l w hn hr
    have hnum2 := fun W hW => rmnums a n c l W hn (hr.below hW (Nat.le_refl _))
    unfold ZRes at hnum hnum2
    rw [← hM, hMn] at hnum
    have hm2 : (l.map (·.2)).length = n := by rw [List.length_map]; exact hr.1
    rw [hm2] at hnum2
    have hlast := fun W hW => rlast_any a2 n2 c2 s W hn2 (hr2.below hW (Nat.le_refl _)) L hL
    have hcon := fun x W hW => rcont_any a2 n2 c2 s x W hn2 (hr2.below hW (Nat.le_refl _)) (s.contains x) rfl
    have hri := fun g c W h => rrise_any g n c M W hn h (Ro.rise M) rfl
    have hdi := fun g c W h => rdiffer_any g n c (l.map (·.2)) hn W h (Ro.differ (l.map (·.2))) rfl
    generalize l.map (·.2) = M2 at *
    have HM : Hid (M.length = n) := hMn
    clear hR hM hL hMn hm2 hr hll h
    go_enter Tryz.func59, Tryz.ntmps59
    go_wp2_with (go_at_call 112; go_must (refine hnum.mono ?_; rintro e w1 ⟨g, gc, rfl, hown1, hb1⟩; have hz1 : ZRow w1 g n M := trow_of_owns zeE hown1 (by omega) (by omega); clear hnum hown1))
    go_loopw [15] (fun i wr => ∃ (k : Nat), k ≤ n ∧ i = .int .i64 k ∧ Hid (R = ((M.drop k).all (fun g => decide (g < L) && !s.contains g) && (Ro.rise M && Ro.differ M2))) ∧ Below w1.heap.size w1 wr) (fun i _ => n - (intOf i).toNat)
    case atStart => exact ⟨0, by omega, rfl, HR, Below.refl _ _⟩
    case round =>
      obtain ⟨k, hk, rfl, H, hbel⟩ := hrel
      have hB := hb1.trans (hbel.mono hb1.size)
      by_cases hlt : k < n
      · obtain ⟨b, off, x, rfl, hx, q0⟩ := zget hz1 hbel hlt
        have hk' : k < M.length := by rw [HM.out]; exact hlt
        have H2 : Hid (R = (((decide (x < L) && !s.contains x) && (M.drop (k + 1)).all (fun g => decide (g < L) && !s.contains g)) && (Ro.rise M && Ro.differ M2))) := (by rw [H.out, gdrop 0 hk', hx.out]; rfl : R = _)
        have i0 : (0 : Int) ≤ (k : Int) := by omega
        have i1 : (k : Int) < (n : Int) := by omega
        have hcx := fun W hW => hcon x W hW
        clear hx H HR hcon
        by_cases h1 : L ≤ x
        · have HF : Hid (R = false) := (by rw [H2.out]; simp [Int.not_lt.mpr h1] : R = false)
          have d2 : decide (L ≤ x) = true := by simpa using h1
          clear H2
          go_wp2_with (first
            | (go_at_call 113; go_must (refine (hlast _ hB).mono ?_; rintro e w2 ⟨rfl, hb2⟩))
            | (go_at_call 114; go_must (refine (hcx _ (hB.trans (hb2.mono hB.size))).mono ?_; rintro e w3 ⟨rfl, rfl⟩)))
          go_ret
          exact ⟨by rw [HF.out]; rfl, hB.trans (hb2.mono hB.size)⟩
        · have d2 : decide (L ≤ x) = false := by simpa using h1
          cases hq : s.contains x with
          | true =>
            have HF : Hid (R = false) := (by rw [H2.out, hq]; simp : R = false)
            rw [hq] at hcx
            clear H2 hq
            go_wp2_with (first
              | (go_at_call 113; go_must (refine (hlast _ hB).mono ?_; rintro e w2 ⟨rfl, hb2⟩))
              | (go_at_call 114; go_must (refine (hcx _ (hB.trans (hb2.mono hB.size))).mono ?_; rintro e w3 ⟨rfl, rfl⟩)))
            go_ret
            exact ⟨by rw [HF.out]; rfl, hB.trans (hb2.mono hB.size)⟩
          | false =>
            have H3 : Hid (R = ((M.drop (k + 1)).all (fun g => decide (g < L) && !s.contains g) && (Ro.rise M && Ro.differ M2))) := (by rw [H2.out, hq]; simp [Int.not_le.mp h1] : R = _)
            rw [hq] at hcx
            clear H2 hq
            go_wp2_with (first
              | (go_at_call 113; go_must (refine (hlast _ hB).mono ?_; rintro e w2 ⟨rfl, hb2⟩))
              | (go_at_call 114; go_must (refine (hcx _ (hB.trans (hb2.mono hB.size))).mono ?_; rintro e w3 ⟨rfl, rfl⟩)))
            go_roundw
            case rel => exact ⟨k + 1, by omega, by go_num, H3, hbel.trans (hb2.mono hbel.size)⟩
            case measure => simp [intOf]; omega
      · obtain rfl : k = n := by omega
        have HE : Hid (R = (Ro.rise M && Ro.differ M2)) := (by rw [H.out, List.drop_of_length_le (by rw [HM.out]; exact Nat.le_refl _)]; rfl : R = _)
        clear H HR hcon hlast
        generalize Ro.differ M2 = q2 at *
        generalize Ro.rise M = q1 at *
        cases q1 with
        | false =>
          go_wp2_with (first
            | (go_at_call 111; go_must (refine (hri _ _ _ (hz1.below hbel (Nat.le_refl _))).mono ?_; rintro e w2 ⟨rfl, hb2⟩)))
          go_ret
          exact ⟨by rw [HE.out]; rfl, hB.trans (hb2.mono hB.size)⟩
        | true =>
          go_wp2_with (first
            | (go_at_call 111; go_must (refine (hri _ _ _ (hz1.below hbel (Nat.le_refl _))).mono ?_; rintro e w2 ⟨rfl, hb2⟩; have hB2 := hB.trans (hb2.mono hB.size)))
            | (go_at_call 112; go_must (refine (hnum2 _ hB2).mono ?_; rintro e w3 ⟨g3, gc3, rfl, hown3, hb3⟩; have hB3 := hB2.trans (hb3.mono hB2.size)))
            | (go_at_call 115; go_must (refine (hdi _ _ _ (trow_of_owns zeE hown3 (by omega) (by omega))).mono ?_; rintro e w4 ⟨rfl, hb4⟩)))
          go_ret
          exact ⟨by rw [HE.out]; rfl, hB3.trans (hb4.mono hB3.size)⟩
end Go.Proofs.YtfogodbbgbnhkaaGreatDoor
