/- Numbers in order: slices.Sorted(slices.Values(l)) of the library, as far as differ asks for it; differ. -/
import Derived.Test.YtmodogmjfbcddaaGreatRA
import Derived.Test.YtmodogmjfbcddaaGreatSeq
import Derived.Test.YtmodogmjfbcddaaGreatShelf
namespace Go.Proofs.YtmodogmjfbcddaaGreat
open Go.RowKit Go.Shelf
attribute [local go_sem] Oper.semAt_some

set_option maxRecDepth 100000 in
set_option maxHeartbeats 2000000 in
/-- the iterator over a row of numbers, whatever a round does that leaves alone what lay there before -/
theorem rvals_in (n l Bs B : Nat) (a : Option Addr) (len cap : Nat) (zs : List Int) (hlen : len ≤ 1000000) (W0 : World) (hB : B = W0.heap.size) (hr : ZRow W0 a len zs) (J : List Int → World → Prop) (hn : 1 ≤ n)
    (hJ : ∀ ss W, J ss W → Below B W0 W)
    (hY : ∀ pre x W, J pre W → pre.length < len → YieldAt Fence.wide (n - 1) Tryz.prog l #[.int .i64 x] W fun e W' => e = .returned (.bool true) ∧ J (pre ++ [x]) W')
    (W : World) (hBs : W.cell? ⟨Bs, 0, none⟩ = some (.slice a len cap)) (h0 : J [] W) :
    CallsIn Fence.wide n Tryz.prog 134 #[.func (.yield l) #[] #[], .pointer (some ⟨Bs, 0, none⟩)] W fun e W' => (∃ v, e = .returned v) ∧ J zs W' := by
  subst hB
  have hll : Hid (zs.length = len) := hr.1
  refine callsIn_of_wp Tryz.func134 rfl trivial ?_ rfl
  simp only [Tryz.ntmps134, List.size_toArray, List.length_cons, List.length_nil, Nat.reduceAdd, Nat.reduceSub, Array.replicate_succ, Array.replicate_zero, List.push_toArray, List.append_toArray, List.nil_append, List.cons_append]
  gi_wp2
  gi_loopw [7] (fun i wr => ∃ k : Nat, k ≤ len ∧ i = .int .i64 k ∧ J (zs.take k) wr) (fun i _ => len - (intOf i).toNat)
  case atStart => exact ⟨0, Nat.zero_le _, rfl, by simpa using h0⟩
  case round =>
    obtain ⟨k, hk, rfl, hJs⟩ := hrel
    by_cases hlt : k < len
    · obtain ⟨b, off, x, rfl, hx, q0⟩ := zget hr (hJ _ _ hJs) hlt
      have hk' : k < zs.length := by rw [hll.out]; exact hlt
      obtain ⟨fn, tmps, assign, body, hy, hR⟩ := hY _ x wr hJs (by rw [List.length_take]; omega)
      rw [← hx.out, ← gtake 0 hk'] at hR
      clear hx
      gi_wp2
      refine hR.mono ?_
      rintro e W3 ⟨rfl, hJ3⟩
      gi_wp2
      go_roundw
      case rel => exact ⟨k + 1, by omega, by simp, hJ3⟩
      case measure => simp [intOf]; omega
    · obtain rfl : k = len := by omega
      rw [List.take_of_length_le (by rw [hll.out]; exact Nat.le_refl _)] at hJs
      gi_wp2
      go_end0
      exact ⟨⟨_, rfl⟩, hJs⟩

set_option maxRecDepth 100000 in
set_option maxHeartbeats 4000000 in
theorem rapseq_any (a : Option Addr) (len cap Bs : Nat) (zs : List Int) (hlen : len ≤ 1000000) (w : World) (hr : ZRow w a len zs) (hBs : w.cell? ⟨Bs, 0, none⟩ = some (.slice a len cap)) :
    Calls Tryz.prog 148 #[.slice none 0 0, .func (.func 134) #[] #[.pointer (some ⟨Bs, 0, none⟩)]] w fun e w' => ∃ v, e = .returned v ∧ w'.ownsRow w.heap.size 3 1 v zs.length (zs.map encZ) ∧ (v = .slice none 0 0 ↔ zs = []) ∧ Below w.heap.size w w' := by
  refine (callsIn_wide (n := 3)).1 ?_
  have hBl : Bs < w.heap.size := cell_lt hBs
  refine callsIn_of_wp_marks Tryz.func148 rfl trivial ?_ rfl
  simp only [Tryz.ntmps148, List.size_toArray, List.length_cons, List.length_nil, Nat.reduceAdd, Nat.reduceSub, Array.replicate_succ, Array.replicate_zero, List.push_toArray, List.append_toArray, List.nil_append, List.cons_append]
  gi_wp2
  refine wpIn_rangeFunc ?_
  intro fn hfn
  obtain ⟨W0, hW0⟩ : ∃ W0, w.alloc (.cells #[.slice none 0 0] 22) = W0 := ⟨_, rfl⟩
  have hs0 : W0.heap.size = w.heap.size + 1 := by rw [← hW0]; simp
  have hv0 : W0.heap[w.heap.size]? = some (.cells #[.slice none 0 0] 22 (0, 0)) := by rw [← hW0]; exact World.alloc_heap_new w _
  have hb0 : Below w.heap.size w W0 := by rw [← hW0]; exact (Below.refl _ w).alloc (Nat.le_refl _) _
  rw [hW0]
  obtain ⟨sv, hsv⟩ : ∃ sv, sv = Value.func (.func 134) #[] #[.pointer (some ⟨Bs, 0, none⟩)] := ⟨_, rfl⟩
  obtain ⟨W1, hW1⟩ : ∃ W1, (W0.alloc (.deferred (some []))).alloc (.loop (AnyZI.apRec Tryz.apseq_ren fn sv w.heap.size W0.heap.size .ready none)) = W1 := ⟨_, rfl⟩
  have hold : ∀ k, k < W0.heap.size → W1.heap[k]? = W0.heap[k]? := fun k hk => by
    rw [← hW1]; exact (Below.heap_alloc _ _ k (by simp; omega)).trans (Below.heap_alloc _ _ k hk)
  have hb1 : Below w.heap.size w W1 := by rw [← hW1]; exact (hb0.alloc hb0.size _).alloc (by have := hb0.size; simp; omega) _
  have hM : AnyZI.ApAt Tryz.apseq_ren w fn sv w.heap.size (W0.heap.size + 1) W0.heap.size [] W1 :=
    ⟨⟨_, (hold w.heap.size (by omega)).trans hv0, ⟨rfl, .inl ⟨rfl, rfl⟩⟩, by simp⟩,
     by rw [← hW1]; have := World.alloc_heap_new (W0.alloc (.deferred (some []))) (.loop (AnyZI.apRec Tryz.apseq_ren fn sv w.heap.size W0.heap.size .ready none)); rwa [World.size_alloc] at this,
     by rw [← hW1]; exact (Below.heap_alloc _ _ _ (by simp)).trans (World.alloc_heap_new W0 _), hb1⟩
  have hit := rvals_in 2 (W0.heap.size + 1) Bs w.heap.size a len cap zs hlen w rfl hr (AnyZI.ApAt Tryz.apseq_ren w fn sv w.heap.size (W0.heap.size + 1) W0.heap.size) (by omega) (fun ss W h => h.below)
    (fun pre x W hJ hl => (AnyZI.apYield Tryz.apseq Fence.wide _ w fn hfn _ w.heap.size (W0.heap.size + 1) W0.heap.size (by omega) (by omega) (by omega) (Nat.le_refl _) (by omega) len (by unfold maxLen; omega) (by omega) pre x W hJ hl).imp fun _ h => h.imp fun _ h => h.imp fun _ h => h.imp fun _ h => ⟨h.1, h.2.mono fun e W' h => ⟨h.1, h.2.1⟩⟩) W1 ((hb1.cell (p := ⟨Bs, 0, none⟩) hBl).trans hBs) hM
  refine ⟨W0.heap.size + 1, [{ target := .collected W0.heap.size, args := #[] }], W1, { target := .fn (.func 134) #[.pointer (some ⟨Bs, 0, none⟩)], args := #[.func (.yield (W0.heap.size + 1)) #[] #[]] }, W1, 134,
    #[.func (.yield (W0.heap.size + 1)) #[] #[], .pointer (some ⟨Bs, 0, none⟩)], W1, ?_, ?_, ?_, ?_, fun _ => by omega, ?_⟩
  · rw [← hW1, hsv]; exact run_enterLoop_outer _ _ _ _ _
  · simp [resolve, go_sem]
  · intro f' hf'; trivial
  · simp [invoke, go_sem]
  · refine hit.mono ?_
    rintro e W2 ⟨⟨v0, rfl⟩, h2⟩
    obtain ⟨v, hv, hrow, hnil⟩ := h2.box
    have hend := run_endLoop (P := Tryz.prog) h2.L (by simp [AnyZI.apRec])
    obtain ⟨W3, hW3⟩ : ∃ W3, W2.putObj (W0.heap.size + 1) (.loop { AnyZI.apRec Tryz.apseq_ren fn sv w.heap.size W0.heap.size .ready none with state := .exhausted }) = W3 := ⟨_, rfl⟩
    rw [hW3] at hend
    have hg3 : W2.grownBy W3 (some (W0.heap.size + 1)) := by rw [← hW3]; exact grownBy_putObj_a _ _ _
    have hv3 : W3.heap[w.heap.size]? = some (.cells #[v] 22 (0, 0)) := by rw [← hW3]; exact (World.putObj_heap_other (by omega)).trans hv
    have hK3 : W3.heap[W0.heap.size]? = some (.deferred (some [])) := by rw [← hW3]; exact (World.putObj_heap_other (by omega)).trans h2.K
    have hrow3 := hrow.kept hg3 (ownsRow_ne_a hrow h2.L (fun cur e => by cases e))
    have hb3 : Below w.heap.size w W3 := h2.below.grown hg3 h2.below.size (fun k e => by cases e; omega)
    obtain ⟨hc3, hf3⟩ := cell_of_box_a hv3
    clear hW3
    refine ⟨none, W3, hend, ?_⟩
    gi_wp2
    rw [← hs0]
    refine ⟨by simp, .inl ⟨_, _, rfl, run_takeDeferred hK3, ?_⟩⟩
    exact ⟨_, results_tmp rfl _ _ _, v, rfl, hrow3.kept (grownBy_putObj_a _ _ _) (ownsRow_ne_a hrow3 hK3 (fun cur e => by cases e)), hnil, hb3.grown (grownBy_putObj_a _ _ _) hb3.size (fun k e => by cases e; omega)⟩

theorem encz_cells (l : List Int) : l.map encZ = tcells ze l := by
  unfold tcells
  induction l with
  | nil => rfl
  | cons x l ih => rw [List.map_cons, List.flatMap_cons, ih]; rfl
/-- a new row of numbers -/
def ZRes (w : World) (l : List Int) (e : Ending) (w' : World) : Prop := ∃ g c, e = .returned (.slice g l.length c) ∧ w'.ownsRow w.heap.size 3 1 (.slice g l.length c) l.length (tcells ze l) ∧ Below w.heap.size w w'

set_option maxRecDepth 100000 in
set_option maxHeartbeats 1000000 in
theorem rvalues_any (a : Option Addr) (len cap : Nat) (w : World) :
    Calls Tryz.prog 107 #[.slice a len cap] w fun e w' => e = .returned (.func (.func 134) #[] #[.pointer (some ⟨w.heap.size, 0, none⟩)]) ∧ w' = w.alloc (.cells #[.slice a len cap] 22) := by
  go_enter Tryz.func107, Tryz.ntmps107
  go_wp2
  go_ret
  exact ⟨rfl, rfl⟩

set_option maxRecDepth 100000 in
set_option maxHeartbeats 1000000 in
theorem rcollect_any (a : Option Addr) (len cap Bs : Nat) (zs : List Int) (hlen : len ≤ 1000000) (w : World) (hr : ZRow w a len zs) (hBs : w.cell? ⟨Bs, 0, none⟩ = some (.slice a len cap)) :
    Calls Tryz.prog 133 #[.func (.func 134) #[] #[.pointer (some ⟨Bs, 0, none⟩)]] w (ZRes w zs) := by
  have ha := rapseq_any a len cap Bs zs hlen w hr hBs
  go_enter Tryz.func133, Tryz.ntmps133
  go_wp2_with (go_at_call 148; go_must (refine ha.mono ?_; rintro e w1 ⟨v, rfl, hown, _, hb⟩))
  go_ret
  rw [encz_cells] at hown
  obtain ⟨g, c, rfl, _, _⟩ := t_shape hown
  exact ⟨g, c, rfl, hown, hb⟩

theorem sorted_length (l : List Int) : (Ro.sorted l).length = l.length := by unfold Ro.sorted; exact List.length_mergeSort l
theorem grown_self (w : World) {row : Option Nat} : w.grownBy w row := ⟨rfl, rfl, rfl, Nat.le_refl _, fun _ _ _ => rfl⟩
theorem own_base {w : World} {B e s : Nat} {v : Value} {n k : Nat} {xs : List Value} (h : w.ownsRow B e s v n xs) (hk : v.ownBlock = some k) : B ≤ k := by
  rcases Nat.lt_or_ge k B with h1 | h1
  · exact absurd hk.symm (own_ne h h1)
  · exact h1
/-- slices.Sort of a row of the call's own -/
theorem rsort_any (a : Option Addr) (n c B : Nat) (l : List Int) (w : World) (hn : n ≤ 1000000) (hown : w.ownsRow B 3 1 (.slice a n c) n (tcells ze l)) :
    Calls Tryz.prog 86 #[.slice a n c] w fun e w' => e = .returned (.tuple #[]) ∧ w'.ownsRow B 3 1 (.slice a n c) n (tcells ze (Ro.sorted l)) ∧ w.grownBy w' (Value.slice a n c).ownBlock := by
  have hl : l.length = n := by have := hown.1; rw [tcells_length zeE] at this; omega
  rcases hown.2 with ⟨e, h0⟩ | ⟨g, cap, cur, e, hB, hg, h1, h2, h3, h4⟩
  · simp only [Value.slice.injEq] at e
    obtain ⟨rfl, rfl, rfl⟩ := e
    obtain rfl : l = [] := List.length_eq_zero_iff.mp hl
    refine (Tryz.slices_Sort_int_none none 0 w).mono ?_
    rintro e w' ⟨rfl, rfl⟩
    exact ⟨rfl, by simpa [Ro.sorted] using hown, grown_self _⟩
  · simp only [Value.slice.injEq] at e
    obtain ⟨rfl, _, rfl⟩ := e
    subst hl
    rw [← encz_cells, Nat.mul_one] at h4
    refine (Tryz.slices_Sort_int g 0 c l w (holds_of_block_i hg h4) (Array.getElem?_eq_some_iff.1 hg).1 (by omega)).mono ?_
    rintro e w' ⟨rfl, m, os, rfl⟩
    have hs : (l.mergeSort fun x y => decide (x ≤ y)).length = l.length := List.length_mergeSort l
    have ho := ownsRow_sorted_i (base := B) (n := m) (os := os) hs hB hg h1 h2 h3
    rw [encz_cells] at ho
    exact ⟨rfl, ho, grownBy_sorted_i _⟩

set_option maxRecDepth 100000 in
set_option maxHeartbeats 1000000 in
theorem rsorted_any (a : Option Addr) (len cap Bs : Nat) (zs : List Int) (hlen : len ≤ 1000000) (w : World) (hr : ZRow w a len zs) (hBs : w.cell? ⟨Bs, 0, none⟩ = some (.slice a len cap)) :
    Calls Tryz.prog 106 #[.func (.func 134) #[] #[.pointer (some ⟨Bs, 0, none⟩)]] w (ZRes w (Ro.sorted zs)) := by
  have ha := rcollect_any a len cap Bs zs hlen w hr hBs
  have hzl : zs.length ≤ 1000000 := by rw [hr.1]; exact hlen
  have hs := sorted_length zs
  obtain ⟨N, hN⟩ : ∃ N, N = zs.length := ⟨_, rfl⟩
  unfold ZRes at ha ⊢
  rw [hs]
  rw [← hN] at ha hzl ⊢
  clear hs hr hBs hN
  have hso := fun g c W hown => rsort_any g N c w.heap.size zs W hzl hown
  go_enter Tryz.func106, Tryz.ntmps106
  go_wp2_with (first
    | (go_at_call 133; go_must (refine ha.mono ?_; rintro e w1 ⟨g, c, rfl, hown, hb⟩))
    | (go_at_call 86; go_must (refine (hso _ _ _ hown).mono ?_; rintro e w2 ⟨rfl, hown2, hg2⟩)))
  go_ret
  exact ⟨g, c, rfl, hown2, hb.grown hg2 hb.size (fun k hk => own_base hown hk)⟩

set_option maxRecDepth 100000 in
set_option maxHeartbeats 1000000 in
theorem rdiffer_any (a : Option Addr) (len cap : Nat) (zs : List Int) (hlen : len ≤ 1000000) (w : World) (hr : ZRow w a len zs) (R : Bool) (hR : R = Ro.differ zs) :
    Calls Tryz.prog 70 #[.slice a len cap] w fun e w' => e = .returned (.bool R) ∧ Below w.heap.size w w' := by
  have hv := rvalues_any a len cap w
  have hb0 := below_alloc w (.cells #[.slice a len cap] 22)
  have hso := rsorted_any a len cap w.heap.size zs hlen (w.alloc (.cells #[.slice a len cap] 22)) (hr.below hb0 (Nat.le_refl _)) (cell_new w #[.slice a len cap] 22 0)
  have hsl : (Ro.sorted zs).length ≤ 1000000 := by rw [sorted_length, hr.1]; exact hlen
  have hri := fun g c W h => rrise_any g (Ro.sorted zs).length c (Ro.sorted zs) W hsl h R hR
  unfold ZRes at hso
  generalize Ro.sorted zs = S at *
  obtain ⟨N, hN⟩ : ∃ N, N = S.length := ⟨_, rfl⟩
  rw [← hN] at hso hri hsl
  clear hN hr hR
  go_enter Tryz.func70, Tryz.ntmps70
  go_wp2_with (first
    | (go_at_call 107; go_must (refine hv.mono ?_; rintro e w1 ⟨rfl, rfl⟩))
    | (go_at_call 106; go_must (refine hso.mono ?_; rintro e w2 ⟨g, c, rfl, hown, hb⟩))
    | (go_at_call 67; go_must (refine (hri _ _ _ (trow_of_owns zeE hown (by omega) (by omega))).mono ?_; rintro e w3 ⟨rfl, hb3⟩)))
  go_ret
  exact ⟨rfl, (hb0.trans (hb.mono hb0.size)).trans (hb3.mono (hb0.trans (hb.mono hb0.size)).size)⟩
end Go.Proofs.YtmodogmjfbcddaaGreat
