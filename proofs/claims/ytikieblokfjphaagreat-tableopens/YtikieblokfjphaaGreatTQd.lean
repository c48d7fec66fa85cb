/- The program's tables: parts added, items parted by a size. -/
import Derived.Test.YtikieblokfjphaaGreatTQa
import Derived.Test.YtikieblokfjphaaGreatSB
import Derived.Deep.LoopGhost
import Derived.Test.YtikieblokfjphaaGreatPA
import Derived.Test.YtikieblokfjphaaGreatBPa
namespace Go.Proofs.YtikieblokfjphaaGreat
open Go.RowKit

theorem box_apart {W : World} {g B n e s t : Nat} {v : Value} {cs : Array Value} {xs : List Value} {fz : Nat × Nat} (h : W.heap[g]? = some (.cells cs t fz)) (hown : W.ownsRow B e s v n xs) (hne : t ≠ e) : some g ≠ v.ownBlock := by
  intro e'
  rcases hown.2 with ⟨rfl, _⟩ | ⟨k, cap, cur, rfl, _, hk, _⟩
  · cases e'
  · simp only [Value.ownBlock, Option.some.injEq] at e'
    subst e'
    rw [h] at hk
    simp only [Option.some.injEq, Obj.cells.injEq] at hk
    exact hne hk.2.1
/-- parts that are being made -/
structure PSt (w0 V : World) (b : Nat) (la : Option Addr) (ln lc cnt : Nat) (ps : List PH) : Prop where
  below : Below w0.heap.size w0 V
  box : V.heap[b]? = some (.cells #[.slice la ln lc, .int .i64 (cnt : Nat)] 48 (0, 0))
  own : V.ownsRow w0.heap.size 28 1 (.slice la ln lc) ln (tcells phe ps)
  ge : w0.heap.size ≤ b
theorem PSt.lt {w0 V : World} {b ln lc cnt : Nat} {la : Option Addr} {ps : List PH} (h : PSt w0 V b la ln lc cnt ps) : b < V.heap.size := (Array.getElem?_eq_some_iff.1 h.box).1
theorem PSt.cells {w0 V : World} {b ln lc cnt : Nat} {la : Option Addr} {ps : List PH} (h : PSt w0 V b la ln lc cnt ps) : V.cell? ⟨b, 0, none⟩ = some (.slice la ln lc) ∧ V.cell? ⟨b, 1, none⟩ = some (.int .i64 (cnt : Nat)) ∧ ∀ i, V.frozen? ⟨b, i, none⟩ = false :=
  ⟨(Go.Joins.cell_of_block h.box _).trans rfl, (Go.Joins.cell_of_block h.box _).trans rfl, fun i => Go.Joins.unfrozen_of_block h.box i⟩
theorem PSt.on {w0 V V' : World} {b ln lc cnt : Nat} {la : Option Addr} {ps : List PH} (h : PSt w0 V b la ln lc cnt ps) (hb : Below V.heap.size V V') : PSt w0 V' b la ln lc cnt ps :=
  ⟨h.below.trans (hb.mono h.below.size), (hb.block _ h.lt).trans h.box, owns_below h.own hb, h.ge⟩
/-- what a part added leaves as it was -/
def AddKeeps (V V' : World) (b : Nat) (v : Value) : Prop := V.heap.size ≤ V'.heap.size ∧ ∀ k, k < V.heap.size → k ≠ b → some k ≠ v.ownBlock → V'.heap[k]? = V.heap[k]?
theorem AddKeeps.owns {w0 V V' : World} {b ln lc cnt : Nat} {la : Option Addr} {ps : List PH} (h : PSt w0 V b la ln lc cnt ps) (hk : AddKeeps V V' b (.slice la ln lc)) {B e s n : Nat} {v : Value} {xs : List Value} (hr : V.ownsRow B e s v n xs) (he1 : (48 : Nat) ≠ e) (he2 : e ≠ 28) : V'.ownsRow B e s v n xs := by
  have hap := own_apart hr h.own he2
  refine ⟨hr.1, ?_⟩
  rcases hr.2 with hn | ⟨g, cap, cur, rfl, hg, hgg, rest⟩
  · exact .inl hn
  · refine .inr ⟨g, cap, cur, rfl, hg, ?_, rest⟩
    have hne : g ≠ b := fun e => by
      subst e
      have := h.box
      rw [hgg] at this
      simp only [Option.some.injEq, Obj.cells.injEq] at this
      exact he1 this.2.1.symm
    rw [hk.2 g (Array.getElem?_eq_some_iff.1 hgg).1 hne (by
      rcases hap with h' | h'
      · simp [Value.ownBlock] at h'
      · exact h')]
    exact hgg

set_option maxRecDepth 100000 in
set_option maxHeartbeats 1000000 in
theorem tadd_any (w0 V : World) (b : Nat) (la : Option Addr) (ln lc cnt : Nat) (ps : List PH) (a : Option Addr) (n c : Nat) (h : PSt w0 V b la ln lc cnt ps) (hl : ln ≤ 1000000) (hc : cnt + n ≤ 1000000000) :
    Calls Tryz.prog 34 #[.pointer (some ⟨b, 0, none⟩), .slice a n c] V fun e V' => e = .returned (.tuple #[]) ∧ ∃ la' lc', PSt w0 V' b la' (ln + 1) lc' (cnt + n) (ps ++ [⟨a, n, c⟩]) ∧ AddKeeps V V' b (.slice la ln lc) := by
  have hb0 := below_alloc V (.cells #[.slice a n c] 28)
  have h1 := h.on hb0
  obtain ⟨c0, c1, c2⟩ := h.cells
  have hbl := h.lt
  have hB1 : w0.heap.size ≤ (V.alloc (.cells #[.slice a n c] 28)).heap.size := h1.below.size
  have e1 : IntKind.i64.wrap ((cnt : Int) + (n : Int)) = (cnt : Int) + (n : Int) := by rw [IntKind.wrap_i64]; omega
  have HF : Hid (∀ (w2 : World) (a' : Option Addr) (c' : Nat), (V.alloc (.cells #[.slice a n c] 28)).grownBy w2 (Value.slice la ln lc).ownBlock → w2.heap[b]? = some (.cells #[.slice la ln lc, .int .i64 (cnt : Nat)] 48 (0, 0))) := (fun w2 a' c' hg => (hg.block b h1.lt (box_apart h1.box h1.own (by decide))).trans h1.box : ∀ (w2 : World) (a' : Option Addr) (c' : Nat), (V.alloc (.cells #[.slice a n c] 28)).grownBy w2 (Value.slice la ln lc).ownBlock → w2.heap[b]? = some (.cells #[.slice la ln lc, .int .i64 (cnt : Nat)] 48 (0, 0)))
  have HE : Hid (∀ (w2 : World) (a' : Option Addr) (c' : Nat), (V.alloc (.cells #[.slice a n c] 28)).grownBy w2 (Value.slice la ln lc).ownBlock → w2.ownsRow w0.heap.size 28 1 (.slice a' (ln + 1) c') (ln + 1) (tcells phe (ps ++ [⟨a, n, c⟩])) → Below w0.heap.size w0 w2 → PSt w0 ((w2.setCell ⟨b, 0, none⟩ (.slice a' (ln + 1) c')).setCell ⟨b, 1, none⟩ (.int .i64 ((cnt : Int) + (n : Int)))) b a' (ln + 1) c' (cnt + n) (ps ++ [⟨a, n, c⟩]) ∧ AddKeeps V ((w2.setCell ⟨b, 0, none⟩ (.slice a' (ln + 1) c')).setCell ⟨b, 1, none⟩ (.int .i64 ((cnt : Int) + (n : Int)))) b (.slice la ln lc)) := (fun w2 a' c' hg ho hb => by
    have hbx := HF.out w2 a' c' hg
    have s1 := Go.Joins.block_setCell (i := 0) hbx (.slice a' (ln + 1) c')
    have s2 := Go.Joins.block_setCell (i := 1) s1 (.int .i64 ((cnt : Int) + (n : Int)))
    have hoth : ∀ k, k ≠ b → ((w2.setCell ⟨b, 0, none⟩ (.slice a' (ln + 1) c')).setCell ⟨b, 1, none⟩ (.int .i64 ((cnt : Int) + (n : Int)))).heap[k]? = w2.heap[k]? := fun k hk => by rw [Below.heap_setCell _ _ _ k hk, Below.heap_setCell _ _ _ k hk]
    refine ⟨⟨(hb.setCell h.ge _).setCell h.ge _, ?_, ?_, h.ge⟩, ?_, fun k hk hkb hko => ?_⟩
    · simpa using s2
    · refine ⟨ho.1, ?_⟩
      rcases ho.2 with hn | ⟨g, cap, cur, e, hg', hgg, rest⟩
      · exact .inl hn
      · refine .inr ⟨g, cap, cur, e, hg', ?_, rest⟩
        have hne : g ≠ b := fun e => by
          subst e
          rw [hbx] at hgg
          simp only [Option.some.injEq, Obj.cells.injEq] at hgg
          exact absurd hgg.2.1 (by decide)
        rw [hoth g hne]; exact hgg
    · have := hg.size
      simp at this ⊢
      omega
    · rw [hoth k hkb, hg.block k (by simp; omega) hko]
      exact hb0.block k hk : _)
  clear h
  go_enter Tryz.func34, Tryz.ntmps34
  go_wp2_with (at_builtin; go_must (refine append_tg partE phE (w0 := w0) (B := w0.heap.size) rfl (.tmp 8) (.tmp 10) rfl _ ln _ rfl h1.own _ 1 1 [⟨a, n, c⟩] rfl (lit_part V ⟨a, n, c⟩ rfl) (fun h => by cases h) (by omega) h1.below hB1 ?_; intro a9 c9 w9 hg9 hc9 hn9 _ ho9 hb9 _; have bx := HF.out w9 a9 c9 hg9; have d0 := (Go.Joins.cell_of_block bx 0).trans rfl; have d1 := (Go.Joins.cell_of_block bx 1).trans rfl; have f0 := Go.Joins.unfrozen_of_block bx 0; have f1 := Go.Joins.unfrozen_of_block bx 1))
  first | go_end0 | refine bodyPost_ret (results_none rfl _ _ _) rfl ?_
  exact ⟨rfl, a9, c9, HE.out w9 a9 c9 hg9 ho9 hb9⟩

theorem PartsAt.snoc {w : World} {ps : List PH} {gss : List (List IH)} {xss : List (List It.I)} (h : PartsAt w ps gss xss) {a : Option Addr} {n c : Nat} {g : List IH} {x : List It.I} (hi : InI w a n c g x) : PartsAt w (ps ++ [⟨a, n, c⟩]) (gss ++ [g]) (xss ++ [x]) := by
  obtain ⟨h1, h2, h3⟩ := h
  refine ⟨by simp [h1], by simp [h2], fun i hi' => ?_⟩
  rw [List.length_append, List.length_singleton] at hi'
  rcases Nat.lt_or_ge i xss.length with h' | h'
  · have e1 : (ps ++ [(⟨a, n, c⟩ : PH)]).getD i phz = ps.getD i phz := by rw [List.getD_eq_getElem?_getD, List.getElem?_append_left (by omega), ← List.getD_eq_getElem?_getD]
    have e2 : (gss ++ [g]).getD i [] = gss.getD i [] := by rw [List.getD_eq_getElem?_getD, List.getElem?_append_left (by omega), ← List.getD_eq_getElem?_getD]
    have e3 : (xss ++ [x]).getD i [] = xss.getD i [] := by rw [List.getD_eq_getElem?_getD, List.getElem?_append_left (by omega), ← List.getD_eq_getElem?_getD]
    rw [e1, e2, e3]
    exact h3 i h'
  · obtain rfl : i = xss.length := by omega
    have e1 : (ps ++ [(⟨a, n, c⟩ : PH)]).getD xss.length phz = ⟨a, n, c⟩ := by rw [← h1]; simp
    have e2 : (gss ++ [g]).getD xss.length [] = g := by rw [← h2]; simp
    have e3 : (xss ++ [x]).getD xss.length [] = x := by simp
    rw [e1, e2, e3]
    exact hi
theorem PartsAt.nil (w : World) : PartsAt w [] [] [] := ⟨rfl, rfl, fun i hi => by simp at hi⟩
theorem take_drop_snoc {α : Type} {l : List α} {k fr : Nat} (d : α) (hk : k < l.length) (hf : fr ≤ k) : (l.take (k + 1)).drop fr = (l.take k).drop fr ++ [l.getD k d] := by
  have e : l.take (k + 1) = l.take k ++ [l.getD k d] := by
    rw [List.take_succ_eq_append_getElem hk, List.getD_eq_getElem?_getD, List.getElem?_eq_getElem hk, Option.getD_some]
  rw [e, List.drop_append_of_le_length (by rw [List.length_take]; omega)]
theorem take_drop_self {α : Type} (l : List α) (k : Nat) : (l.take k).drop k = [] := List.drop_of_length_le (by rw [List.length_take]; omega)
theorem It.weight_snoc (l : List It.I) (x : It.I) : It.weight (l ++ [x]) = It.weight l + (x.1.length + 16 + x.2.2.2.1.length) := by simp [It.weight]
theorem Tb.pgo_at (size : Int) (p xs : List It.I) (k : Nat) (hk : k < xs.length) :
    Tb.pgo size p (xs.drop k) = if size ≤ (It.weight (p ++ [xs.getD k It.zero]) : Int) ∨ p.length + 1 = 64 ∨ k + 1 = xs.length then (p ++ [xs.getD k It.zero]) :: Tb.pgo size [] (xs.drop (k + 1)) else Tb.pgo size (p ++ [xs.getD k It.zero]) (xs.drop (k + 1)) := Tb.pgo_step size p xs k hk

/-- items parted are told -/
def PBRes (w : World) (R : List (List It.I)) (n : Nat) (e : Ending) (w' : World) : Prop :=
  ∃ la lc ps gss, e = .returned (.agg #[.slice la R.length lc, .int .i64 (n : Nat)]) ∧ InP w' la R.length ps gss R ∧ R.length ≤ lc ∧ Below w.heap.size w w'
theorem pb_ret {w wr : World} {b ln lc cnt : Nat} {la : Option Addr} {ps : List PH} {gss : List (List IH)} {R xss : List (List It.I)} {n b0 : Nat} {cs : Array Value} (hb0 : w.heap.size = b0) (hS : PSt w wr b la ln lc cnt ps) (hR : R = xss) (hl : xss.length = ln) (hP : PartsAt w ps gss xss) (hcn : cnt = n) (hln : ln ≤ 1000000) (hbx : wr.heap[b0]? = some (.cells cs 48 (0, 0))) :
    PBRes w R n (.returned (.agg #[.slice la ln lc, .int .i64 (cnt : Nat)])) ((wr.setCell ⟨b0, 0, none⟩ (.slice la ln lc)).setCell ⟨b0, 1, none⟩ (.int .i64 (cnt : Nat))) := by
  subst hR; subst hl; subst hcn; subst hb0
  have hb : Below w.heap.size w ((wr.setCell ⟨w.heap.size, 0, none⟩ (.slice la R.length lc)).setCell ⟨w.heap.size, 1, none⟩ (.int .i64 (cnt : Nat))) := (hS.below.setCell (Nat.le_refl _) _).setCell (Nat.le_refl _) _
  obtain ⟨a', c', e, g1, g2⟩ := t_shape hS.own
  simp only [Value.slice.injEq, true_and] at e
  obtain ⟨rfl, rfl⟩ := e
  refine ⟨la, lc, ps, gss, rfl, ⟨?_, hP.below hb (Nat.le_refl _)⟩, g2, hb⟩
  have hrow : TRow 1 phe phz wr la R.length ps := trow_of_owns phE hS.own (by omega) (by omega)
  refine ⟨hrow.1, hrow.2.1, ?_⟩
  rcases hrow.2.2 with h0 | ⟨bb, off, rfl, hc⟩
  · exact .inl h0
  · refine .inr ⟨bb, off, rfl, fun i hi j v hj => ?_⟩
    have h1 := hc i hi j v hj
    have hne : bb ≠ w.heap.size := fun e => by
      have := box_apart hbx hS.own (by decide)
      apply this
      rcases hS.own.2 with ⟨e', _⟩ | ⟨g, cap, cur, e', _⟩
      · cases e'
      · simp only [Value.slice.injEq, Option.some.injEq, Addr.mk.injEq] at e'
        obtain ⟨⟨rfl, _⟩, _⟩ := e'
        simp [Value.ownBlock, e]
    rw [← h1]
    exact World.cell?_of_block (w := wr) (by rw [Below.heap_setCell _ _ _ _ hne, Below.heap_setCell _ _ _ _ hne])

set_option maxRecDepth 100000 in
set_option maxHeartbeats 4000000 in
theorem tparts_any (a : Option Addr) (n c : Nat) (gs : List IH) (xs : List It.I) (size : Int) (w : World) (hn : n ≤ 16384) (h1n : 1 ≤ n) (hi : InI w a n c gs xs) (hsm : ∀ x ∈ xs, x.1.length ≤ 100000 ∧ x.2.2.2.1.length ≤ 100000) :
    Calls Tryz.prog 25 #[.slice a n c, .int .i64 size] w (PBRes w (Tb.parted xs size) n) := by
  have hll : Hid (xs.length = n) := hi.1.len
  obtain ⟨b, off, rfl, -⟩ := hi.1.at (by omega)
  obtain ⟨R, hR⟩ : ∃ R, R = Tb.parted xs size := ⟨_, rfl⟩
  rw [← hR]
  have HR0 : Hid (R = [] ++ Tb.pgo size ((xs.take 0).drop 0) (xs.drop 0)) := (by rw [hR]; rfl : R = [] ++ Tb.pgo size ((xs.take 0).drop 0) (xs.drop 0))
  have Hsm : Hid (∀ x ∈ xs, x.1.length ≤ 100000 ∧ x.2.2.2.1.length ≤ 100000) := hsm
  have Hi : Hid (InI w (some ⟨b, off, none⟩) n c gs xs) := hi
  have hnc := hi.2.2
  clear hR hi hsm
  go_enter Tryz.func25, Tryz.ntmps25
  go_wp2_with fail
  have hS0 : PSt w ((w.alloc (.cells #[.slice none 0 0, .int .i64 0] 48)).alloc (.cells #[.slice none 0 0, .int .i64 0] 48)) (w.heap.size + 1) none 0 0 0 [] := ⟨(below_alloc _ _).alloc (by simp) _, (by rw [show w.heap.size + 1 = (w.alloc (.cells #[.slice none 0 0, .int .i64 0] 48)).heap.size by simp]; exact heap_alloc_new _ _), ⟨rfl, .inl ⟨rfl, rfl⟩⟩, by omega⟩
  have hbx0 : ((w.alloc (.cells #[.slice none 0 0, .int .i64 0] 48)).alloc (.cells #[.slice none 0 0, .int .i64 0] 48)).heap[w.heap.size]? = some (.cells #[.slice none 0 0, .int .i64 0] 48 (0, 0)) := (heap_alloc_old _ _ (by simp)).trans (heap_alloc_new w _)
  generalize (w.alloc (.cells #[.slice none 0 0, .int .i64 0] 48)).alloc (.cells #[.slice none 0 0, .int .i64 0] 48) = w0 at *
  obtain ⟨b0, hb0⟩ : ∃ b0, b0 = w.heap.size := ⟨_, rfl⟩
  obtain ⟨b1, hb1⟩ : ∃ b1, b1 = w.heap.size + 1 := ⟨_, rfl⟩
  rw [← hb0] at hbx0 ⊢
  have H01 : Hid (w.heap.size = b0 ∧ b0 ≠ b1) := (⟨hb0.symm, by omega⟩ : w.heap.size = b0 ∧ b0 ≠ b1)
  rw [show b0 + 1 = b1 by omega]
  rw [← hb1] at hS0
  clear hb0 hb1
  go_loopg [6, 7, 13] n (fun g s6 s7 s13 wx => ∃ (k fr wt m lc : Nat) (la : Option Addr) (ps : List PH) (gss : List (List IH)) (xss : List (List It.I)), k + g = n ∧ fr ≤ k ∧ (k = n → fr = n) ∧ k ≤ fr + 63 ∧ m ≤ k ∧ s13 = .int .i64 k ∧ s6 = .int .i64 fr ∧ s7 = .int .i64 wt ∧ Hid (R = xss ++ Tb.pgo size ((xs.take k).drop fr) (xs.drop k)) ∧ Hid (wt = It.weight ((xs.take k).drop fr)) ∧ Hid (xss.length = m) ∧ Hid (PartsAt w ps gss xss) ∧ PSt w wx b1 la m lc fr ps ∧ wx.heap[b0]? = some (.cells #[.slice none 0 0, .int .i64 0] 48 (0, 0)))
  case atStart => exact ⟨0, 0, 0, 0, 0, none, [], [], [], by omega, by omega, (fun h => by omega), by omega, by omega, rfl, rfl, rfl, HR0, (rfl : 0 = It.weight ((xs.take 0).drop 0)), (rfl : ([] : List (List It.I)).length = 0), (PartsAt.nil w : PartsAt w [] [] []), hS0, hbx0⟩
  case round =>
    obtain ⟨k, fr, wt, m, lc, la, ps, gss, xss, hkg, hfk, hkn, hk63, hmk, rfl, rfl, rfl, HR, Hwt, hlm, hP, hS, hbx⟩ := hrel
    clear HR0 hS0 hbx0
    cases gk with
    | zero =>
      obtain rfl : k = n := by omega
      obtain rfl : fr = k := hkn rfl
      have HE : Hid (R = xss) := (by rw [HR.out, take_drop_self, List.drop_of_length_le (by rw [hll.out]; omega)]; simp [Tb.pgo] : R = xss)
      have hfin := pb_ret H01.out.1 hS HE.out hlm.out hP.out rfl (by omega) hbx
      obtain ⟨x0, x1, -⟩ := hS.cells
      have z0 := (Go.Joins.cell_of_block hbx 0).trans rfl
      have z1 := (Go.Joins.cell_of_block hbx 1).trans rfl
      have f0 := Go.Joins.unfrozen_of_block hbx 0
      have f1 := Go.Joins.unfrozen_of_block hbx 1
      clear HR Hwt HE hS hbx hP
      go_wp2
      refine bodyPost_ret (v := .agg #[.slice la m lc, .int .i64 (fr : Nat)]) ?_ rfl hfin
      simp [results, Tryz.results25, go_sem, z0, z1]
    | succ g =>
      have hkR : k < n := by omega
      have hkz : (k : Int) < (n : Int) := by omega
      have hk0 : (0 : Int) ≤ (k : Int) := by omega
      obtain ⟨cb, cof, ce, hc⟩ := Hi.out.1.at (by omega)
      simp only [Option.some.injEq, Addr.mk.injEq] at ce
      obtain ⟨rfl, rfl, -⟩ := ce
      have C := (hc k hkR).below hS.below (Nat.le_refl _)
      have hit := Hi.out.1.item hkR
      have hk' : k < xs.length := by rw [hll.out]; exact hkR
      have hmem : xs.getD k It.zero ∈ xs := by rw [List.getD_eq_getElem?_getD, List.getElem?_eq_getElem hk']; exact List.getElem_mem _
      obtain ⟨x64, x32⟩ := Hsm.out _ hmem
      have hlp : ((xs.take k).drop fr).length = k - fr := by rw [List.length_drop, List.length_take]; omega
      have hst := Tb.pgo_at size ((xs.take k).drop fr) xs k hk'
      rw [← take_drop_snoc It.zero hk' hfk, hlp, hll.out] at hst
      have hwt2 : It.weight ((xs.take (k + 1)).drop fr) = wt + ((xs.getD k It.zero).1.length + 16 + (xs.getD k It.zero).2.2.2.1.length) := by rw [take_drop_snoc It.zero hk' hfk, It.weight_snoc, ← Hwt.out]
      have hwtb : wt ≤ 200016 * 63 := by
        rw [Hwt.out]
        have : ∀ l : List It.I, (∀ x ∈ l, x.1.length ≤ 100000 ∧ x.2.2.2.1.length ≤ 100000) → It.weight l ≤ 200016 * l.length := by
          intro l
          induction l with
          | nil => intro _; exact Nat.le_refl _
          | cons x l ih =>
            intro hx
            have h1 := hx x (by simp)
            have h2 := ih (fun y hy => hx y (by simp [hy]))
            simp only [It.weight, List.map_cons, List.sum_cons, List.length_cons] at h2 ⊢
            omega
        have h3 := this ((xs.take k).drop fr) (fun x hx => Hsm.out x (List.mem_of_mem_take (List.mem_of_mem_drop hx)))
        rw [hlp] at h3
        omega
      have hwe := fun (W : World) (hW : Below w.heap.size w W) => tweigh_any (gs.getD k ihz) (xs.getD k It.zero) W (hit.below hW (Nat.le_refl _)) x64 x32
      rw [hst] at HR
      have HX : Hid (R = xss ++ (if size ≤ (It.weight ((xs.take (k + 1)).drop fr) : Int) ∨ k - fr + 1 = 64 ∨ k + 1 = n then ((xs.take (k + 1)).drop fr) :: Tb.pgo size [] (xs.drop (k + 1)) else Tb.pgo size ((xs.take (k + 1)).drop fr) (xs.drop (k + 1)))) := HR
      have hcut := Hi.out.cut fr (k + 1) (by omega) (by omega)
      obtain ⟨wx, hwx⟩ : ∃ wx, wx = (xs.getD k It.zero).1.length + 16 + (xs.getD k It.zero).2.2.2.1.length := ⟨_, rfl⟩
      rw [← hwx] at hwe hwt2
      have Hw2 : Hid (wt + wx = It.weight ((xs.take (k + 1)).drop fr)) := hwt2.symm
      have hwxb : wx ≤ 200016 := by omega
      rw [hwt2] at HX
      generalize gs.getD k ihz = hh at *
      clear HR hst hc hit hmem x64 x32 hlp hwt2 hwx
      obtain ⟨key, dead, far, xa, xn, xc, ⟨g1, g2, g3, g4⟩⟩ := hh
      obtain ⟨v0, v1, v2, v3, v4, v5, v6, v7⟩ := C
      simp only at v0 v1 v2 v3 v4 v5 v6 v7 hwe
      have b2 := below_alloc wr (.cells #[.string key, .bool dead, .bool far, .slice xa xn xc, .int .i64 g1, .int .i64 g2, .int .i64 g3, .int .u32 (g4 : Nat)] 40)
      have hS2 := hS.on b2
      have hbx2 := (b2.block b0 (Array.getElem?_eq_some_iff.1 hbx).1).trans hbx
      obtain ⟨N1, hN1⟩ : ∃ N1, N1 = k + 1 := ⟨_, rfl⟩
      obtain ⟨WT, hWT⟩ : ∃ WT, WT = wt + wx := ⟨_, rfl⟩
      obtain ⟨D, hD⟩ : ∃ D, D = N1 - fr := ⟨_, rfl⟩
      have i1 : IntKind.i64.wrap ((k : Int) + 1) = (N1 : Int) := by rw [IntKind.wrap_i64]; omega
      have i2 : IntKind.i64.wrap ((wt : Int) + (wx : Int)) = (WT : Int) := by rw [IntKind.wrap_i64]; omega
      have i3 : IntKind.i64.wrap ((N1 : Int) - (fr : Int)) = (D : Int) := by rw [IntKind.wrap_i64]; omega
      have j1 : (0 : Int) ≤ (fr : Int) := by omega
      have j2 : (fr : Int) ≤ (N1 : Int) := by omega
      have j3 : (N1 : Int) ≤ (n : Int) := by omega
      have j4 : (N1 : Int) ≤ (c : Int) := by omega
      have j5 : ¬ (N1 = fr) := by omega
      rw [← hWT] at HX Hw2
      rw [← hN1] at HX Hw2 hcut
      have hD1 : D = k - fr + 1 := by omega
      rw [← hD1] at HX
      have HN1 : Hid (N1 = k + 1) := hN1
      have HD : Hid (D = N1 - fr) := hD
      rw [← HD.out] at hcut
      have hmm : m + 1 ≤ N1 := by omega
      have hN63 : N1 ≤ fr + 64 := by omega
      have hNn : N1 ≤ n := by omega
      have hgN : N1 + g = n := by omega
      have hWb : WT ≤ 100000000 := by omega
      clear hWT hN1 hD hD1 Hwt hwtb
      by_cases hcutc : size ≤ (WT : Int) ∨ D = 64 ∨ N1 = n
      · rw [if_pos hcutc] at HX
        have hDb : fr + D ≤ 1000000000 := by have := HD.out; omega
        have hadd := fun (W : World) (hW : PSt w W b1 la m lc fr ps) => tadd_any w W b1 la m lc fr ps (some ⟨b, off + fr * 8, none⟩) D D hW (by omega) hDb
        have HX2 : Hid (R = (xss ++ [(xs.take N1).drop fr]) ++ Tb.pgo size ((xs.take N1).drop N1) (xs.drop N1)) := (by rw [HX.out, take_drop_self, HN1.out]; simp : R = (xss ++ [(xs.take N1).drop fr]) ++ Tb.pgo size ((xs.take N1).drop N1) (xs.drop N1))
        have hlm2 : Hid ((xss ++ [(xs.take N1).drop fr]).length = m + 1) := (by rw [List.length_append, hlm.out]; rfl : (xss ++ [(xs.take N1).drop fr]).length = m + 1)
        have hP2 : Hid (PartsAt w (ps ++ [⟨some ⟨b, off + fr * 8, none⟩, D, D⟩]) (gss ++ [(gs.take N1).drop fr]) (xss ++ [(xs.take N1).drop fr])) := (hP.out.snoc hcut : PartsAt w (ps ++ [⟨some ⟨b, off + fr * 8, none⟩, D, D⟩]) (gss ++ [(gs.take N1).drop fr]) (xss ++ [(xs.take N1).drop fr]))
        have hfD : fr + D = N1 := by have := HD.out; omega
        have HfD : Hid (fr + D = N1) := hfD
        have Hz : Hid (0 = It.weight ((xs.take N1).drop N1)) := (by rw [take_drop_self]; rfl : 0 = It.weight ((xs.take N1).drop N1))
        have hcs : decide (size ≤ (WT : Int)) = true ∨ (decide (size ≤ (WT : Int)) = false ∧ ((D : Int) == 64) = true) ∨ (decide (size ≤ (WT : Int)) = false ∧ ((D : Int) == 64) = false ∧ ((N1 : Int) == (n : Int)) = true) := by
          by_cases h1 : size ≤ (WT : Int)
          · exact .inl (decide_eq_true h1)
          · by_cases h2 : D = 64
            · exact .inr (.inl ⟨decide_eq_false h1, by simp; omega⟩)
            · exact .inr (.inr ⟨decide_eq_false h1, by simp; omega, by simp; rcases hcutc with h | h | h <;> omega⟩)
        have hslice : Hid (N1 - fr = D) := HD.out.symm
        have hsl := hslice.out
        clear HX hcut hlm hP hcutc hfD
        rcases hcs with e1 | ⟨e1, e2⟩ | ⟨e1, e2, e3⟩
        all_goals
          go_wp2_with (first
            | (go_at_call 54; go_must (refine (hwe _ hS2.below).mono ?_; rintro e w3 ⟨rfl, b3⟩; have hS3 := hS2.on b3; have hbx3 := (b3.block b0 (Array.getElem?_eq_some_iff.1 hbx2).1).trans hbx2))
            | (go_at_call 34; go_must (refine (hadd _ hS3).mono ?_; rintro e w4 ⟨rfl, la4, lc4, hS4, hk4⟩)))
          rw [HfD.out] at hS4
          have hbx4 := (hk4.2 b0 (Array.getElem?_eq_some_iff.1 hbx3).1 H01.out.2 (box_apart hbx3 hS3.own (by decide))).trans hbx3
          go_roundg g
          case measure => omega
          case rel => exact ⟨N1, N1, 0, m + 1, lc4, la4, _, _, _, hgN, Nat.le_refl _, (fun h => h), by omega, hmm, rfl, rfl, rfl, HX2, Hz, hlm2, hP2, hS4, hbx4⟩
      · rw [if_neg hcutc] at HX
        have e1 : decide (size ≤ (WT : Int)) = false := decide_eq_false (fun h => hcutc (.inl h))
        have e2 : ((D : Int) == 64) = false := by simp; omega
        have e3 : ((N1 : Int) == (n : Int)) = false := by simp; omega
        have hne : N1 ≠ n := fun h => hcutc (.inr (.inr h))
        have hND : N1 ≤ fr + 63 := by have := HD.out; omega
        have HX2 : Hid (R = xss ++ Tb.pgo size ((xs.take N1).drop fr) (xs.drop N1)) := (by rw [HX.out, HN1.out] : R = xss ++ Tb.pgo size ((xs.take N1).drop fr) (xs.drop N1))
        clear HX hcut hcutc
        go_wp2_with (go_at_call 54; go_must (refine (hwe _ hS2.below).mono ?_; rintro e w3 ⟨rfl, b3⟩; have hS3 := hS2.on b3; have hbx3 := (b3.block b0 (Array.getElem?_eq_some_iff.1 hbx2).1).trans hbx2))
        go_roundg g
        case measure => omega
        case rel => exact ⟨N1, fr, WT, m, lc, la, _, _, _, hgN, by omega, (fun h => absurd h hne), hND, by omega, rfl, rfl, rfl, HX2, Hw2, hlm, hP, hS3, hbx3⟩
end Go.Proofs.YtikieblokfjphaaGreat

/- The program's tables: a frame for each part. -/
namespace Go.Proofs.YtikieblokfjphaaGreat
open Go.RowKit

theorem set_two (cs rest : List Value) (j : Nat) (hcs : cs.length = j * 2) (hr : 2 ≤ rest.length) (v0 v1 : Value) : (((cs ++ rest).set (j * 2) v0).set (j * 2 + 1) v1) = (cs ++ [v0, v1]) ++ rest.drop 2 := by
  rw [← hcs]
  match rest, hr with
  | r0 :: r1 :: t, _ => simp
theorem set_one (cs rest : List Value) (j : Nat) (hcs : cs.length = j) (hr : 1 ≤ rest.length) (v0 : Value) : (cs ++ rest).set j v0 = (cs ++ [v0]) ++ rest.drop 1 := by
  rw [← hcs]
  match rest, hr with
  | r0 :: t, _ => simp
theorem two_left {cs rest : List Value} {j : Nat} (hcs : cs.length = j * 2) (hr : 2 ≤ rest.length) : ∃ c0 c1, (cs ++ rest)[j * 2]? = some c0 ∧ (cs ++ rest)[j * 2 + 1]? = some c1 := by
  rw [← hcs]
  match rest, hr with
  | r0 :: r1 :: t, _ => exact ⟨r0, r1, by simp, by simp⟩
theorem one_left {cs rest : List Value} {j : Nat} (hcs : cs.length = j) (hr : 1 ≤ rest.length) : ∃ c0, (cs ++ rest)[j]? = some c0 := by
  rw [← hcs]
  match rest, hr with
  | r0 :: t, _ => exact ⟨r0, by simp⟩

/-- frames and places half made -/
structure FrSt (w0 V : World) (gF gP n k : Nat) (cs rest : List Value) (fs : List Fr.F) (pl : List Nat) (restP : List Value) : Prop where
  below : Below w0.heap.size w0 V
  own : V.ownsRow w0.heap.size 54 2 (.slice (some ⟨gF, 0, none⟩) n n) n (cs ++ rest)
  held : Held V w0.heap.size fs cs
  ownP : V.ownsRow w0.heap.size 3 1 (.slice (some ⟨gP, 0, none⟩) n n) n (kcells .i64 pl ++ restP)
  csl : cs.length = k * 2
  rl : rest.length = (n - k) * 2
  pll : pl.length = k
  rpl : restP.length = n - k
theorem FrSt.on {w0 V V' : World} {gF gP n k : Nat} {cs rest : List Value} {fs : List Fr.F} {pl : List Nat} {restP : List Value} (h : FrSt w0 V gF gP n k cs rest fs pl restP) (hb : Below V.heap.size V V') : FrSt w0 V' gF gP n k cs rest fs pl restP :=
  ⟨h.below.trans (hb.mono h.below.size), owns_below h.own hb, h.held.below hb, owns_below h.ownP hb, h.csl, h.rl, h.pll, h.rpl⟩
theorem FrSt.ne {w0 V : World} {gF gP n k : Nat} {cs rest : List Value} {fs : List Fr.F} {pl : List Nat} {restP : List Value} (h : FrSt w0 V gF gP n k cs rest fs pl restP) : gP ≠ gF := fun e => by
  have := own_apart h.ownP h.own (by decide)
  rcases this with h' | h'
  · simp [Value.ownBlock] at h'
  · exact h' (by simp [Value.ownBlock, e])
theorem FrSt.step {w0 V : World} {gF gP n k v : Nat} {cs rest : List Value} {fs : List Fr.F} {pl : List Nat} {restP : List Value} (h : FrSt w0 V gF gP n k cs rest fs pl restP) (hk : k < n) {a3 : Option Addr} {c3 : Nat} {f : Fr.F} (ho : V.ownsRow w0.heap.size 5 1 (.slice a3 f.2.length c3) f.2.length (kcells .u8 f.2)) (hs : ∀ x ∈ f.2, x < 256) (hl : f.2.length ≤ 1000000000) (hf : -9223372036854775808 ≤ f.1 ∧ f.1 ≤ 9223372036854775807) :
    FrSt w0 (((V.setCell ⟨gF, k * 2, none⟩ (.int .i64 f.1)).setCell ⟨gF, k * 2 + 1, none⟩ (.slice a3 f.2.length c3)).setCell ⟨gP, k, none⟩ (.int .i64 (v : Nat))) gF gP n (k + 1) (cs ++ [.int .i64 f.1, .slice a3 f.2.length c3]) (rest.drop 2) (fs ++ [f]) (pl ++ [v]) (restP.drop 1) := by
  have hrl := h.rl
  have hrpl := h.rpl
  have s1 := own_store h.own (k * 2) (.int .i64 f.1)
  have s2 := own_store s1 (k * 2 + 1) (.slice a3 f.2.length c3)
  rw [set_two cs rest k h.csl (by omega)] at s2
  have t1 := turned_set V gF (k * 2) (.int .i64 f.1)
  have t2 := turned_set (V.setCell ⟨gF, k * 2, none⟩ (.int .i64 f.1)) gF (k * 2 + 1) (.slice a3 f.2.length c3)
  have P1 := h.ownP.kept (w' := V.setCell ⟨gF, k * 2, none⟩ (.int .i64 f.1)) (row := (Value.slice (some ⟨gF, 0, none⟩) n n).ownBlock) t1 (own_apart h.ownP h.own (by decide))
  have P2 := P1.kept (w' := (V.setCell ⟨gF, k * 2, none⟩ (.int .i64 f.1)).setCell ⟨gF, k * 2 + 1, none⟩ (.slice a3 f.2.length c3)) (row := (Value.slice (some ⟨gF, 0, none⟩) n n).ownBlock) t2 (own_apart P1 s1 (by decide))
  have P3 := own_store P2 k (.int .i64 (v : Nat))
  rw [set_one (kcells .i64 pl) restP k (by rw [kcells_length]; exact h.pll) (by omega)] at P3
  have t3 := turned_set ((V.setCell ⟨gF, k * 2, none⟩ (.int .i64 f.1)).setCell ⟨gF, k * 2 + 1, none⟩ (.slice a3 f.2.length c3)) gP k (.int .i64 (v : Nat))
  have s3 := s2.kept (row := (Value.slice (some ⟨gP, 0, none⟩) n n).ownBlock) t3 (own_apart s2 P2 (by decide))
  have H0 := h.held.snoc ho hs hl hf
  have H1 := H0.grown h.own (by decide) t1
  have H2 := H1.grown s1 (by decide) t2
  have H3 := H2.grown P2 (by decide) t3
  have gl := own_lt h.own
  have gpl := own_lt h.ownP
  refine ⟨((h.below.setCell gl.2 _).setCell gl.2 _).setCell gpl.2 _, s3, H3, ?_, by rw [List.length_append, h.csl]; simp; omega, by rw [List.length_drop, hrl]; omega, by rw [List.length_append, h.pll]; rfl, by rw [List.length_drop, hrpl]; omega⟩
  rw [kcells_append]
  exact P3
/-- frames for parts, and the places of their bodies, are told -/
def FrmRes (w : World) (fs : List Fr.F) (pl : List Nat) (e : Ending) (w' : World) : Prop :=
  ∃ a c cs pa pc, e = .returned (.tuple #[.slice a fs.length c, .slice pa fs.length pc]) ∧ w'.ownsRow w.heap.size 54 2 (.slice a fs.length c) fs.length cs ∧ Held w' w.heap.size fs cs ∧ w'.ownsRow w.heap.size 3 1 (.slice pa fs.length pc) fs.length (kcells .i64 pl) ∧ Below w.heap.size w w'
theorem Bl.put_len40 {p : List It.I} (h : ∀ x ∈ p, It.may x = true) (hl : p.length ≤ 256) : (Bl.put p).length ≤ 40000 := by
  have h3 := Bl.putGo_len (l := p) (last := []) h
  have h5 := Va.one_len10 (u := p.length) (by omega)
  unfold Bl.put
  rw [List.length_append]
  omega
theorem frame_take {xss : List (List It.I)} {k : Nat} (hk : k < xss.length) : (xss.map Tb.frame).take (k + 1) = (xss.map Tb.frame).take k ++ [Tb.frame (xss.getD k [])] := by
  rw [List.take_succ_eq_append_getElem (by simpa using hk), List.getD_eq_getElem?_getD, List.getElem?_eq_getElem hk]
  simp
theorem fr_all_snoc (l : List Fr.F) (f : Fr.F) : (Fr.all (l ++ [f])).length = (Fr.all l).length + Fr.size f.2.length := by
  rw [Fr.all_append, List.length_append, Fr.all_len_cons]; simp [Fr.all]

set_option maxRecDepth 100000 in
set_option maxHeartbeats 4000000 in
theorem tframes_any (b : Nat) (la : Option Addr) (ln lc : Nat) (ps : List PH) (gss : List (List IH)) (xss : List (List It.I)) (w : World) (hP : PsAt w b la ln lc ps gss xss) (hps : ∀ p ∈ xss, p ≠ [] ∧ p.length ≤ 256 ∧ It.sorted p = true ∧ ∀ x ∈ p, Bl.Small x) (hln : ln ≤ 16384) :
    Calls Tryz.prog 26 #[.pointer (some ⟨b, 0, none⟩)] w (FrmRes w (xss.map Tb.frame) (Fr.places (xss.map Tb.frame) 0)) := by
  obtain ⟨iF, hiF, hzF0, hzF1, hzF2⟩ := info_parts Tryz.info54
  obtain ⟨iI, hiI, hzI0, hzI1, hzI2⟩ := info_parts Tryz.info3
  have hl := hP.list
  have HI : Hid (InP w la ln ps gss xss) := hP.inp
  have HPS : Hid (∀ p ∈ xss, p ≠ [] ∧ p.length ≤ 256 ∧ It.sorted p = true ∧ ∀ x ∈ p, Bl.Small x) := hps
  have hx : Hid (xss.length = ln) := hP.inp.len
  have y0 := fun (W : World) (hW : Below w.heap.size w W) => (hW.cell (p := ⟨b, 0, none⟩) (cell_lt hl)).trans hl
  clear hP hps
  go_enter Tryz.func26, Tryz.ntmps26
  go_wp2_with (first
    | (at_make; have hz := hm1; go_must (refine make_full _ rfl _ _ 42 rfl w.heap.size 3 iI _ 1 Tryz.underlying42 hiI hzI0 hzI1 .i64 .i64 ln rfl rfl (by rw [hzI2]; omega) (by unfold maxLen; omega) b1.size ?_; intro w2 hm2 b2; have hb2 := b1.trans (b2.mono b1.size); have hm12 := owns_below hm1 b2; have u2 := y0 _ hb2))
    | (at_make; go_must (refine make_full _ rfl _ _ 41 rfl w.heap.size 54 iF _ 2 Tryz.underlying41 hiF hzF0 hzF1 .i64 .i64 ln rfl rfl (by rw [hzF2]; omega) (by unfold maxLen; omega) (Nat.le_refl _) ?_; intro w1 hm1 b1; have u1 := y0 _ b1)))
  have hS0 : FrSt w w2 w.heap.size w1.heap.size ln 0 [] (madeCells (Value.agg #[.int .i64 0, .slice none 0 0]).cells (ln * 2)).toList [] [] (madeCells (Value.int .i64 0).cells (ln * 1)).toList := ⟨hb2, hm12, rfl, hm2, rfl, by simp [size_madeCells], rfl, by simp [size_madeCells]⟩
  clear hm1 b1 u1 hm2 b2 hm12 u2
  generalize (madeCells (Value.agg #[.int .i64 0, .slice none 0 0]).cells (ln * 2)).toList = Z1 at *
  generalize (madeCells (Value.int .i64 0).cells (ln * 1)).toList = Z2 at *
  generalize w1.heap.size = gP at *
  obtain ⟨gF, hgF⟩ : ∃ gF, gF = w.heap.size := ⟨_, rfl⟩
  have hS0' : FrSt w w2 gF gP ln 0 [] Z1 [] [] Z2 := hgF ▸ hS0
  rw [← hgF]
  clear hS0 hgF hb2
  go_loopg [6, 28] ln (fun g s6 s28 wx => ∃ (k at' : Nat) (cs rest : List Value) (restP : List Value), k + g = ln ∧ s28 = .int .i64 k ∧ s6 = .int .i64 at' ∧ at' ≤ 40008 * k ∧ Hid (at' = (Fr.all ((xss.map Tb.frame).take k)).length) ∧ FrSt w wx gF gP ln k cs rest ((xss.map Tb.frame).take k) (Fr.places ((xss.map Tb.frame).take k) 0) restP)
  case atStart => exact ⟨0, 0, [], Z1, Z2, by omega, rfl, rfl, by omega, (rfl : 0 = (Fr.all ((xss.map Tb.frame).take 0)).length), hS0'⟩
  case round =>
    obtain ⟨k, at', cs, rest, restP, hkg, rfl, rfl, hat, Hat, hS⟩ := hrel
    clear hS0'
    cases gk with
    | zero =>
      obtain rfl : k = ln := by omega
      have hfin : FrmRes w (xss.map Tb.frame) (Fr.places (xss.map Tb.frame) 0) (.returned (.tuple #[.slice (some ⟨gF, 0, none⟩) k k, .slice (some ⟨gP, 0, none⟩) k k])) wr := by
        have e1 : (xss.map Tb.frame).take k = xss.map Tb.frame := List.take_of_length_le (by rw [List.length_map, hx.out]; omega)
        have e2 : (xss.map Tb.frame).length = k := by rw [List.length_map, hx.out]
        have r0 : rest = [] := List.length_eq_zero_iff.mp (by rw [hS.rl]; omega)
        have r1 : restP = [] := List.length_eq_zero_iff.mp (by rw [hS.rpl]; omega)
        have h1 := hS.own
        have h2 := hS.ownP
        have h3 := hS.held
        rw [r0, List.append_nil] at h1
        rw [r1, List.append_nil, e1] at h2
        rw [e1] at h3
        unfold FrmRes
        rw [e2]
        exact ⟨_, k, cs, _, k, rfl, h1, h3, h2, hS.below⟩
      clear hS Hat
      go_wp2
      go_ret2
      exact hfin
    | succ g =>
      have hkR : k < ln := by omega
      have hkz : (k : Int) < (ln : Int) := by omega
      have hk0 : (0 : Int) ≤ (k : Int) := by omega
      have hbel := hS.below
      obtain ⟨cb, cof, rfl, hc⟩ := HI.out.1.part (by omega)
      have hcell := (hbel.cell (p := ⟨cb, cof + k, none⟩) (cell_lt (hc k hkR))).trans (hc k hkR)
      have hin := HI.out.2.2.2 k (by rw [hx.out]; exact hkR)
      have hmemk : xss.getD k [] ∈ xss := by rw [List.getD_eq_getElem?_getD, List.getElem?_eq_getElem (by rw [hx.out]; exact hkR)]; exact List.getElem_mem _
      obtain ⟨n1, n2, n3, n4⟩ := HPS.out _ hmemk
      have hmay := ((It.sorted_iff _).mp n3).1
      have hL := Bl.put_len40 hmay n2
      have hsm := Bl.put_small n4
      have hbp := bput_own _ _ _ _ _ wr (by rw [← hin.1.len]; omega) (hin.below hbel (Nat.le_refl _))
      have hput : Bl.putR (xss.getD k []) = (0, Bl.put (xss.getD k [])) := by
        unfold Bl.putR
        rw [if_pos]
        have := List.length_pos_iff.mpr n1
        simp only [Bl.may, Bool.and_eq_true, decide_eq_true_eq]
        exact ⟨⟨by omega, n2⟩, n3⟩
      rw [hput] at hbp
      unfold BMade at hbp
      simp only at hbp
      have Hf : Hid ((xss.map Tb.frame).take (k + 1) = (xss.map Tb.frame).take k ++ [Tb.frame (xss.getD k [])]) := (frame_take (by rw [hx.out]; exact hkR) : (xss.map Tb.frame).take (k + 1) = (xss.map Tb.frame).take k ++ [Tb.frame (xss.getD k [])])
      have Hfr : Hid (Tb.frame (xss.getD k []) = (1, Bl.put (xss.getD k []))) := (rfl : Tb.frame (xss.getD k []) = (1, Bl.put (xss.getD k [])))
      generalize Tb.frame (xss.getD k []) = f at *
      generalize Bl.put (xss.getD k []) = body at *
      obtain ⟨L, hLe⟩ : ∃ L, L = body.length := ⟨_, rfl⟩
      rw [← hLe] at hbp hL
      have HL : Hid (L = body.length) := hLe
      have hhd := fun W => head_in L W (by omega)
      have hsz := fun W => size_in L W (by omega)
      have hone := Va.one_len10 (u := L) (by omega)
      have hszl := Fr.size_le (n := L) (by omega)
      obtain ⟨H1, hH1⟩ : ∃ H1, H1 = (Va.one L).length + 1 := ⟨_, rfl⟩
      rw [← hH1] at hhd
      obtain ⟨S1, hS1⟩ : ∃ S1, S1 = Fr.size L := ⟨_, rfl⟩
      rw [← hS1] at hsz hszl
      have HA2 : Hid (at' + S1 = (Fr.all ((xss.map Tb.frame).take (k + 1))).length) := (by rw [Hf.out, fr_all_snoc, ← Hat.out, Hfr.out, hS1, hLe] : at' + S1 = (Fr.all ((xss.map Tb.frame).take (k + 1))).length)
      have HP2 : Hid (Fr.places ((xss.map Tb.frame).take (k + 1)) 0 = Fr.places ((xss.map Tb.frame).take k) 0 ++ [at' + H1]) := (by rw [Hf.out, Fr.places_snoc, ← Hat.out, Hfr.out, hH1, hLe, Nat.zero_add]; rfl : Fr.places ((xss.map Tb.frame).take (k + 1)) 0 = Fr.places ((xss.map Tb.frame).take k) 0 ++ [at' + H1])
      have i1 : IntKind.i64.wrap ((at' : Int) + (H1 : Int)) = ((at' + H1 : Nat) : Int) := by rw [IntKind.wrap_i64]; omega
      have i2 : IntKind.i64.wrap ((at' : Int) + (S1 : Int)) = ((at' + S1 : Nat) : Int) := by rw [IntKind.wrap_i64]; omega
      have i3 : IntKind.i64.wrap ((k : Int) + 1) = (k : Int) + 1 := by rw [IntKind.wrap_i64]; omega
      have HST : Hid (∀ (V : World) (a3 : Option Addr) (c3 : Nat), FrSt w V gF gP ln k cs rest ((xss.map Tb.frame).take k) (Fr.places ((xss.map Tb.frame).take k) 0) restP → V.ownsRow w.heap.size 5 1 (.slice a3 L c3) L (kcells .u8 body) → FrSt w (((V.setCell ⟨gF, k * 2, none⟩ (.int .i64 1)).setCell ⟨gF, k * 2 + 1, none⟩ (.slice a3 L c3)).setCell ⟨gP, k, none⟩ (.int .i64 ((at' + H1 : Nat) : Int))) gF gP ln (k + 1) (cs ++ [.int .i64 1, .slice a3 L c3]) (rest.drop 2) ((xss.map Tb.frame).take (k + 1)) (Fr.places ((xss.map Tb.frame).take (k + 1)) 0) (restP.drop 1)) := (fun V a3 c3 hV ho => by
        have hf1 : f.1 = 1 := by rw [Hfr.out]
        have hf2 : f.2 = body := by rw [Hfr.out]
        rw [HP2.out, Hf.out]
        have := hV.step (v := at' + H1) hkR (f := f) (a3 := a3) (c3 := c3) (by rw [hf2, ← HL.out]; exact ho) (by rw [hf2]; exact hsm) (by rw [hf2, ← HL.out]; omega) (by rw [hf1]; omega)
        rw [hf1, hf2, ← HL.out] at this
        exact this : _)
      have HC : Hid (∀ (V : World), FrSt w V gF gP ln k cs rest ((xss.map Tb.frame).take k) (Fr.places ((xss.map Tb.frame).take k) 0) restP → ∃ c0 c1 c2, V.cell? ⟨gF, k * 2, none⟩ = some c0 ∧ V.cell? ⟨gF, k * 2 + 1, none⟩ = some c1 ∧ V.cell? ⟨gP, k, none⟩ = some c2 ∧ V.frozen? ⟨gF, k * 2, none⟩ = false ∧ V.frozen? ⟨gF, k * 2 + 1, none⟩ = false ∧ V.frozen? ⟨gP, k, none⟩ = false ∧ gP ≠ gF) := (fun V hV => by
        have e1 := hV.rl
        have e2 := hV.rpl
        obtain ⟨c0, c1, h0, h1⟩ := two_left hV.csl (rest := rest) (by omega)
        obtain ⟨c2, h2⟩ := one_left (cs := kcells .i64 (Fr.places ((xss.map Tb.frame).take k) 0)) (rest := restP) (j := k) (by rw [kcells_length]; exact hV.pll) (by omega)
        obtain ⟨x0, y0⟩ := own_cells hV.own h0
        obtain ⟨x1, y1⟩ := own_cells hV.own h1
        obtain ⟨x2, y2⟩ := own_cells hV.ownP h2
        exact ⟨c0, c1, c2, x0, x1, x2, y0, y1, y2, hV.ne⟩ : _)
      generalize ps.getD k phz = q at *
      obtain ⟨qa, qn, qc⟩ := q
      simp only at hcell hbp
      clear hc hin hmemk n1 n2 n3 n4 hmay hput hLe hH1 hS1 Hfr Hf HP2 Hat
      go_wp2_with (first
        | (go_at_call 55; go_must (refine hbp.mono ?_; rintro e w3 ⟨a3, c3, rfl, o3, b3⟩; have hS3 := hS.on b3; have o3' := owns_base o3 hbel.size; obtain ⟨d0, d1, d2, x0, x1, x2, y0, y1, y2, hne⟩ := HC.out w3 hS3))
        | (go_at_call 31; go_must (refine (hhd _).mono ?_; rintro e w4 ⟨rfl, hw⟩; rw [hw]; clear hw w4))
        | (go_at_call 56; go_must (refine (hsz _).mono ?_; rintro e w4 ⟨rfl, hw⟩; rw [hw]; clear hw w4)))
      have hS5 := HST.out w3 a3 c3 hS3 o3'
      go_roundg g
      case measure => omega
      case rel => exact ⟨k + 1, at' + S1, _, _, _, by omega, by go_num, rfl, by omega, HA2, hS5⟩
end Go.Proofs.YtikieblokfjphaaGreat
