/- What the function that Scan hands to walk does: it holds items, till there are so many. -/
import Derived.Test.YtpoocjffkhjeaaaTN6
namespace Go.Proofs.Ytpoocjffkhjeaaa
open Go.RowKit

theorem step_tg {α : Type} {s : Nat} {enc : α → List Value} {d : α} {T E : TypeId} {bytes : Nat} {z : Value} (he : Elem T E s bytes z) (hE : Enc s enc) {w0 w : World} {B : Nat} {ops : Array Oper} {o : Oper} {a : Act} {K : Act → World → Prop} {Q : Exit → Act → World → Prop} {F : Prop} (hgd : o.guard = none) (sl x : Operand)
    (ho : o.op = .call { callee := .builtin .append, args := #[sl, x], argTypes := #[T, T] })
    (v : Value) (n : Nat) (xs : List α) (hs : a.eval sl = v) (hown : w.ownsRow B E s v n (tcells enc xs))
    (ax : Option Addr) (m c : Nat) (ys : List α) (hx : a.eval x = .slice ax m c) (hr : TRow s enc d w ax m ys) (hnil : ax = none → m = 0 ∧ c = 0)
    (hnm : n + m ≤ 1000000000) (hbel : Below B w0 w) (hB : B ≤ w.heap.size)
    (h : ∀ a' c' w', w.grownBy w' v.ownBlock → n + m ≤ c' → (a' = none → n + m = 0 ∧ c' = 0) → w'.ownsRow B E s (.slice a' (n + m) c') (n + m) (tcells enc (xs ++ ys)) → Below B w0 w' → K (a.put o.dst (.slice a' (n + m) c')) w') :
    if Region.wanted o (yielded ops a.tmps) = true then Oper.wp Try.prog o a w K Q else F := by
  have hw : Region.wanted o (yielded ops a.tmps) = true := by simp [Region.wanted, hgd]
  rw [if_pos hw]
  exact wp_append_tg he hE sl x ho v n xs hs hown ax m c ys hx hr hnil hnm hbel hB (fun a' c' w' h0 h1 h2 _ h4 h5 _ => h a' c' w' h0 h1 h2 h4 h5)

/-- what is held half way -/
structure ScSt (w : World) (most : Int) (V : World) (acc : List It.I) (a : Option Addr) (n c : Nat) (hs : List IH) : Prop where
  below : Below w.heap.size w V
  num : acc.length = n
  mst : V.heap[w.heap.size]? = some (.cells #[.int .i64 most] 3 (0, 0))
  lbox : V.heap[w.heap.size + 1]? = some (.cells #[.slice a n c] 22 (0, 0))
  own : V.ownsRow (w.heap.size + 2) 40 8 (.slice a n c) n (tcells ih hs)
  held : ItHeld V (w.heap.size + 2) hs acc
theorem ScSt.lt {w : World} {most : Int} {V : World} {acc : List It.I} {a : Option Addr} {n c : Nat} {hs : List IH} (h : ScSt w most V acc a n c hs) : w.heap.size + 1 < V.heap.size := (Array.getElem?_eq_some_iff.1 h.lbox).1
theorem ScSt.on {w : World} {most : Int} {V V' : World} {acc : List It.I} {a : Option Addr} {n c : Nat} {hs : List IH} (h : ScSt w most V acc a n c hs) (hb : Below V.heap.size V V') : ScSt w most V' acc a n c hs := by
  have hl := h.lt
  exact ⟨h.below.trans (hb.mono h.below.size), h.num, (hb.block _ (by omega)).trans h.mst, (hb.block _ hl).trans h.lbox, owns_below h.own hb, h.held.below hb⟩
theorem ScSt.cells {w : World} {most : Int} {V : World} {acc : List It.I} {a : Option Addr} {n c : Nat} {hs : List IH} (h : ScSt w most V acc a n c hs) : V.cell? ⟨w.heap.size, 0, none⟩ = some (.int .i64 most) ∧ V.cell? ⟨w.heap.size + 1, 0, none⟩ = some (.slice a n c) ∧ V.frozen? ⟨w.heap.size + 1, 0, none⟩ = false :=
  ⟨(Go.Joins.cell_of_block h.mst _).trans rfl, (Go.Joins.cell_of_block h.lbox _).trans rfl, Go.Joins.unfrozen_of_block h.lbox 0⟩
theorem ItHeld.same {w w' : World} {B : Nat} {hs : List IH} {xs : List It.I} (h : ItHeld w B hs xs) (hk : ∀ k, B ≤ k → k < w.heap.size → w'.heap[k]? = w.heap[k]?) : ItHeld w' B hs xs := ⟨h.1, fun i hi => by
  obtain ⟨h1, h2⟩ := h.2 i hi
  have h3 := owns_same h2 hk
  have h4 := row_of_owns h3 h1.row.2.2.1 h1.row.2.1
  exact ⟨⟨h1.key, h1.dead, h1.far, h1.pt, h4.1, h1.nil, h1.le, h1.fits, h1.ksz⟩, h3⟩⟩
/-- one item more is held -/
theorem ScSt.app {w : World} {most : Int} {Y w3 : World} {acc : List It.I} {a a' : Option Addr} {n c c' : Nat} {hs : List IH} {g : IH} {x : It.I} (h : ScSt w most Y acc a n c hs) (hg : OwnIt Y (w.heap.size + 2) g x) (hgr : Y.grownBy w3 (Value.slice a n c).ownBlock) (ho : w3.ownsRow (w.heap.size + 2) 40 8 (.slice a' (n + 1) c') (n + 1) (tcells ih (hs ++ [g]))) :
    ScSt w most (w3.setCell ⟨w.heap.size + 1, 0, none⟩ (.slice a' (n + 1) c')) (acc ++ [x]) a' (n + 1) c' (hs ++ [g]) := by
  have hl := h.lt
  have hne : ∀ k, k < w.heap.size + 2 → k < Y.heap.size → w3.heap[k]? = Y.heap[k]? := fun k h1 h2 => hgr.block k h2 (own_ne h.own h1)
  have hset : ∀ k, k ≠ w.heap.size + 1 → (w3.setCell ⟨w.heap.size + 1, 0, none⟩ (.slice a' (n + 1) c')).heap[k]? = w3.heap[k]? := fun k hk => Below.heap_setCell w3 ⟨w.heap.size + 1, 0, none⟩ _ k hk
  have hb3 : Below w.heap.size w w3 := h.below.trans ⟨hgr.os, hgr.tape, hgr.output, hgr.size, fun k hk => hne k (by omega) (by omega)⟩
  have hheld := (h.held.snoc hg).grown h.own (by decide) hgr
  refine ⟨hb3.setCell (by show w.heap.size ≤ w.heap.size + 1; omega) _, by rw [List.length_append, h.num]; rfl, ?_, Go.Joins.block_setCell (i := 0) ((hne _ (by omega) hl).trans h.lbox) _, owns_same ho (fun k hk _ => hset k (by omega)), hheld.same (fun k hk _ => hset k (by omega))⟩
  rw [hset _ (by omega), hne _ (by omega) (by omega)]
  exact h.mst

set_option maxRecDepth 100000 in
set_option maxHeartbeats 1000000 in
theorem see_full (w : World) (most : Int) (V : World) (acc : List It.I) (a : Option Addr) (n c : Nat) (hs : List IH) (h : IH) (hS : ScSt w most V acc a n c hs) (hf : most ≤ (n : Int)) :
    Calls Try.prog 36 #[iv h, .pointer (some ⟨w.heap.size + 1, 0, none⟩), .pointer (some ⟨w.heap.size, 0, none⟩)] V fun e V' => e = .returned (.bool false) ∧ ScSt w most V' acc a n c hs := by
  have hb0 : Below V.heap.size V (V.alloc (.cells #[.string h.key, .bool h.dead, .bool h.far, .slice h.a h.n h.c, .int .i64 h.p.1, .int .i64 h.p.2.1, .int .i64 h.p.2.2.1, .int .u32 (h.p.2.2.2 : Nat)] 40)) := below_alloc V _
  have hS1 := hS.on hb0
  obtain ⟨c0, c1, c2⟩ := hS1.cells
  have hd : decide (most ≤ (n : Int)) = true := decide_eq_true hf
  clear hS hb0
  obtain ⟨gk, gd, gf, ga, gn, gc, ⟨g1, g2, g3, g4⟩⟩ := h
  simp only at hS1 c0 c1 c2
  go_enter Try.func36, Try.ntmps36
  go_wp2
  go_ret
  exact ⟨rfl, hS1⟩

set_option maxRecDepth 100000 in
set_option maxHeartbeats 4000000 in
theorem see_more (w : World) (most : Int) (V : World) (acc : List It.I) (a : Option Addr) (n c : Nat) (hs : List IH) (h : IH) (x : It.I) (hS : ScSt w most V acc a n c hs) (hf : ¬ (most ≤ (n : Int))) (hx : IsItem V h x) (hsm : x.2.2.2.1.length ≤ 100000) (hn : n ≤ 100000) :
    Calls Try.prog 36 #[iv h, .pointer (some ⟨w.heap.size + 1, 0, none⟩), .pointer (some ⟨w.heap.size, 0, none⟩)] V fun e V' => e = .returned (.bool true) ∧ ∃ a' c' hs', ScSt w most V' (acc ++ [x]) a' (n + 1) c' hs' := by
  have hb0 : Below V.heap.size V (V.alloc (.cells #[.string h.key, .bool h.dead, .bool h.far, .slice h.a h.n h.c, .int .i64 h.p.1, .int .i64 h.p.2.1, .int .i64 h.p.2.2.1, .int .u32 (h.p.2.2.2 : Nat)] 40)).drew := (below_alloc V _).drew
  have hS1 := hS.on hb0
  have hcp := copied_any h x _ (hx.below hb0 (Nat.le_refl _)) hsm
  obtain ⟨c0, c1, c2⟩ := (hS.on (below_alloc V (.cells #[.string h.key, .bool h.dead, .bool h.far, .slice h.a h.n h.c, .int .i64 h.p.1, .int .i64 h.p.2.1, .int .i64 h.p.2.2.1, .int .u32 (h.p.2.2.2 : Nat)] 40))).cells
  have hd : decide (most ≤ (n : Int)) = false := decide_eq_false hf
  have hVl := hS.lt
  have HLIT : Hid (∀ (w2 : World) (q : IH), ScSt w most w2 acc a n c hs → OwnIt w2 (V.alloc (.cells #[.string h.key, .bool h.dead, .bool h.far, .slice h.a h.n h.c, .int .i64 h.p.1, .int .i64 h.p.2.1, .int .i64 h.p.2.2.1, .int .u32 (h.p.2.2.2 : Nat)] 40)).drew.heap.size q x → OwnIt (w2.alloc (.cells #[.string q.key, .bool q.dead, .bool q.far, .slice q.a q.n q.c, .int .i64 q.p.1, .int .i64 q.p.2.1, .int .i64 q.p.2.2.1, .int .u32 (q.p.2.2.2 : Nat)] 40)) (w.heap.size + 2) q x ∧ ScSt w most (w2.alloc (.cells #[.string q.key, .bool q.dead, .bool q.far, .slice q.a q.n q.c, .int .i64 q.p.1, .int .i64 q.p.2.1, .int .i64 q.p.2.2.1, .int .u32 (q.p.2.2.2 : Nat)] 40)) acc a n c hs ∧ (w2.alloc (.cells #[.string q.key, .bool q.dead, .bool q.far, .slice q.a q.n q.c, .int .i64 q.p.1, .int .i64 q.p.2.1, .int .i64 q.p.2.2.1, .int .u32 (q.p.2.2.2 : Nat)] 40)).ownsRow (w.heap.size + 2) 40 8 (.slice a n c) n (tcells ih hs) ∧ TRow 8 ih ihz (w2.alloc (.cells #[.string q.key, .bool q.dead, .bool q.far, .slice q.a q.n q.c, .int .i64 q.p.1, .int .i64 q.p.2.1, .int .i64 q.p.2.2.1, .int .u32 (q.p.2.2.2 : Nat)] 40)) (some ⟨w2.heap.size, 0, none⟩) 1 [q] ∧ w.heap.size + 2 ≤ (w2.alloc (.cells #[.string q.key, .bool q.dead, .bool q.far, .slice q.a q.n q.c, .int .i64 q.p.1, .int .i64 q.p.2.1, .int .i64 q.p.2.2.1, .int .u32 (q.p.2.2.2 : Nat)] 40)).heap.size) := (fun w2 q h1 h2 => by
    have hb := below_alloc w2 (.cells #[.string q.key, .bool q.dead, .bool q.far, .slice q.a q.n q.c, .int .i64 q.p.1, .int .i64 q.p.2.1, .int .i64 q.p.2.2.1, .int .u32 (q.p.2.2.2 : Nat)] 40)
    have h3 := h1.on hb
    have hl3 := h3.lt
    have h4 : OwnIt w2 (w.heap.size + 2) q x := ⟨h2.1, owns_base h2.2 (by show w.heap.size + 2 ≤ (V.alloc _).heap.size; simp; omega)⟩
    exact ⟨h4.below hb, h3, h3.own, lit_item w2 q rfl, by omega⟩ : _)
  have HFIN : Hid (∀ (Y w3 : World) (a' : Option Addr) (c' : Nat) (q : IH), Y.grownBy w3 (Value.slice a n c).ownBlock → ScSt w most Y acc a n c hs → OwnIt Y (w.heap.size + 2) q x → w3.ownsRow (w.heap.size + 2) 40 8 (.slice a' (n + 1) c') (n + 1) (tcells ih (hs ++ [q])) → ScSt w most (w3.setCell ⟨w.heap.size + 1, 0, none⟩ (.slice a' (n + 1) c')) (acc ++ [x]) a' (n + 1) c' (hs ++ [q])) := (fun Y w3 a' c' q h1 h2 h3 h4 => h2.app h3 h1 h4 : _)
  have HFZ : Hid (∀ (Y w3 : World), Y.grownBy w3 (Value.slice a n c).ownBlock → ScSt w most Y acc a n c hs → w3.frozen? ⟨w.heap.size + 1, 0, none⟩ = false ∧ w3.cell? ⟨w.heap.size + 1, 0, none⟩ = some (.slice a n c)) := (fun Y w3 h1 h2 => by
    have hb : w3.heap[w.heap.size + 1]? = some (.cells #[.slice a n c] 22 (0, 0)) := (h1.block _ h2.lt (own_ne h2.own (by omega))).trans h2.lbox
    exact ⟨Go.Joins.unfrozen_of_block hb 0, (Go.Joins.cell_of_block hb _).trans rfl⟩ : _)
  clear hS hx
  obtain ⟨gk, gd, gf, ga, gn, gc, ⟨g1, g2, g3, g4⟩⟩ := h
  simp only at hS1 c0 c1 c2 hcp HLIT
  go_enter Try.func36, Try.ntmps36
  go_wp2_with fail
  refine wp_region_held_drew (S := (fun _ => True)) (by kernel_rfl) trivial (fun hHeld => ?_)
  refine wpAnyH_ready (rs := [0, 1]) (by kernel_rfl) (by simp) ?_
  refine AllReadyH.cons rfl (fun K hK => ?_) (AllReadyH.cons rfl (fun K hK => ?_) AllReadyH.nil)
  · skip
    go_simp
    refine hK.out _ _ trivial (fun hHeld => ?_)
    clear hK K
    refine wpAnyH_ready (rs := [1]) (by kernel_rfl) (by simp) ?_
    refine AllReadyH.cons rfl (fun K hK => ?_) AllReadyH.nil
    go_simp
    refine hK.out _ _ trivial (fun hHeld => ?_)
    clear hK K
    refine wpAnyH_ready (rs := [2]) (by kernel_rfl) (by simp) ?_
    refine AllReadyH.cons rfl (fun K hK => ?_) AllReadyH.nil
    go_simp; go_at_call 33; refine hcp.mono ?_; rintro e w2 ⟨q, rfl, hown2, hkk, hb2⟩; clear hkk; have hS2 := hS1.on hb2; obtain ⟨e0, e1, e2⟩ := hS2.cells; have HL := HLIT.out w2 q hS2 hown2; obtain ⟨qk, qd, qf, qa, qn, qc, ⟨q1, q2, q3, q4⟩⟩ := q; simp only at HL; obtain ⟨f1, f2, f3, f4, f5⟩ := HL; obtain ⟨j0, j1, j2⟩ := f2.cells
    refine hK.out _ _ trivial (fun hHeld => ?_)
    clear hK K
    try go_frame
    refine wpAnyH_ready (rs := [3]) (by kernel_rfl) (by simp) ?_
    refine AllReadyH.cons rfl (fun K hK => ?_) AllReadyH.nil
    go_simp
    refine hK.out _ _ trivial (fun hHeld => ?_)
    clear hK K
    refine wpAnyH_ready (rs := [4]) (by kernel_rfl) (by simp) ?_
    refine AllReadyH.cons rfl (fun K hK => ?_) AllReadyH.nil
    refine step_tg (w0 := w2.alloc (.cells #[.string qk, .bool qd, .bool qf, .slice qa qn qc, .int .i64 q1, .int .i64 q2, .int .i64 q3, .int .u32 (q4 : Nat)] 40)) itemE ihE (by rfl) _ _ (by rfl) _ n hs (by rfl) f3 (some ⟨w2.heap.size, 0, none⟩) 1 1 [⟨qk, qd, qf, qa, qn, qc, (q1, q2, q3, q4)⟩] (by rfl) f4 (fun h => by cases h) (by omega) (Below.refl _ _) f5 ?_; intro a' c' w3 hgr3 _ _ hown3 _; have HF := HFIN.out _ _ _ _ _ hgr3 f2 f1 hown3; obtain ⟨ef3, eg3⟩ := HFZ.out _ _ hgr3 f2
    refine hK.out _ _ trivial (fun hHeld => ?_)
    clear hK K
    try go_frame
    refine wpAnyH_ready (rs := [5]) (by kernel_rfl) (by simp) ?_
    refine AllReadyH.cons rfl (fun K hK => ?_) AllReadyH.nil
    go_simp
    refine hK.out _ _ trivial (fun hHeld => ?_)
    clear hK K
    refine wpAnyH_done (by kernel_rfl) ?_ _
    go_wp2
    go_ret
    exact ⟨rfl, a', c', _, HF⟩
  · skip
    go_simp
    refine hK.out _ _ trivial (fun hHeld => ?_)
    clear hK K
    refine wpAnyH_ready (rs := [0, 2]) (by kernel_rfl) (by simp) ?_
    refine AllReadyH.cons rfl (fun K hK => ?_) (AllReadyH.cons rfl (fun K hK => ?_) AllReadyH.nil)
    · skip
      go_simp
      refine hK.out _ _ trivial (fun hHeld => ?_)
      clear hK K
      refine wpAnyH_ready (rs := [2]) (by kernel_rfl) (by simp) ?_
      refine AllReadyH.cons rfl (fun K hK => ?_) AllReadyH.nil
      go_simp; go_at_call 33; refine hcp.mono ?_; rintro e w2 ⟨q, rfl, hown2, hkk, hb2⟩; clear hkk; have hS2 := hS1.on hb2; obtain ⟨e0, e1, e2⟩ := hS2.cells; have HL := HLIT.out w2 q hS2 hown2; obtain ⟨qk, qd, qf, qa, qn, qc, ⟨q1, q2, q3, q4⟩⟩ := q; simp only at HL; obtain ⟨f1, f2, f3, f4, f5⟩ := HL; obtain ⟨j0, j1, j2⟩ := f2.cells
      refine hK.out _ _ trivial (fun hHeld => ?_)
      clear hK K
      try go_frame
      refine wpAnyH_ready (rs := [3]) (by kernel_rfl) (by simp) ?_
      refine AllReadyH.cons rfl (fun K hK => ?_) AllReadyH.nil
      go_simp
      refine hK.out _ _ trivial (fun hHeld => ?_)
      clear hK K
      refine wpAnyH_ready (rs := [4]) (by kernel_rfl) (by simp) ?_
      refine AllReadyH.cons rfl (fun K hK => ?_) AllReadyH.nil
      refine step_tg (w0 := w2.alloc (.cells #[.string qk, .bool qd, .bool qf, .slice qa qn qc, .int .i64 q1, .int .i64 q2, .int .i64 q3, .int .u32 (q4 : Nat)] 40)) itemE ihE (by rfl) _ _ (by rfl) _ n hs (by rfl) f3 (some ⟨w2.heap.size, 0, none⟩) 1 1 [⟨qk, qd, qf, qa, qn, qc, (q1, q2, q3, q4)⟩] (by rfl) f4 (fun h => by cases h) (by omega) (Below.refl _ _) f5 ?_; intro a' c' w3 hgr3 _ _ hown3 _; have HF := HFIN.out _ _ _ _ _ hgr3 f2 f1 hown3; obtain ⟨ef3, eg3⟩ := HFZ.out _ _ hgr3 f2
      refine hK.out _ _ trivial (fun hHeld => ?_)
      clear hK K
      try go_frame
      refine wpAnyH_ready (rs := [5]) (by kernel_rfl) (by simp) ?_
      refine AllReadyH.cons rfl (fun K hK => ?_) AllReadyH.nil
      go_simp
      refine hK.out _ _ trivial (fun hHeld => ?_)
      clear hK K
      refine wpAnyH_done (by kernel_rfl) ?_ _
      go_wp2
      go_ret
      exact ⟨rfl, a', c', _, HF⟩
    · skip
      go_simp; go_at_call 33; refine hcp.mono ?_; rintro e w2 ⟨q, rfl, hown2, hkk, hb2⟩; clear hkk; have hS2 := hS1.on hb2; obtain ⟨e0, e1, e2⟩ := hS2.cells; have HL := HLIT.out w2 q hS2 hown2; obtain ⟨qk, qd, qf, qa, qn, qc, ⟨q1, q2, q3, q4⟩⟩ := q; simp only at HL; obtain ⟨f1, f2, f3, f4, f5⟩ := HL; obtain ⟨j0, j1, j2⟩ := f2.cells
      refine hK.out _ _ trivial (fun hHeld => ?_)
      clear hK K
      try go_frame
      refine wpAnyH_ready (rs := [0, 3]) (by kernel_rfl) (by simp) ?_
      refine AllReadyH.cons rfl (fun K hK => ?_) (AllReadyH.cons rfl (fun K hK => ?_) AllReadyH.nil)
      · skip
        go_simp
        refine hK.out _ _ trivial (fun hHeld => ?_)
        clear hK K
        refine wpAnyH_ready (rs := [3]) (by kernel_rfl) (by simp) ?_
        refine AllReadyH.cons rfl (fun K hK => ?_) AllReadyH.nil
        go_simp
        refine hK.out _ _ trivial (fun hHeld => ?_)
        clear hK K
        refine wpAnyH_ready (rs := [4]) (by kernel_rfl) (by simp) ?_
        refine AllReadyH.cons rfl (fun K hK => ?_) AllReadyH.nil
        refine step_tg (w0 := w2.alloc (.cells #[.string qk, .bool qd, .bool qf, .slice qa qn qc, .int .i64 q1, .int .i64 q2, .int .i64 q3, .int .u32 (q4 : Nat)] 40)) itemE ihE (by rfl) _ _ (by rfl) _ n hs (by rfl) f3 (some ⟨w2.heap.size, 0, none⟩) 1 1 [⟨qk, qd, qf, qa, qn, qc, (q1, q2, q3, q4)⟩] (by rfl) f4 (fun h => by cases h) (by omega) (Below.refl _ _) f5 ?_; intro a' c' w3 hgr3 _ _ hown3 _; have HF := HFIN.out _ _ _ _ _ hgr3 f2 f1 hown3; obtain ⟨ef3, eg3⟩ := HFZ.out _ _ hgr3 f2
        refine hK.out _ _ trivial (fun hHeld => ?_)
        clear hK K
        try go_frame
        refine wpAnyH_ready (rs := [5]) (by kernel_rfl) (by simp) ?_
        refine AllReadyH.cons rfl (fun K hK => ?_) AllReadyH.nil
        go_simp
        refine hK.out _ _ trivial (fun hHeld => ?_)
        clear hK K
        refine wpAnyH_done (by kernel_rfl) ?_ _
        go_wp2
        go_ret
        exact ⟨rfl, a', c', _, HF⟩
      · skip
        go_simp
        refine hK.out _ _ trivial (fun hHeld => ?_)
        clear hK K
        refine wpAnyH_ready (rs := [0]) (by kernel_rfl) (by simp) ?_
        refine AllReadyH.cons rfl (fun K hK => ?_) AllReadyH.nil
        go_simp
        refine hK.out _ _ trivial (fun hHeld => ?_)
        clear hK K
        refine wpAnyH_ready (rs := [4]) (by kernel_rfl) (by simp) ?_
        refine AllReadyH.cons rfl (fun K hK => ?_) AllReadyH.nil
        refine step_tg (w0 := w2.alloc (.cells #[.string qk, .bool qd, .bool qf, .slice qa qn qc, .int .i64 q1, .int .i64 q2, .int .i64 q3, .int .u32 (q4 : Nat)] 40)) itemE ihE (by rfl) _ _ (by rfl) _ n hs (by rfl) f3 (some ⟨w2.heap.size, 0, none⟩) 1 1 [⟨qk, qd, qf, qa, qn, qc, (q1, q2, q3, q4)⟩] (by rfl) f4 (fun h => by cases h) (by omega) (Below.refl _ _) f5 ?_; intro a' c' w3 hgr3 _ _ hown3 _; have HF := HFIN.out _ _ _ _ _ hgr3 f2 f1 hown3; obtain ⟨ef3, eg3⟩ := HFZ.out _ _ hgr3 f2
        refine hK.out _ _ trivial (fun hHeld => ?_)
        clear hK K
        try go_frame
        refine wpAnyH_ready (rs := [5]) (by kernel_rfl) (by simp) ?_
        refine AllReadyH.cons rfl (fun K hK => ?_) AllReadyH.nil
        go_simp
        refine hK.out _ _ trivial (fun hHeld => ?_)
        clear hK K
        refine wpAnyH_done (by kernel_rfl) ?_ _
        go_wp2
        go_ret
        exact ⟨rfl, a', c', _, HF⟩
end Go.Proofs.Ytpoocjffkhjeaaa
