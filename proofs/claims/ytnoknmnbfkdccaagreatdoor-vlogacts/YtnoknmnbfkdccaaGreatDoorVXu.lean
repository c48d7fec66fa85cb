/- What is done in the law's world: Get, Walk, Sync, Get of what was told, nothing. -/
import Derived.Test.YtnoknmnbfkdccaaGreatDoorVXs
import Derived.Test.YtnoknmnbfkdccaaGreatDoorVXi
namespace Go.Proofs.YtnoknmnbfkdccaaGreatDoor
open Go.RowKit Go.Shelf

def actv (y : LH) : Value := .agg #[.int .i64 y.d, .int .i64 y.n, .slice y.b.a y.b.n y.b.c, .int .i64 y.q.1, .int .i64 y.q.2.1, .int .i64 y.q.2.2.1, .int .u32 (y.q.2.2.2 : Nat)]
def acto (y : LH) : Obj := .cells #[.int .i64 y.d, .int .i64 y.n, .slice y.b.a y.b.n y.b.c, .int .i64 y.q.1, .int .i64 y.q.2.1, .int .i64 y.q.2.2.1, .int .u32 (y.q.2.2.2 : Nat)] 44
theorem act_cells {W : World} {g : Nat} {c0 c1 c2 c3 c4 c5 c6 : Value} (h : W.heap[g]? = some (.cells #[c0, c1, c2, c3, c4, c5, c6] 44 (0, 0))) : W.cell? ⟨g, 0, none⟩ = some c0 ∧ W.cell? ⟨g, 1, none⟩ = some c1 ∧ W.cell? ⟨g, 2, none⟩ = some c2 ∧ W.cell? ⟨g, 3, none⟩ = some c3 ∧ W.cell? ⟨g, 4, none⟩ = some c4 ∧ W.cell? ⟨g, 5, none⟩ = some c5 ∧ W.cell? ⟨g, 6, none⟩ = some c6 :=
  ⟨(Go.Joins.cell_of_block h 0).trans rfl, (Go.Joins.cell_of_block h 1).trans rfl, (Go.Joins.cell_of_block h 2).trans rfl, (Go.Joins.cell_of_block h 3).trans rfl, (Go.Joins.cell_of_block h 4).trans rfl, (Go.Joins.cell_of_block h 5).trans rfl, (Go.Joins.cell_of_block h 6).trans rfl⟩
theorem box_ne {w : World} {x m : Nat} {C C' : Array Value} {T T' : TypeId} {r r' : Nat × Nat} (h : w.heap[x]? = some (.cells C T r)) (h' : w.heap[m]? = some (.cells C' T' r')) (hne : T ≠ T') : x ≠ m := by
  rintro rfl
  rw [h] at h'
  simp only [Option.some.injEq, Obj.cells.injEq] at h'
  exact hne h'.2.1
section
variable {B : Nat} {w : World} {x : Nat} {C : Array Value}
theorem lg_box {m p n c : Nat} {a : Option Addr} {segs : List Int} (hL : LgAt B w m p a n c segs) (hx : w.heap[x]? = some (.cells C 37 (0, 0))) (i : Nat) (v : Value) : LgAt B (w.setCell ⟨x, i, none⟩ v) m p a n c segs :=
  ⟨(set_other w x i v (Ne.symm (box_ne hx hL.blk (by decide)))).trans hL.blk, hL.own.kept (turned_set w x i v) (.inr (vobr hx hL.own (by decide)).symm), hL.le, hL.may⟩
theorem wy_box {P : Nat → Prop} (hx : w.heap[x]? = some (.cells C 37 (0, 0))) (hB : B ≤ x) (i : Nat) (v : Value) : Wy B P w (w.setCell ⟨x, i, none⟩ v) :=
  ⟨(only_set w x i v rfl : OnlyIn (fun k => k = x) _ _).below (Nat.le_trans hB (Nat.le_of_lt (heap_lt hx))) (fun k hk => by subst hk; exact hB), fun k cs T _ hc ht => set_other w x i v (Ne.symm (box_ne hx hc (by rcases ht with ⟨rfl, _⟩ | rfl | rfl <;> decide)))⟩
theorem rl_box {sa va : Option Addr} {sn sc vc : Nat} {segs : List Int} {vals : List (List (List Nat))} (hR : RL B w sa sn sc va vc segs vals) (hx : w.heap[x]? = some (.cells C 37 (0, 0))) (hB : B ≤ x) (i : Nat) (v : Value) : RL B (w.setCell ⟨x, i, none⟩ v) sa sn sc va vc segs vals :=
  hR.wy (P := fun _ => False) (wy_box hx hB i v) fun _ _ _ _ => id
theorem own_box {B' E s n : Nat} {u : Value} {xs : List Value} (ho : w.ownsRow B' E s u n xs) (hx : w.heap[x]? = some (.cells C 37 (0, 0))) (hE : 37 ≠ E) (i : Nat) (v : Value) : (w.setCell ⟨x, i, none⟩ v).ownsRow B' E s u n xs :=
  ho.kept (turned_set w x i v) (.inr (vobr hx ho hE).symm)
theorem vd_box {p : Nat} {D : Dk.D} (h : VD B w p D) (hx : w.heap[x]? = some (.cells C 37 (0, 0))) (hB : B ≤ x) (i : Nat) (v : Value) : VD B (w.setCell ⟨x, i, none⟩ v) p D := vd_set h hx hB (by decide) (by decide) (by decide) (by decide) v
theorem below_box {w0 : World} (h : Below B w0 w) (hB : B ≤ x) (i : Nat) (v : Value) : Below B w0 (w.setCell ⟨x, i, none⟩ v) := h.setCell (p := ⟨x, i, none⟩) hB v
end
section
variable {B : Nat} {w : World} {x b z : Nat} {S : WS}
/-- the disk alone has turned -/
theorem WI.wk {w' : World} {D' : Dk.D} (h : WI B w x S b z) (hw : Wk B w w') (hd : VD B w' S.p D') (hac : Vl.Ac D' S.segs S.vals b z) : WI B w' x { S with D := D' } b z :=
  ⟨hw.blk h.blk (by decide) (by decide) (by decide) (by decide), h.le, h.lg.wk hw, hd, h.rl.wy (P := fun _ => False) (Wy.of_wk h.B' hw) (fun _ _ _ _ => id), hw.own h.told (by decide) (by decide) (by decide) (by decide), h.fits, h.apart, hac, h.bb, h.cnt⟩
/-- what an act leaves -/
def DoR (B : Nat) (w : World) (x b z : Nat) (y : LH) (e : Ending) (w' : World) : Prop := e = .returned (.bool true) ∧ Below B w w' ∧ ∃ S', WI B w' x S' (b + 1) (z + y.b.n + 10)
theorem DoR.same {w' : World} {y : LH} (h : WI B w x S b z) (hbz : b + 1 ≤ 40 ∧ z + y.b.n + 10 ≤ 21000) (hb : Below w.heap.size w w') : DoR B w x b z y (.returned (.bool true)) w' :=
  ⟨rfl, hb.mono h.B', S, (h.keep hb).more (by omega) (by omega) hbz⟩
theorem act_w0 {w W0 : World} {y : LH} (hW0 : W0 = w.alloc (acto y)) : W0.heap.size = w.heap.size + 1 ∧ Below w.heap.size w W0 ∧ ∀ W, Below W0.heap.size W0 W → W.heap[w.heap.size]? = some (.cells #[.int .i64 y.d, .int .i64 y.n, .slice y.b.a y.b.n y.b.c, .int .i64 y.q.1, .int .i64 y.q.2.1, .int .i64 y.q.2.2.1, .int .u32 (y.q.2.2.2 : Nat)] 44 (0, 0)) := by
  subst hW0
  exact ⟨by simp, below_alloc _ _, fun W hW => (hW.block _ (by simp)).trans (heap_alloc_new w _)⟩
set_option maxRecDepth 100000 in
set_option maxHeartbeats 2000000 in
theorem wdo_none (h : WI B w x S b z) (y : LH) (bs : List Nat) (hI : IsL w y bs) (hbz : b + 1 ≤ 40 ∧ z + y.b.n + 10 ≤ 21000) (hd : ¬ (0 ≤ y.d ∧ y.d ≤ 7)) :
    Calls Tryz.prog 10 #[.pointer (some ⟨x, 0, none⟩), actv y] w (DoR B w x b z y) := by
  obtain ⟨W0, hW0⟩ : ∃ W0, W0 = w.alloc (acto y) := ⟨_, rfl⟩
  obtain ⟨z0, B0, ha⟩ := act_w0 hW0
  have HA : Hid (∀ W, Below W0.heap.size W0 W → W.heap[w.heap.size]? = some (.cells #[.int .i64 y.d, .int .i64 y.n, .slice y.b.a y.b.n y.b.c, .int .i64 y.q.1, .int .i64 y.q.2.1, .int .i64 y.q.2.2.1, .int .u32 (y.q.2.2.2 : Nat)] 44 (0, 0))) := ha
  have HR : Hid (∀ W, Below w.heap.size w W → DoR B w x b z y (.returned (.bool true)) W) := (fun W hW => DoR.same h hbz hW : ∀ W, Below w.heap.size w W → _)
  have HW : Hid (WI B w x S b z) := h
  have HI : Hid (IsL w y bs) := hI
  have hblk : Hid (∀ W, Below w.heap.size w W → W.heap[x]? = some (.cells #[.pointer (some ⟨S.p, 0, none⟩), .pointer (some ⟨S.m, 0, none⟩), .slice S.sa S.n S.sc, .slice S.va S.n S.vc, .slice S.ta S.tn S.tc] 37 (0, 0))) := (fun W hW => (h.keep hW).blk : ∀ W, Below w.heap.size w W → _)
  have bW : Hid (∀ W, Below W0.heap.size W0 W → Below w.heap.size w W) := (fun W hW => B0.trans (hW.mono B0.size) : ∀ W, Below W0.heap.size W0 W → _)
  obtain ⟨k0, k1, k2, k3, k4, k5, k6⟩ := act_cells (ha W0 (Below.refl _ _))
  obtain ⟨x0, x1, x2, x3, x4, xf⟩ := world_cells (hblk.out W0 B0)
  have hE0 : Hid (W0 = w.alloc (acto y)) := hW0
  skip
  obtain ⟨p, m, a, n, c, sa, sc, va, vc, ta, tn, tc, segs, vals, told, D⟩ := S
  obtain ⟨d, yn, ⟨ba, bn, bc⟩, ⟨q0, q1, q2, q3⟩⟩ := y
  simp only [acto] at hW0 hE0 k0 k1 k2 k3 k4 k5 k6 x0 x1 x2 x3 x4 hd HA hblk ⊢
  simp only [actv]
  rw [hW0] at k0 k1 k2 k3 k4 k5 k6 x0 x1 x2 x3 x4
  have e0 : (d == 0) = false := by simp; omega
  have e1 : (d == 1) = false := by simp; omega
  have e2 : (d == 2) = false := by simp; omega
  have e3 : (d == 3) = false := by simp; omega
  have e4 : (d == 4) = false := by simp; omega
  have e5 : (d == 5) = false := by simp; omega
  have e6 : (d == 6) = false := by simp; omega
  have e7 : (d == 7) = false := by simp; omega
  clear hd
  clear h hI ha hW0 hbz
  go_enter Tryz.func10, Tryz.ntmps10
  go_wp2
  go_ret
  exact HR.out _ (bW.out _ (by rw [← hE0.out]; exact Below.refl _ _))
set_option maxRecDepth 100000 in
set_option maxHeartbeats 2000000 in
theorem wdo_get (h : WI B w x S b z) (y : LH) (bs : List Nat) (hI : IsL w y bs) (hbz : b + 1 ≤ 40 ∧ z + y.b.n + 10 ≤ 21000) (hd : y.d = 1) :
    Calls Tryz.prog 10 #[.pointer (some ⟨x, 0, none⟩), actv y] w (DoR B w x b z y) := by
  obtain ⟨W0, hW0⟩ : ∃ W0, W0 = w.alloc (acto y) := ⟨_, rfl⟩
  obtain ⟨z0, B0, ha⟩ := act_w0 hW0
  have HA : Hid (∀ W, Below W0.heap.size W0 W → W.heap[w.heap.size]? = some (.cells #[.int .i64 y.d, .int .i64 y.n, .slice y.b.a y.b.n y.b.c, .int .i64 y.q.1, .int .i64 y.q.2.1, .int .i64 y.q.2.2.1, .int .u32 (y.q.2.2.2 : Nat)] 44 (0, 0))) := ha
  have HR : Hid (∀ W, Below w.heap.size w W → DoR B w x b z y (.returned (.bool true)) W) := (fun W hW => DoR.same h hbz hW : ∀ W, Below w.heap.size w W → _)
  have HW : Hid (WI B w x S b z) := h
  have HI : Hid (IsL w y bs) := hI
  have hblk : Hid (∀ W, Below w.heap.size w W → W.heap[x]? = some (.cells #[.pointer (some ⟨S.p, 0, none⟩), .pointer (some ⟨S.m, 0, none⟩), .slice S.sa S.n S.sc, .slice S.va S.n S.vc, .slice S.ta S.tn S.tc] 37 (0, 0))) := (fun W hW => (h.keep hW).blk : ∀ W, Below w.heap.size w W → _)
  have bW : Hid (∀ W, Below W0.heap.size W0 W → Below w.heap.size w W) := (fun W hW => B0.trans (hW.mono B0.size) : ∀ W, Below W0.heap.size W0 W → _)
  obtain ⟨k0, k1, k2, k3, k4, k5, k6⟩ := act_cells (ha W0 (Below.refl _ _))
  obtain ⟨x0, x1, x2, x3, x4, xf⟩ := world_cells (hblk.out W0 B0)
  have hE0 : Hid (W0 = w.alloc (acto y)) := hW0
  have hg := wget_any (h.keep B0) y.q hI.q
  obtain ⟨p, m, a, n, c, sa, sc, va, vc, ta, tn, tc, segs, vals, told, D⟩ := S
  obtain ⟨d, yn, ⟨ba, bn, bc⟩, ⟨q0, q1, q2, q3⟩⟩ := y
  simp only [acto] at hW0 hE0 k0 k1 k2 k3 k4 k5 k6 x0 x1 x2 x3 x4 hd HA hblk ⊢
  simp only [actv]
  rw [hW0] at k0 k1 k2 k3 k4 k5 k6 x0 x1 x2 x3 x4
  subst hd
  simp only [pv] at hg
  rw [hW0] at hg
  clear h hI ha hW0 hbz
  go_enter Tryz.func10, Tryz.ntmps10
  go_wp2_with (go_at_call 29; go_must (refine hg.mono ?_; rintro e w1 ⟨rfl, hb1'⟩; rw [← hE0.out] at hb1'))
  go_ret
  exact HR.out _ (bW.out _ hb1')
set_option maxRecDepth 100000 in
set_option maxHeartbeats 2000000 in
theorem wdo_walk (h : WI B w x S b z) (y : LH) (bs : List Nat) (hI : IsL w y bs) (hbz : b + 1 ≤ 40 ∧ z + y.b.n + 10 ≤ 21000) (hd : y.d = 2) :
    Calls Tryz.prog 10 #[.pointer (some ⟨x, 0, none⟩), actv y] w (DoR B w x b z y) := by
  obtain ⟨W0, hW0⟩ : ∃ W0, W0 = w.alloc (acto y) := ⟨_, rfl⟩
  obtain ⟨z0, B0, ha⟩ := act_w0 hW0
  have HA : Hid (∀ W, Below W0.heap.size W0 W → W.heap[w.heap.size]? = some (.cells #[.int .i64 y.d, .int .i64 y.n, .slice y.b.a y.b.n y.b.c, .int .i64 y.q.1, .int .i64 y.q.2.1, .int .i64 y.q.2.2.1, .int .u32 (y.q.2.2.2 : Nat)] 44 (0, 0))) := ha
  have HR : Hid (∀ W, Below w.heap.size w W → DoR B w x b z y (.returned (.bool true)) W) := (fun W hW => DoR.same h hbz hW : ∀ W, Below w.heap.size w W → _)
  have HW : Hid (WI B w x S b z) := h
  have HI : Hid (IsL w y bs) := hI
  have hblk : Hid (∀ W, Below w.heap.size w W → W.heap[x]? = some (.cells #[.pointer (some ⟨S.p, 0, none⟩), .pointer (some ⟨S.m, 0, none⟩), .slice S.sa S.n S.sc, .slice S.va S.n S.vc, .slice S.ta S.tn S.tc] 37 (0, 0))) := (fun W hW => (h.keep hW).blk : ∀ W, Below w.heap.size w W → _)
  have bW : Hid (∀ W, Below W0.heap.size W0 W → Below w.heap.size w W) := (fun W hW => B0.trans (hW.mono B0.size) : ∀ W, Below W0.heap.size W0 W → _)
  obtain ⟨k0, k1, k2, k3, k4, k5, k6⟩ := act_cells (ha W0 (Below.refl _ _))
  obtain ⟨x0, x1, x2, x3, x4, xf⟩ := world_cells (hblk.out W0 B0)
  have hE0 : Hid (W0 = w.alloc (acto y)) := hW0
  have hg := wwalk_any (h.keep B0) y.n hI.n
  obtain ⟨p, m, a, n, c, sa, sc, va, vc, ta, tn, tc, segs, vals, told, D⟩ := S
  obtain ⟨d, yn, ⟨ba, bn, bc⟩, ⟨q0, q1, q2, q3⟩⟩ := y
  simp only [acto] at hW0 hE0 k0 k1 k2 k3 k4 k5 k6 x0 x1 x2 x3 x4 hd HA hblk ⊢
  simp only [actv]
  rw [hW0] at k0 k1 k2 k3 k4 k5 k6 x0 x1 x2 x3 x4
  subst hd
  simp only at hg
  rw [hW0] at hg
  clear h hI ha hW0 hbz
  go_enter Tryz.func10, Tryz.ntmps10
  go_wp2_with (go_at_call 30; go_must (refine hg.mono ?_; rintro e w1 ⟨rfl, hb1'⟩; rw [← hE0.out] at hb1'))
  go_ret
  exact HR.out _ (bW.out _ hb1')
set_option maxRecDepth 100000 in
set_option maxHeartbeats 2000000 in
theorem wdo_sync (h : WI B w x S b z) (y : LH) (bs : List Nat) (hI : IsL w y bs) (hbz : b + 1 ≤ 40 ∧ z + y.b.n + 10 ≤ 21000) (hd : y.d = 3) :
    Calls Tryz.prog 10 #[.pointer (some ⟨x, 0, none⟩), actv y] w (DoR B w x b z y) := by
  obtain ⟨W0, hW0⟩ : ∃ W0, W0 = w.alloc (acto y) := ⟨_, rfl⟩
  obtain ⟨z0, B0, ha⟩ := act_w0 hW0
  have HA : Hid (∀ W, Below W0.heap.size W0 W → W.heap[w.heap.size]? = some (.cells #[.int .i64 y.d, .int .i64 y.n, .slice y.b.a y.b.n y.b.c, .int .i64 y.q.1, .int .i64 y.q.2.1, .int .i64 y.q.2.2.1, .int .u32 (y.q.2.2.2 : Nat)] 44 (0, 0))) := ha
  have HR : Hid (∀ W, Below w.heap.size w W → DoR B w x b z y (.returned (.bool true)) W) := (fun W hW => DoR.same h hbz hW : ∀ W, Below w.heap.size w W → _)
  have HW : Hid (WI B w x S b z) := h
  have HI : Hid (IsL w y bs) := hI
  have hblk : Hid (∀ W, Below w.heap.size w W → W.heap[x]? = some (.cells #[.pointer (some ⟨S.p, 0, none⟩), .pointer (some ⟨S.m, 0, none⟩), .slice S.sa S.n S.sc, .slice S.va S.n S.vc, .slice S.ta S.tn S.tc] 37 (0, 0))) := (fun W hW => (h.keep hW).blk : ∀ W, Below w.heap.size w W → _)
  have bW : Hid (∀ W, Below W0.heap.size W0 W → Below w.heap.size w W) := (fun W hW => B0.trans (hW.mono B0.size) : ∀ W, Below W0.heap.size W0 W → _)
  obtain ⟨k0, k1, k2, k3, k4, k5, k6⟩ := act_cells (ha W0 (Below.refl _ _))
  obtain ⟨x0, x1, x2, x3, x4, xf⟩ := world_cells (hblk.out W0 B0)
  have hE0 : Hid (W0 = w.alloc (acto y)) := hW0
  obtain ⟨D', hs1, hs2, _⟩ := h.ac.sync h.vd.ok
  have hg := vsync_any (h.keep B0).lg (h.keep B0).vd
  rw [hs1] at hg
  have HF : Hid (∀ W, VD B W S.p D' → Wk B W0 W → DoR B w x b z y (.returned (.bool true)) W) := (fun W hd hw => ⟨rfl, (B0.mono h.B').trans (hw.below (Nat.le_trans h.B' B0.size)), _, ((h.keep B0).wk hw hd hs2).more (Nat.le_succ b) (by omega) hbz⟩ : ∀ W, VD B W S.p D' → Wk B W0 W → _)
  obtain ⟨p, m, a, n, c, sa, sc, va, vc, ta, tn, tc, segs, vals, told, D⟩ := S
  obtain ⟨d, yn, ⟨ba, bn, bc⟩, ⟨q0, q1, q2, q3⟩⟩ := y
  simp only [acto] at hW0 hE0 k0 k1 k2 k3 k4 k5 k6 x0 x1 x2 x3 x4 hd HA hblk ⊢
  simp only [actv]
  rw [hW0] at k0 k1 k2 k3 k4 k5 k6 x0 x1 x2 x3 x4
  subst hd
  simp only at hg HF
  rw [hW0] at hg
  clear hs1 hs2
  clear h hI ha hW0 hbz
  go_enter Tryz.func10, Tryz.ntmps10
  go_wp2_with (go_at_call 15; go_must (refine hg.mono ?_; rintro e w1 ⟨rfl, hd1, hw1⟩; rw [← hE0.out] at hw1))
  go_ret
  exact HF.out _ hd1 hw1
end
end Go.Proofs.YtnoknmnbfkdccaaGreatDoor

/- What is done in the law's world: Get of what was told. -/
namespace Go.Proofs.YtnoknmnbfkdccaaGreatDoor
open Go.RowKit Go.Shelf

section
variable {B : Nat} {w : World} {x b z : Nat} {S : WS}
set_option maxRecDepth 100000 in
set_option maxHeartbeats 2000000 in
theorem wdo_told (h : WI B w x S b z) (y : LH) (bs : List Nat) (hI : IsL w y bs) (hbz : b + 1 ≤ 40 ∧ z + y.b.n + 10 ≤ 21000) (hd : y.d = 7) :
    Calls Tryz.prog 10 #[.pointer (some ⟨x, 0, none⟩), actv y] w (DoR B w x b z y) := by
  obtain ⟨W0, hW0⟩ : ∃ W0, W0 = w.alloc (acto y) := ⟨_, rfl⟩
  obtain ⟨z0, B0, ha⟩ := act_w0 hW0
  have HA : Hid (∀ W, Below W0.heap.size W0 W → W.heap[w.heap.size]? = some (.cells #[.int .i64 y.d, .int .i64 y.n, .slice y.b.a y.b.n y.b.c, .int .i64 y.q.1, .int .i64 y.q.2.1, .int .i64 y.q.2.2.1, .int .u32 (y.q.2.2.2 : Nat)] 44 (0, 0))) := ha
  have HR : Hid (∀ W, Below w.heap.size w W → DoR B w x b z y (.returned (.bool true)) W) := (fun W hW => DoR.same h hbz hW : ∀ W, Below w.heap.size w W → _)
  have HW : Hid (WI B w x S b z) := h
  have HI : Hid (IsL w y bs) := hI
  have hblk : Hid (∀ W, Below w.heap.size w W → W.heap[x]? = some (.cells #[.pointer (some ⟨S.p, 0, none⟩), .pointer (some ⟨S.m, 0, none⟩), .slice S.sa S.n S.sc, .slice S.va S.n S.vc, .slice S.ta S.tn S.tc] 37 (0, 0))) := (fun W hW => (h.keep hW).blk : ∀ W, Below w.heap.size w W → _)
  have bW : Hid (∀ W, Below W0.heap.size W0 W → Below w.heap.size w W) := (fun W hW => B0.trans (hW.mono B0.size) : ∀ W, Below W0.heap.size W0 W → _)
  obtain ⟨k0, k1, k2, k3, k4, k5, k6⟩ := act_cells (ha W0 (Below.refl _ _))
  obtain ⟨x0, x1, x2, x3, x4, xf⟩ := world_cells (hblk.out W0 B0)
  have hE0 : Hid (W0 = w.alloc (acto y)) := hW0
  have hN := hI.n
  have ht := (h.keep B0).told
  have hf := h.fits
  have hcnt := h.cnt
  have hbb := h.bb
  have hg := fun q (hq : q ∈ S.told) => wget_any (h.keep (bd1 B0)) q (hf q hq)
  obtain ⟨p, m, a, n, c, sa, sc, va, vc, ta, tn, tc, segs, vals, told, D⟩ := S
  obtain ⟨d, yn, ⟨ba, bn, bc⟩, ⟨q0, q1, q2, q3⟩⟩ := y
  simp only [acto] at hW0 hE0 k0 k1 k2 k3 k4 k5 k6 x0 x1 x2 x3 x4 hd HA hblk ⊢
  simp only [actv]
  rw [hW0] at k0 k1 k2 k3 k4 k5 k6 x0 x1 x2 x3 x4
  subst hd
  simp only at hg hN ht hf hcnt hbb
  clear hf
  have g1 : Hid (w.heap.size < W0.heap.size) := (by omega : w.heap.size < W0.heap.size)
  rw [← hW0] at k1 x4
  clear h hI ha hW0 hbz
  go_enter Tryz.func10, Tryz.ntmps10
  go_wp2
  rw [← hE0.out]
  clear k0 k2 k3 k4 k5 k6 x0 x1 x2 x3 xf z0
  by_cases hneg : yn < 0
  · have d1 : decide (yn < 0) = true := decide_eq_true hneg
    clear hg hN ht hcnt hbb
    go_quiet (fail)
    go_wp2_with fail
    go_ret
    exact HR.out _ (bW.out _ (below_drewN _ _ _))
  · have d1 : decide (yn < 0) = false := decide_eq_false hneg
    by_cases hge : (tn : Int) ≤ yn
    · have d2 : decide ((tn : Int) ≤ yn) = true := decide_eq_true hge
      clear hg hN ht hcnt hbb
      go_quiet (fail)
      go_wp2_with fail
      go_ret
      exact HR.out _ (bW.out _ (below_drewN _ _ _))
    · obtain ⟨k, rfl⟩ : ∃ k : Nat, yn = k := ⟨yn.toNat, by omega⟩
      have hlt : k < tn := by omega
      obtain ⟨g, rfl⟩ := town_blk ht (by omega)
      have hrow := trow_of_owns (l := told) (d := Po.zero) pvE ht (by omega) (by omega)
      obtain ⟨b', o', e', hcells⟩ := hrow.at (by omega)
      simp only [Option.some.injEq, Addr.mk.injEq, and_true] at e'
      obtain ⟨rfl, rfl⟩ := e'
      have hck := hcells k hlt
      rw [Nat.zero_add] at hck
      have hq := hg (told.getD k Po.zero) (Vl.getD_mem' _ (by have := hrow.1; omega))
      generalize told.getD k Po.zero = Q at hck hq
      obtain ⟨P0, P1, P2, P3⟩ := Q
      have v0 : W0.cell? ⟨g, k * 4, none⟩ = some (.int .i64 P0) := hck 0 _ rfl
      have v1 : W0.cell? ⟨g, k * 4 + 1, none⟩ = some (.int .i64 P1) := hck 1 _ rfl
      have v2 : W0.cell? ⟨g, k * 4 + 2, none⟩ = some (.int .i64 P2) := hck 2 _ rfl
      have v3 : W0.cell? ⟨g, k * 4 + 3, none⟩ = some (.int .u32 (P3 : Nat)) := hck 3 _ rfl
      have d2 : decide ((tn : Int) ≤ (k : Int)) = false := decide_eq_false hge
      have d3 : decide (tn ≤ k) = false := decide_eq_false (by omega)
      have d4 : ¬ (tn ≤ k) := by omega
      have d5 : (0 : Int) ≤ (k : Int) := by omega
      have d6 : (k : Int) < (tn : Int) := by omega
      simp only [pv] at hq
      clear hcells hrow hck hg ht hN hcnt hbb hneg hge
      go_region_held3 (fun W => W.cell? ⟨x, 4, none⟩ = some (.slice (some ⟨g, 0, none⟩) tn tc) ∧ W.cell? ⟨w.heap.size, 1, none⟩ = some (.int .i64 (k : Int)) ∧ W.cell? ⟨g, k * 4, none⟩ = some (.int .i64 P0) ∧ W.cell? ⟨g, k * 4 + 1, none⟩ = some (.int .i64 P1) ∧ W.cell? ⟨g, k * 4 + 2, none⟩ = some (.int .i64 P2) ∧ W.cell? ⟨g, k * 4 + 3, none⟩ = some (.int .u32 (P3 : Nat))) (first | go_keep | (refine ⟨?_, ?_, ?_, ?_, ?_, ?_⟩ <;> assumption))
        (first
          | (go_at_call 29; (with_reducible refine vworld W0.drew ?_); refine hq.mono ?_; rintro e w1 ⟨rfl, hb1'⟩; have hb1 : Below W0.heap.size W0 w1 := below_of_drew hb1'; have r0 := (hb1.cell (p := ⟨x, 4, none⟩) (cell_lt x4)).trans x4; have r1 := (hb1.cell (p := ⟨w.heap.size, 1, none⟩) (cell_lt k1)).trans k1; have r2 := (hb1.cell (p := ⟨g, k * 4, none⟩) (cell_lt v0)).trans v0; have r3 := (hb1.cell (p := ⟨g, k * 4 + 1, none⟩) (cell_lt v1)).trans v1; have r4 := (hb1.cell (p := ⟨g, k * 4 + 2, none⟩) (cell_lt v2)).trans v2; have r5 := (hb1.cell (p := ⟨g, k * 4 + 3, none⟩) (cell_lt v3)).trans v3))
      go_wp2_with fail
      go_ret
      exact HR.out _ (bW.out _ hb1)
end
end Go.Proofs.YtnoknmnbfkdccaaGreatDoor
