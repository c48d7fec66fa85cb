/- Joining of trees. -/
import Derived.Test.YtpoocjffkhjeaaaTN1
namespace Go.Proofs.Ytpoocjffkhjeaaa
open Go.RowKit

/-- the blocks of a set, and new ones -/
def grw (N : Nat → Prop) (w : World) (k : Nat) : Prop := N k ∨ w.heap.size ≤ k
theorem grw.trans {N : Nat → Prop} {w w1 : World} (h : w.heap.size ≤ w1.heap.size) : ∀ k, grw (grw N w) w1 k → grw N w k := fun _ hk => hk.elim id (fun h1 => .inr (Nat.le_trans h h1))
theorem grw.le {N : Nat → Prop} {w w1 : World} (h : w.heap.size ≤ w1.heap.size) : ∀ k, grw N w1 k → grw N w k := fun _ hk => hk.imp id (fun h1 => Nat.le_trans h h1)
/-- a tree is told -/
def TreeRes (N : Nat → Prop) (w : World) (L : List It.I) (e : Ending) (w' : World) : Prop :=
  ∃ (v : Option Addr) (t : Tn.T), e = .returned (.pointer v) ∧ Lies (grw N w) w' v t ∧ t.list = L ∧ Below w.heap.size w w'
theorem node_new (w : World) (h : IH) (vl vr : Option Addr) (z : Nat) {g : Nat} (hg : w.heap.size = g) : NCells (w.alloc (.cells #[.string h.key, .bool h.dead, .bool h.far, .slice h.a h.n h.c, .int .i64 h.p.1, .int .i64 h.p.2.1, .int .i64 h.p.2.2.1, .int .u32 (h.p.2.2.2 : Nat), .pointer vl, .pointer vr, .int .i64 (z : Nat)] 63)) g h vl vr z := by
  subst hg
  have k : ∀ i, (w.alloc (.cells #[.string h.key, .bool h.dead, .bool h.far, .slice h.a h.n h.c, .int .i64 h.p.1, .int .i64 h.p.2.1, .int .i64 h.p.2.2.1, .int .u32 (h.p.2.2.2 : Nat), .pointer vl, .pointer vr, .int .i64 (z : Nat)] 63)).cell? ⟨w.heap.size, i, none⟩ = _ := fun i => cell_new w _ _ i
  exact ⟨⟨k 0, k 1, k 2, k 3, k 4, k 5, k 6, k 7⟩, k 8, k 9, k 10⟩

set_option maxRecDepth 100000 in
set_option maxHeartbeats 1000000 in
theorem join_any {N : Nat → Prop} (vl vr : Option Addr) (l r : Tn.T) (h : IH) (x : It.I) (w : World) (hl : Lies N w vl l) (hr : Lies N w vr r) (hx : ItIn N w h x) (hz1 : l.hgt ≤ 100000) (hz2 : r.hgt ≤ 100000) :
    Calls Try.prog 46 #[.pointer vl, iv h, .pointer vr] w (TreeRes N w (l.list ++ x :: r.list)) := by
  have hm : Try.prog.follows .mixedOrders = true := by kernel_rfl
  obtain ⟨W, hW⟩ : ∃ W, W = w.alloc (.cells #[.string h.key, .bool h.dead, .bool h.far, .slice h.a h.n h.c, .int .i64 h.p.1, .int .i64 h.p.2.1, .int .i64 h.p.2.2.1, .int .u32 (h.p.2.2.2 : Nat)] 40) := ⟨_, rfl⟩
  have hb0 : Below w.heap.size w W := hW ▸ below_alloc w _
  have hbd : Below w.heap.size w W.drew := hb0.drew
  obtain ⟨k0, k1, k2, k3, k4, k5, k6, k7⟩ : ICells W w.heap.size 0 h := by
    subst hW
    exact ⟨cell_new w _ _ 0, cell_new w _ _ 1, cell_new w _ _ 2, cell_new w _ _ 3, cell_new w _ _ 4, cell_new w _ _ 5, cell_new w _ _ 6, cell_new w _ _ 7⟩
  have hsz : W.heap.size = w.heap.size + 1 := by subst hW; simp
  have t1 := tall_any vl l W.drew (hl.below hbd)
  have t2 := tall_any vr r W.drew (hr.below hbd)
  obtain ⟨z1, e1⟩ : ∃ z, l.hgt = z := ⟨_, rfl⟩
  obtain ⟨z2, e2⟩ : ∃ z, r.hgt = z := ⟨_, rfl⟩
  obtain ⟨z, hz⟩ : ∃ z, z = 1 + max z1 z2 := ⟨_, rfl⟩
  have Hz : Hid (Tn.T.hgt (.n l x r) = z) := (by rw [Tn.T.hgt, e1, e2, hz] : Tn.T.hgt (.n l x r) = z)
  rw [e1] at t1 hz1
  rw [e2] at t2 hz2
  have hn := node_new W h vl vr z (g := w.heap.size + 1) hsz
  have hwr : IntKind.i64.wrap (1 + max (z1 : Int) (z2 : Int)) = (z : Int) := by rw [IntKind.wrap_i64]; omega
  clear hz e1 e2
  have hi : IsItem w h x := hx.item
  have Hx : Hid (ItIn N w h x) := hx
  clear hx
  have Hh : Hid (h.n = 0 ∨ ∃ q, h.a = some q ∧ N q.block) := Hx.out.foot
  obtain ⟨key, dead, far, qa, qn, qc, ⟨p1, p2, p3, p4⟩⟩ := h
  simp only [Nat.zero_add] at k0 k1 k2 k3 k4 k5 k6 k7 hn hW
  go_enter Try.func46, Try.ntmps46
  go_wp2_with fail
  rw [← hW]
  clear hW
  refine wp_region_still_tail 10 hm (by kernel_rfl) ?_
  simp only [List.take_succ_cons, List.take_zero, List.drop_succ_cons, List.drop_zero]
  repeat still_step
  still_call t1
  repeat still_step
  still_call t2
  repeat still_step
  refine wpStill_nil ?_
  go_wp2
  go_ret
  have hb1 : Below w.heap.size w (W.alloc (.cells #[.string key, .bool dead, .bool far, .slice qa qn qc, .int .i64 p1, .int .i64 p2, .int .i64 p3, .int .u32 (p4 : Nat), .pointer vl, .pointer vr, .int .i64 (z : Nat)] 63)).drew := (hb0.alloc hb0.size _).drew
  refine ⟨_, .n l x r, rfl, ⟨w.heap.size + 1, _, vl, vr, rfl, .inr (by omega), ?_, (Hx.out.below hb1).mono (fun _ h => .inl h), (hl.below hb1).mono (fun _ h => .inl h), (hr.below hb1).mono (fun _ h => .inl h)⟩, rfl, hb1⟩
  rw [Hz.out]
  exact hn.same rfl
end Go.Proofs.Ytpoocjffkhjeaaa
