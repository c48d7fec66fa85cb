/- What the program's with does: a tree with one item more. -/
import Derived.Test.YtpoocjffkhjeaaaTN4
namespace Go.Proofs.Ytpoocjffkhjeaaa
open Go.RowKit

theorem put_length (l : List It.I) (x : It.I) : (It.put l x).length ≤ l.length + 1 := It.putGo_len x false l

set_option maxRecDepth 100000 in
set_option maxHeartbeats 1000000 in
theorem with_nil {N : Nat → Prop} (g : IH) (x : It.I) (w : World) (hx : ItIn N w g x) :
    Calls Try.prog 39 #[.pointer none, iv g] w (TreeRes N w [x]) := by
  have hb0 : Below w.heap.size w (w.alloc (.cells #[.string g.key, .bool g.dead, .bool g.far, .slice g.a g.n g.c, .int .i64 g.p.1, .int .i64 g.p.2.1, .int .i64 g.p.2.2.1, .int .u32 (g.p.2.2.2 : Nat)] 40)) := below_alloc w _
  have hj := join_any (N := N) none none .e .e g x _ rfl rfl (hx.below hb0) (by simp [Tn.T.hgt]) (by simp [Tn.T.hgt])
  clear hx
  obtain ⟨gk, gd, gf, ga, gn, gc, ⟨g1, g2, g3, g4⟩⟩ := g
  simp only at hj hb0
  go_enter Try.func39, Try.ntmps39
  go_wp2_with (go_at_call 46; go_must (refine hj.mono ?_; rintro e w1 ⟨v, t, rfl, hR⟩))
  go_ret
  exact TreeRes.from ⟨v, t, rfl, hR⟩ hb0 rfl

set_option maxRecDepth 100000 in
set_option maxHeartbeats 4000000 in
theorem with_node {N : Nat → Prop} (l r : Tn.T) (y : It.I) (v : Option Addr) (g : IH) (x : It.I) (w : World) (hh : Lies N w v (.n l y r)) (hx : ItIn N w g x) (hu : It.Up (l.list ++ y :: r.list)) (hlen : (l.list ++ y :: r.list).length ≤ 20000)
    (ihl : ∀ (v : Option Addr) (g : IH) (w : World), Lies N w v l → ItIn N w g x → Calls Try.prog 39 #[.pointer v, iv g] w (TreeRes N w (It.put l.list x)))
    (ihr : ∀ (v : Option Addr) (g : IH) (w : World), Lies N w v r → ItIn N w g x → Calls Try.prog 39 #[.pointer v, iv g] w (TreeRes N w (It.put r.list x))) :
    Calls Try.prog 39 #[.pointer v, iv g] w (TreeRes N w (It.put (l.list ++ y :: r.list) x)) := by
  have hm : Try.prog.follows .mixedOrders = true := by kernel_rfl
  obtain ⟨b, hy, vl, vr, rfl, hNb, hcb, hiy, hl, hr⟩ := hh
  obtain ⟨W, hW⟩ : ∃ W, W = w.alloc (.cells #[.string g.key, .bool g.dead, .bool g.far, .slice g.a g.n g.c, .int .i64 g.p.1, .int .i64 g.p.2.1, .int .i64 g.p.2.2.1, .int .u32 (g.p.2.2.2 : Nat)] 40) := ⟨_, rfl⟩
  have hb0 : Below w.heap.size w W := hW ▸ below_alloc w _
  have hg : ICells W w.heap.size 0 g := by
    subst hW
    exact ⟨cell_new w _ _ 0, cell_new w _ _ 1, cell_new w _ _ 2, cell_new w _ _ 3, cell_new w _ _ 4, cell_new w _ _ 5, cell_new w _ _ 6, cell_new w _ _ 7⟩
  have HW : Hid (W = w.alloc (.cells #[.string g.key, .bool g.dead, .bool g.far, .slice g.a g.n g.c, .int .i64 g.p.1, .int .i64 g.p.2.1, .int .i64 g.p.2.2.1, .int .u32 (g.p.2.2.2 : Nat)] 40)) := hW
  clear hW
  have hcb := hcb.same (hb0.block b hcb.lt)
  have hiy := hiy.below hb0
  have hl := hl.below hb0
  have hr := hr.below hb0
  have hx := hx.below hb0
  rw [List.length_append, List.length_cons] at hlen
  have p1 := put_length l.list x
  have p2 := put_length r.list x
  have zl := Tn.hgt_le l
  have zr := Tn.hgt_le r
  have q1 : Op.bytesLess g.key.toList hy.key.toList = Na.lt x.1 y.1 := by rw [less_kb, hx.item.key, hiy.item.key]
  have q2 : Op.bytesLess hy.key.toList g.key.toList = Na.lt y.1 x.1 := by rw [less_kb, hx.item.key, hiy.item.key]
  have q3 : (g.key.toList == hy.key.toList) = decide (x.1 = y.1) := str_eq _ (by rw [decide_eq_true_eq, hx.item.key, hiy.item.key])
  have C0 : Hid (∀ V, Below W.heap.size W V → NCells V b hy vl vr (Tn.T.hgt (.n l y r))) := (fun V h => hcb.same (h.block b hcb.lt) : ∀ V, Below W.heap.size W V → NCells V b hy vl vr (Tn.T.hgt (.n l y r)))
  have C2 : Hid (∀ V, Below W.heap.size W V → ICells V w.heap.size 0 g) := (fun V h => hg.below h (Nat.le_refl _) : ∀ V, Below W.heap.size W V → ICells V w.heap.size 0 g)
  have J0 := fun V (h : Below W.heap.size W V) => join_any vl vr l r g x V (hl.below h) (hr.below h) (hx.below h) (by omega) (by omega)
  have JL := fun V (h : Below W.heap.size W V) => ihl vl g V (hl.below h) (hx.below h)
  have JR := fun V (h : Below W.heap.size W V) => ihr vr g V (hr.below h) (hx.below h)
  have BL := fun (w1 : World) (v1 : Option Addr) (t1 : Tn.T) V (h1 : Lies (grw N w1) V v1 t1) (e1 : t1.list = It.put l.list x) (h : Below W.heap.size W V) => balance_any v1 vr t1 r hy y V h1 ((hr.below h).mono (fun _ h => .inl h)) ((hiy.below h).mono (fun _ h => .inl h)) (by rw [e1]; omega)
  have BR := fun (w1 : World) (v1 : Option Addr) (t1 : Tn.T) V (h1 : Lies (grw N w1) V v1 t1) (e1 : t1.list = It.put r.list x) (h : Below W.heap.size W V) => balance_any vl v1 l t1 hy y V ((hl.below h).mono (fun _ h => .inl h)) h1 ((hiy.below h).mono (fun _ h => .inl h)) (by rw [e1]; omega)
  clear hcb hiy hl hr hx hg hlen p1 p2 zl zr ihl ihr hNb
  obtain ⟨yk, yd, yf, ya, yn, yc, ⟨y1, y2, y3, y4⟩⟩ := hy
  obtain ⟨gk, gd, gf, ga, gn, gc, ⟨g1, g2, g3, g4⟩⟩ := g
  simp only at q1 q2 q3
  have K : Hid (∀ V, Below W.heap.size W V → V.cell? ⟨b, 0, none⟩ = some (.string yk) ∧ V.cell? ⟨b, 1, none⟩ = some (.bool yd) ∧ V.cell? ⟨b, 2, none⟩ = some (.bool yf) ∧ V.cell? ⟨b, 3, none⟩ = some (.slice ya yn yc) ∧ V.cell? ⟨b, 4, none⟩ = some (.int .i64 y1) ∧ V.cell? ⟨b, 5, none⟩ = some (.int .i64 y2) ∧ V.cell? ⟨b, 6, none⟩ = some (.int .i64 y3) ∧ V.cell? ⟨b, 7, none⟩ = some (.int .u32 (y4 : Nat)) ∧ V.cell? ⟨b, 8, none⟩ = some (.pointer vl) ∧ V.cell? ⟨b, 9, none⟩ = some (.pointer vr) ∧ V.cell? ⟨w.heap.size, 0, none⟩ = some (.string gk) ∧ V.cell? ⟨w.heap.size, 1, none⟩ = some (.bool gd) ∧ V.cell? ⟨w.heap.size, 2, none⟩ = some (.bool gf) ∧ V.cell? ⟨w.heap.size, 3, none⟩ = some (.slice ga gn gc) ∧ V.cell? ⟨w.heap.size, 4, none⟩ = some (.int .i64 g1) ∧ V.cell? ⟨w.heap.size, 5, none⟩ = some (.int .i64 g2) ∧ V.cell? ⟨w.heap.size, 6, none⟩ = some (.int .i64 g3) ∧ V.cell? ⟨w.heap.size, 7, none⟩ = some (.int .u32 (g4 : Nat))) := (fun V h => by
    obtain ⟨⟨a0, a1, a2, a3, a4, a5, a6, a7⟩, a8, a9, _⟩ := C0.out V h
    obtain ⟨e0, e1, e2, e3, e4, e5, e6, e7⟩ := C2.out V h
    simp only [Nat.zero_add] at a0 a1 a2 a3 a4 a5 a6 a7 e0 e1 e2 e3 e4 e5 e6 e7
    exact ⟨a0, a1, a2, a3, a4, a5, a6, a7, a8, a9, e0, e1, e2, e3, e4, e5, e6, e7⟩ : ∀ V, Below W.heap.size W V → V.cell? ⟨b, 0, none⟩ = some (.string yk) ∧ V.cell? ⟨b, 1, none⟩ = some (.bool yd) ∧ V.cell? ⟨b, 2, none⟩ = some (.bool yf) ∧ V.cell? ⟨b, 3, none⟩ = some (.slice ya yn yc) ∧ V.cell? ⟨b, 4, none⟩ = some (.int .i64 y1) ∧ V.cell? ⟨b, 5, none⟩ = some (.int .i64 y2) ∧ V.cell? ⟨b, 6, none⟩ = some (.int .i64 y3) ∧ V.cell? ⟨b, 7, none⟩ = some (.int .u32 (y4 : Nat)) ∧ V.cell? ⟨b, 8, none⟩ = some (.pointer vl) ∧ V.cell? ⟨b, 9, none⟩ = some (.pointer vr) ∧ V.cell? ⟨w.heap.size, 0, none⟩ = some (.string gk) ∧ V.cell? ⟨w.heap.size, 1, none⟩ = some (.bool gd) ∧ V.cell? ⟨w.heap.size, 2, none⟩ = some (.bool gf) ∧ V.cell? ⟨w.heap.size, 3, none⟩ = some (.slice ga gn gc) ∧ V.cell? ⟨w.heap.size, 4, none⟩ = some (.int .i64 g1) ∧ V.cell? ⟨w.heap.size, 5, none⟩ = some (.int .i64 g2) ∧ V.cell? ⟨w.heap.size, 6, none⟩ = some (.int .i64 g3) ∧ V.cell? ⟨w.heap.size, 7, none⟩ = some (.int .u32 (g4 : Nat)))
  clear C0 C2
  obtain ⟨k0, k1, k2, k3, k4, k5, k6, k7, k8, k9, k10, k11, k12, k13, k14, k15, k16, k17⟩ := K.out W (Below.refl _ _)
  cases c1 : Na.lt x.1 y.1 with
  | true =>
    rw [c1] at q1
    have HP : Hid (It.put (l.list ++ y :: r.list) x = It.put l.list x ++ y :: r.list) := Tn.put_lt hu c1
    have j1 := JL
    have j2 := BL
    clear c1 hu q2 q3 J0 JL JR BL BR
    have hW := HW.out
    clear HW
    subst hW
    go_enter Try.func39, Try.ntmps39
    go_wp2_with fail
    generalize w.alloc (.cells #[.string gk, .bool gd, .bool gf, .slice ga gn gc, .int .i64 g1, .int .i64 g2, .int .i64 g3, .int .u32 (g4 : Nat)] 40) = W at *
    refine wp_region_still_lit hm (by kernel_rfl) ?_
    repeat still_step
    refine wpStill_nil ?_
    go_wp2_with fail
    change Code.wp Try.prog _ _ _ W.drew
    have hV : Below W.heap.size W W.drew := (Below.refl _ _).drew
    clear k0 k1 k2 k3 k4 k5 k6 k7 k8 k9 k10 k11 k12 k13 k14 k15 k16 k17
    generalize W.drew = V at *
    obtain ⟨k0, k1, k2, k3, k4, k5, k6, k7, k8, k9, k10, k11, k12, k13, k14, k15, k16, k17⟩ := K.out V hV
    go_region_held3 (fun w' => w'.cell? ⟨b, 0, none⟩ = some (.string yk) ∧ w'.cell? ⟨b, 1, none⟩ = some (.bool yd) ∧ w'.cell? ⟨b, 2, none⟩ = some (.bool yf) ∧ w'.cell? ⟨b, 3, none⟩ = some (.slice ya yn yc) ∧ w'.cell? ⟨b, 4, none⟩ = some (.int .i64 y1) ∧ w'.cell? ⟨b, 5, none⟩ = some (.int .i64 y2) ∧ w'.cell? ⟨b, 6, none⟩ = some (.int .i64 y3) ∧ w'.cell? ⟨b, 7, none⟩ = some (.int .u32 (y4 : Nat)) ∧ w'.cell? ⟨b, 8, none⟩ = some (.pointer vl) ∧ w'.cell? ⟨b, 9, none⟩ = some (.pointer vr) ∧ w'.cell? ⟨w.heap.size, 0, none⟩ = some (.string gk) ∧ w'.cell? ⟨w.heap.size, 1, none⟩ = some (.bool gd) ∧ w'.cell? ⟨w.heap.size, 2, none⟩ = some (.bool gf) ∧ w'.cell? ⟨w.heap.size, 3, none⟩ = some (.slice ga gn gc) ∧ w'.cell? ⟨w.heap.size, 4, none⟩ = some (.int .i64 g1) ∧ w'.cell? ⟨w.heap.size, 5, none⟩ = some (.int .i64 g2) ∧ w'.cell? ⟨w.heap.size, 6, none⟩ = some (.int .i64 g3) ∧ w'.cell? ⟨w.heap.size, 7, none⟩ = some (.int .u32 (g4 : Nat))) (first | go_keep | (refine ⟨?_, ?_, ?_, ?_, ?_, ?_, ?_, ?_, ?_, ?_, ?_, ?_, ?_, ?_, ?_, ?_, ?_, ?_⟩ <;> assumption))
      (first
        | (go_at_call 47; go_must (refine (j2 _ _ _ _ hL1 hl1 c1).mono ?_; rintro e w2 ⟨v2, t2, rfl, hL2, hl2, hb2⟩; have c2 := c1.trans (hb2.mono c1.size); obtain ⟨s0, s1, s2, s3, s4, s5, s6, s7, s8, s9, s10, s11, s12, s13, s14, s15, s16, s17⟩ := K.out w2 c2))
        | (go_at_call 39; go_must (refine (j1 _ hV.drew).mono ?_; rintro e w1 ⟨v1, t1, rfl, hL1, hl1, hb1⟩; have c1 : Below W.heap.size W w1 := hV.drew.trans (hb1.mono hV.drew.size); obtain ⟨u0, u1, u2, u3, u4, u5, u6, u7, u8, u9, u10, u11, u12, u13, u14, u15, u16, u17⟩ := K.out w1 c1)))
    all_goals
      go_wp2
      go_ret
      refine ⟨v2, t2, rfl, hL2.mono (fun k hk => ?_), by rw [hl2, hl1]; exact HP.out.symm, hb0.trans (c2.mono hb0.size)⟩
      rcases hk with (hk | hk) | hk
      · exact .inl hk
      · exact .inr (Nat.le_trans hb0.size (Nat.le_trans hV.drew.size hk))
      · exact .inr (Nat.le_trans hb0.size (Nat.le_trans c1.size hk))
  | false =>
    rw [c1] at q1
    cases c2 : Na.lt y.1 x.1 with
    | true =>
    rw [c2] at q2
    have HP : Hid (It.put (l.list ++ y :: r.list) x = l.list ++ y :: It.put r.list x) := Tn.put_gt hu c2
    rw [decide_eq_false (fun e => by rw [e, It.lt_irrefl] at c2; cases c2)] at q3
    have j1 := JR
    have j2 := BR
    clear c1 c2 hu J0 JL JR BL BR
    have hW := HW.out
    clear HW
    subst hW
    go_enter Try.func39, Try.ntmps39
    go_wp2_with fail
    generalize w.alloc (.cells #[.string gk, .bool gd, .bool gf, .slice ga gn gc, .int .i64 g1, .int .i64 g2, .int .i64 g3, .int .u32 (g4 : Nat)] 40) = W at *
    refine wp_region_still_lit hm (by kernel_rfl) ?_
    repeat still_step
    refine wpStill_nil ?_
    go_wp2_with fail
    change Code.wp Try.prog _ _ _ W.drew
    have hV : Below W.heap.size W W.drew := (Below.refl _ _).drew
    clear k0 k1 k2 k3 k4 k5 k6 k7 k8 k9 k10 k11 k12 k13 k14 k15 k16 k17
    generalize W.drew = V at *
    obtain ⟨k0, k1, k2, k3, k4, k5, k6, k7, k8, k9, k10, k11, k12, k13, k14, k15, k16, k17⟩ := K.out V hV
    refine wp_region_still_lit hm (by kernel_rfl) ?_
    repeat still_step
    refine wpStill_nil ?_
    go_wp2_with fail
    change Code.wp Try.prog _ _ _ V.drew
    have hU : Below W.heap.size W V.drew := hV.drew
    clear k0 k1 k2 k3 k4 k5 k6 k7 k8 k9 k10 k11 k12 k13 k14 k15 k16 k17
    generalize V.drew = U at *
    obtain ⟨k0, k1, k2, k3, k4, k5, k6, k7, k8, k9, k10, k11, k12, k13, k14, k15, k16, k17⟩ := K.out U hU
    go_region_held3 (fun w' => w'.cell? ⟨b, 0, none⟩ = some (.string yk) ∧ w'.cell? ⟨b, 1, none⟩ = some (.bool yd) ∧ w'.cell? ⟨b, 2, none⟩ = some (.bool yf) ∧ w'.cell? ⟨b, 3, none⟩ = some (.slice ya yn yc) ∧ w'.cell? ⟨b, 4, none⟩ = some (.int .i64 y1) ∧ w'.cell? ⟨b, 5, none⟩ = some (.int .i64 y2) ∧ w'.cell? ⟨b, 6, none⟩ = some (.int .i64 y3) ∧ w'.cell? ⟨b, 7, none⟩ = some (.int .u32 (y4 : Nat)) ∧ w'.cell? ⟨b, 8, none⟩ = some (.pointer vl) ∧ w'.cell? ⟨b, 9, none⟩ = some (.pointer vr) ∧ w'.cell? ⟨w.heap.size, 0, none⟩ = some (.string gk) ∧ w'.cell? ⟨w.heap.size, 1, none⟩ = some (.bool gd) ∧ w'.cell? ⟨w.heap.size, 2, none⟩ = some (.bool gf) ∧ w'.cell? ⟨w.heap.size, 3, none⟩ = some (.slice ga gn gc) ∧ w'.cell? ⟨w.heap.size, 4, none⟩ = some (.int .i64 g1) ∧ w'.cell? ⟨w.heap.size, 5, none⟩ = some (.int .i64 g2) ∧ w'.cell? ⟨w.heap.size, 6, none⟩ = some (.int .i64 g3) ∧ w'.cell? ⟨w.heap.size, 7, none⟩ = some (.int .u32 (g4 : Nat))) (first | go_keep | (refine ⟨?_, ?_, ?_, ?_, ?_, ?_, ?_, ?_, ?_, ?_, ?_, ?_, ?_, ?_, ?_, ?_, ?_, ?_⟩ <;> assumption))
      (first
        | (go_at_call 47; go_must (refine (j2 _ _ _ _ hL1 hl1 c1).mono ?_; rintro e w2 ⟨v2, t2, rfl, hL2, hl2, hb2⟩; have c2 := c1.trans (hb2.mono c1.size); obtain ⟨s0, s1, s2, s3, s4, s5, s6, s7, s8, s9, s10, s11, s12, s13, s14, s15, s16, s17⟩ := K.out w2 c2))
        | (go_at_call 39; go_must (refine (j1 _ hU.drew).mono ?_; rintro e w1 ⟨v1, t1, rfl, hL1, hl1, hb1⟩; have c1 : Below W.heap.size W w1 := hU.drew.trans (hb1.mono hU.drew.size); obtain ⟨u0, u1, u2, u3, u4, u5, u6, u7, u8, u9, u10, u11, u12, u13, u14, u15, u16, u17⟩ := K.out w1 c1)))
    all_goals
      go_wp2
      go_ret
      refine ⟨v2, t2, rfl, hL2.mono (fun k hk => ?_), by rw [hl2, hl1]; exact HP.out.symm, hb0.trans (c2.mono hb0.size)⟩
      rcases hk with (hk | hk) | hk
      · exact .inl hk
      · exact .inr (Nat.le_trans hb0.size (Nat.le_trans hU.drew.size hk))
      · exact .inr (Nat.le_trans hb0.size (Nat.le_trans c1.size hk))
    | false =>
    rw [c2] at q2
    have hk : x.1 = y.1 := by
      rcases It.lt_total x.1 y.1 with h | h | h
      · rw [c1] at h; cases h
      · exact h
      · rw [c2] at h; cases h
    have HP : Hid (It.put (l.list ++ y :: r.list) x = l.list ++ x :: r.list) := Tn.put_eq hu hk
    rw [decide_eq_true hk] at q3
    clear c1 c2 hk hu JL JR BL BR
    have hW := HW.out
    clear HW
    subst hW
    go_enter Try.func39, Try.ntmps39
    go_wp2_with fail
    generalize w.alloc (.cells #[.string gk, .bool gd, .bool gf, .slice ga gn gc, .int .i64 g1, .int .i64 g2, .int .i64 g3, .int .u32 (g4 : Nat)] 40) = W at *
    refine wp_region_still_lit hm (by kernel_rfl) ?_
    repeat still_step
    refine wpStill_nil ?_
    go_wp2_with fail
    change Code.wp Try.prog _ _ _ W.drew
    have hV : Below W.heap.size W W.drew := (Below.refl _ _).drew
    clear k0 k1 k2 k3 k4 k5 k6 k7 k8 k9 k10 k11 k12 k13 k14 k15 k16 k17
    generalize W.drew = V at *
    obtain ⟨k0, k1, k2, k3, k4, k5, k6, k7, k8, k9, k10, k11, k12, k13, k14, k15, k16, k17⟩ := K.out V hV
    refine wp_region_still_lit hm (by kernel_rfl) ?_
    repeat still_step
    refine wpStill_nil ?_
    go_wp2_with fail
    change Code.wp Try.prog _ _ _ V.drew
    have hU : Below W.heap.size W V.drew := hV.drew
    clear k0 k1 k2 k3 k4 k5 k6 k7 k8 k9 k10 k11 k12 k13 k14 k15 k16 k17
    generalize V.drew = U at *
    obtain ⟨k0, k1, k2, k3, k4, k5, k6, k7, k8, k9, k10, k11, k12, k13, k14, k15, k16, k17⟩ := K.out U hU
    go_region_held3 (fun w' => w'.cell? ⟨b, 0, none⟩ = some (.string yk) ∧ w'.cell? ⟨b, 1, none⟩ = some (.bool yd) ∧ w'.cell? ⟨b, 2, none⟩ = some (.bool yf) ∧ w'.cell? ⟨b, 3, none⟩ = some (.slice ya yn yc) ∧ w'.cell? ⟨b, 4, none⟩ = some (.int .i64 y1) ∧ w'.cell? ⟨b, 5, none⟩ = some (.int .i64 y2) ∧ w'.cell? ⟨b, 6, none⟩ = some (.int .i64 y3) ∧ w'.cell? ⟨b, 7, none⟩ = some (.int .u32 (y4 : Nat)) ∧ w'.cell? ⟨b, 8, none⟩ = some (.pointer vl) ∧ w'.cell? ⟨b, 9, none⟩ = some (.pointer vr) ∧ w'.cell? ⟨w.heap.size, 0, none⟩ = some (.string gk) ∧ w'.cell? ⟨w.heap.size, 1, none⟩ = some (.bool gd) ∧ w'.cell? ⟨w.heap.size, 2, none⟩ = some (.bool gf) ∧ w'.cell? ⟨w.heap.size, 3, none⟩ = some (.slice ga gn gc) ∧ w'.cell? ⟨w.heap.size, 4, none⟩ = some (.int .i64 g1) ∧ w'.cell? ⟨w.heap.size, 5, none⟩ = some (.int .i64 g2) ∧ w'.cell? ⟨w.heap.size, 6, none⟩ = some (.int .i64 g3) ∧ w'.cell? ⟨w.heap.size, 7, none⟩ = some (.int .u32 (g4 : Nat))) (first | go_keep | (refine ⟨?_, ?_, ?_, ?_, ?_, ?_, ?_, ?_, ?_, ?_, ?_, ?_, ?_, ?_, ?_, ?_, ?_, ?_⟩ <;> assumption))
      (first
        | (go_at_call 46; go_must (refine (J0 _ hU.drew).mono ?_; rintro e w1 ⟨v1, t1, rfl, hL1, hl1, hb1⟩; have c1 : Below W.heap.size W w1 := hU.drew.trans (hb1.mono hU.drew.size); obtain ⟨u0, u1, u2, u3, u4, u5, u6, u7, u8, u9, u10, u11, u12, u13, u14, u15, u16, u17⟩ := K.out w1 c1)))
    all_goals
      go_wp2
      go_ret
      refine ⟨v1, t1, rfl, hL1.mono (fun k hk => ?_), by rw [hl1]; exact HP.out.symm, hb0.trans (c1.mono hb0.size)⟩
      rcases hk with hk | hk
      · exact .inl hk
      · exact .inr (Nat.le_trans hb0.size (Nat.le_trans hU.drew.size hk))

/-- a tree with one item more -/
theorem with_any {N : Nat → Prop} (x : It.I) : ∀ (t : Tn.T) (v : Option Addr) (g : IH) (w : World), Lies N w v t → ItIn N w g x → It.Up t.list → t.list.length ≤ 20000 → Calls Try.prog 39 #[.pointer v, iv g] w (TreeRes N w (It.put t.list x))
  | .e, v, g, w, h, hx, _, _ => by
    obtain rfl : v = none := h
    exact with_nil g x w hx
  | .n l y r, v, g, w, h, hx, hu, hlen => by
    obtain ⟨u1, u2, _, _⟩ := Tn.up_parts hu
    have hl2 := hlen
    simp only [Tn.T.list, List.length_append, List.length_cons] at hl2
    exact with_node l r y v g x w h hx hu hlen (fun v g w h hx => with_any x l v g w h hx u1 (by omega)) (fun v g w h hx => with_any x r v g w h hx u2 (by omega))
end Go.Proofs.Ytpoocjffkhjeaaa
