/- What the program's lowerLeft and lowerRight do. -/
import Derived.Test.YtpoocjffkhjeaaaTN2
namespace Go.Proofs.Ytpoocjffkhjeaaa
open Go.RowKit

set_option maxRecDepth 100000 in
set_option maxHeartbeats 4000000 in
theorem lowl_any {N : Nat → Prop} (b : Nat) (vo : Option Addr) (A C O : Tn.T) (y : It.I) (g : IH) (x : It.I) (w : World) (hh : Lies N w (some ⟨b, 0, none⟩) (.n A y C)) (ho : Lies N w vo O) (hx : ItIn N w g x) (hlen : A.list.length + C.list.length + O.list.length ≤ 50000) :
    Calls Try.prog 53 #[.pointer (some ⟨b, 0, none⟩), iv g, .pointer vo] w (TreeRes N w (A.list ++ y :: (C.list ++ x :: O.list))) := by
  have hm : Try.prog.follows .mixedOrders = true := by kernel_rfl
  obtain ⟨b', hy, va, vb, eb, hNb, hcb, hiy, hA, hC⟩ := hh
  obtain rfl : b = b' := by simpa using eb
  clear eb
  obtain ⟨W, hW⟩ : ∃ W, W = w.alloc (.cells #[.string g.key, .bool g.dead, .bool g.far, .slice g.a g.n g.c, .int .i64 g.p.1, .int .i64 g.p.2.1, .int .i64 g.p.2.2.1, .int .u32 (g.p.2.2.2 : Nat)] 40) := ⟨_, rfl⟩
  have hb0 : Below w.heap.size w W := hW ▸ below_alloc w _
  have hg : ICells W w.heap.size 0 g := by
    subst hW
    exact ⟨cell_new w _ _ 0, cell_new w _ _ 1, cell_new w _ _ 2, cell_new w _ _ 3, cell_new w _ _ 4, cell_new w _ _ 5, cell_new w _ _ 6, cell_new w _ _ 7⟩
  have HW : Hid (W = w.alloc (.cells #[.string g.key, .bool g.dead, .bool g.far, .slice g.a g.n g.c, .int .i64 g.p.1, .int .i64 g.p.2.1, .int .i64 g.p.2.2.1, .int .u32 (g.p.2.2.2 : Nat)] 40)) := hW
  clear hW
  have hcb := hcb.same (hb0.block b hcb.lt)
  have hiy := hiy.below hb0
  have hA := hA.below hb0
  have hC := hC.below hb0
  have ho := ho.below hb0
  have hx := hx.below hb0
  have tC := tall_any vb C W.drew (hC.below (Below.refl _ _).drew)
  have tA := tall_any va A W.drew (hA.below (Below.refl _ _).drew)
  have lA := Tn.hgt_le A
  have lC := Tn.hgt_le C
  have lO := Tn.hgt_le O
  have HO : Hid (O.hgt ≤ O.list.length) := lO
  have HL : Hid (A.list.length + C.list.length + O.list.length ≤ 50000) := hlen
  by_cases hgt : A.hgt < C.hgt
  · cases C with
    | e => simp [Tn.T.hgt] at hgt
    | n D m E =>
    have hlen2 := HL.out
    simp only [Tn.T.list, List.length_append, List.length_cons] at hlen2
    have HL2 : Hid (A.list.length + (D.list.length + (E.list.length + 1)) + O.list.length ≤ 50000) := hlen2
    have lD := Tn.hgt_le D
    have lE := Tn.hgt_le E
    obtain ⟨d, hm0, vc, vd, rfl, hNd, hcd, him, hD, hE⟩ := hC
    obtain ⟨zc, ec⟩ : ∃ z, Tn.T.hgt (.n D m E) = z := ⟨_, rfl⟩
    obtain ⟨za, ea⟩ : ∃ z, A.hgt = z := ⟨_, rfl⟩
    rw [ec] at tC hgt
    rw [ea] at tA hgt
    have hd : decide ((za : Int) < (zc : Int)) = true := by simp; omega
    have hlt : (za : Int) < (zc : Int) := by omega
    have j1 := fun V (h : Below W.heap.size W V) => join_any va vc A D hy y V (hA.below h) (hD.below h) (hiy.below h) (by omega) (by omega)
    have j2 := fun V (h : Below W.heap.size W V) => join_any vd vo E O g x V (hE.below h) (ho.below h) (hx.below h) (by omega) (by omega)
    have j3 := fun (w1 : World) (v1 v2 : Option Addr) (t1 t2 : Tn.T) V (h1 : Lies (grw N w1) V v1 t1) (h2 : Lies (grw N w1) V v2 t2) (e1 : t1.list = A.list ++ y :: D.list) (e2 : t2.list = E.list ++ x :: O.list) (h : Below W.heap.size W V) => join_any v1 v2 t1 t2 hm0 m V h1 h2 ((him.below h).mono (fun _ h => .inl h)) (by have := Tn.hgt_le t1; rw [e1, List.length_append, List.length_cons] at this; have := HL2.out; omega) (by have := Tn.hgt_le t2; rw [e2, List.length_append, List.length_cons] at this; have := HL2.out; omega)
    have C0 : Hid (∀ V, Below W.heap.size W V → NCells V b hy va (some ⟨d, 0, none⟩) (Tn.T.hgt (.n A y (.n D m E)))) := (fun V h => hcb.same (h.block b hcb.lt) : ∀ V, Below W.heap.size W V → NCells V b hy va (some ⟨d, 0, none⟩) (Tn.T.hgt (.n A y (.n D m E))))
    have C1 : Hid (∀ V, Below W.heap.size W V → NCells V d hm0 vc vd (Tn.T.hgt (.n D m E))) := (fun V h => hcd.same (h.block d hcd.lt) : ∀ V, Below W.heap.size W V → NCells V d hm0 vc vd (Tn.T.hgt (.n D m E)))
    have C2 : Hid (∀ V, Below W.heap.size W V → ICells V w.heap.size 0 g) := (fun V h => hg.below h (Nat.le_refl _) : ∀ V, Below W.heap.size W V → ICells V w.heap.size 0 g)
    clear hcb hiy hA ho hx hg lA lC lO hlen HO HL hNb hcd him hD hE hlen2 lD lE hNd ec ea
    obtain ⟨yk, yd, yf, ya, yn, yc, ⟨y1, y2, y3, y4⟩⟩ := hy
    obtain ⟨gk, gd, gf, ga, gn, gc, ⟨g1, g2, g3, g4⟩⟩ := g
    obtain ⟨mk, md, mf, ma, mn, mc, ⟨m1, m2, m3, m4⟩⟩ := hm0
    have K : Hid (∀ V, Below W.heap.size W V → V.cell? ⟨b, 0, none⟩ = some (.string yk) ∧ V.cell? ⟨b, 1, none⟩ = some (.bool yd) ∧ V.cell? ⟨b, 2, none⟩ = some (.bool yf) ∧ V.cell? ⟨b, 3, none⟩ = some (.slice ya yn yc) ∧ V.cell? ⟨b, 4, none⟩ = some (.int .i64 y1) ∧ V.cell? ⟨b, 5, none⟩ = some (.int .i64 y2) ∧ V.cell? ⟨b, 6, none⟩ = some (.int .i64 y3) ∧ V.cell? ⟨b, 7, none⟩ = some (.int .u32 (y4 : Nat)) ∧ V.cell? ⟨b, 8, none⟩ = some (.pointer va) ∧ V.cell? ⟨b, 9, none⟩ = some (.pointer (some ⟨d, 0, none⟩)) ∧ V.cell? ⟨d, 0, none⟩ = some (.string mk) ∧ V.cell? ⟨d, 1, none⟩ = some (.bool md) ∧ V.cell? ⟨d, 2, none⟩ = some (.bool mf) ∧ V.cell? ⟨d, 3, none⟩ = some (.slice ma mn mc) ∧ V.cell? ⟨d, 4, none⟩ = some (.int .i64 m1) ∧ V.cell? ⟨d, 5, none⟩ = some (.int .i64 m2) ∧ V.cell? ⟨d, 6, none⟩ = some (.int .i64 m3) ∧ V.cell? ⟨d, 7, none⟩ = some (.int .u32 (m4 : Nat)) ∧ V.cell? ⟨d, 8, none⟩ = some (.pointer vc) ∧ V.cell? ⟨d, 9, none⟩ = some (.pointer vd) ∧ V.cell? ⟨w.heap.size, 0, none⟩ = some (.string gk) ∧ V.cell? ⟨w.heap.size, 1, none⟩ = some (.bool gd) ∧ V.cell? ⟨w.heap.size, 2, none⟩ = some (.bool gf) ∧ V.cell? ⟨w.heap.size, 3, none⟩ = some (.slice ga gn gc) ∧ V.cell? ⟨w.heap.size, 4, none⟩ = some (.int .i64 g1) ∧ V.cell? ⟨w.heap.size, 5, none⟩ = some (.int .i64 g2) ∧ V.cell? ⟨w.heap.size, 6, none⟩ = some (.int .i64 g3) ∧ V.cell? ⟨w.heap.size, 7, none⟩ = some (.int .u32 (g4 : Nat))) := (fun V h => by
      obtain ⟨⟨a0, a1, a2, a3, a4, a5, a6, a7⟩, a8, a9, _⟩ := C0.out V h
      obtain ⟨⟨c0, c1, c2, c3, c4, c5, c6, c7⟩, c8, c9, _⟩ := C1.out V h
      obtain ⟨e0, e1, e2, e3, e4, e5, e6, e7⟩ := C2.out V h
      simp only [Nat.zero_add] at a0 a1 a2 a3 a4 a5 a6 a7 e0 e1 e2 e3 e4 e5 e6 e7 c0 c1 c2 c3 c4 c5 c6 c7
      exact ⟨a0, a1, a2, a3, a4, a5, a6, a7, a8, a9, c0, c1, c2, c3, c4, c5, c6, c7, c8, c9, e0, e1, e2, e3, e4, e5, e6, e7⟩ : ∀ V, Below W.heap.size W V → V.cell? ⟨b, 0, none⟩ = some (.string yk) ∧ V.cell? ⟨b, 1, none⟩ = some (.bool yd) ∧ V.cell? ⟨b, 2, none⟩ = some (.bool yf) ∧ V.cell? ⟨b, 3, none⟩ = some (.slice ya yn yc) ∧ V.cell? ⟨b, 4, none⟩ = some (.int .i64 y1) ∧ V.cell? ⟨b, 5, none⟩ = some (.int .i64 y2) ∧ V.cell? ⟨b, 6, none⟩ = some (.int .i64 y3) ∧ V.cell? ⟨b, 7, none⟩ = some (.int .u32 (y4 : Nat)) ∧ V.cell? ⟨b, 8, none⟩ = some (.pointer va) ∧ V.cell? ⟨b, 9, none⟩ = some (.pointer (some ⟨d, 0, none⟩)) ∧ V.cell? ⟨d, 0, none⟩ = some (.string mk) ∧ V.cell? ⟨d, 1, none⟩ = some (.bool md) ∧ V.cell? ⟨d, 2, none⟩ = some (.bool mf) ∧ V.cell? ⟨d, 3, none⟩ = some (.slice ma mn mc) ∧ V.cell? ⟨d, 4, none⟩ = some (.int .i64 m1) ∧ V.cell? ⟨d, 5, none⟩ = some (.int .i64 m2) ∧ V.cell? ⟨d, 6, none⟩ = some (.int .i64 m3) ∧ V.cell? ⟨d, 7, none⟩ = some (.int .u32 (m4 : Nat)) ∧ V.cell? ⟨d, 8, none⟩ = some (.pointer vc) ∧ V.cell? ⟨d, 9, none⟩ = some (.pointer vd) ∧ V.cell? ⟨w.heap.size, 0, none⟩ = some (.string gk) ∧ V.cell? ⟨w.heap.size, 1, none⟩ = some (.bool gd) ∧ V.cell? ⟨w.heap.size, 2, none⟩ = some (.bool gf) ∧ V.cell? ⟨w.heap.size, 3, none⟩ = some (.slice ga gn gc) ∧ V.cell? ⟨w.heap.size, 4, none⟩ = some (.int .i64 g1) ∧ V.cell? ⟨w.heap.size, 5, none⟩ = some (.int .i64 g2) ∧ V.cell? ⟨w.heap.size, 6, none⟩ = some (.int .i64 g3) ∧ V.cell? ⟨w.heap.size, 7, none⟩ = some (.int .u32 (g4 : Nat)))
    clear C0 C1 C2
    obtain ⟨k0, k1, k2, k3, k4, k5, k6, k7, k8, k9, k10, k11, k12, k13, k14, k15, k16, k17, k18, k19, k20, k21, k22, k23, k24, k25, k26, k27⟩ := K.out W (Below.refl _ _)
    have hW := HW.out
    clear HW
    subst hW
    go_enter Try.func53, Try.ntmps53
    go_wp2_with fail
    generalize w.alloc (.cells #[.string gk, .bool gd, .bool gf, .slice ga gn gc, .int .i64 g1, .int .i64 g2, .int .i64 g3, .int .u32 (g4 : Nat)] 40) = W at *
    refine wp_region_still_lit hm (by kernel_rfl) ?_
    repeat still_step
    still_call tC
    repeat still_step
    still_call tA
    repeat still_step
    refine wpStill_nil ?_
    have hV : Below W.heap.size W W.drew := (Below.refl _ _).drew
    clear tC tA k0 k1 k2 k3 k4 k5 k6 k7 k8 k9 k10 k11 k12 k13 k14 k15 k16 k17 k18 k19 k20 k21 k22 k23 k24 k25 k26 k27
    go_wp2_with fail
    change Code.wp Try.prog _ _ _ W.drew
    generalize W.drew = V at *
    obtain ⟨k0, k1, k2, k3, k4, k5, k6, k7, k8, k9, k10, k11, k12, k13, k14, k15, k16, k17, k18, k19, k20, k21, k22, k23, k24, k25, k26, k27⟩ := K.out V hV
    go_region_held3 (fun w' => w'.cell? ⟨b, 0, none⟩ = some (.string yk) ∧ w'.cell? ⟨b, 1, none⟩ = some (.bool yd) ∧ w'.cell? ⟨b, 2, none⟩ = some (.bool yf) ∧ w'.cell? ⟨b, 3, none⟩ = some (.slice ya yn yc) ∧ w'.cell? ⟨b, 4, none⟩ = some (.int .i64 y1) ∧ w'.cell? ⟨b, 5, none⟩ = some (.int .i64 y2) ∧ w'.cell? ⟨b, 6, none⟩ = some (.int .i64 y3) ∧ w'.cell? ⟨b, 7, none⟩ = some (.int .u32 (y4 : Nat)) ∧ w'.cell? ⟨b, 8, none⟩ = some (.pointer va) ∧ w'.cell? ⟨b, 9, none⟩ = some (.pointer (some ⟨d, 0, none⟩)) ∧ w'.cell? ⟨d, 0, none⟩ = some (.string mk) ∧ w'.cell? ⟨d, 1, none⟩ = some (.bool md) ∧ w'.cell? ⟨d, 2, none⟩ = some (.bool mf) ∧ w'.cell? ⟨d, 3, none⟩ = some (.slice ma mn mc) ∧ w'.cell? ⟨d, 4, none⟩ = some (.int .i64 m1) ∧ w'.cell? ⟨d, 5, none⟩ = some (.int .i64 m2) ∧ w'.cell? ⟨d, 6, none⟩ = some (.int .i64 m3) ∧ w'.cell? ⟨d, 7, none⟩ = some (.int .u32 (m4 : Nat)) ∧ w'.cell? ⟨d, 8, none⟩ = some (.pointer vc) ∧ w'.cell? ⟨d, 9, none⟩ = some (.pointer vd) ∧ w'.cell? ⟨w.heap.size, 0, none⟩ = some (.string gk) ∧ w'.cell? ⟨w.heap.size, 1, none⟩ = some (.bool gd) ∧ w'.cell? ⟨w.heap.size, 2, none⟩ = some (.bool gf) ∧ w'.cell? ⟨w.heap.size, 3, none⟩ = some (.slice ga gn gc) ∧ w'.cell? ⟨w.heap.size, 4, none⟩ = some (.int .i64 g1) ∧ w'.cell? ⟨w.heap.size, 5, none⟩ = some (.int .i64 g2) ∧ w'.cell? ⟨w.heap.size, 6, none⟩ = some (.int .i64 g3) ∧ w'.cell? ⟨w.heap.size, 7, none⟩ = some (.int .u32 (g4 : Nat))) (first | go_keep | (refine ⟨?_, ?_, ?_, ?_, ?_, ?_, ?_, ?_, ?_, ?_, ?_, ?_, ?_, ?_, ?_, ?_, ?_, ?_, ?_, ?_, ?_, ?_, ?_, ?_, ?_, ?_, ?_, ?_⟩ <;> assumption))
      (first
        | (go_at_call 46; have := c2; go_must (refine (j3 _ _ _ _ _ _ (hL1.below hb2) (hL2.mono (grw.le hb1.size)) hl1 hl2 c2).mono ?_; rintro e w3 ⟨v3, t3, rfl, hL3, hl3, hb3⟩; have c3 := c2.trans (hb3.mono c2.size); obtain ⟨r0, r1, r2, r3, r4, r5, r6, r7, r8, r9, r10, r11, r12, r13, r14, r15, r16, r17, r18, r19, r20, r21, r22, r23, r24, r25, r26, r27⟩ := K.out w3 c3))
        | (go_at_call 46; have := c1; go_must (refine (j2 _ c1).mono ?_; rintro e w2 ⟨v2, t2, rfl, hL2, hl2, hb2⟩; have c2 := c1.trans (hb2.mono c1.size); obtain ⟨s0, s1, s2, s3, s4, s5, s6, s7, s8, s9, s10, s11, s12, s13, s14, s15, s16, s17, s18, s19, s20, s21, s22, s23, s24, s25, s26, s27⟩ := K.out w2 c2))
        | (go_at_call 46; go_must (refine (j1 _ hV.drew).mono ?_; rintro e w1 ⟨v1, t1, rfl, hL1, hl1, hb1⟩; have c1 : Below W.heap.size W w1 := hV.drew.trans (hb1.mono hV.drew.size); obtain ⟨u0, u1, u2, u3, u4, u5, u6, u7, u8, u9, u10, u11, u12, u13, u14, u15, u16, u17, u18, u19, u20, u21, u22, u23, u24, u25, u26, u27⟩ := K.out w1 c1)))
    all_goals
      go_wp2
      go_ret
      refine ⟨v3, t3, rfl, hL3.mono (fun k hk => ?_), by rw [hl3, hl1, hl2]; simp [Tn.T.list], hb0.trans (c3.mono hb0.size)⟩
      rcases hk with (hk | hk) | hk
      · exact .inl hk
      · exact .inr (Nat.le_trans hb0.size (Nat.le_trans hV.drew.size hk))
      · exact .inr (Nat.le_trans hb0.size (Nat.le_trans c2.size hk))
  · obtain ⟨zc, ec⟩ : ∃ z, C.hgt = z := ⟨_, rfl⟩
    obtain ⟨za, ea⟩ : ∃ z, A.hgt = z := ⟨_, rfl⟩
    rw [ec] at tC hgt
    rw [ea] at tA hgt
    have hd : decide ((za : Int) < (zc : Int)) = false := by simp; omega
    have hlt : ¬ ((za : Int) < (zc : Int)) := by omega
    have j1 := fun V (h : Below W.heap.size W V) => join_any vb vo C O g x V (hC.below h) (ho.below h) (hx.below h) (by omega) (by omega)
    have j2 := fun (w1 : World) (v1 : Option Addr) (t1 : Tn.T) V (h1 : Lies (grw N w1) V v1 t1) (e1 : t1.list = C.list ++ x :: O.list) (h : Below W.heap.size W V) => join_any va v1 A t1 hy y V ((hA.below h).mono (fun _ h => .inl h)) h1 ((hiy.below h).mono (fun _ h => .inl h)) (by omega) (by have := Tn.hgt_le t1; rw [e1, List.length_append, List.length_cons] at this; omega)
    have C0 : Hid (∀ V, Below W.heap.size W V → NCells V b hy va vb (Tn.T.hgt (.n A y C))) := (fun V h => hcb.same (h.block b hcb.lt) : ∀ V, Below W.heap.size W V → NCells V b hy va vb (Tn.T.hgt (.n A y C)))
    have C2 : Hid (∀ V, Below W.heap.size W V → ICells V w.heap.size 0 g) := (fun V h => hg.below h (Nat.le_refl _) : ∀ V, Below W.heap.size W V → ICells V w.heap.size 0 g)
    clear hcb hiy hA ho hx hg lA lC lO hlen HO HL hNb hC ea ec
    obtain ⟨yk, yd, yf, ya, yn, yc, ⟨y1, y2, y3, y4⟩⟩ := hy
    obtain ⟨gk, gd, gf, ga, gn, gc, ⟨g1, g2, g3, g4⟩⟩ := g
    have K : Hid (∀ V, Below W.heap.size W V → V.cell? ⟨b, 0, none⟩ = some (.string yk) ∧ V.cell? ⟨b, 1, none⟩ = some (.bool yd) ∧ V.cell? ⟨b, 2, none⟩ = some (.bool yf) ∧ V.cell? ⟨b, 3, none⟩ = some (.slice ya yn yc) ∧ V.cell? ⟨b, 4, none⟩ = some (.int .i64 y1) ∧ V.cell? ⟨b, 5, none⟩ = some (.int .i64 y2) ∧ V.cell? ⟨b, 6, none⟩ = some (.int .i64 y3) ∧ V.cell? ⟨b, 7, none⟩ = some (.int .u32 (y4 : Nat)) ∧ V.cell? ⟨b, 8, none⟩ = some (.pointer va) ∧ V.cell? ⟨b, 9, none⟩ = some (.pointer vb) ∧ V.cell? ⟨w.heap.size, 0, none⟩ = some (.string gk) ∧ V.cell? ⟨w.heap.size, 1, none⟩ = some (.bool gd) ∧ V.cell? ⟨w.heap.size, 2, none⟩ = some (.bool gf) ∧ V.cell? ⟨w.heap.size, 3, none⟩ = some (.slice ga gn gc) ∧ V.cell? ⟨w.heap.size, 4, none⟩ = some (.int .i64 g1) ∧ V.cell? ⟨w.heap.size, 5, none⟩ = some (.int .i64 g2) ∧ V.cell? ⟨w.heap.size, 6, none⟩ = some (.int .i64 g3) ∧ V.cell? ⟨w.heap.size, 7, none⟩ = some (.int .u32 (g4 : Nat))) := (fun V h => by
      obtain ⟨⟨a0, a1, a2, a3, a4, a5, a6, a7⟩, a8, a9, _⟩ := C0.out V h
      obtain ⟨e0, e1, e2, e3, e4, e5, e6, e7⟩ := C2.out V h
      simp only [Nat.zero_add] at a0 a1 a2 a3 a4 a5 a6 a7 e0 e1 e2 e3 e4 e5 e6 e7
      exact ⟨a0, a1, a2, a3, a4, a5, a6, a7, a8, a9, e0, e1, e2, e3, e4, e5, e6, e7⟩ : ∀ V, Below W.heap.size W V → V.cell? ⟨b, 0, none⟩ = some (.string yk) ∧ V.cell? ⟨b, 1, none⟩ = some (.bool yd) ∧ V.cell? ⟨b, 2, none⟩ = some (.bool yf) ∧ V.cell? ⟨b, 3, none⟩ = some (.slice ya yn yc) ∧ V.cell? ⟨b, 4, none⟩ = some (.int .i64 y1) ∧ V.cell? ⟨b, 5, none⟩ = some (.int .i64 y2) ∧ V.cell? ⟨b, 6, none⟩ = some (.int .i64 y3) ∧ V.cell? ⟨b, 7, none⟩ = some (.int .u32 (y4 : Nat)) ∧ V.cell? ⟨b, 8, none⟩ = some (.pointer va) ∧ V.cell? ⟨b, 9, none⟩ = some (.pointer vb) ∧ V.cell? ⟨w.heap.size, 0, none⟩ = some (.string gk) ∧ V.cell? ⟨w.heap.size, 1, none⟩ = some (.bool gd) ∧ V.cell? ⟨w.heap.size, 2, none⟩ = some (.bool gf) ∧ V.cell? ⟨w.heap.size, 3, none⟩ = some (.slice ga gn gc) ∧ V.cell? ⟨w.heap.size, 4, none⟩ = some (.int .i64 g1) ∧ V.cell? ⟨w.heap.size, 5, none⟩ = some (.int .i64 g2) ∧ V.cell? ⟨w.heap.size, 6, none⟩ = some (.int .i64 g3) ∧ V.cell? ⟨w.heap.size, 7, none⟩ = some (.int .u32 (g4 : Nat)))
    clear C0 C2
    obtain ⟨k0, k1, k2, k3, k4, k5, k6, k7, k8, k9, k10, k11, k12, k13, k14, k15, k16, k17⟩ := K.out W (Below.refl _ _)
    have hW := HW.out
    clear HW
    subst hW
    go_enter Try.func53, Try.ntmps53
    go_wp2_with fail
    generalize w.alloc (.cells #[.string gk, .bool gd, .bool gf, .slice ga gn gc, .int .i64 g1, .int .i64 g2, .int .i64 g3, .int .u32 (g4 : Nat)] 40) = W at *
    refine wp_region_still_lit hm (by kernel_rfl) ?_
    repeat still_step
    still_call tC
    repeat still_step
    still_call tA
    repeat still_step
    refine wpStill_nil ?_
    have hV : Below W.heap.size W W.drew := (Below.refl _ _).drew
    clear tC tA k0 k1 k2 k3 k4 k5 k6 k7 k8 k9 k10 k11 k12 k13 k14 k15 k16 k17
    go_wp2_with fail
    change Code.wp Try.prog _ _ _ W.drew
    generalize W.drew = V at *
    obtain ⟨k0, k1, k2, k3, k4, k5, k6, k7, k8, k9, k10, k11, k12, k13, k14, k15, k16, k17⟩ := K.out V hV
    go_region_held3 (fun w' => w'.cell? ⟨b, 0, none⟩ = some (.string yk) ∧ w'.cell? ⟨b, 1, none⟩ = some (.bool yd) ∧ w'.cell? ⟨b, 2, none⟩ = some (.bool yf) ∧ w'.cell? ⟨b, 3, none⟩ = some (.slice ya yn yc) ∧ w'.cell? ⟨b, 4, none⟩ = some (.int .i64 y1) ∧ w'.cell? ⟨b, 5, none⟩ = some (.int .i64 y2) ∧ w'.cell? ⟨b, 6, none⟩ = some (.int .i64 y3) ∧ w'.cell? ⟨b, 7, none⟩ = some (.int .u32 (y4 : Nat)) ∧ w'.cell? ⟨b, 8, none⟩ = some (.pointer va) ∧ w'.cell? ⟨b, 9, none⟩ = some (.pointer vb) ∧ w'.cell? ⟨w.heap.size, 0, none⟩ = some (.string gk) ∧ w'.cell? ⟨w.heap.size, 1, none⟩ = some (.bool gd) ∧ w'.cell? ⟨w.heap.size, 2, none⟩ = some (.bool gf) ∧ w'.cell? ⟨w.heap.size, 3, none⟩ = some (.slice ga gn gc) ∧ w'.cell? ⟨w.heap.size, 4, none⟩ = some (.int .i64 g1) ∧ w'.cell? ⟨w.heap.size, 5, none⟩ = some (.int .i64 g2) ∧ w'.cell? ⟨w.heap.size, 6, none⟩ = some (.int .i64 g3) ∧ w'.cell? ⟨w.heap.size, 7, none⟩ = some (.int .u32 (g4 : Nat))) (first | go_keep | (refine ⟨?_, ?_, ?_, ?_, ?_, ?_, ?_, ?_, ?_, ?_, ?_, ?_, ?_, ?_, ?_, ?_, ?_, ?_⟩ <;> assumption))
      (first
        | (go_at_call 46; have := c1; go_must (refine (j2 _ _ _ _ hL1 hl1 c1).mono ?_; rintro e w2 ⟨v2, t2, rfl, hL2, hl2, hb2⟩; have c2 := c1.trans (hb2.mono c1.size); obtain ⟨s0, s1, s2, s3, s4, s5, s6, s7, s8, s9, s10, s11, s12, s13, s14, s15, s16, s17⟩ := K.out w2 c2))
        | (go_at_call 46; go_must (refine (j1 _ hV.drew).mono ?_; rintro e w1 ⟨v1, t1, rfl, hL1, hl1, hb1⟩; have c1 : Below W.heap.size W w1 := hV.drew.trans (hb1.mono hV.drew.size); obtain ⟨u0, u1, u2, u3, u4, u5, u6, u7, u8, u9, u10, u11, u12, u13, u14, u15, u16, u17⟩ := K.out w1 c1)))
    all_goals
      go_wp2
      go_ret
      refine ⟨v2, t2, rfl, hL2.mono (fun k hk => ?_), by rw [hl2, hl1]; try simp, hb0.trans (c2.mono hb0.size)⟩
      rcases hk with (hk | hk) | hk
      · exact .inl hk
      · exact .inr (Nat.le_trans hb0.size (Nat.le_trans hV.drew.size hk))
      · exact .inr (Nat.le_trans hb0.size (Nat.le_trans c1.size hk))

set_option maxRecDepth 100000 in
set_option maxHeartbeats 4000000 in
theorem lowr_any {N : Nat → Prop} (b : Nat) (vo : Option Addr) (A C O : Tn.T) (y : It.I) (g : IH) (x : It.I) (w : World) (hh : Lies N w (some ⟨b, 0, none⟩) (.n C y A)) (ho : Lies N w vo O) (hx : ItIn N w g x) (hlen : A.list.length + C.list.length + O.list.length ≤ 50000) :
    Calls Try.prog 54 #[.pointer vo, iv g, .pointer (some ⟨b, 0, none⟩)] w (TreeRes N w (O.list ++ x :: (C.list ++ y :: A.list))) := by
  have hm : Try.prog.follows .mixedOrders = true := by kernel_rfl
  obtain ⟨b', hy, va, vb, eb, hNb, hcb, hiy, hC, hA⟩ := hh
  obtain rfl : b = b' := by simpa using eb
  clear eb
  obtain ⟨W, hW⟩ : ∃ W, W = w.alloc (.cells #[.string g.key, .bool g.dead, .bool g.far, .slice g.a g.n g.c, .int .i64 g.p.1, .int .i64 g.p.2.1, .int .i64 g.p.2.2.1, .int .u32 (g.p.2.2.2 : Nat)] 40) := ⟨_, rfl⟩
  have hb0 : Below w.heap.size w W := hW ▸ below_alloc w _
  have hg : ICells W w.heap.size 0 g := by
    subst hW
    exact ⟨cell_new w _ _ 0, cell_new w _ _ 1, cell_new w _ _ 2, cell_new w _ _ 3, cell_new w _ _ 4, cell_new w _ _ 5, cell_new w _ _ 6, cell_new w _ _ 7⟩
  have HW : Hid (W = w.alloc (.cells #[.string g.key, .bool g.dead, .bool g.far, .slice g.a g.n g.c, .int .i64 g.p.1, .int .i64 g.p.2.1, .int .i64 g.p.2.2.1, .int .u32 (g.p.2.2.2 : Nat)] 40)) := hW
  clear hW
  have hcb := hcb.same (hb0.block b hcb.lt)
  have hiy := hiy.below hb0
  have hA := hA.below hb0
  have hC := hC.below hb0
  have ho := ho.below hb0
  have hx := hx.below hb0
  have tC := tall_any va C W.drew (hC.below (Below.refl _ _).drew)
  have tA := tall_any vb A W.drew (hA.below (Below.refl _ _).drew)
  have lA := Tn.hgt_le A
  have lC := Tn.hgt_le C
  have lO := Tn.hgt_le O
  have HO : Hid (O.hgt ≤ O.list.length) := lO
  have HL : Hid (A.list.length + C.list.length + O.list.length ≤ 50000) := hlen
  by_cases hgt : A.hgt < C.hgt
  · cases C with
    | e => simp [Tn.T.hgt] at hgt
    | n D m E =>
    have hlen2 := HL.out
    simp only [Tn.T.list, List.length_append, List.length_cons] at hlen2
    have HL2 : Hid (A.list.length + (D.list.length + (E.list.length + 1)) + O.list.length ≤ 50000) := hlen2
    have lD := Tn.hgt_le D
    have lE := Tn.hgt_le E
    obtain ⟨d, hm0, vc, vd, rfl, hNd, hcd, him, hD, hE⟩ := hC
    obtain ⟨zc, ec⟩ : ∃ z, Tn.T.hgt (.n D m E) = z := ⟨_, rfl⟩
    obtain ⟨za, ea⟩ : ∃ z, A.hgt = z := ⟨_, rfl⟩
    rw [ec] at tC hgt
    rw [ea] at tA hgt
    have hd : decide ((za : Int) < (zc : Int)) = true := by simp; omega
    have hlt : (za : Int) < (zc : Int) := by omega
    have j1 := fun V (h : Below W.heap.size W V) => join_any vo vc O D g x V (ho.below h) (hD.below h) (hx.below h) (by omega) (by omega)
    have j2 := fun V (h : Below W.heap.size W V) => join_any vd vb E A hy y V (hE.below h) (hA.below h) (hiy.below h) (by omega) (by omega)
    have j3 := fun (w1 : World) (v1 v2 : Option Addr) (t1 t2 : Tn.T) V (h1 : Lies (grw N w1) V v1 t1) (h2 : Lies (grw N w1) V v2 t2) (e1 : t1.list = O.list ++ x :: D.list) (e2 : t2.list = E.list ++ y :: A.list) (h : Below W.heap.size W V) => join_any v1 v2 t1 t2 hm0 m V h1 h2 ((him.below h).mono (fun _ h => .inl h)) (by have := Tn.hgt_le t1; rw [e1, List.length_append, List.length_cons] at this; have := HL2.out; omega) (by have := Tn.hgt_le t2; rw [e2, List.length_append, List.length_cons] at this; have := HL2.out; omega)
    have C0 : Hid (∀ V, Below W.heap.size W V → NCells V b hy (some ⟨d, 0, none⟩) vb (Tn.T.hgt (.n (.n D m E) y A))) := (fun V h => hcb.same (h.block b hcb.lt) : ∀ V, Below W.heap.size W V → NCells V b hy (some ⟨d, 0, none⟩) vb (Tn.T.hgt (.n (.n D m E) y A)))
    have C1 : Hid (∀ V, Below W.heap.size W V → NCells V d hm0 vc vd (Tn.T.hgt (.n D m E))) := (fun V h => hcd.same (h.block d hcd.lt) : ∀ V, Below W.heap.size W V → NCells V d hm0 vc vd (Tn.T.hgt (.n D m E)))
    have C2 : Hid (∀ V, Below W.heap.size W V → ICells V w.heap.size 0 g) := (fun V h => hg.below h (Nat.le_refl _) : ∀ V, Below W.heap.size W V → ICells V w.heap.size 0 g)
    clear hcb hiy hA ho hx hg lA lC lO hlen HO HL hNb hcd him hD hE hlen2 lD lE hNd ec ea
    obtain ⟨yk, yd, yf, ya, yn, yc, ⟨y1, y2, y3, y4⟩⟩ := hy
    obtain ⟨gk, gd, gf, ga, gn, gc, ⟨g1, g2, g3, g4⟩⟩ := g
    obtain ⟨mk, md, mf, ma, mn, mc, ⟨m1, m2, m3, m4⟩⟩ := hm0
    have K : Hid (∀ V, Below W.heap.size W V → V.cell? ⟨b, 0, none⟩ = some (.string yk) ∧ V.cell? ⟨b, 1, none⟩ = some (.bool yd) ∧ V.cell? ⟨b, 2, none⟩ = some (.bool yf) ∧ V.cell? ⟨b, 3, none⟩ = some (.slice ya yn yc) ∧ V.cell? ⟨b, 4, none⟩ = some (.int .i64 y1) ∧ V.cell? ⟨b, 5, none⟩ = some (.int .i64 y2) ∧ V.cell? ⟨b, 6, none⟩ = some (.int .i64 y3) ∧ V.cell? ⟨b, 7, none⟩ = some (.int .u32 (y4 : Nat)) ∧ V.cell? ⟨b, 8, none⟩ = some (.pointer (some ⟨d, 0, none⟩)) ∧ V.cell? ⟨b, 9, none⟩ = some (.pointer vb) ∧ V.cell? ⟨d, 0, none⟩ = some (.string mk) ∧ V.cell? ⟨d, 1, none⟩ = some (.bool md) ∧ V.cell? ⟨d, 2, none⟩ = some (.bool mf) ∧ V.cell? ⟨d, 3, none⟩ = some (.slice ma mn mc) ∧ V.cell? ⟨d, 4, none⟩ = some (.int .i64 m1) ∧ V.cell? ⟨d, 5, none⟩ = some (.int .i64 m2) ∧ V.cell? ⟨d, 6, none⟩ = some (.int .i64 m3) ∧ V.cell? ⟨d, 7, none⟩ = some (.int .u32 (m4 : Nat)) ∧ V.cell? ⟨d, 8, none⟩ = some (.pointer vc) ∧ V.cell? ⟨d, 9, none⟩ = some (.pointer vd) ∧ V.cell? ⟨w.heap.size, 0, none⟩ = some (.string gk) ∧ V.cell? ⟨w.heap.size, 1, none⟩ = some (.bool gd) ∧ V.cell? ⟨w.heap.size, 2, none⟩ = some (.bool gf) ∧ V.cell? ⟨w.heap.size, 3, none⟩ = some (.slice ga gn gc) ∧ V.cell? ⟨w.heap.size, 4, none⟩ = some (.int .i64 g1) ∧ V.cell? ⟨w.heap.size, 5, none⟩ = some (.int .i64 g2) ∧ V.cell? ⟨w.heap.size, 6, none⟩ = some (.int .i64 g3) ∧ V.cell? ⟨w.heap.size, 7, none⟩ = some (.int .u32 (g4 : Nat))) := (fun V h => by
      obtain ⟨⟨a0, a1, a2, a3, a4, a5, a6, a7⟩, a8, a9, _⟩ := C0.out V h
      obtain ⟨⟨c0, c1, c2, c3, c4, c5, c6, c7⟩, c8, c9, _⟩ := C1.out V h
      obtain ⟨e0, e1, e2, e3, e4, e5, e6, e7⟩ := C2.out V h
      simp only [Nat.zero_add] at a0 a1 a2 a3 a4 a5 a6 a7 e0 e1 e2 e3 e4 e5 e6 e7 c0 c1 c2 c3 c4 c5 c6 c7
      exact ⟨a0, a1, a2, a3, a4, a5, a6, a7, a8, a9, c0, c1, c2, c3, c4, c5, c6, c7, c8, c9, e0, e1, e2, e3, e4, e5, e6, e7⟩ : ∀ V, Below W.heap.size W V → V.cell? ⟨b, 0, none⟩ = some (.string yk) ∧ V.cell? ⟨b, 1, none⟩ = some (.bool yd) ∧ V.cell? ⟨b, 2, none⟩ = some (.bool yf) ∧ V.cell? ⟨b, 3, none⟩ = some (.slice ya yn yc) ∧ V.cell? ⟨b, 4, none⟩ = some (.int .i64 y1) ∧ V.cell? ⟨b, 5, none⟩ = some (.int .i64 y2) ∧ V.cell? ⟨b, 6, none⟩ = some (.int .i64 y3) ∧ V.cell? ⟨b, 7, none⟩ = some (.int .u32 (y4 : Nat)) ∧ V.cell? ⟨b, 8, none⟩ = some (.pointer (some ⟨d, 0, none⟩)) ∧ V.cell? ⟨b, 9, none⟩ = some (.pointer vb) ∧ V.cell? ⟨d, 0, none⟩ = some (.string mk) ∧ V.cell? ⟨d, 1, none⟩ = some (.bool md) ∧ V.cell? ⟨d, 2, none⟩ = some (.bool mf) ∧ V.cell? ⟨d, 3, none⟩ = some (.slice ma mn mc) ∧ V.cell? ⟨d, 4, none⟩ = some (.int .i64 m1) ∧ V.cell? ⟨d, 5, none⟩ = some (.int .i64 m2) ∧ V.cell? ⟨d, 6, none⟩ = some (.int .i64 m3) ∧ V.cell? ⟨d, 7, none⟩ = some (.int .u32 (m4 : Nat)) ∧ V.cell? ⟨d, 8, none⟩ = some (.pointer vc) ∧ V.cell? ⟨d, 9, none⟩ = some (.pointer vd) ∧ V.cell? ⟨w.heap.size, 0, none⟩ = some (.string gk) ∧ V.cell? ⟨w.heap.size, 1, none⟩ = some (.bool gd) ∧ V.cell? ⟨w.heap.size, 2, none⟩ = some (.bool gf) ∧ V.cell? ⟨w.heap.size, 3, none⟩ = some (.slice ga gn gc) ∧ V.cell? ⟨w.heap.size, 4, none⟩ = some (.int .i64 g1) ∧ V.cell? ⟨w.heap.size, 5, none⟩ = some (.int .i64 g2) ∧ V.cell? ⟨w.heap.size, 6, none⟩ = some (.int .i64 g3) ∧ V.cell? ⟨w.heap.size, 7, none⟩ = some (.int .u32 (g4 : Nat)))
    clear C0 C1 C2
    obtain ⟨k0, k1, k2, k3, k4, k5, k6, k7, k8, k9, k10, k11, k12, k13, k14, k15, k16, k17, k18, k19, k20, k21, k22, k23, k24, k25, k26, k27⟩ := K.out W (Below.refl _ _)
    have hW := HW.out
    clear HW
    subst hW
    go_enter Try.func54, Try.ntmps54
    go_wp2_with fail
    generalize w.alloc (.cells #[.string gk, .bool gd, .bool gf, .slice ga gn gc, .int .i64 g1, .int .i64 g2, .int .i64 g3, .int .u32 (g4 : Nat)] 40) = W at *
    refine wp_region_still_lit hm (by kernel_rfl) ?_
    repeat still_step
    still_call tC
    repeat still_step
    still_call tA
    repeat still_step
    refine wpStill_nil ?_
    have hV : Below W.heap.size W W.drew := (Below.refl _ _).drew
    clear tC tA k0 k1 k2 k3 k4 k5 k6 k7 k8 k9 k10 k11 k12 k13 k14 k15 k16 k17 k18 k19 k20 k21 k22 k23 k24 k25 k26 k27
    go_wp2_with fail
    change Code.wp Try.prog _ _ _ W.drew
    generalize W.drew = V at *
    obtain ⟨k0, k1, k2, k3, k4, k5, k6, k7, k8, k9, k10, k11, k12, k13, k14, k15, k16, k17, k18, k19, k20, k21, k22, k23, k24, k25, k26, k27⟩ := K.out V hV
    go_region_held3 (fun w' => w'.cell? ⟨b, 0, none⟩ = some (.string yk) ∧ w'.cell? ⟨b, 1, none⟩ = some (.bool yd) ∧ w'.cell? ⟨b, 2, none⟩ = some (.bool yf) ∧ w'.cell? ⟨b, 3, none⟩ = some (.slice ya yn yc) ∧ w'.cell? ⟨b, 4, none⟩ = some (.int .i64 y1) ∧ w'.cell? ⟨b, 5, none⟩ = some (.int .i64 y2) ∧ w'.cell? ⟨b, 6, none⟩ = some (.int .i64 y3) ∧ w'.cell? ⟨b, 7, none⟩ = some (.int .u32 (y4 : Nat)) ∧ w'.cell? ⟨b, 8, none⟩ = some (.pointer (some ⟨d, 0, none⟩)) ∧ w'.cell? ⟨b, 9, none⟩ = some (.pointer vb) ∧ w'.cell? ⟨d, 0, none⟩ = some (.string mk) ∧ w'.cell? ⟨d, 1, none⟩ = some (.bool md) ∧ w'.cell? ⟨d, 2, none⟩ = some (.bool mf) ∧ w'.cell? ⟨d, 3, none⟩ = some (.slice ma mn mc) ∧ w'.cell? ⟨d, 4, none⟩ = some (.int .i64 m1) ∧ w'.cell? ⟨d, 5, none⟩ = some (.int .i64 m2) ∧ w'.cell? ⟨d, 6, none⟩ = some (.int .i64 m3) ∧ w'.cell? ⟨d, 7, none⟩ = some (.int .u32 (m4 : Nat)) ∧ w'.cell? ⟨d, 8, none⟩ = some (.pointer vc) ∧ w'.cell? ⟨d, 9, none⟩ = some (.pointer vd) ∧ w'.cell? ⟨w.heap.size, 0, none⟩ = some (.string gk) ∧ w'.cell? ⟨w.heap.size, 1, none⟩ = some (.bool gd) ∧ w'.cell? ⟨w.heap.size, 2, none⟩ = some (.bool gf) ∧ w'.cell? ⟨w.heap.size, 3, none⟩ = some (.slice ga gn gc) ∧ w'.cell? ⟨w.heap.size, 4, none⟩ = some (.int .i64 g1) ∧ w'.cell? ⟨w.heap.size, 5, none⟩ = some (.int .i64 g2) ∧ w'.cell? ⟨w.heap.size, 6, none⟩ = some (.int .i64 g3) ∧ w'.cell? ⟨w.heap.size, 7, none⟩ = some (.int .u32 (g4 : Nat))) (first | go_keep | (refine ⟨?_, ?_, ?_, ?_, ?_, ?_, ?_, ?_, ?_, ?_, ?_, ?_, ?_, ?_, ?_, ?_, ?_, ?_, ?_, ?_, ?_, ?_, ?_, ?_, ?_, ?_, ?_, ?_⟩ <;> assumption))
      (first
        | (go_at_call 46; have := c2; go_must (refine (j3 _ _ _ _ _ _ (hL1.below hb2) (hL2.mono (grw.le hb1.size)) hl1 hl2 c2).mono ?_; rintro e w3 ⟨v3, t3, rfl, hL3, hl3, hb3⟩; have c3 := c2.trans (hb3.mono c2.size); obtain ⟨r0, r1, r2, r3, r4, r5, r6, r7, r8, r9, r10, r11, r12, r13, r14, r15, r16, r17, r18, r19, r20, r21, r22, r23, r24, r25, r26, r27⟩ := K.out w3 c3))
        | (go_at_call 46; have := c1; go_must (refine (j2 _ c1).mono ?_; rintro e w2 ⟨v2, t2, rfl, hL2, hl2, hb2⟩; have c2 := c1.trans (hb2.mono c1.size); obtain ⟨s0, s1, s2, s3, s4, s5, s6, s7, s8, s9, s10, s11, s12, s13, s14, s15, s16, s17, s18, s19, s20, s21, s22, s23, s24, s25, s26, s27⟩ := K.out w2 c2))
        | (go_at_call 46; go_must (refine (j1 _ hV.drew).mono ?_; rintro e w1 ⟨v1, t1, rfl, hL1, hl1, hb1⟩; have c1 : Below W.heap.size W w1 := hV.drew.trans (hb1.mono hV.drew.size); obtain ⟨u0, u1, u2, u3, u4, u5, u6, u7, u8, u9, u10, u11, u12, u13, u14, u15, u16, u17, u18, u19, u20, u21, u22, u23, u24, u25, u26, u27⟩ := K.out w1 c1)))
    all_goals
      go_wp2
      go_ret
      refine ⟨v3, t3, rfl, hL3.mono (fun k hk => ?_), by rw [hl3, hl1, hl2]; simp [Tn.T.list], hb0.trans (c3.mono hb0.size)⟩
      rcases hk with (hk | hk) | hk
      · exact .inl hk
      · exact .inr (Nat.le_trans hb0.size (Nat.le_trans hV.drew.size hk))
      · exact .inr (Nat.le_trans hb0.size (Nat.le_trans c2.size hk))
  · obtain ⟨zc, ec⟩ : ∃ z, C.hgt = z := ⟨_, rfl⟩
    obtain ⟨za, ea⟩ : ∃ z, A.hgt = z := ⟨_, rfl⟩
    rw [ec] at tC hgt
    rw [ea] at tA hgt
    have hd : decide ((za : Int) < (zc : Int)) = false := by simp; omega
    have hlt : ¬ ((za : Int) < (zc : Int)) := by omega
    have j1 := fun V (h : Below W.heap.size W V) => join_any vo va O C g x V (ho.below h) (hC.below h) (hx.below h) (by omega) (by omega)
    have j2 := fun (w1 : World) (v1 : Option Addr) (t1 : Tn.T) V (h1 : Lies (grw N w1) V v1 t1) (e1 : t1.list = O.list ++ x :: C.list) (h : Below W.heap.size W V) => join_any v1 vb t1 A hy y V h1 ((hA.below h).mono (fun _ h => .inl h)) ((hiy.below h).mono (fun _ h => .inl h)) (by have := Tn.hgt_le t1; rw [e1, List.length_append, List.length_cons] at this; omega) (by omega)
    have C0 : Hid (∀ V, Below W.heap.size W V → NCells V b hy va vb (Tn.T.hgt (.n C y A))) := (fun V h => hcb.same (h.block b hcb.lt) : ∀ V, Below W.heap.size W V → NCells V b hy va vb (Tn.T.hgt (.n C y A)))
    have C2 : Hid (∀ V, Below W.heap.size W V → ICells V w.heap.size 0 g) := (fun V h => hg.below h (Nat.le_refl _) : ∀ V, Below W.heap.size W V → ICells V w.heap.size 0 g)
    clear hcb hiy hA ho hx hg lA lC lO hlen HO HL hNb hC ea ec
    obtain ⟨yk, yd, yf, ya, yn, yc, ⟨y1, y2, y3, y4⟩⟩ := hy
    obtain ⟨gk, gd, gf, ga, gn, gc, ⟨g1, g2, g3, g4⟩⟩ := g
    have K : Hid (∀ V, Below W.heap.size W V → V.cell? ⟨b, 0, none⟩ = some (.string yk) ∧ V.cell? ⟨b, 1, none⟩ = some (.bool yd) ∧ V.cell? ⟨b, 2, none⟩ = some (.bool yf) ∧ V.cell? ⟨b, 3, none⟩ = some (.slice ya yn yc) ∧ V.cell? ⟨b, 4, none⟩ = some (.int .i64 y1) ∧ V.cell? ⟨b, 5, none⟩ = some (.int .i64 y2) ∧ V.cell? ⟨b, 6, none⟩ = some (.int .i64 y3) ∧ V.cell? ⟨b, 7, none⟩ = some (.int .u32 (y4 : Nat)) ∧ V.cell? ⟨b, 8, none⟩ = some (.pointer va) ∧ V.cell? ⟨b, 9, none⟩ = some (.pointer vb) ∧ V.cell? ⟨w.heap.size, 0, none⟩ = some (.string gk) ∧ V.cell? ⟨w.heap.size, 1, none⟩ = some (.bool gd) ∧ V.cell? ⟨w.heap.size, 2, none⟩ = some (.bool gf) ∧ V.cell? ⟨w.heap.size, 3, none⟩ = some (.slice ga gn gc) ∧ V.cell? ⟨w.heap.size, 4, none⟩ = some (.int .i64 g1) ∧ V.cell? ⟨w.heap.size, 5, none⟩ = some (.int .i64 g2) ∧ V.cell? ⟨w.heap.size, 6, none⟩ = some (.int .i64 g3) ∧ V.cell? ⟨w.heap.size, 7, none⟩ = some (.int .u32 (g4 : Nat))) := (fun V h => by
      obtain ⟨⟨a0, a1, a2, a3, a4, a5, a6, a7⟩, a8, a9, _⟩ := C0.out V h
      obtain ⟨e0, e1, e2, e3, e4, e5, e6, e7⟩ := C2.out V h
      simp only [Nat.zero_add] at a0 a1 a2 a3 a4 a5 a6 a7 e0 e1 e2 e3 e4 e5 e6 e7
      exact ⟨a0, a1, a2, a3, a4, a5, a6, a7, a8, a9, e0, e1, e2, e3, e4, e5, e6, e7⟩ : ∀ V, Below W.heap.size W V → V.cell? ⟨b, 0, none⟩ = some (.string yk) ∧ V.cell? ⟨b, 1, none⟩ = some (.bool yd) ∧ V.cell? ⟨b, 2, none⟩ = some (.bool yf) ∧ V.cell? ⟨b, 3, none⟩ = some (.slice ya yn yc) ∧ V.cell? ⟨b, 4, none⟩ = some (.int .i64 y1) ∧ V.cell? ⟨b, 5, none⟩ = some (.int .i64 y2) ∧ V.cell? ⟨b, 6, none⟩ = some (.int .i64 y3) ∧ V.cell? ⟨b, 7, none⟩ = some (.int .u32 (y4 : Nat)) ∧ V.cell? ⟨b, 8, none⟩ = some (.pointer va) ∧ V.cell? ⟨b, 9, none⟩ = some (.pointer vb) ∧ V.cell? ⟨w.heap.size, 0, none⟩ = some (.string gk) ∧ V.cell? ⟨w.heap.size, 1, none⟩ = some (.bool gd) ∧ V.cell? ⟨w.heap.size, 2, none⟩ = some (.bool gf) ∧ V.cell? ⟨w.heap.size, 3, none⟩ = some (.slice ga gn gc) ∧ V.cell? ⟨w.heap.size, 4, none⟩ = some (.int .i64 g1) ∧ V.cell? ⟨w.heap.size, 5, none⟩ = some (.int .i64 g2) ∧ V.cell? ⟨w.heap.size, 6, none⟩ = some (.int .i64 g3) ∧ V.cell? ⟨w.heap.size, 7, none⟩ = some (.int .u32 (g4 : Nat)))
    clear C0 C2
    obtain ⟨k0, k1, k2, k3, k4, k5, k6, k7, k8, k9, k10, k11, k12, k13, k14, k15, k16, k17⟩ := K.out W (Below.refl _ _)
    have hW := HW.out
    clear HW
    subst hW
    go_enter Try.func54, Try.ntmps54
    go_wp2_with fail
    generalize w.alloc (.cells #[.string gk, .bool gd, .bool gf, .slice ga gn gc, .int .i64 g1, .int .i64 g2, .int .i64 g3, .int .u32 (g4 : Nat)] 40) = W at *
    refine wp_region_still_lit hm (by kernel_rfl) ?_
    repeat still_step
    still_call tC
    repeat still_step
    still_call tA
    repeat still_step
    refine wpStill_nil ?_
    have hV : Below W.heap.size W W.drew := (Below.refl _ _).drew
    clear tC tA k0 k1 k2 k3 k4 k5 k6 k7 k8 k9 k10 k11 k12 k13 k14 k15 k16 k17
    go_wp2_with fail
    change Code.wp Try.prog _ _ _ W.drew
    generalize W.drew = V at *
    obtain ⟨k0, k1, k2, k3, k4, k5, k6, k7, k8, k9, k10, k11, k12, k13, k14, k15, k16, k17⟩ := K.out V hV
    go_region_held3 (fun w' => w'.cell? ⟨b, 0, none⟩ = some (.string yk) ∧ w'.cell? ⟨b, 1, none⟩ = some (.bool yd) ∧ w'.cell? ⟨b, 2, none⟩ = some (.bool yf) ∧ w'.cell? ⟨b, 3, none⟩ = some (.slice ya yn yc) ∧ w'.cell? ⟨b, 4, none⟩ = some (.int .i64 y1) ∧ w'.cell? ⟨b, 5, none⟩ = some (.int .i64 y2) ∧ w'.cell? ⟨b, 6, none⟩ = some (.int .i64 y3) ∧ w'.cell? ⟨b, 7, none⟩ = some (.int .u32 (y4 : Nat)) ∧ w'.cell? ⟨b, 8, none⟩ = some (.pointer va) ∧ w'.cell? ⟨b, 9, none⟩ = some (.pointer vb) ∧ w'.cell? ⟨w.heap.size, 0, none⟩ = some (.string gk) ∧ w'.cell? ⟨w.heap.size, 1, none⟩ = some (.bool gd) ∧ w'.cell? ⟨w.heap.size, 2, none⟩ = some (.bool gf) ∧ w'.cell? ⟨w.heap.size, 3, none⟩ = some (.slice ga gn gc) ∧ w'.cell? ⟨w.heap.size, 4, none⟩ = some (.int .i64 g1) ∧ w'.cell? ⟨w.heap.size, 5, none⟩ = some (.int .i64 g2) ∧ w'.cell? ⟨w.heap.size, 6, none⟩ = some (.int .i64 g3) ∧ w'.cell? ⟨w.heap.size, 7, none⟩ = some (.int .u32 (g4 : Nat))) (first | go_keep | (refine ⟨?_, ?_, ?_, ?_, ?_, ?_, ?_, ?_, ?_, ?_, ?_, ?_, ?_, ?_, ?_, ?_, ?_, ?_⟩ <;> assumption))
      (first
        | (go_at_call 46; have := c1; go_must (refine (j2 _ _ _ _ hL1 hl1 c1).mono ?_; rintro e w2 ⟨v2, t2, rfl, hL2, hl2, hb2⟩; have c2 := c1.trans (hb2.mono c1.size); obtain ⟨s0, s1, s2, s3, s4, s5, s6, s7, s8, s9, s10, s11, s12, s13, s14, s15, s16, s17⟩ := K.out w2 c2))
        | (go_at_call 46; go_must (refine (j1 _ hV.drew).mono ?_; rintro e w1 ⟨v1, t1, rfl, hL1, hl1, hb1⟩; have c1 : Below W.heap.size W w1 := hV.drew.trans (hb1.mono hV.drew.size); obtain ⟨u0, u1, u2, u3, u4, u5, u6, u7, u8, u9, u10, u11, u12, u13, u14, u15, u16, u17⟩ := K.out w1 c1)))
    all_goals
      go_wp2
      go_ret
      refine ⟨v2, t2, rfl, hL2.mono (fun k hk => ?_), by rw [hl2, hl1]; try simp, hb0.trans (c2.mono hb0.size)⟩
      rcases hk with (hk | hk) | hk
      · exact .inl hk
      · exact .inr (Nat.le_trans hb0.size (Nat.le_trans hV.drew.size hk))
      · exact .inr (Nat.le_trans hb0.size (Nat.le_trans c1.size hk))
end Go.Proofs.Ytpoocjffkhjeaaa
