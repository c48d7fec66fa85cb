/- What is done in the law's world: Add and Drop, over what the two logs' own tell. -/
import Derived.Test.YtnoknmnbfkdccaaGreatDoorVXu
import Derived.Deep.DeepCutAuto
namespace Go.Proofs.YtnoknmnbfkdccaaGreatDoor
open Go.RowKit Go.Shelf

theorem wy_set {B x i : Nat} {w : World} {C : Array Value} {T : TypeId} {P : Nat → Prop} (hx : w.heap[x]? = some (.cells C T (0, 0))) (hB : B ≤ x) (t : T ≠ 3 ∧ T ≠ 48 ∧ T ≠ 39) (v : Value) : Wy B P w (w.setCell ⟨x, i, none⟩ v) :=
  ⟨(only_set w x i v rfl : OnlyIn (fun k => k = x) _ _).below (Nat.le_trans hB (Nat.le_of_lt (heap_lt hx))) (fun k hk => by subst hk; exact hB), fun k cs T' _ hc ht => set_other w x i v (Ne.symm (box_ne hx hc (by rcases ht with ⟨rfl, _⟩ | rfl | rfl; exact t.1; exact t.2.1; exact t.2.2)))⟩
section
variable {B m n c : Nat} {a : Option Addr} {U w' : World} {p : Nat} {segs : List Int}
theorem wx_blk (h : Wx B m (.slice a n c) U w') (hL : LgAt B U m p a n c segs) {x : Nat} {C : Array Value} {T : TypeId} (hx : U.heap[x]? = some (.cells C T (0, 0))) (h1 : T ≠ 76 ∧ T ≠ 123 ∧ T ≠ 129 ∧ T ≠ 5) (h2 : T ≠ 67) (h3 : T ≠ 3) : w'.heap[x]? = some (.cells C T (0, 0)) := by
  refine (h.block x (heap_lt hx) ?_).trans hx
  rintro (hk | rfl | hk)
  · exact dt_not hx h1.1 h1.2.1 h1.2.2.1 h1.2.2.2 hk.2
  · exact box_ne hx hL.blk h2 rfl
  · obtain ⟨cur, hc⟩ := own_blk hL.own hk
    exact box_ne hx hc h3 rfl
theorem wx_below (h : Wx B m (.slice a n c) U w') (hL : LgAt B U m p a n c segs) (hB : B ≤ U.heap.size) : Below B U w' := OnlyIn.below h hB fun k hk => by
  rcases hk with hk | rfl | hk
  · exact hk.1
  · exact hL.le
  · rcases hL.own.2 with ⟨e, _⟩ | ⟨g, cap, cur, e, hg, _⟩
    · rw [e] at hk; cases hk
    · rw [e] at hk; simp [Value.ownBlock] at hk; omega
theorem wx_own (h : Wx B m (.slice a n c) U w') (hL : LgAt B U m p a n c segs) {B' E s k : Nat} {v : Value} {xs : List Value} (ho : U.ownsRow B' E s v k xs) (h1 : E ≠ 76 ∧ E ≠ 123 ∧ E ≠ 129 ∧ E ≠ 5) (h2 : E ≠ 67) (h3 : E ≠ 3) : w'.ownsRow B' E s v k xs := by
  refine ⟨ho.1, ?_⟩
  have hb := fun g (hg : v.ownBlock = some g) => own_blk ho hg
  rcases ho.2 with hn | ⟨g, cap, cur, rfl, hg, hgg, rest⟩
  · exact .inl hn
  · refine .inr ⟨g, cap, cur, rfl, hg, ?_, rest⟩
    obtain ⟨cur', hc'⟩ := hb g rfl
    have := wx_blk h hL hc' h1 h2 h3
    rw [this, ← hc']; exact hgg
end
/-- the reference's log is another; the log's own is turned likewise -/
theorem wi_end {B : Nat} {w U w' : World} {x b z b' z' : Nat} {S : WS} {A V a2 : Option Addr} {n2 C VC c2 : Nat} {segs2 : List Int} {vals2 : List (List (List Nat))} {D2 : Dk.D} (h : WI B w x S b z) (hbz : b ≤ b' ∧ b' ≤ 40 ∧ z' ≤ 21000)
    (hx : U.heap[x]? = some (.cells #[.pointer (some ⟨S.p, 0, none⟩), .pointer (some ⟨S.m, 0, none⟩), .slice A n2 C, .slice V n2 VC, .slice S.ta S.tn S.tc] 37 (0, 0)))
    (hL : LgAt B U S.m S.p S.a S.n S.c S.segs) (hR : RL B U A n2 C V VC segs2 vals2) (ht : U.ownsRow B 42 4 (.slice S.ta S.tn S.tc) S.tn (tcells pve S.told)) (hBU : B ≤ U.heap.size)
    (hA : ∀ k o, A = some ⟨k, o, none⟩ → 0 < n2 → (Value.slice S.a S.n S.c).ownBlock ≠ some k)
    (hW : Wx B S.m (.slice S.a S.n S.c) U w') (hL2 : LgAt B w' S.m S.p a2 n2 c2 segs2) (hD2 : VD B w' S.p D2) (hac : Vl.Ac D2 segs2 vals2 b' z') (ha2 : ∀ k, (Value.slice a2 n2 c2).ownBlock = some k → (Value.slice S.a S.n S.c).ownBlock = some k ∨ U.heap.size ≤ k) :
    ∃ S', WI B w' x S' b' z' := by
  refine ⟨{ S with a := a2, n := n2, c := c2, sa := A, sc := C, va := V, vc := VC, segs := segs2, vals := vals2, D := D2 }, wx_blk hW hL hx ⟨by decide, by decide, by decide, by decide⟩ (by decide) (by decide), h.le, hL2, hD2, hR.wy (Wy.of_wx hBU hW hL.blk hL.le hL.own (Nat.le_refl _)) (fun k o e hn hk => hA k o e hn hk), wx_own hW hL ht ⟨by decide, by decide, by decide, by decide⟩ (by decide) (by decide), h.fits, fun k o e hn hk => ?_, hac, hbz.2, Nat.le_trans h.cnt hbz.1⟩
  rcases ha2 k hk with h' | h'
  · exact hA k o e hn h'
  · obtain ⟨k', o', e', hlt, _⟩ := hR.sp hn
    simp only at e
    rw [e] at e'
    simp only [Option.some.injEq, Addr.mk.injEq, and_true] at e'
    omega
/-- behind a store of the reference's log into the law's world -/
theorem box_two {B : Nat} {w wr : World} {x b z n2 C VC : Nat} {S : WS} {A V : Option Addr} {segs2 : List Int} {vals2 : List (List (List Nat))} (h : WI B wr x S b z) (hR : RL B wr A n2 C V VC segs2 vals2) (hb : Below w.heap.size w wr) (hB : B ≤ w.heap.size) :
    ((wr.setCell ⟨x, 2, none⟩ (.slice A n2 C)).setCell ⟨x, 3, none⟩ (.slice V n2 VC)).heap[x]? = some (.cells #[.pointer (some ⟨S.p, 0, none⟩), .pointer (some ⟨S.m, 0, none⟩), .slice A n2 C, .slice V n2 VC, .slice S.ta S.tn S.tc] 37 (0, 0)) ∧
    LgAt B ((wr.setCell ⟨x, 2, none⟩ (.slice A n2 C)).setCell ⟨x, 3, none⟩ (.slice V n2 VC)) S.m S.p S.a S.n S.c S.segs ∧ VD B ((wr.setCell ⟨x, 2, none⟩ (.slice A n2 C)).setCell ⟨x, 3, none⟩ (.slice V n2 VC)) S.p S.D ∧ RL B ((wr.setCell ⟨x, 2, none⟩ (.slice A n2 C)).setCell ⟨x, 3, none⟩ (.slice V n2 VC)) A n2 C V VC segs2 vals2 ∧
    ((wr.setCell ⟨x, 2, none⟩ (.slice A n2 C)).setCell ⟨x, 3, none⟩ (.slice V n2 VC)).ownsRow B 42 4 (.slice S.ta S.tn S.tc) S.tn (tcells pve S.told) ∧ Below B w ((wr.setCell ⟨x, 2, none⟩ (.slice A n2 C)).setCell ⟨x, 3, none⟩ (.slice V n2 VC)) ∧ B ≤ ((wr.setCell ⟨x, 2, none⟩ (.slice A n2 C)).setCell ⟨x, 3, none⟩ (.slice V n2 VC)).heap.size := by
  have hx := h.blk
  have hx2 := Go.Joins.block_setCell hx (.slice A n2 C) (i := 2)
  have hx3 := Go.Joins.block_setCell hx2 (.slice V n2 VC) (i := 3)
  exact ⟨hx3, lg_box (lg_box h.lg hx 2 _) hx2 3 _, vd_box (vd_box h.vd hx h.le 2 _) hx2 h.le 3 _, rl_box (rl_box hR hx h.le 2 _) hx2 h.le 3 _, own_box (own_box h.told hx (by decide) 2 _) hx2 (by decide) 3 _, below_box (below_box (hb.mono hB) h.le 2 _) h.le 3 _, by simp only [World.size_setCell]; exact Nat.le_trans hB hb.size⟩
section
variable {B : Nat} {w : World} {x b z : Nat} {S : WS}
set_option maxRecDepth 100000 in
set_option maxHeartbeats 2000000 in
theorem wdo_add4 (h : WI B w x S b z) (y : LH) (bs : List Nat) (hI : IsL w y bs) (hbz : b + 1 ≤ 40 ∧ z + y.b.n + 10 ≤ 21000) (E : Int) (n2 : Nat) (segs2 : List Int) (vals2 : List (List (List Nat)))
    (hre : ∀ W, Below w.heap.size w W → Calls Tryz.prog 31 #[.agg #[.slice S.sa S.n S.sc, .slice S.va S.n S.vc], .int .i64 y.n] W fun e w' => ∃ A C V VC, e = .returned (.tuple #[.agg #[.slice A n2 C, .slice V n2 VC], .int .i64 E]) ∧ RL B w' A n2 C V VC segs2 vals2 ∧ Below W.heap.size W w' ∧ Hid (∀ k o, A = some ⟨k, o, none⟩ → 0 < n2 → (Value.slice S.a S.n S.c).ownBlock ≠ some k))
    (hlg : ∀ W, LgAt B W S.m S.p S.a S.n S.c S.segs → VD B W S.p S.D → Calls Tryz.prog 23 #[.pointer (some ⟨S.m, 0, none⟩), .int .i64 y.n] W fun e w' => e = .returned (.int .i64 E) ∧ ∃ a2 c2 D2, LgAt B w' S.m S.p a2 n2 c2 segs2 ∧ VD B w' S.p D2 ∧ Vl.Ac D2 segs2 vals2 (b + 1) (z + y.b.n + 10) ∧ Wx B S.m (.slice S.a S.n S.c) W w' ∧ ∀ k, (Value.slice a2 n2 c2).ownBlock = some k → (Value.slice S.a S.n S.c).ownBlock = some k ∨ W.heap.size ≤ k)
    (hd : y.d = 4) :
    Calls Tryz.prog 10 #[.pointer (some ⟨x, 0, none⟩), actv y] w (DoR B w x b z y) := by
  obtain ⟨W0, hW0⟩ : ∃ W0, W0 = w.alloc (acto y) := ⟨_, rfl⟩
  obtain ⟨z0, B0, ha⟩ := act_w0 hW0
  have HA : Hid (∀ W, Below W0.heap.size W0 W → W.heap[w.heap.size]? = some (.cells #[.int .i64 y.d, .int .i64 y.n, .slice y.b.a y.b.n y.b.c, .int .i64 y.q.1, .int .i64 y.q.2.1, .int .i64 y.q.2.2.1, .int .u32 (y.q.2.2.2 : Nat)] 44 (0, 0))) := ha
  have HR : Hid (∀ W, Below w.heap.size w W → DoR B w x b z y (.returned (.bool true)) W) := (fun W hW => DoR.same h hbz hW : ∀ W, Below w.heap.size w W → _)
  have HW : Hid (WI B w x S b z) := h
  have HI : Hid (IsL w y bs) := hI
  have hblk : Hid (∀ W, Below w.heap.size w W → W.heap[x]? = some (.cells #[.pointer (some ⟨S.p, 0, none⟩), .pointer (some ⟨S.m, 0, none⟩), .slice S.sa S.n S.sc, .slice S.va S.n S.vc, .slice S.ta S.tn S.tc] 37 (0, 0))) := (fun W hW => (h.keep hW).blk : ∀ W, Below w.heap.size w W → _)
  have bW : Hid (∀ W, Below W0.heap.size W0 W → Below w.heap.size w W) := (fun W hW => B0.trans (hW.mono B0.size) : ∀ W, Below W0.heap.size W0 W → _)
  obtain ⟨k0, k1, k2, k3, k4, k5, k6⟩ := act_cells (ha W0 (Below.refl _ _))
  obtain ⟨x0, x1, x2, x3, x4, xf⟩ := world_cells (hblk.out W0 B0)
  have hE0 : Hid (W0 = w.alloc (acto y)) := hW0
  have hWB := h.B'
  obtain ⟨p, m, a, n, c, sa, sc, va, vc, ta, tn, tc, segs, vals, told, D⟩ := S
  obtain ⟨d, yn, ⟨ba, bn, bc⟩, ⟨q0, q1, q2, q3⟩⟩ := y
  simp only [acto] at hW0 hE0 k0 k1 k2 k3 k4 k5 k6 x0 x1 x2 x3 x4 hd HA hblk ⊢
  simp only [actv]
  rw [hW0] at k0 k1 k2 k3 k4 k5 k6 x0 x1 x2 x3 x4
  subst hd
  simp only at hre hlg
  have hBw : Hid (B ≤ w.heap.size) := hWB
  have HBZ : Hid (b + 1 ≤ 40 ∧ z + bn + 10 ≤ 21000) := hbz
  clear hWB
  clear h hI ha hW0 hbz
  go_enter Tryz.func10, Tryz.ntmps10
  go_upto_region 16 with fail
  rw [← hE0.out]
  rw [← hE0.out] at k0 k1 k2 k3 k4 k5 k6 x0 x1 x2 x3 x4
  clear z0
  go_cut [10, 11] (fun sb se wx => ∃ (G : Nat) (A1 : Option Addr) (C1 : Nat) (V1 : Option Addr) (VC1 : Nat), sb = .pointer (some ⟨G, 0, none⟩) ∧ se = .int .i64 E ∧ Hid (wx.heap[G]? = some (.cells #[.slice A1 n2 C1, .slice V1 n2 VC1] 34 (0, 0))) ∧ Hid (∀ k o, A1 = some ⟨k, o, none⟩ → 0 < n2 → (Value.slice a n c).ownBlock ≠ some k) ∧ Hid (RL B wx A1 n2 C1 V1 VC1 segs2 vals2) ∧ Hid (Below w.heap.size w wx) ∧ Hid (wx.heap[w.heap.size]? = some (.cells #[.int .i64 4, .int .i64 yn, .slice ba bn bc, .int .i64 q0, .int .i64 q1, .int .i64 q2, .int .u32 (q3 : Nat)] 44 (0, 0))))
  case first =>
      have nx : W0.heap.size ≠ x := Nat.ne_of_gt (cell_lt x2)
      have nw : W0.heap.size ≠ w.heap.size := Nat.ne_of_gt (cell_lt k1)
      have hbA := below_alloc W0 (.cells #[.slice none 0 0, .slice none 0 0] 34)
      obtain ⟨aa0, aa1, aa2, aa3, aa4, _⟩ := world_cells (hblk.out _ (bW.out _ hbA))
      obtain ⟨ab0, ab1, ab2, ab3, ab4, ab5, ab6⟩ := act_cells (HA.out _ hbA)
      refine wp_region_held_drew (S := (fun W => W.cell? ⟨x, 2, none⟩ = some (.slice sa n sc) ∧ W.cell? ⟨x, 3, none⟩ = some (.slice va n vc) ∧ W.cell? ⟨w.heap.size, 1, none⟩ = some (.int .i64 yn))) (by kernel_rfl) (by first | (refine ⟨?_, ?_, ?_⟩ <;> assumption) | go_keep) (fun hHeld => ?_)
      refine wpAnyH_take (i := 0) (oi := ⟨some 90, _, _, _, _, _⟩) (v := ?_) rfl (by kernel_rfl) (by kernel_rfl) (by kernel_rfl) (fun _ _ _ h => h) (Or.inl ⟨by rfl, ?_⟩) (by assumption) ?_
      rotate_left
      · intro w hSw; (try dsimp only at hSw); go_simp <;> (try with_reducible rfl)
      go_frame
      refine wpAnyH_take (i := 1) (oi := ⟨some 91, _, _, _, _, _⟩) (v := ?_) rfl (by kernel_rfl) (by kernel_rfl) (by kernel_rfl) (fun _ _ _ h => h) (Or.inl ⟨by rfl, ?_⟩) (by assumption) ?_
      rotate_left
      · intro w hSw; (try dsimp only at hSw); go_simp <;> (try with_reducible rfl)
      go_frame
      refine wpAnyH_take (i := 2) (oi := ⟨some 92, _, _, _, _, _⟩) (v := ?_) rfl (by kernel_rfl) (by kernel_rfl) (by kernel_rfl) (fun _ _ _ h => h) (Or.inl ⟨by rfl, ?_⟩) (by assumption) ?_
      rotate_left
      · intro w hSw; (try dsimp only at hSw); go_simp <;> (try with_reducible rfl)
      go_frame
      refine wpAnyH_take (i := 3) (oi := ⟨some 93, _, _, _, _, _⟩) (v := ?_) rfl (by kernel_rfl) (by kernel_rfl) (by kernel_rfl) (fun _ _ _ h => h) (Or.inl ⟨by rfl, ?_⟩) (by assumption) ?_
      rotate_left
      · intro w hSw; (try dsimp only at hSw); go_simp <;> (try with_reducible rfl)
      go_frame
      refine wpAnyH_take (i := 4) (oi := ⟨some 94, _, _, _, _, _⟩) (v := ?_) rfl (by kernel_rfl) (by kernel_rfl) (by kernel_rfl) (fun _ _ _ h => h) (Or.inl ⟨by rfl, ?_⟩) (by assumption) ?_
      rotate_left
      · intro w hSw; (try dsimp only at hSw); go_simp <;> (try with_reducible rfl)
      go_frame
      refine wpAnyH_take (i := 5) (oi := ⟨some 95, _, _, _, _, _⟩) (v := ?_) rfl (by kernel_rfl) (by kernel_rfl) (by kernel_rfl) (fun _ _ _ h => h) (Or.inl ⟨by rfl, ?_⟩) (by assumption) ?_
      rotate_left
      · intro w hSw; (try dsimp only at hSw); go_simp <;> (try with_reducible rfl)
      go_frame
      refine wpAnyH_ready (rs := [6, 10]) (by kernel_rfl) (by simp) ?_
      refine AllReadyH.cons rfl (fun K hK => ?_) (AllReadyH.cons rfl (fun K hK => ?_) AllReadyH.nil)
      · skip
        go_simp; go_at_call 31; refine (hre W0.drew (bW.out _ (bd1 (Below.refl _ W0)))).mono ?_; rintro e w1 ⟨A1, C1, V1, VC1, rfl, hR1, hb1', hA1⟩; have hb1 : Below W0.heap.size W0 w1 := below_of_drew hb1'; obtain ⟨y0, y1, y2, y3, y4, yf⟩ := world_cells (hblk.out w1 (bW.out _ hb1)); obtain ⟨m0, m1, m2, m3, m4, m5, m6⟩ := act_cells (HA.out w1 hb1)
        refine hK.out _ _ (by first | (refine ⟨?_, ?_, ?_⟩ <;> assumption) | go_keep) (fun hHeld => ?_)
        clear hK K
        try go_frame
        refine wpAnyH_take (i := 7) (oi := ⟨some 89, _, _, _, _, _⟩) (v := ?_) rfl (by kernel_rfl) (by kernel_rfl) (by kernel_rfl) (fun _ _ _ h => h) (Or.inl ⟨by rfl, ?_⟩) (by assumption) ?_
        rotate_left
        · intro w hSw; (try dsimp only at hSw); go_simp <;> (try with_reducible rfl)
        go_frame
        refine wpAnyH_take (i := 8) (oi := ⟨some 97, _, _, _, _, _⟩) (v := ?_) rfl (by kernel_rfl) (by kernel_rfl) (by kernel_rfl) (fun _ _ _ h => h) (Or.inl ⟨by rfl, ?_⟩) (by assumption) ?_
        rotate_left
        · intro w hSw; (try dsimp only at hSw); go_simp <;> (try with_reducible rfl)
        go_frame
        refine wpAnyH_take (i := 9) (oi := ⟨some 98, _, _, _, _, _⟩) (v := ?_) rfl (by kernel_rfl) (by kernel_rfl) (by kernel_rfl) (fun _ _ _ h => h) (Or.inl ⟨by rfl, ?_⟩) (by assumption) ?_
        rotate_left
        · intro w hSw; (try dsimp only at hSw); go_simp <;> (try with_reducible rfl)
        go_frame
        refine wpAnyH_ready (rs := [10]) (by kernel_rfl) (by simp) ?_
        refine AllReadyH.cons rfl (fun K hK => ?_) AllReadyH.nil
        go_simp
        refine hK.out _ _ (by first | (refine ⟨?_, ?_, ?_⟩ <;> assumption) | go_keep) (fun hHeld => ?_)
        clear hK K
        refine wpAnyH_ready (rs := [11]) (by kernel_rfl) (by simp) ?_
        refine AllReadyH.cons rfl (fun K hK => ?_) AllReadyH.nil
        go_simp
        refine hK.out _ _ (by first | (refine ⟨?_, ?_, ?_⟩ <;> assumption) | go_keep) (fun hHeld => ?_)
        clear hK K
        refine wpAnyH_take (i := 12) (oi := ⟨some 11, _, _, _, _, _⟩) (v := ?_) rfl (by kernel_rfl) (by kernel_rfl) (by kernel_rfl) (fun _ _ _ h => h) (Or.inl ⟨by rfl, ?_⟩) (by assumption) ?_
        rotate_left
        · intro w hSw; (try dsimp only at hSw); go_simp <;> (try with_reducible rfl)
        go_frame
        refine wpAnyH_done (by kernel_rfl) ?_ _
        go_wp2_with fail
        go_meet
        case rel => exact ⟨w1.heap.size, A1, C1, V1, VC1, rfl, rfl, heap_alloc_new w1 _, hA1, hR1.keep (Nat.le_trans hBw.out (bW.out _ hb1).size) (below_alloc _ _), bal (bW.out _ hb1) _, HA.out _ (bal hb1 _)⟩
      · skip
        go_simp
        refine hK.out _ _ (by first | (refine ⟨?_, ?_, ?_⟩ <;> assumption) | go_keep) (fun hHeld => ?_)
        clear hK K
        refine wpAnyH_ready (rs := [6]) (by kernel_rfl) (by simp) ?_
        refine AllReadyH.cons rfl (fun K hK => ?_) AllReadyH.nil
        go_simp; go_at_call 31; refine (hre (W0.alloc (.cells #[.slice none 0 0, .slice none 0 0] 34)).drew (bW.out _ (bd1 hbA))).mono ?_; rintro e w1 ⟨A1, C1, V1, VC1, rfl, hR1, hb1', hA1⟩; have hb1 : Below W0.heap.size W0 w1 := hbA.trans ((below_of_drew hb1').mono hbA.size); obtain ⟨y0, y1, y2, y3, y4, yf⟩ := world_cells (hblk.out w1 (bW.out _ hb1)); obtain ⟨m0, m1, m2, m3, m4, m5, m6⟩ := act_cells (HA.out w1 hb1); have hbx1 : w1.heap[W0.heap.size]? = some (.cells #[.slice none 0 0, .slice none 0 0] 34 (0, 0)) := ((below_of_drew hb1').block _ (by simp)).trans (heap_alloc_new W0 _); obtain ⟨n0, n1, nf0, nf1⟩ := log_cells hbx1
        refine hK.out _ _ (by first | (refine ⟨?_, ?_, ?_⟩ <;> assumption) | go_keep) (fun hHeld => ?_)
        clear hK K
        try go_frame
        refine wpAnyH_take (i := 7) (oi := ⟨some 89, _, _, _, _, _⟩) (v := ?_) rfl (by kernel_rfl) (by kernel_rfl) (by kernel_rfl) (fun _ _ _ h => h) (Or.inl ⟨by rfl, ?_⟩) (by assumption) ?_
        rotate_left
        · intro w hSw; (try dsimp only at hSw); go_simp <;> (try with_reducible rfl)
        go_frame
        refine wpAnyH_take (i := 8) (oi := ⟨some 97, _, _, _, _, _⟩) (v := ?_) rfl (by kernel_rfl) (by kernel_rfl) (by kernel_rfl) (fun _ _ _ h => h) (Or.inl ⟨by rfl, ?_⟩) (by assumption) ?_
        rotate_left
        · intro w hSw; (try dsimp only at hSw); go_simp <;> (try with_reducible rfl)
        go_frame
        refine wpAnyH_take (i := 9) (oi := ⟨some 98, _, _, _, _, _⟩) (v := ?_) rfl (by kernel_rfl) (by kernel_rfl) (by kernel_rfl) (fun _ _ _ h => h) (Or.inl ⟨by rfl, ?_⟩) (by assumption) ?_
        rotate_left
        · intro w hSw; (try dsimp only at hSw); go_simp <;> (try with_reducible rfl)
        go_frame
        refine wpAnyH_ready (rs := [11]) (by kernel_rfl) (by simp) ?_
        refine AllReadyH.cons rfl (fun K hK => ?_) AllReadyH.nil
        go_simp
        refine hK.out _ _ (by first | (refine ⟨?_, ?_, ?_⟩ <;> assumption) | go_keep) (fun hHeld => ?_)
        clear hK K
        refine wpAnyH_take (i := 12) (oi := ⟨some 11, _, _, _, _, _⟩) (v := ?_) rfl (by kernel_rfl) (by kernel_rfl) (by kernel_rfl) (fun _ _ _ h => h) (Or.inl ⟨by rfl, ?_⟩) (by assumption) ?_
        rotate_left
        · intro w hSw; (try dsimp only at hSw); go_simp <;> (try with_reducible rfl)
        go_frame
        refine wpAnyH_done (by kernel_rfl) ?_ _
        go_wp2_with fail
        go_meet
        case rel => exact ⟨W0.heap.size, A1, C1, V1, VC1, rfl, rfl, by rw [Go.Joins.block_setCell (Go.Joins.block_setCell hbx1 (.slice A1 n2 C1) (i := 0)) (.slice V1 n2 VC1) (i := 1)]; rfl, hA1, (hR1.wy (P := fun _ => False) (wy_set hbx1 (Nat.le_trans hBw.out B0.size) ⟨by decide, by decide, by decide⟩ _) (fun _ _ _ _ => id)).wy (P := fun _ => False) (wy_set (Go.Joins.block_setCell hbx1 (.slice A1 n2 C1) (i := 0)) (Nat.le_trans hBw.out B0.size) ⟨by decide, by decide, by decide⟩ _) (fun _ _ _ _ => id), ((bW.out _ hb1).setCell (p := ⟨W0.heap.size, 0, none⟩) B0.size _).setCell (p := ⟨W0.heap.size, 1, none⟩) B0.size _, (set_other _ _ _ _ (Ne.symm nw)).trans ((set_other _ _ _ _ (Ne.symm nw)).trans (HA.out w1 hb1))⟩
  case rest =>
    obtain ⟨G, A1, C1, V1, VC1, rfl, rfl, hG, hA1, hR1, hbx, hact⟩ := hcut
    clear k0 k1 k2 k3 k4 k5 k6 x0 x1 x2 x3 x4 xf hre
    obtain ⟨x0, x1, x2, x3, x4, xf⟩ := world_cells (hblk.out wc hbx.out)
    have xf2 := xf 2; have xf3 := xf 3
    obtain ⟨g0, g1, _, _⟩ := log_cells hG.out
    have hne : G ≠ x := Ne.symm (box_ne (hblk.out wc hbx.out) hG.out (by decide))
    have hne2 : w.heap.size ≠ x := Ne.symm (box_ne (hblk.out wc hbx.out) hact.out (by decide))
    clear xf
    go_wp2_with fail
    obtain ⟨hUx, hUL, hUD, hUR, hUt, hUb, hUB⟩ := box_two (HW.out.keep hbx.out) hR1.out hbx.out hBw.out
    have hUa := (set_other (wc.setCell ⟨x, 2, none⟩ (.slice A1 n2 C1)) x 3 (.slice V1 n2 VC1) hne2).trans ((set_other wc x 2 (.slice A1 n2 C1) hne2).trans hact.out)
    simp only at hUx hUL hUD hUt
    have HX : Hid (wc = wc) := rfl
    clear x0 x1 x2 x3 x4 xf2 xf3 g0 g1 HX
    generalize (wc.setCell ⟨x, 2, none⟩ (.slice A1 n2 C1)).setCell ⟨x, 3, none⟩ (.slice V1 n2 VC1) = U at *
    obtain ⟨x0, x1, x2, x3, x4, _⟩ := world_cells hUx
    obtain ⟨k0, k1, k2, k3, k4, k5, k6⟩ := act_cells hUa
    have hLd := hUL.keep (vd1 (w := U))
    have hxd : U.drew.heap[x]? = _ := hUx
    have had : U.drew.heap[w.heap.size]? = _ := hUa
    have hDd := hUD.keep (vd1 (w := U))
    have htd := owns_below hUt (vd1 (w := U))
    have hRd := hUR.keep hUB (vd1 (w := U))
    have hBd : B ≤ U.drew.heap.size := hUB
    have hcall := hlg U.drew hLd hDd
    clear hlg hUL hUD hUR hUt
    go_region_held3 (fun W => W.cell? ⟨x, 1, none⟩ = some (.pointer (some ⟨m, 0, none⟩)) ∧ W.cell? ⟨w.heap.size, 1, none⟩ = some (.int .i64 yn)) (first | go_keep | (refine ⟨?_, ?_⟩ <;> assumption))
      (first
        | (go_at_call 23; (with_reducible refine vworld U.drew ?_); refine hcall.mono ?_; rintro e w2 ⟨rfl, a2, c2, D2, hL2, hD2, hac2, hW2, ha2⟩; obtain ⟨v0, v1, v2, v3, v4, _⟩ := world_cells (wx_blk hW2 hLd hxd ⟨by decide, by decide, by decide, by decide⟩ (by decide) (by decide)); obtain ⟨u0, u1, u2, u3, u4, u5, u6⟩ := act_cells (wx_blk hW2 hLd had ⟨by decide, by decide, by decide, by decide⟩ (by decide) (by decide))))
    go_wp2_with fail
    go_ret
    exact ⟨by simp, hUb.trans ((vd1.mono hUB).trans (wx_below hW2 hLd hBd)), wi_end HW.out ⟨Nat.le_succ b, HBZ.out⟩ hxd hLd hRd htd hBd hA1.out hW2 hL2 hD2 hac2 ha2⟩
set_option maxRecDepth 100000 in
set_option maxHeartbeats 2000000 in
theorem wdo_drop5 (h : WI B w x S b z) (y : LH) (bs : List Nat) (hI : IsL w y bs) (hbz : b + 1 ≤ 40 ∧ z + y.b.n + 10 ≤ 21000) (E : Int) (n2 : Nat) (segs2 : List Int) (vals2 : List (List (List Nat)))
    (hre : ∀ W, Below w.heap.size w W → Calls Tryz.prog 32 #[.agg #[.slice S.sa S.n S.sc, .slice S.va S.n S.vc], .int .i64 y.n] W fun e w' => ∃ A C V VC, e = .returned (.tuple #[.agg #[.slice A n2 C, .slice V n2 VC], .int .i64 E]) ∧ RL B w' A n2 C V VC segs2 vals2 ∧ Below W.heap.size W w' ∧ Hid (∀ k o, A = some ⟨k, o, none⟩ → 0 < n2 → (Value.slice S.a S.n S.c).ownBlock ≠ some k))
    (hlg : ∀ W, LgAt B W S.m S.p S.a S.n S.c S.segs → VD B W S.p S.D → Calls Tryz.prog 24 #[.pointer (some ⟨S.m, 0, none⟩), .int .i64 y.n] W fun e w' => e = .returned (.int .i64 E) ∧ ∃ a2 c2 D2, LgAt B w' S.m S.p a2 n2 c2 segs2 ∧ VD B w' S.p D2 ∧ Vl.Ac D2 segs2 vals2 (b + 1) (z + y.b.n + 10) ∧ Wx B S.m (.slice S.a S.n S.c) W w' ∧ ∀ k, (Value.slice a2 n2 c2).ownBlock = some k → (Value.slice S.a S.n S.c).ownBlock = some k ∨ W.heap.size ≤ k)
    (hd : y.d = 5) :
    Calls Tryz.prog 10 #[.pointer (some ⟨x, 0, none⟩), actv y] w (DoR B w x b z y) := by
  obtain ⟨W0, hW0⟩ : ∃ W0, W0 = w.alloc (acto y) := ⟨_, rfl⟩
  obtain ⟨z0, B0, ha⟩ := act_w0 hW0
  have HA : Hid (∀ W, Below W0.heap.size W0 W → W.heap[w.heap.size]? = some (.cells #[.int .i64 y.d, .int .i64 y.n, .slice y.b.a y.b.n y.b.c, .int .i64 y.q.1, .int .i64 y.q.2.1, .int .i64 y.q.2.2.1, .int .u32 (y.q.2.2.2 : Nat)] 44 (0, 0))) := ha
  have HR : Hid (∀ W, Below w.heap.size w W → DoR B w x b z y (.returned (.bool true)) W) := (fun W hW => DoR.same h hbz hW : ∀ W, Below w.heap.size w W → _)
  have HW : Hid (WI B w x S b z) := h
  have HI : Hid (IsL w y bs) := hI
  have hblk : Hid (∀ W, Below w.heap.size w W → W.heap[x]? = some (.cells #[.pointer (some ⟨S.p, 0, none⟩), .pointer (some ⟨S.m, 0, none⟩), .slice S.sa S.n S.sc, .slice S.va S.n S.vc, .slice S.ta S.tn S.tc] 37 (0, 0))) := (fun W hW => (h.keep hW).blk : ∀ W, Below w.heap.size w W → _)
  have bW : Hid (∀ W, Below W0.heap.size W0 W → Below w.heap.size w W) := (fun W hW => B0.trans (hW.mono B0.size) : ∀ W, Below W0.heap.size W0 W → _)
  obtain ⟨k0, k1, k2, k3, k4, k5, k6⟩ := act_cells (ha W0 (Below.refl _ _))
  obtain ⟨x0, x1, x2, x3, x4, xf⟩ := world_cells (hblk.out W0 B0)
  have hE0 : Hid (W0 = w.alloc (acto y)) := hW0
  have hWB := h.B'
  obtain ⟨p, m, a, n, c, sa, sc, va, vc, ta, tn, tc, segs, vals, told, D⟩ := S
  obtain ⟨d, yn, ⟨ba, bn, bc⟩, ⟨q0, q1, q2, q3⟩⟩ := y
  simp only [acto] at hW0 hE0 k0 k1 k2 k3 k4 k5 k6 x0 x1 x2 x3 x4 hd HA hblk ⊢
  simp only [actv]
  rw [hW0] at k0 k1 k2 k3 k4 k5 k6 x0 x1 x2 x3 x4
  subst hd
  simp only at hre hlg
  have hBw : Hid (B ≤ w.heap.size) := hWB
  have HBZ : Hid (b + 1 ≤ 40 ∧ z + bn + 10 ≤ 21000) := hbz
  clear hWB
  clear h hI ha hW0 hbz
  go_enter Tryz.func10, Tryz.ntmps10
  go_upto_region 20 with fail
  rw [← hE0.out]
  rw [← hE0.out] at k0 k1 k2 k3 k4 k5 k6 x0 x1 x2 x3 x4
  clear z0
  go_cut [12, 13] (fun sb se wx => ∃ (G : Nat) (A1 : Option Addr) (C1 : Nat) (V1 : Option Addr) (VC1 : Nat), sb = .pointer (some ⟨G, 0, none⟩) ∧ se = .int .i64 E ∧ Hid (wx.heap[G]? = some (.cells #[.slice A1 n2 C1, .slice V1 n2 VC1] 34 (0, 0))) ∧ Hid (∀ k o, A1 = some ⟨k, o, none⟩ → 0 < n2 → (Value.slice a n c).ownBlock ≠ some k) ∧ Hid (RL B wx A1 n2 C1 V1 VC1 segs2 vals2) ∧ Hid (Below w.heap.size w wx) ∧ Hid (wx.heap[w.heap.size]? = some (.cells #[.int .i64 5, .int .i64 yn, .slice ba bn bc, .int .i64 q0, .int .i64 q1, .int .i64 q2, .int .u32 (q3 : Nat)] 44 (0, 0))))
  case first =>
      have nx : W0.heap.size ≠ x := Nat.ne_of_gt (cell_lt x2)
      have nw : W0.heap.size ≠ w.heap.size := Nat.ne_of_gt (cell_lt k1)
      have hbA := below_alloc W0 (.cells #[.slice none 0 0, .slice none 0 0] 34)
      obtain ⟨aa0, aa1, aa2, aa3, aa4, _⟩ := world_cells (hblk.out _ (bW.out _ hbA))
      obtain ⟨ab0, ab1, ab2, ab3, ab4, ab5, ab6⟩ := act_cells (HA.out _ hbA)
      refine wp_region_held_drew (S := (fun W => W.cell? ⟨x, 2, none⟩ = some (.slice sa n sc) ∧ W.cell? ⟨x, 3, none⟩ = some (.slice va n vc) ∧ W.cell? ⟨w.heap.size, 1, none⟩ = some (.int .i64 yn))) (by kernel_rfl) (by first | (refine ⟨?_, ?_, ?_⟩ <;> assumption) | go_keep) (fun hHeld => ?_)
      refine wpAnyH_take (i := 0) (oi := ⟨some 115, _, _, _, _, _⟩) (v := ?_) rfl (by kernel_rfl) (by kernel_rfl) (by kernel_rfl) (fun _ _ _ h => h) (Or.inl ⟨by rfl, ?_⟩) (by assumption) ?_
      rotate_left
      · intro w hSw; (try dsimp only at hSw); go_simp <;> (try with_reducible rfl)
      go_frame
      refine wpAnyH_take (i := 1) (oi := ⟨some 116, _, _, _, _, _⟩) (v := ?_) rfl (by kernel_rfl) (by kernel_rfl) (by kernel_rfl) (fun _ _ _ h => h) (Or.inl ⟨by rfl, ?_⟩) (by assumption) ?_
      rotate_left
      · intro w hSw; (try dsimp only at hSw); go_simp <;> (try with_reducible rfl)
      go_frame
      refine wpAnyH_take (i := 2) (oi := ⟨some 117, _, _, _, _, _⟩) (v := ?_) rfl (by kernel_rfl) (by kernel_rfl) (by kernel_rfl) (fun _ _ _ h => h) (Or.inl ⟨by rfl, ?_⟩) (by assumption) ?_
      rotate_left
      · intro w hSw; (try dsimp only at hSw); go_simp <;> (try with_reducible rfl)
      go_frame
      refine wpAnyH_take (i := 3) (oi := ⟨some 118, _, _, _, _, _⟩) (v := ?_) rfl (by kernel_rfl) (by kernel_rfl) (by kernel_rfl) (fun _ _ _ h => h) (Or.inl ⟨by rfl, ?_⟩) (by assumption) ?_
      rotate_left
      · intro w hSw; (try dsimp only at hSw); go_simp <;> (try with_reducible rfl)
      go_frame
      refine wpAnyH_take (i := 4) (oi := ⟨some 119, _, _, _, _, _⟩) (v := ?_) rfl (by kernel_rfl) (by kernel_rfl) (by kernel_rfl) (fun _ _ _ h => h) (Or.inl ⟨by rfl, ?_⟩) (by assumption) ?_
      rotate_left
      · intro w hSw; (try dsimp only at hSw); go_simp <;> (try with_reducible rfl)
      go_frame
      refine wpAnyH_take (i := 5) (oi := ⟨some 120, _, _, _, _, _⟩) (v := ?_) rfl (by kernel_rfl) (by kernel_rfl) (by kernel_rfl) (fun _ _ _ h => h) (Or.inl ⟨by rfl, ?_⟩) (by assumption) ?_
      rotate_left
      · intro w hSw; (try dsimp only at hSw); go_simp <;> (try with_reducible rfl)
      go_frame
      refine wpAnyH_ready (rs := [6, 10]) (by kernel_rfl) (by simp) ?_
      refine AllReadyH.cons rfl (fun K hK => ?_) (AllReadyH.cons rfl (fun K hK => ?_) AllReadyH.nil)
      · skip
        go_simp; go_at_call 32; refine (hre W0.drew (bW.out _ (bd1 (Below.refl _ W0)))).mono ?_; rintro e w1 ⟨A1, C1, V1, VC1, rfl, hR1, hb1', hA1⟩; have hb1 : Below W0.heap.size W0 w1 := below_of_drew hb1'; obtain ⟨y0, y1, y2, y3, y4, yf⟩ := world_cells (hblk.out w1 (bW.out _ hb1)); obtain ⟨m0, m1, m2, m3, m4, m5, m6⟩ := act_cells (HA.out w1 hb1)
        refine hK.out _ _ (by first | (refine ⟨?_, ?_, ?_⟩ <;> assumption) | go_keep) (fun hHeld => ?_)
        clear hK K
        try go_frame
        refine wpAnyH_take (i := 7) (oi := ⟨some 114, _, _, _, _, _⟩) (v := ?_) rfl (by kernel_rfl) (by kernel_rfl) (by kernel_rfl) (fun _ _ _ h => h) (Or.inl ⟨by rfl, ?_⟩) (by assumption) ?_
        rotate_left
        · intro w hSw; (try dsimp only at hSw); go_simp <;> (try with_reducible rfl)
        go_frame
        refine wpAnyH_take (i := 8) (oi := ⟨some 122, _, _, _, _, _⟩) (v := ?_) rfl (by kernel_rfl) (by kernel_rfl) (by kernel_rfl) (fun _ _ _ h => h) (Or.inl ⟨by rfl, ?_⟩) (by assumption) ?_
        rotate_left
        · intro w hSw; (try dsimp only at hSw); go_simp <;> (try with_reducible rfl)
        go_frame
        refine wpAnyH_take (i := 9) (oi := ⟨some 123, _, _, _, _, _⟩) (v := ?_) rfl (by kernel_rfl) (by kernel_rfl) (by kernel_rfl) (fun _ _ _ h => h) (Or.inl ⟨by rfl, ?_⟩) (by assumption) ?_
        rotate_left
        · intro w hSw; (try dsimp only at hSw); go_simp <;> (try with_reducible rfl)
        go_frame
        refine wpAnyH_ready (rs := [10]) (by kernel_rfl) (by simp) ?_
        refine AllReadyH.cons rfl (fun K hK => ?_) AllReadyH.nil
        go_simp
        refine hK.out _ _ (by first | (refine ⟨?_, ?_, ?_⟩ <;> assumption) | go_keep) (fun hHeld => ?_)
        clear hK K
        refine wpAnyH_ready (rs := [11]) (by kernel_rfl) (by simp) ?_
        refine AllReadyH.cons rfl (fun K hK => ?_) AllReadyH.nil
        go_simp
        refine hK.out _ _ (by first | (refine ⟨?_, ?_, ?_⟩ <;> assumption) | go_keep) (fun hHeld => ?_)
        clear hK K
        refine wpAnyH_take (i := 12) (oi := ⟨some 13, _, _, _, _, _⟩) (v := ?_) rfl (by kernel_rfl) (by kernel_rfl) (by kernel_rfl) (fun _ _ _ h => h) (Or.inl ⟨by rfl, ?_⟩) (by assumption) ?_
        rotate_left
        · intro w hSw; (try dsimp only at hSw); go_simp <;> (try with_reducible rfl)
        go_frame
        refine wpAnyH_done (by kernel_rfl) ?_ _
        go_wp2_with fail
        go_meet
        case rel => exact ⟨w1.heap.size, A1, C1, V1, VC1, rfl, rfl, heap_alloc_new w1 _, hA1, hR1.keep (Nat.le_trans hBw.out (bW.out _ hb1).size) (below_alloc _ _), bal (bW.out _ hb1) _, HA.out _ (bal hb1 _)⟩
      · skip
        go_simp
        refine hK.out _ _ (by first | (refine ⟨?_, ?_, ?_⟩ <;> assumption) | go_keep) (fun hHeld => ?_)
        clear hK K
        refine wpAnyH_ready (rs := [6]) (by kernel_rfl) (by simp) ?_
        refine AllReadyH.cons rfl (fun K hK => ?_) AllReadyH.nil
        go_simp; go_at_call 32; refine (hre (W0.alloc (.cells #[.slice none 0 0, .slice none 0 0] 34)).drew (bW.out _ (bd1 hbA))).mono ?_; rintro e w1 ⟨A1, C1, V1, VC1, rfl, hR1, hb1', hA1⟩; have hb1 : Below W0.heap.size W0 w1 := hbA.trans ((below_of_drew hb1').mono hbA.size); obtain ⟨y0, y1, y2, y3, y4, yf⟩ := world_cells (hblk.out w1 (bW.out _ hb1)); obtain ⟨m0, m1, m2, m3, m4, m5, m6⟩ := act_cells (HA.out w1 hb1); have hbx1 : w1.heap[W0.heap.size]? = some (.cells #[.slice none 0 0, .slice none 0 0] 34 (0, 0)) := ((below_of_drew hb1').block _ (by simp)).trans (heap_alloc_new W0 _); obtain ⟨n0, n1, nf0, nf1⟩ := log_cells hbx1
        refine hK.out _ _ (by first | (refine ⟨?_, ?_, ?_⟩ <;> assumption) | go_keep) (fun hHeld => ?_)
        clear hK K
        try go_frame
        refine wpAnyH_take (i := 7) (oi := ⟨some 114, _, _, _, _, _⟩) (v := ?_) rfl (by kernel_rfl) (by kernel_rfl) (by kernel_rfl) (fun _ _ _ h => h) (Or.inl ⟨by rfl, ?_⟩) (by assumption) ?_
        rotate_left
        · intro w hSw; (try dsimp only at hSw); go_simp <;> (try with_reducible rfl)
        go_frame
        refine wpAnyH_take (i := 8) (oi := ⟨some 122, _, _, _, _, _⟩) (v := ?_) rfl (by kernel_rfl) (by kernel_rfl) (by kernel_rfl) (fun _ _ _ h => h) (Or.inl ⟨by rfl, ?_⟩) (by assumption) ?_
        rotate_left
        · intro w hSw; (try dsimp only at hSw); go_simp <;> (try with_reducible rfl)
        go_frame
        refine wpAnyH_take (i := 9) (oi := ⟨some 123, _, _, _, _, _⟩) (v := ?_) rfl (by kernel_rfl) (by kernel_rfl) (by kernel_rfl) (fun _ _ _ h => h) (Or.inl ⟨by rfl, ?_⟩) (by assumption) ?_
        rotate_left
        · intro w hSw; (try dsimp only at hSw); go_simp <;> (try with_reducible rfl)
        go_frame
        refine wpAnyH_ready (rs := [11]) (by kernel_rfl) (by simp) ?_
        refine AllReadyH.cons rfl (fun K hK => ?_) AllReadyH.nil
        go_simp
        refine hK.out _ _ (by first | (refine ⟨?_, ?_, ?_⟩ <;> assumption) | go_keep) (fun hHeld => ?_)
        clear hK K
        refine wpAnyH_take (i := 12) (oi := ⟨some 13, _, _, _, _, _⟩) (v := ?_) rfl (by kernel_rfl) (by kernel_rfl) (by kernel_rfl) (fun _ _ _ h => h) (Or.inl ⟨by rfl, ?_⟩) (by assumption) ?_
        rotate_left
        · intro w hSw; (try dsimp only at hSw); go_simp <;> (try with_reducible rfl)
        go_frame
        refine wpAnyH_done (by kernel_rfl) ?_ _
        go_wp2_with fail
        go_meet
        case rel => exact ⟨W0.heap.size, A1, C1, V1, VC1, rfl, rfl, by rw [Go.Joins.block_setCell (Go.Joins.block_setCell hbx1 (.slice A1 n2 C1) (i := 0)) (.slice V1 n2 VC1) (i := 1)]; rfl, hA1, (hR1.wy (P := fun _ => False) (wy_set hbx1 (Nat.le_trans hBw.out B0.size) ⟨by decide, by decide, by decide⟩ _) (fun _ _ _ _ => id)).wy (P := fun _ => False) (wy_set (Go.Joins.block_setCell hbx1 (.slice A1 n2 C1) (i := 0)) (Nat.le_trans hBw.out B0.size) ⟨by decide, by decide, by decide⟩ _) (fun _ _ _ _ => id), ((bW.out _ hb1).setCell (p := ⟨W0.heap.size, 0, none⟩) B0.size _).setCell (p := ⟨W0.heap.size, 1, none⟩) B0.size _, (set_other _ _ _ _ (Ne.symm nw)).trans ((set_other _ _ _ _ (Ne.symm nw)).trans (HA.out w1 hb1))⟩
  case rest =>
    obtain ⟨G, A1, C1, V1, VC1, rfl, rfl, hG, hA1, hR1, hbx, hact⟩ := hcut
    clear k0 k1 k2 k3 k4 k5 k6 x0 x1 x2 x3 x4 xf hre
    obtain ⟨x0, x1, x2, x3, x4, xf⟩ := world_cells (hblk.out wc hbx.out)
    have xf2 := xf 2; have xf3 := xf 3
    obtain ⟨g0, g1, _, _⟩ := log_cells hG.out
    have hne : G ≠ x := Ne.symm (box_ne (hblk.out wc hbx.out) hG.out (by decide))
    have hne2 : w.heap.size ≠ x := Ne.symm (box_ne (hblk.out wc hbx.out) hact.out (by decide))
    clear xf
    go_wp2_with fail
    obtain ⟨hUx, hUL, hUD, hUR, hUt, hUb, hUB⟩ := box_two (HW.out.keep hbx.out) hR1.out hbx.out hBw.out
    have hUa := (set_other (wc.setCell ⟨x, 2, none⟩ (.slice A1 n2 C1)) x 3 (.slice V1 n2 VC1) hne2).trans ((set_other wc x 2 (.slice A1 n2 C1) hne2).trans hact.out)
    simp only at hUx hUL hUD hUt
    have HX : Hid (wc = wc) := rfl
    clear x0 x1 x2 x3 x4 xf2 xf3 g0 g1 HX
    generalize (wc.setCell ⟨x, 2, none⟩ (.slice A1 n2 C1)).setCell ⟨x, 3, none⟩ (.slice V1 n2 VC1) = U at *
    obtain ⟨x0, x1, x2, x3, x4, _⟩ := world_cells hUx
    obtain ⟨k0, k1, k2, k3, k4, k5, k6⟩ := act_cells hUa
    have hLd := hUL.keep (vd1 (w := U))
    have hxd : U.drew.heap[x]? = _ := hUx
    have had : U.drew.heap[w.heap.size]? = _ := hUa
    have hDd := hUD.keep (vd1 (w := U))
    have htd := owns_below hUt (vd1 (w := U))
    have hRd := hUR.keep hUB (vd1 (w := U))
    have hBd : B ≤ U.drew.heap.size := hUB
    have hcall := hlg U.drew hLd hDd
    clear hlg hUL hUD hUR hUt
    go_region_held3 (fun W => W.cell? ⟨x, 1, none⟩ = some (.pointer (some ⟨m, 0, none⟩)) ∧ W.cell? ⟨w.heap.size, 1, none⟩ = some (.int .i64 yn)) (first | go_keep | (refine ⟨?_, ?_⟩ <;> assumption))
      (first
        | (go_at_call 24; (with_reducible refine vworld U.drew ?_); refine hcall.mono ?_; rintro e w2 ⟨rfl, a2, c2, D2, hL2, hD2, hac2, hW2, ha2⟩; obtain ⟨v0, v1, v2, v3, v4, _⟩ := world_cells (wx_blk hW2 hLd hxd ⟨by decide, by decide, by decide, by decide⟩ (by decide) (by decide)); obtain ⟨u0, u1, u2, u3, u4, u5, u6⟩ := act_cells (wx_blk hW2 hLd had ⟨by decide, by decide, by decide, by decide⟩ (by decide) (by decide))))
    go_wp2_with fail
    go_ret
    exact ⟨by simp, hUb.trans ((vd1.mono hUB).trans (wx_below hW2 hLd hBd)), wi_end HW.out ⟨Nat.le_succ b, HBZ.out⟩ hxd hLd hRd htd hBd hA1.out hW2 hL2 hD2 hac2 ha2⟩
end
end Go.Proofs.YtnoknmnbfkdccaaGreatDoor
