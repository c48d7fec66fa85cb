/- What is done in the law's world: Put of a value that is put, over what the two logs' own tell. -/
import Derived.Test.YtnoknmnbfkdccaaGreatDoorVXy
namespace Go.Proofs.YtnoknmnbfkdccaaGreatDoor
open Go.RowKit Go.Shelf

section
variable {B : Nat} {w : World} {x b z : Nat} {S : WS}
set_option maxRecDepth 100000 in
set_option maxHeartbeats 8000000 in
theorem wdo_put_ok (h : WI B w x S b z) (y : LH) (bs : List Nat) (hI : IsL w y bs) (hbz : b + 1 ≤ 40 ∧ z + y.b.n + 10 ≤ 21000) (P0 P1 P2 : Int) (P3 : Nat) (D2 : Dk.D) (vals2 : List (List (List Nat)))
    (hput : ∀ W A C, Below w.heap.size w W → W.ownsRow w.heap.size 5 1 (.slice A y.b.n C) y.b.n (kcells .u8 bs) → Calls Tryz.prog 14 #[.pointer (some ⟨S.m, 0, none⟩), .slice A y.b.n C] W fun e w' => e = .returned (.tuple #[.agg #[.int .i64 P0, .int .i64 P1, .int .i64 P2, .int .u32 (P3 : Nat)], .int .i64 0]) ∧ VD B w' S.p D2 ∧ Wk B W w')
    (href : ∀ W, RL B W S.sa S.n S.sc S.va S.vc S.segs S.vals → B ≤ W.heap.size → VAt W y.b bs → Calls Tryz.prog 28 #[.agg #[.slice S.sa S.n S.sc, .slice S.va S.n S.vc], .slice y.b.a y.b.n y.b.c] W fun e w' => ∃ V VC, e = .returned (.tuple #[.agg #[.slice S.sa S.n S.sc, .slice V S.n VC], .agg #[.int .i64 P0, .int .i64 P1, .int .i64 P2, .int .u32 (P3 : Nat)], .int .i64 0]) ∧ RL B w' S.sa S.n S.sc V VC S.segs vals2 ∧ Below W.heap.size W w')
    (hac : Vl.Ac D2 S.segs vals2 (b + 1) (z + y.b.n + 10)) (hpf : Po.Fits (P0, P1, P2, P3))
    (hlow : ∀ k o, y.b.a = some ⟨k, o, none⟩ → 0 < y.b.n → k < B)
    (hd : y.d = 0) :
    Calls Tryz.prog 10 #[.pointer (some ⟨x, 0, none⟩), actv y] w (DoR B w x b z y) := by
  obtain ⟨W0, hW0⟩ : ∃ W0, W0 = w.alloc (acto y) := ⟨_, rfl⟩
  obtain ⟨z0, B0, ha⟩ := act_w0 hW0
  have HA : Hid (∀ W, Below W0.heap.size W0 W → W.heap[w.heap.size]? = some (.cells #[.int .i64 y.d, .int .i64 y.n, .slice y.b.a y.b.n y.b.c, .int .i64 y.q.1, .int .i64 y.q.2.1, .int .i64 y.q.2.2.1, .int .u32 (y.q.2.2.2 : Nat)] 44 (0, 0))) := ha
  have HR : Hid (∀ W, Below w.heap.size w W → DoR B w x b z y (.returned (.bool true)) W) := (fun W hW => DoR.same h hbz hW : ∀ W, Below w.heap.size w W → _)
  have HW : Hid (WI B w x S b z) := h
  have HI : Hid (IsL w y bs) := hI
  have hblk : Hid (∀ W, Below w.heap.size w W → W.heap[x]? = some (.cells #[.pointer (some ⟨S.p, 0, none⟩), .pointer (some ⟨S.m, 0, none⟩), .slice S.sa S.n S.sc, .slice S.va S.n S.vc, .slice S.ta S.tn S.tc] 37 (0, 0))) := (fun W hW => (h.keep hW).blk : ∀ W, Below w.heap.size w W → _)
  have bW : Hid (∀ W, Below W0.heap.size W0 W → Below w.heap.size w W) := (fun W hW => B0.trans (hW.mono B0.size) : ∀ W, Below W0.heap.size W0 W → _)
  obtain ⟨k0, k1, k2, k3, k4, k5, k6⟩ := act_cells (ha W0 (Below.refl _ _))
  obtain ⟨x0, x1, x2, x3, x4, xf⟩ := world_cells (hblk.out W0 B0)
  have hE0 : Hid (W0 = w.alloc (acto y)) := hW0
  have hWB := h.B'
  obtain ⟨p, m, a, n, c, sa, sc, va, vc, ta, tn, tc, segs, vals, told, D⟩ := S
  obtain ⟨d, yn, ⟨ba, bn, bc⟩, ⟨q0, q1, q2, q3⟩⟩ := y
  simp only [acto] at hW0 hE0 k0 k1 k2 k3 k4 k5 k6 x0 x1 x2 x3 x4 hd HA hblk ⊢
  simp only [actv]
  rw [hW0] at k0 k1 k2 k3 k4 k5 k6 x0 x1 x2 x3 x4
  subst hd
  simp only at hput href hlow hac
  have HLW : Hid (∀ k o, ba = some ⟨k, o, none⟩ → 0 < bn → k < B) := hlow
  clear hlow
  have hBw : Hid (B ≤ w.heap.size) := hWB
  have HBZ : Hid (b + 1 ≤ 40 ∧ z + bn + 10 ≤ 21000) := hbz
  have HVA : Hid (VAt w ⟨ba, bn, bc⟩ bs) := hI.bytes
  have HBN : Hid (bn ≤ 140737488355328) := hI.len
  have hbw0 : Hid (Below w.heap.size w W0) := B0
  have HAC : Hid (Vl.Ac D2 segs vals2 (b + 1) (z + bn + 10)) := hac
  clear hWB z0 B0 hac
  have HPF : Hid (Po.Fits (P0, P1, P2, P3)) := hpf
  clear hpf
  clear h hI ha hW0 hbz
  go_enter Tryz.func10, Tryz.ntmps10
  go_upto_region 3 with fail
  rw [← hE0.out]
  rw [← hE0.out] at k0 k1 k2 k3 k4 k5 k6 x0 x1 x2 x3 x4
  clear xf
  go_cut [5, 6] (fun s5 s6 wx => ∃ G : Nat, s5 = .pointer (some ⟨G, 0, none⟩) ∧ s6 = .int .i64 0 ∧ Hid (wx.heap[G]? = some (.cells #[.int .i64 P0, .int .i64 P1, .int .i64 P2, .int .u32 (P3 : Nat)] 42 (0, 0))) ∧ Hid (Wk B w wx) ∧ Hid (VD B wx p D2) ∧ Hid (wx.heap[w.heap.size]? = some (.cells #[.int .i64 0, .int .i64 yn, .slice ba bn bc, .int .i64 q0, .int .i64 q1, .int .i64 q2, .int .u32 (q3 : Nat)] 44 (0, 0))) ∧ Hid (w.heap.size ≤ G))
  case first =>
      have hbE := below_alloc W0 (.cells #[] 5)
      have hbP := below_alloc W0 (.cells #[.int .i64 0, .int .i64 0, .int .i64 0, .int .u32 0] 42)
      have hbEP := bal hbE (.cells #[.int .i64 0, .int .i64 0, .int .i64 0, .int .u32 0] 42)
      have hbPE := bal hbP (.cells #[] 5)
      have pEP : ((W0.alloc (.cells #[] 5)).alloc (.cells #[.int .i64 0, .int .i64 0, .int .i64 0, .int .u32 0] 42)).heap[W0.heap.size + 1]? = some (.cells #[.int .i64 0, .int .i64 0, .int .i64 0, .int .u32 0] 42 (0, 0)) := by have := heap_alloc_new (W0.alloc (.cells #[] 5)) (.cells #[.int .i64 0, .int .i64 0, .int .i64 0, .int .u32 0] 42); rw [World.size_alloc] at this; exact this
      have pPE : ((W0.alloc (.cells #[.int .i64 0, .int .i64 0, .int .i64 0, .int .u32 0] 42)).alloc (.cells #[] 5)).heap[W0.heap.size]? = some (.cells #[.int .i64 0, .int .i64 0, .int .i64 0, .int .u32 0] 42 (0, 0)) := ((below_alloc (W0.alloc (.cells #[.int .i64 0, .int .i64 0, .int .i64 0, .int .u32 0] 42)) (.cells #[] 5)).block _ (by simp)).trans (heap_alloc_new W0 _)
      obtain ⟨ea0, ea1, ea2, ea3, ea4, _⟩ := world_cells (hblk.out _ (bW.out _ hbE))
      obtain ⟨eb0, eb1, eb2, eb3, eb4, eb5, eb6⟩ := act_cells (HA.out _ hbE)
      obtain ⟨pa0, pa1, pa2, pa3, pa4, _⟩ := world_cells (hblk.out _ (bW.out _ hbP))
      obtain ⟨pb0, pb1, pb2, pb3, pb4, pb5, pb6⟩ := act_cells (HA.out _ hbP)
      obtain ⟨qa0, qa1, qa2, qa3, qa4, _⟩ := world_cells (hblk.out _ (bW.out _ hbEP))
      obtain ⟨qb0, qb1, qb2, qb3, qb4, qb5, qb6⟩ := act_cells (HA.out _ hbEP)
      obtain ⟨ra0, ra1, ra2, ra3, ra4, _⟩ := world_cells (hblk.out _ (bW.out _ hbPE))
      obtain ⟨rb0, rb1, rb2, rb3, rb4, rb5, rb6⟩ := act_cells (HA.out _ hbPE)
      have nx0 : W0.heap.size ≠ x := Nat.ne_of_gt (cell_lt x1)
      have nx1 : W0.heap.size + 1 ≠ x := Nat.ne_of_gt (Nat.lt_succ_of_lt (cell_lt x1))
      have nw0 : W0.heap.size ≠ w.heap.size := Nat.ne_of_gt (cell_lt k2)
      have nw1 : W0.heap.size + 1 ≠ w.heap.size := Nat.ne_of_gt (Nat.lt_succ_of_lt (cell_lt k2))
      refine wp_region_held_drew (S := (fun W => W.cell? ⟨x, 1, none⟩ = some (.pointer (some ⟨m, 0, none⟩)) ∧ W.cell? ⟨w.heap.size, 2, none⟩ = some (.slice ba bn bc))) (by kernel_rfl) (by first | go_keep | (refine ⟨?_, ?_⟩ <;> assumption)) (fun hHeld => ?_)
      refine wpAnyH_take (i := 0) (oi := ⟨some 21, _, _, _, _, _⟩) (v := ?_) rfl (by kernel_rfl) (by kernel_rfl) (by kernel_rfl) (fun _ _ _ h => h) (Or.inl ⟨by rfl, ?_⟩) (by assumption) ?_
      rotate_left
      · intro w hSw; (try dsimp only at hSw); go_simp <;> (try with_reducible rfl)
      go_frame
      refine wpAnyH_take (i := 1) (oi := ⟨some 22, _, _, _, _, _⟩) (v := ?_) rfl (by kernel_rfl) (by kernel_rfl) (by kernel_rfl) (fun _ _ _ h => h) (Or.inl ⟨by rfl, ?_⟩) (by assumption) ?_
      rotate_left
      · intro w hSw; (try dsimp only at hSw); go_simp <;> (try with_reducible rfl)
      go_frame
      refine wpAnyH_take (i := 2) (oi := ⟨some 23, _, _, _, _, _⟩) (v := ?_) rfl (by kernel_rfl) (by kernel_rfl) (by kernel_rfl) (fun _ _ _ h => h) (Or.inl ⟨by rfl, ?_⟩) (by assumption) ?_
      rotate_left
      · intro w hSw; (try dsimp only at hSw); go_simp <;> (try with_reducible rfl)
      go_frame
      refine wpAnyH_take (i := 3) (oi := ⟨some 24, _, _, _, _, _⟩) (v := ?_) rfl (by kernel_rfl) (by kernel_rfl) (by kernel_rfl) (fun _ _ _ h => h) (Or.inl ⟨by rfl, ?_⟩) (by assumption) ?_
      rotate_left
      · intro w hSw; (try dsimp only at hSw); go_simp <;> (try with_reducible rfl)
      go_frame
      refine wpAnyH_take (i := 5) (oi := ⟨some 26, _, _, _, _, _⟩) (v := ?_) rfl (by kernel_rfl) (by kernel_rfl) (by kernel_rfl) (fun _ _ _ h => h) (Or.inl ⟨by rfl, ?_⟩) (by assumption) ?_
      rotate_left
      · intro w hSw; (try dsimp only at hSw); go_simp <;> (try with_reducible rfl)
      go_frame
      refine wpAnyH_take (i := 6) (oi := ⟨some 27, _, _, _, _, _⟩) (v := ?_) rfl (by kernel_rfl) (by kernel_rfl) (by kernel_rfl) (fun _ _ _ h => h) (Or.inl ⟨by rfl, ?_⟩) (by assumption) ?_
      rotate_left
      · intro w hSw; (try dsimp only at hSw); go_simp <;> (try with_reducible rfl)
      go_frame
      refine wpAnyH_ready (rs := [4, 12]) (by kernel_rfl) (by simp) ?_
      refine AllReadyH.cons rfl (fun K hK => ?_) (AllReadyH.cons rfl (fun K hK => ?_) AllReadyH.nil)
      · skip
        go_simp
        refine hK.out _ _ (by first | go_keep | (refine ⟨?_, ?_⟩ <;> assumption)) (fun hHeld => ?_)
        clear hK K
        refine wpAnyH_ready (rs := [7, 12]) (by kernel_rfl) (by simp) ?_
        refine AllReadyH.cons rfl (fun K hK => ?_) (AllReadyH.cons rfl (fun K hK => ?_) AllReadyH.nil)
        · skip
          refine step_u8gb (w0 := W0) (B := W0.heap.size) (w := (W0.alloc (.cells #[] 5)).drew) (by rfl) _ _ (by rfl) _ 0 [] (by rfl) (show World.ownsRow (W0.alloc (.cells #[] 5)).drew W0.heap.size 5 1 (.slice (some ⟨W0.heap.size, 0, none⟩) 0 0) 0 (kcells .u8 []) from (World.ownsRow_made (base := W0.heap.size) (e := 5) (size := 1) W0 #[] 0 (Nat.le_refl _) (by decide) (by simp))) ba bn bc bs (by rfl) (HVA.out.1.below (hbw0.out.trans (hbE.drew.mono hbw0.out.size)) (Nat.le_refl _)) HVA.out.2.1 (by have := HBZ.out; omega) hbE.drew (by simp <;> omega) ?_; intro A1 C1 w1 ho1 hb1 _ hg1; rw [Nat.zero_add, List.nil_append] at ho1; rw [Nat.zero_add]; obtain ⟨y0, y1, y2, y3, y4, yf⟩ := world_cells (hblk.out w1 (bW.out _ hb1)); obtain ⟨m0, m1, m2, m3, m4, m5, m6⟩ := act_cells (HA.out w1 hb1); obtain ⟨za0, za1, za2, za3, za4, _⟩ := world_cells (hblk.out _ (bW.out _ (bal hb1 (.cells #[.int .i64 0, .int .i64 0, .int .i64 0, .int .u32 0] 42)))); obtain ⟨zb0, zb1, zb2, zb3, zb4, zb5, zb6⟩ := act_cells (HA.out _ (bal hb1 (.cells #[.int .i64 0, .int .i64 0, .int .i64 0, .int .u32 0] 42)))
          refine hK.out _ _ (by first | go_keep | (refine ⟨?_, ?_⟩ <;> assumption)) (fun hHeld => ?_)
          clear hK K
          try go_frame
          refine wpAnyH_ready (rs := [8, 12]) (by kernel_rfl) (by simp) ?_
          refine AllReadyH.cons rfl (fun K hK => ?_) (AllReadyH.cons rfl (fun K hK => ?_) AllReadyH.nil)
          · skip
            go_simp; go_at_call 14; refine (hput w1 A1 C1 (bW.out _ hb1) (ho1.mono hbw0.out.size)).mono ?_; rintro e w2 ⟨rfl, hD2, hW2⟩; obtain ⟨v0, v1, v2, v3, v4, vf⟩ := world_cells (hW2.blk (hblk.out w1 (bW.out _ hb1)) (by decide) (by decide) (by decide) (by decide)); obtain ⟨u0, u1, u2, u3, u4, u5, u6⟩ := act_cells (hW2.blk (HA.out w1 hb1) (by decide) (by decide) (by decide) (by decide)); have hWw : Wk B w w2 := (Wk.of_below (bW.out _ hb1)).trans hW2; have ha2 := below_alloc w2 (.cells #[.int .i64 0, .int .i64 0, .int .i64 0, .int .u32 0] 42)
            refine hK.out _ _ (by first | go_keep | (refine ⟨?_, ?_⟩ <;> assumption)) (fun hHeld => ?_)
            clear hK K
            try go_frame
            refine wpAnyH_take (i := 9) (oi := ⟨some 20, _, _, _, _, _⟩) (v := ?_) rfl (by kernel_rfl) (by kernel_rfl) (by kernel_rfl) (fun _ _ _ h => h) (Or.inl ⟨by rfl, ?_⟩) (by assumption) ?_
            rotate_left
            · intro w hSw; (try dsimp only at hSw); go_simp <;> (try with_reducible rfl)
            go_frame
            refine wpAnyH_take (i := 10) (oi := ⟨some 30, _, _, _, _, _⟩) (v := ?_) rfl (by kernel_rfl) (by kernel_rfl) (by kernel_rfl) (fun _ _ _ h => h) (Or.inl ⟨by rfl, ?_⟩) (by assumption) ?_
            rotate_left
            · intro w hSw; (try dsimp only at hSw); go_simp <;> (try with_reducible rfl)
            go_frame
            refine wpAnyH_take (i := 11) (oi := ⟨some 31, _, _, _, _, _⟩) (v := ?_) rfl (by kernel_rfl) (by kernel_rfl) (by kernel_rfl) (fun _ _ _ h => h) (Or.inl ⟨by rfl, ?_⟩) (by assumption) ?_
            rotate_left
            · intro w hSw; (try dsimp only at hSw); go_simp <;> (try with_reducible rfl)
            go_frame
            refine wpAnyH_ready (rs := [12]) (by kernel_rfl) (by simp) ?_
            refine AllReadyH.cons rfl (fun K hK => ?_) AllReadyH.nil
            go_simp
            refine hK.out _ _ (by first | go_keep | (refine ⟨?_, ?_⟩ <;> assumption)) (fun hHeld => ?_)
            clear hK K
            refine wpAnyH_ready (rs := [13]) (by kernel_rfl) (by simp) ?_
            refine AllReadyH.cons rfl (fun K hK => ?_) AllReadyH.nil
            go_simp
            refine hK.out _ _ (by first | go_keep | (refine ⟨?_, ?_⟩ <;> assumption)) (fun hHeld => ?_)
            clear hK K
            refine wpAnyH_take (i := 14) (oi := ⟨some 6, _, _, _, _, _⟩) (v := ?_) rfl (by kernel_rfl) (by kernel_rfl) (by kernel_rfl) (fun _ _ _ h => h) (Or.inl ⟨by rfl, ?_⟩) (by assumption) ?_
            rotate_left
            · intro w hSw; (try dsimp only at hSw); go_simp <;> (try with_reducible rfl)
            go_frame
            refine wpAnyH_done (by kernel_rfl) ?_ _
            go_wp2_with fail
            go_meet
            case rel => exact ⟨w2.heap.size, rfl, rfl, heap_alloc_new w2 _, hWw.trans (Wk.of_below (below_alloc _ _)), hD2.keep (below_alloc _ _), ((below_alloc w2 _).block _ (cell_lt u0)).trans (hW2.blk (HA.out _ hb1) (by decide) (by decide) (by decide) (by decide)), (hWw.below hBw.out).size⟩
          · skip
            go_simp
            refine hK.out _ _ (by first | go_keep | (refine ⟨?_, ?_⟩ <;> assumption)) (fun hHeld => ?_)
            clear hK K
            refine wpAnyH_ready (rs := [8]) (by kernel_rfl) (by simp) ?_
            refine AllReadyH.cons rfl (fun K hK => ?_) AllReadyH.nil
            go_simp; go_at_call 14; refine (hput (w1.alloc (.cells #[.int .i64 0, .int .i64 0, .int .i64 0, .int .u32 0] 42)) A1 C1 (bW.out _ (bal hb1 (.cells #[.int .i64 0, .int .i64 0, .int .i64 0, .int .u32 0] 42))) ((ho1.alloc _).mono hbw0.out.size)).mono ?_; rintro e w2 ⟨rfl, hD2, hW2⟩; obtain ⟨v0, v1, v2, v3, v4, vf⟩ := world_cells (hW2.blk (hblk.out (w1.alloc (.cells #[.int .i64 0, .int .i64 0, .int .i64 0, .int .u32 0] 42)) (bW.out _ (bal hb1 (.cells #[.int .i64 0, .int .i64 0, .int .i64 0, .int .u32 0] 42)))) (by decide) (by decide) (by decide) (by decide)); obtain ⟨u0, u1, u2, u3, u4, u5, u6⟩ := act_cells (hW2.blk (HA.out (w1.alloc (.cells #[.int .i64 0, .int .i64 0, .int .i64 0, .int .u32 0] 42)) (bal hb1 (.cells #[.int .i64 0, .int .i64 0, .int .i64 0, .int .u32 0] 42))) (by decide) (by decide) (by decide) (by decide)); have hWw : Wk B w w2 := (Wk.of_below (bW.out _ (bal hb1 (.cells #[.int .i64 0, .int .i64 0, .int .i64 0, .int .u32 0] 42)))).trans hW2; have hpb2 := hW2.blk (heap_alloc_new w1 (.cells #[.int .i64 0, .int .i64 0, .int .i64 0, .int .u32 0] 42)) (by decide) (by decide) (by decide) (by decide); have nx : w1.heap.size ≠ x := Nat.ne_of_gt (cell_lt y1); have nw : w1.heap.size ≠ w.heap.size := Nat.ne_of_gt (cell_lt m2); obtain ⟨p0, p1, p2, p3, ppf⟩ := pt_cells hpb2; have pf0 := ppf 0; have pf1 := ppf 1; have pf2 := ppf 2; have pf3 := ppf 3
            refine hK.out _ _ (by first | go_keep | (refine ⟨?_, ?_⟩ <;> assumption)) (fun hHeld => ?_)
            clear hK K
            try go_frame
            refine wpAnyH_take (i := 9) (oi := ⟨some 20, _, _, _, _, _⟩) (v := ?_) rfl (by kernel_rfl) (by kernel_rfl) (by kernel_rfl) (fun _ _ _ h => h) (Or.inl ⟨by rfl, ?_⟩) (by assumption) ?_
            rotate_left
            · intro w hSw; (try dsimp only at hSw); go_simp <;> (try with_reducible rfl)
            go_frame
            refine wpAnyH_take (i := 10) (oi := ⟨some 30, _, _, _, _, _⟩) (v := ?_) rfl (by kernel_rfl) (by kernel_rfl) (by kernel_rfl) (fun _ _ _ h => h) (Or.inl ⟨by rfl, ?_⟩) (by assumption) ?_
            rotate_left
            · intro w hSw; (try dsimp only at hSw); go_simp <;> (try with_reducible rfl)
            go_frame
            refine wpAnyH_take (i := 11) (oi := ⟨some 31, _, _, _, _, _⟩) (v := ?_) rfl (by kernel_rfl) (by kernel_rfl) (by kernel_rfl) (fun _ _ _ h => h) (Or.inl ⟨by rfl, ?_⟩) (by assumption) ?_
            rotate_left
            · intro w hSw; (try dsimp only at hSw); go_simp <;> (try with_reducible rfl)
            go_frame
            refine wpAnyH_ready (rs := [13]) (by kernel_rfl) (by simp) ?_
            refine AllReadyH.cons rfl (fun K hK => ?_) AllReadyH.nil
            go_simp
            refine hK.out _ _ (by first | go_keep | (refine ⟨?_, ?_⟩ <;> assumption)) (fun hHeld => ?_)
            clear hK K
            refine wpAnyH_take (i := 14) (oi := ⟨some 6, _, _, _, _, _⟩) (v := ?_) rfl (by kernel_rfl) (by kernel_rfl) (by kernel_rfl) (fun _ _ _ h => h) (Or.inl ⟨by rfl, ?_⟩) (by assumption) ?_
            rotate_left
            · intro w hSw; (try dsimp only at hSw); go_simp <;> (try with_reducible rfl)
            go_frame
            refine wpAnyH_done (by kernel_rfl) ?_ _
            go_wp2_with fail
            go_meet
            case rel => exact ⟨w1.heap.size, rfl, rfl, (pt4 hpb2 _ _ _ _).1, wk_pt hWw (bW.out _ hb1).size (pt4 hpb2 _ _ _ _).2, vd_pt hD2 hpb2 (Nat.le_trans hBw.out (bW.out _ hb1).size) (pt4 hpb2 _ _ _ _).2, ((pt4 hpb2 _ _ _ _).2.block _ (cell_lt u0) (Ne.symm nw)).trans (hW2.blk (HA.out _ (bal hb1 _)) (by decide) (by decide) (by decide) (by decide)), (bW.out _ hb1).size⟩
        · skip
          go_simp
          refine hK.out _ _ (by first | go_keep | (refine ⟨?_, ?_⟩ <;> assumption)) (fun hHeld => ?_)
          clear hK K
          refine wpAnyH_ready (rs := [7]) (by kernel_rfl) (by simp) ?_
          refine AllReadyH.cons rfl (fun K hK => ?_) AllReadyH.nil
          refine step_u8gb (w0 := W0) (B := W0.heap.size) (w := ((W0.alloc (.cells #[] 5)).alloc (.cells #[.int .i64 0, .int .i64 0, .int .i64 0, .int .u32 0] 42)).drew) (by rfl) _ _ (by rfl) _ 0 [] (by rfl) (show World.ownsRow ((W0.alloc (.cells #[] 5)).alloc (.cells #[.int .i64 0, .int .i64 0, .int .i64 0, .int .u32 0] 42)).drew W0.heap.size 5 1 (.slice (some ⟨W0.heap.size, 0, none⟩) 0 0) 0 (kcells .u8 []) from ((World.ownsRow_made (base := W0.heap.size) (e := 5) (size := 1) W0 #[] 0 (Nat.le_refl _) (by decide) (by simp)).alloc _)) ba bn bc bs (by rfl) (HVA.out.1.below (hbw0.out.trans (hbEP.drew.mono hbw0.out.size)) (Nat.le_refl _)) HVA.out.2.1 (by have := HBZ.out; omega) hbEP.drew (by simp <;> omega) ?_; intro A1 C1 w1 ho1 hb1 _ hg1; rw [Nat.zero_add, List.nil_append] at ho1; rw [Nat.zero_add]; obtain ⟨y0, y1, y2, y3, y4, yf⟩ := world_cells (hblk.out w1 (bW.out _ hb1)); obtain ⟨m0, m1, m2, m3, m4, m5, m6⟩ := act_cells (HA.out w1 hb1); have hpb : w1.heap[W0.heap.size + 1]? = some (.cells #[.int .i64 0, .int .i64 0, .int .i64 0, .int .u32 0] 42 (0, 0)) := (hg1.block _ (by simp) (by simp [Value.ownBlock])).trans pEP
          refine hK.out _ _ (by first | go_keep | (refine ⟨?_, ?_⟩ <;> assumption)) (fun hHeld => ?_)
          clear hK K
          try go_frame
          refine wpAnyH_ready (rs := [8]) (by kernel_rfl) (by simp) ?_
          refine AllReadyH.cons rfl (fun K hK => ?_) AllReadyH.nil
          go_simp; go_at_call 14; refine (hput w1 A1 C1 (bW.out _ hb1) (ho1.mono hbw0.out.size)).mono ?_; rintro e w2 ⟨rfl, hD2, hW2⟩; obtain ⟨v0, v1, v2, v3, v4, vf⟩ := world_cells (hW2.blk (hblk.out w1 (bW.out _ hb1)) (by decide) (by decide) (by decide) (by decide)); obtain ⟨u0, u1, u2, u3, u4, u5, u6⟩ := act_cells (hW2.blk (HA.out w1 hb1) (by decide) (by decide) (by decide) (by decide)); have hWw : Wk B w w2 := (Wk.of_below (bW.out _ hb1)).trans hW2; have hpb2 := hW2.blk hpb (by decide) (by decide) (by decide) (by decide); obtain ⟨p0, p1, p2, p3, ppf⟩ := pt_cells hpb2; have pf0 := ppf 0; have pf1 := ppf 1; have pf2 := ppf 2; have pf3 := ppf 3
          refine hK.out _ _ (by first | go_keep | (refine ⟨?_, ?_⟩ <;> assumption)) (fun hHeld => ?_)
          clear hK K
          try go_frame
          refine wpAnyH_take (i := 9) (oi := ⟨some 20, _, _, _, _, _⟩) (v := ?_) rfl (by kernel_rfl) (by kernel_rfl) (by kernel_rfl) (fun _ _ _ h => h) (Or.inl ⟨by rfl, ?_⟩) (by assumption) ?_
          rotate_left
          · intro w hSw; (try dsimp only at hSw); go_simp <;> (try with_reducible rfl)
          go_frame
          refine wpAnyH_take (i := 10) (oi := ⟨some 30, _, _, _, _, _⟩) (v := ?_) rfl (by kernel_rfl) (by kernel_rfl) (by kernel_rfl) (fun _ _ _ h => h) (Or.inl ⟨by rfl, ?_⟩) (by assumption) ?_
          rotate_left
          · intro w hSw; (try dsimp only at hSw); go_simp <;> (try with_reducible rfl)
          go_frame
          refine wpAnyH_take (i := 11) (oi := ⟨some 31, _, _, _, _, _⟩) (v := ?_) rfl (by kernel_rfl) (by kernel_rfl) (by kernel_rfl) (fun _ _ _ h => h) (Or.inl ⟨by rfl, ?_⟩) (by assumption) ?_
          rotate_left
          · intro w hSw; (try dsimp only at hSw); go_simp <;> (try with_reducible rfl)
          go_frame
          refine wpAnyH_ready (rs := [13]) (by kernel_rfl) (by simp) ?_
          refine AllReadyH.cons rfl (fun K hK => ?_) AllReadyH.nil
          go_simp
          refine hK.out _ _ (by first | go_keep | (refine ⟨?_, ?_⟩ <;> assumption)) (fun hHeld => ?_)
          clear hK K
          refine wpAnyH_take (i := 14) (oi := ⟨some 6, _, _, _, _, _⟩) (v := ?_) rfl (by kernel_rfl) (by kernel_rfl) (by kernel_rfl) (fun _ _ _ h => h) (Or.inl ⟨by rfl, ?_⟩) (by assumption) ?_
          rotate_left
          · intro w hSw; (try dsimp only at hSw); go_simp <;> (try with_reducible rfl)
          go_frame
          refine wpAnyH_done (by kernel_rfl) ?_ _
          go_wp2_with fail
          go_meet
          case rel => exact ⟨W0.heap.size + 1, rfl, rfl, (pt4 hpb2 _ _ _ _).1, wk_pt hWw (Nat.le_succ_of_le hbw0.out.size) (pt4 hpb2 _ _ _ _).2, vd_pt hD2 hpb2 (Nat.le_trans hBw.out (Nat.le_succ_of_le hbw0.out.size)) (pt4 hpb2 _ _ _ _).2, ((pt4 hpb2 _ _ _ _).2.block _ (cell_lt u0) (Ne.symm nw1)).trans (hW2.blk (HA.out _ hb1) (by decide) (by decide) (by decide) (by decide)), (Nat.le_succ_of_le hbw0.out.size)⟩
      · skip
        go_simp
        refine hK.out _ _ (by first | go_keep | (refine ⟨?_, ?_⟩ <;> assumption)) (fun hHeld => ?_)
        clear hK K
        refine wpAnyH_ready (rs := [4]) (by kernel_rfl) (by simp) ?_
        refine AllReadyH.cons rfl (fun K hK => ?_) AllReadyH.nil
        go_simp
        refine hK.out _ _ (by first | go_keep | (refine ⟨?_, ?_⟩ <;> assumption)) (fun hHeld => ?_)
        clear hK K
        refine wpAnyH_ready (rs := [7]) (by kernel_rfl) (by simp) ?_
        refine AllReadyH.cons rfl (fun K hK => ?_) AllReadyH.nil
        refine step_u8gb (w0 := W0) (B := W0.heap.size) (w := ((W0.alloc (.cells #[.int .i64 0, .int .i64 0, .int .i64 0, .int .u32 0] 42)).alloc (.cells #[] 5)).drew) (by rfl) _ _ (by rfl) _ 0 [] (by rfl) (show World.ownsRow ((W0.alloc (.cells #[.int .i64 0, .int .i64 0, .int .i64 0, .int .u32 0] 42)).alloc (.cells #[] 5)).drew W0.heap.size 5 1 (.slice (some ⟨W0.heap.size + 1, 0, none⟩) 0 0) 0 (kcells .u8 []) from (by have := (World.ownsRow_made (base := W0.heap.size) (e := 5) (size := 1) (W0.alloc (.cells #[.int .i64 0, .int .i64 0, .int .i64 0, .int .u32 0] 42)) #[] 0 (by simp) (by decide) (by simp)); rw [World.size_alloc] at this; exact this)) ba bn bc bs (by rfl) (HVA.out.1.below (hbw0.out.trans (hbPE.drew.mono hbw0.out.size)) (Nat.le_refl _)) HVA.out.2.1 (by have := HBZ.out; omega) hbPE.drew (by simp <;> omega) ?_; intro A1 C1 w1 ho1 hb1 _ hg1; rw [Nat.zero_add, List.nil_append] at ho1; rw [Nat.zero_add]; obtain ⟨y0, y1, y2, y3, y4, yf⟩ := world_cells (hblk.out w1 (bW.out _ hb1)); obtain ⟨m0, m1, m2, m3, m4, m5, m6⟩ := act_cells (HA.out w1 hb1); have hpb : w1.heap[W0.heap.size]? = some (.cells #[.int .i64 0, .int .i64 0, .int .i64 0, .int .u32 0] 42 (0, 0)) := (hg1.block _ (by simp; omega) (by simp [Value.ownBlock])).trans pPE
        refine hK.out _ _ (by first | go_keep | (refine ⟨?_, ?_⟩ <;> assumption)) (fun hHeld => ?_)
        clear hK K
        try go_frame
        refine wpAnyH_ready (rs := [8]) (by kernel_rfl) (by simp) ?_
        refine AllReadyH.cons rfl (fun K hK => ?_) AllReadyH.nil
        go_simp; go_at_call 14; refine (hput w1 A1 C1 (bW.out _ hb1) (ho1.mono hbw0.out.size)).mono ?_; rintro e w2 ⟨rfl, hD2, hW2⟩; obtain ⟨v0, v1, v2, v3, v4, vf⟩ := world_cells (hW2.blk (hblk.out w1 (bW.out _ hb1)) (by decide) (by decide) (by decide) (by decide)); obtain ⟨u0, u1, u2, u3, u4, u5, u6⟩ := act_cells (hW2.blk (HA.out w1 hb1) (by decide) (by decide) (by decide) (by decide)); have hWw : Wk B w w2 := (Wk.of_below (bW.out _ hb1)).trans hW2; have hpb2 := hW2.blk hpb (by decide) (by decide) (by decide) (by decide); obtain ⟨p0, p1, p2, p3, ppf⟩ := pt_cells hpb2; have pf0 := ppf 0; have pf1 := ppf 1; have pf2 := ppf 2; have pf3 := ppf 3
        refine hK.out _ _ (by first | go_keep | (refine ⟨?_, ?_⟩ <;> assumption)) (fun hHeld => ?_)
        clear hK K
        try go_frame
        refine wpAnyH_take (i := 9) (oi := ⟨some 20, _, _, _, _, _⟩) (v := ?_) rfl (by kernel_rfl) (by kernel_rfl) (by kernel_rfl) (fun _ _ _ h => h) (Or.inl ⟨by rfl, ?_⟩) (by assumption) ?_
        rotate_left
        · intro w hSw; (try dsimp only at hSw); go_simp <;> (try with_reducible rfl)
        go_frame
        refine wpAnyH_take (i := 10) (oi := ⟨some 30, _, _, _, _, _⟩) (v := ?_) rfl (by kernel_rfl) (by kernel_rfl) (by kernel_rfl) (fun _ _ _ h => h) (Or.inl ⟨by rfl, ?_⟩) (by assumption) ?_
        rotate_left
        · intro w hSw; (try dsimp only at hSw); go_simp <;> (try with_reducible rfl)
        go_frame
        refine wpAnyH_take (i := 11) (oi := ⟨some 31, _, _, _, _, _⟩) (v := ?_) rfl (by kernel_rfl) (by kernel_rfl) (by kernel_rfl) (fun _ _ _ h => h) (Or.inl ⟨by rfl, ?_⟩) (by assumption) ?_
        rotate_left
        · intro w hSw; (try dsimp only at hSw); go_simp <;> (try with_reducible rfl)
        go_frame
        refine wpAnyH_ready (rs := [13]) (by kernel_rfl) (by simp) ?_
        refine AllReadyH.cons rfl (fun K hK => ?_) AllReadyH.nil
        go_simp
        refine hK.out _ _ (by first | go_keep | (refine ⟨?_, ?_⟩ <;> assumption)) (fun hHeld => ?_)
        clear hK K
        refine wpAnyH_take (i := 14) (oi := ⟨some 6, _, _, _, _, _⟩) (v := ?_) rfl (by kernel_rfl) (by kernel_rfl) (by kernel_rfl) (fun _ _ _ h => h) (Or.inl ⟨by rfl, ?_⟩) (by assumption) ?_
        rotate_left
        · intro w hSw; (try dsimp only at hSw); go_simp <;> (try with_reducible rfl)
        go_frame
        refine wpAnyH_done (by kernel_rfl) ?_ _
        go_wp2_with fail
        go_meet
        case rel => exact ⟨W0.heap.size, rfl, rfl, (pt4 hpb2 _ _ _ _).1, wk_pt hWw hbw0.out.size (pt4 hpb2 _ _ _ _).2, vd_pt hD2 hpb2 (Nat.le_trans hBw.out hbw0.out.size) (pt4 hpb2 _ _ _ _).2, ((pt4 hpb2 _ _ _ _).2.block _ (cell_lt u0) (Ne.symm nw0)).trans (hW2.blk (HA.out _ hb1) (by decide) (by decide) (by decide) (by decide)), hbw0.out.size⟩
  case rest =>
    obtain ⟨G, rfl, rfl, hG, hWk, hVD, hact, hGN⟩ := hcut
    have hbk : Below B w wc := hWk.out.below hBw.out
    have HLO : Hid (w.heap.size ≤ wc.heap.size) := hbk.size
    have HC : Hid (∀ W, Below wc.heap.size wc W → W.heap[x]? = some (.cells #[.pointer (some ⟨p, 0, none⟩), .pointer (some ⟨m, 0, none⟩), .slice sa n sc, .slice va n vc, .slice ta tn tc] 37 (0, 0)) ∧ W.heap[w.heap.size]? = some (.cells #[.int .i64 0, .int .i64 yn, .slice ba bn bc, .int .i64 q0, .int .i64 q1, .int .i64 q2, .int .u32 (q3 : Nat)] 44 (0, 0)) ∧ RL B W sa n sc va vc segs vals ∧ B ≤ W.heap.size ∧ VAt W ⟨ba, bn, bc⟩ bs) := (fun W hW => by
      have h1 := hWk.out.blk HW.out.blk (by decide) (by decide) (by decide) (by decide)
      have h2 := HW.out.rl.wy (P := fun _ => False) (Wy.of_wk hBw.out hWk.out) (fun _ _ _ _ => id)
      have h3 : VAt wc ⟨ba, bn, bc⟩ bs := ⟨row_same HVA.out.1 fun k o e hn => hbk.block k (HLW.out k o e hn), HVA.out.2⟩
      exact ⟨(hW.block _ (heap_lt h1)).trans h1, (hW.block _ (heap_lt hact.out)).trans hact.out, h2.keep (Nat.le_trans hBw.out hbk.size) hW, Nat.le_trans (Nat.le_trans hBw.out hbk.size) hW.size, h3.below hW (Nat.le_refl _)⟩ : ∀ W, Below wc.heap.size wc W → _)
    clear k0 k1 k2 k3 k4 k5 k6 x0 x1 x2 x3 x4 hput
    obtain ⟨x0, x1, x2, x3, x4, xf⟩ := world_cells (HC.out wc (Below.refl _ _)).1
    obtain ⟨k0, k1, k2, k3, k4, k5, k6⟩ := act_cells (HC.out wc (Below.refl _ _)).2.1
    go_upto_region 4 with fail
    go_cut [7, 8, 9] (fun s7 s8 s9 wx => ∃ (G7 G8 : Nat) (V5 : Option Addr) (C5 : Nat), s7 = .pointer (some ⟨G7, 0, none⟩) ∧ s8 = .pointer (some ⟨G8, 0, none⟩) ∧ s9 = .int .i64 0 ∧ Hid (wx.heap[G7]? = some (.cells #[.slice sa n sc, .slice V5 n C5] 34 (0, 0))) ∧ Hid (wx.heap[G8]? = some (.cells #[.int .i64 P0, .int .i64 P1, .int .i64 P2, .int .u32 (P3 : Nat)] 42 (0, 0))) ∧ Hid (RL B wx sa n sc V5 C5 segs vals2) ∧ Hid (Below wc.heap.size wc wx) ∧ Hid (w.heap.size ≤ G8))
    case first =>
      obtain ⟨a0, a1, a2, a3, a4, _⟩ := world_cells (HC.out _ (below_alloc wc (.cells #[.slice none 0 0, .slice none 0 0] 34))).1
      obtain ⟨a5, a6, a7, a8, a9, a10, a11⟩ := act_cells (HC.out _ (below_alloc wc (.cells #[.slice none 0 0, .slice none 0 0] 34))).2.1
      obtain ⟨b0, b1, b2, b3, b4, _⟩ := world_cells (HC.out _ (below_alloc wc (.cells #[.int .i64 0, .int .i64 0, .int .i64 0, .int .u32 0] 42))).1
      obtain ⟨b5, b6, b7, b8, b9, b10, b11⟩ := act_cells (HC.out _ (below_alloc wc (.cells #[.int .i64 0, .int .i64 0, .int .i64 0, .int .u32 0] 42))).2.1
      obtain ⟨c0, c1, c2, c3, c4, _⟩ := world_cells (HC.out _ (bal (below_alloc wc (.cells #[.slice none 0 0, .slice none 0 0] 34)) (.cells #[.int .i64 0, .int .i64 0, .int .i64 0, .int .u32 0] 42))).1
      obtain ⟨c5, c6, c7, c8, c9, c10, c11⟩ := act_cells (HC.out _ (bal (below_alloc wc (.cells #[.slice none 0 0, .slice none 0 0] 34)) (.cells #[.int .i64 0, .int .i64 0, .int .i64 0, .int .u32 0] 42))).2.1
      obtain ⟨d0, d1, d2, d3, d4, _⟩ := world_cells (HC.out _ (bal (below_alloc wc (.cells #[.int .i64 0, .int .i64 0, .int .i64 0, .int .u32 0] 42)) (.cells #[.slice none 0 0, .slice none 0 0] 34))).1
      obtain ⟨d5, d6, d7, d8, d9, d10, d11⟩ := act_cells (HC.out _ (bal (below_alloc wc (.cells #[.int .i64 0, .int .i64 0, .int .i64 0, .int .u32 0] 42)) (.cells #[.slice none 0 0, .slice none 0 0] 34))).2.1
      have nx0 : wc.heap.size ≠ x := Nat.ne_of_gt (cell_lt x1)
      have nx1 : wc.heap.size + 1 ≠ x := Nat.ne_of_gt (Nat.lt_succ_of_lt (cell_lt x1))
      have nw0 : wc.heap.size ≠ w.heap.size := Nat.ne_of_gt (cell_lt k2)
      have nw1 : wc.heap.size + 1 ≠ w.heap.size := Nat.ne_of_gt (Nat.lt_succ_of_lt (cell_lt k2))
      refine wp_region_held_drew (S := (fun W => W.cell? ⟨x, 2, none⟩ = some (.slice sa n sc) ∧ W.cell? ⟨x, 3, none⟩ = some (.slice va n vc) ∧ W.cell? ⟨w.heap.size, 2, none⟩ = some (.slice ba bn bc))) (by kernel_rfl) (by first | go_keep | (refine ⟨?_, ?_, ?_⟩ <;> assumption)) (fun hHeld => ?_)
      refine wpAnyH_take (i := 0) (oi := ⟨some 33, _, _, _, _, _⟩) (v := ?_) rfl (by kernel_rfl) (by kernel_rfl) (by kernel_rfl) (fun _ _ _ h => h) (Or.inl ⟨by rfl, ?_⟩) (by assumption) ?_
      rotate_left
      · intro w hSw; (try dsimp only at hSw); go_simp <;> (try with_reducible rfl)
      go_frame
      refine wpAnyH_take (i := 1) (oi := ⟨some 34, _, _, _, _, _⟩) (v := ?_) rfl (by kernel_rfl) (by kernel_rfl) (by kernel_rfl) (fun _ _ _ h => h) (Or.inl ⟨by rfl, ?_⟩) (by assumption) ?_
      rotate_left
      · intro w hSw; (try dsimp only at hSw); go_simp <;> (try with_reducible rfl)
      go_frame
      refine wpAnyH_take (i := 2) (oi := ⟨some 35, _, _, _, _, _⟩) (v := ?_) rfl (by kernel_rfl) (by kernel_rfl) (by kernel_rfl) (fun _ _ _ h => h) (Or.inl ⟨by rfl, ?_⟩) (by assumption) ?_
      rotate_left
      · intro w hSw; (try dsimp only at hSw); go_simp <;> (try with_reducible rfl)
      go_frame
      refine wpAnyH_take (i := 3) (oi := ⟨some 36, _, _, _, _, _⟩) (v := ?_) rfl (by kernel_rfl) (by kernel_rfl) (by kernel_rfl) (fun _ _ _ h => h) (Or.inl ⟨by rfl, ?_⟩) (by assumption) ?_
      rotate_left
      · intro w hSw; (try dsimp only at hSw); go_simp <;> (try with_reducible rfl)
      go_frame
      refine wpAnyH_take (i := 4) (oi := ⟨some 37, _, _, _, _, _⟩) (v := ?_) rfl (by kernel_rfl) (by kernel_rfl) (by kernel_rfl) (fun _ _ _ h => h) (Or.inl ⟨by rfl, ?_⟩) (by assumption) ?_
      rotate_left
      · intro w hSw; (try dsimp only at hSw); go_simp <;> (try with_reducible rfl)
      go_frame
      refine wpAnyH_take (i := 5) (oi := ⟨some 38, _, _, _, _, _⟩) (v := ?_) rfl (by kernel_rfl) (by kernel_rfl) (by kernel_rfl) (fun _ _ _ h => h) (Or.inl ⟨by rfl, ?_⟩) (by assumption) ?_
      rotate_left
      · intro w hSw; (try dsimp only at hSw); go_simp <;> (try with_reducible rfl)
      go_frame
      refine wpAnyH_ready (rs := [6, 11, 12]) (by kernel_rfl) (by simp) ?_
      refine AllReadyH.cons rfl (fun K hK => ?_) (AllReadyH.cons rfl (fun K hK => ?_) (AllReadyH.cons rfl (fun K hK => ?_) AllReadyH.nil))
      · skip
        go_simp; go_at_call 28; refine (href wc.drew (HC.out _ (bd1 (Below.refl wc.heap.size wc))).2.2.1 (HC.out _ (bd1 (Below.refl wc.heap.size wc))).2.2.2.1 (HC.out _ (bd1 (Below.refl wc.heap.size wc))).2.2.2.2).mono ?_; rintro e w5 ⟨V5, C5, rfl, hR5, hb5'⟩; have hb5 : Below wc.heap.size wc w5 := (Below.refl wc.heap.size wc).trans ((below_of_drew hb5').mono (Below.refl wc.heap.size wc).size); obtain ⟨y0, y1, y2, y3, y4, yf⟩ := world_cells (HC.out w5 hb5).1; obtain ⟨m0, m1, m2, m3, m4, m5, m6⟩ := act_cells (HC.out w5 hb5).2.1; have nx5 : w5.heap.size ≠ x := Nat.ne_of_gt (cell_lt y2); have nx6 : w5.heap.size + 1 ≠ x := Nat.ne_of_gt (Nat.lt_succ_of_lt (cell_lt y2)); have nw5 : w5.heap.size ≠ w.heap.size := Nat.ne_of_gt (cell_lt m2); have nw6 : w5.heap.size + 1 ≠ w.heap.size := Nat.ne_of_gt (Nat.lt_succ_of_lt (cell_lt m2))
        refine hK.out _ _ (by first | go_keep | (refine ⟨?_, ?_, ?_⟩ <;> assumption)) (fun hHeld => ?_)
        clear hK K
        try go_frame
        refine wpAnyH_take (i := 7) (oi := ⟨some 32, _, _, _, _, _⟩) (v := ?_) rfl (by kernel_rfl) (by kernel_rfl) (by kernel_rfl) (fun _ _ _ h => h) (Or.inl ⟨by rfl, ?_⟩) (by assumption) ?_
        rotate_left
        · intro w hSw; (try dsimp only at hSw); go_simp <;> (try with_reducible rfl)
        go_frame
        refine wpAnyH_take (i := 8) (oi := ⟨some 40, _, _, _, _, _⟩) (v := ?_) rfl (by kernel_rfl) (by kernel_rfl) (by kernel_rfl) (fun _ _ _ h => h) (Or.inl ⟨by rfl, ?_⟩) (by assumption) ?_
        rotate_left
        · intro w hSw; (try dsimp only at hSw); go_simp <;> (try with_reducible rfl)
        go_frame
        refine wpAnyH_take (i := 9) (oi := ⟨some 41, _, _, _, _, _⟩) (v := ?_) rfl (by kernel_rfl) (by kernel_rfl) (by kernel_rfl) (fun _ _ _ h => h) (Or.inl ⟨by rfl, ?_⟩) (by assumption) ?_
        rotate_left
        · intro w hSw; (try dsimp only at hSw); go_simp <;> (try with_reducible rfl)
        go_frame
        refine wpAnyH_take (i := 10) (oi := ⟨some 42, _, _, _, _, _⟩) (v := ?_) rfl (by kernel_rfl) (by kernel_rfl) (by kernel_rfl) (fun _ _ _ h => h) (Or.inl ⟨by rfl, ?_⟩) (by assumption) ?_
        rotate_left
        · intro w hSw; (try dsimp only at hSw); go_simp <;> (try with_reducible rfl)
        go_frame
        refine wpAnyH_ready (rs := [11, 12]) (by kernel_rfl) (by simp) ?_
        refine AllReadyH.cons rfl (fun K hK => ?_) (AllReadyH.cons rfl (fun K hK => ?_) AllReadyH.nil)
        · skip
          go_simp
          refine hK.out _ _ (by first | go_keep | (refine ⟨?_, ?_, ?_⟩ <;> assumption)) (fun hHeld => ?_)
          clear hK K
          refine wpAnyH_ready (rs := [12]) (by kernel_rfl) (by simp) ?_
          refine AllReadyH.cons rfl (fun K hK => ?_) AllReadyH.nil
          go_simp
          refine hK.out _ _ (by first | go_keep | (refine ⟨?_, ?_, ?_⟩ <;> assumption)) (fun hHeld => ?_)
          clear hK K
          refine wpAnyH_ready (rs := [13]) (by kernel_rfl) (by simp) ?_
          refine AllReadyH.cons rfl (fun K hK => ?_) AllReadyH.nil
          go_simp
          refine hK.out _ _ (by first | go_keep | (refine ⟨?_, ?_, ?_⟩ <;> assumption)) (fun hHeld => ?_)
          clear hK K
          refine wpAnyH_ready (rs := [14]) (by kernel_rfl) (by simp) ?_
          refine AllReadyH.cons rfl (fun K hK => ?_) AllReadyH.nil
          go_simp
          refine hK.out _ _ (by first | go_keep | (refine ⟨?_, ?_, ?_⟩ <;> assumption)) (fun hHeld => ?_)
          clear hK K
          refine wpAnyH_take (i := 15) (oi := ⟨some 9, _, _, _, _, _⟩) (v := ?_) rfl (by kernel_rfl) (by kernel_rfl) (by kernel_rfl) (fun _ _ _ h => h) (Or.inl ⟨by rfl, ?_⟩) (by assumption) ?_
          rotate_left
          · intro w hSw; (try dsimp only at hSw); go_simp <;> (try with_reducible rfl)
          go_frame
          refine wpAnyH_done (by kernel_rfl) ?_ _
          go_wp2_with fail
          go_meet
          case rel =>
            exact ⟨w5.heap.size, w5.heap.size + 1, V5, C5, rfl, rfl, rfl, ((below_alloc (w5.alloc (.cells #[.slice sa n sc, .slice V5 n C5] 34)) (.cells #[.int .i64 P0, .int .i64 P1, .int .i64 P2, .int .u32 (P3 : Nat)] 42)).block _ (by simp)).trans (heap_alloc_new w5 _), heap_alloc_next w5 _ _, ((hR5.keep (Nat.le_trans (HC.out wc (Below.refl wc.heap.size wc)).2.2.2.1 hb5.size) (below_alloc w5 (.cells #[.slice sa n sc, .slice V5 n C5] 34))).keep (Nat.le_trans (HC.out wc (Below.refl wc.heap.size wc)).2.2.2.1 (bal hb5 _).size) (below_alloc _ _)), bal (bal hb5 _) _, (show w.heap.size ≤ _ by have := HLO.out; have := hb5.size; omega)⟩
        · skip
          go_simp
          refine hK.out _ _ (by first | go_keep | (refine ⟨?_, ?_, ?_⟩ <;> assumption)) (fun hHeld => ?_)
          clear hK K
          refine wpAnyH_ready (rs := [11]) (by kernel_rfl) (by simp) ?_
          refine AllReadyH.cons rfl (fun K hK => ?_) AllReadyH.nil
          go_simp
          refine hK.out _ _ (by first | go_keep | (refine ⟨?_, ?_, ?_⟩ <;> assumption)) (fun hHeld => ?_)
          clear hK K
          refine wpAnyH_ready (rs := [13]) (by kernel_rfl) (by simp) ?_
          refine AllReadyH.cons rfl (fun K hK => ?_) AllReadyH.nil
          go_simp
          refine hK.out _ _ (by first | go_keep | (refine ⟨?_, ?_, ?_⟩ <;> assumption)) (fun hHeld => ?_)
          clear hK K
          refine wpAnyH_ready (rs := [14]) (by kernel_rfl) (by simp) ?_
          refine AllReadyH.cons rfl (fun K hK => ?_) AllReadyH.nil
          go_simp
          refine hK.out _ _ (by first | go_keep | (refine ⟨?_, ?_, ?_⟩ <;> assumption)) (fun hHeld => ?_)
          clear hK K
          refine wpAnyH_take (i := 15) (oi := ⟨some 9, _, _, _, _, _⟩) (v := ?_) rfl (by kernel_rfl) (by kernel_rfl) (by kernel_rfl) (fun _ _ _ h => h) (Or.inl ⟨by rfl, ?_⟩) (by assumption) ?_
          rotate_left
          · intro w hSw; (try dsimp only at hSw); go_simp <;> (try with_reducible rfl)
          go_frame
          refine wpAnyH_done (by kernel_rfl) ?_ _
          go_wp2_with fail
          go_meet
          case rel =>
            exact ⟨w5.heap.size + 1, w5.heap.size, V5, C5, rfl, rfl, rfl, heap_alloc_next w5 _ _, ((below_alloc (w5.alloc (.cells #[.int .i64 P0, .int .i64 P1, .int .i64 P2, .int .u32 (P3 : Nat)] 42)) (.cells #[.slice sa n sc, .slice V5 n C5] 34)).block _ (by simp)).trans (heap_alloc_new w5 _), ((hR5.keep (Nat.le_trans (HC.out wc (Below.refl wc.heap.size wc)).2.2.2.1 hb5.size) (below_alloc w5 (.cells #[.int .i64 P0, .int .i64 P1, .int .i64 P2, .int .u32 (P3 : Nat)] 42))).keep (Nat.le_trans (HC.out wc (Below.refl wc.heap.size wc)).2.2.2.1 (bal hb5 _).size) (below_alloc _ _)), bal (bal hb5 _) _, (show w.heap.size ≤ _ by have := HLO.out; have := hb5.size; omega)⟩
      · skip
        go_simp
        refine hK.out _ _ (by first | go_keep | (refine ⟨?_, ?_, ?_⟩ <;> assumption)) (fun hHeld => ?_)
        clear hK K
        refine wpAnyH_ready (rs := [6, 12]) (by kernel_rfl) (by simp) ?_
        refine AllReadyH.cons rfl (fun K hK => ?_) (AllReadyH.cons rfl (fun K hK => ?_) AllReadyH.nil)
        · skip
          go_simp; go_at_call 28; refine (href (wc.alloc (.cells #[.slice none 0 0, .slice none 0 0] 34)).drew (HC.out _ (bd1 (bal (Below.refl wc.heap.size wc) (.cells #[.slice none 0 0, .slice none 0 0] 34)))).2.2.1 (HC.out _ (bd1 (bal (Below.refl wc.heap.size wc) (.cells #[.slice none 0 0, .slice none 0 0] 34)))).2.2.2.1 (HC.out _ (bd1 (bal (Below.refl wc.heap.size wc) (.cells #[.slice none 0 0, .slice none 0 0] 34)))).2.2.2.2).mono ?_; rintro e w5 ⟨V5, C5, rfl, hR5, hb5'⟩; have hb5 : Below wc.heap.size wc w5 := (bal (Below.refl wc.heap.size wc) (.cells #[.slice none 0 0, .slice none 0 0] 34)).trans ((below_of_drew hb5').mono (bal (Below.refl wc.heap.size wc) (.cells #[.slice none 0 0, .slice none 0 0] 34)).size); obtain ⟨y0, y1, y2, y3, y4, yf⟩ := world_cells (HC.out w5 hb5).1; obtain ⟨m0, m1, m2, m3, m4, m5, m6⟩ := act_cells (HC.out w5 hb5).2.1; have lb5 : w5.heap[wc.heap.size]? = some (.cells #[.slice none 0 0, .slice none 0 0] 34 (0, 0)) := ((below_of_drew hb5').block _ (by simp)).trans (heap_alloc_new wc _); obtain ⟨l0, l1, lf0, lf1⟩ := log_cells lb5; have lb6 := fun o => ((below_alloc w5 o).block _ (heap_lt lb5)).trans lb5; have l60 := fun o => (log_cells (lb6 o)).1; have l61 := fun o => (log_cells (lb6 o)).2.1; have l62 := fun o => (log_cells (lb6 o)).2.2.1; have l63 := fun o => (log_cells (lb6 o)).2.2.2; have nx5 : w5.heap.size ≠ x := Nat.ne_of_gt (cell_lt y2); have nx6 : w5.heap.size + 1 ≠ x := Nat.ne_of_gt (Nat.lt_succ_of_lt (cell_lt y2)); have nw5 : w5.heap.size ≠ w.heap.size := Nat.ne_of_gt (cell_lt m2); have nw6 : w5.heap.size + 1 ≠ w.heap.size := Nat.ne_of_gt (Nat.lt_succ_of_lt (cell_lt m2)); have ng : wc.heap.size ≠ w5.heap.size := Nat.ne_of_lt (heap_lt lb5)
          refine hK.out _ _ (by first | go_keep | (refine ⟨?_, ?_, ?_⟩ <;> assumption)) (fun hHeld => ?_)
          clear hK K
          try go_frame
          refine wpAnyH_take (i := 7) (oi := ⟨some 32, _, _, _, _, _⟩) (v := ?_) rfl (by kernel_rfl) (by kernel_rfl) (by kernel_rfl) (fun _ _ _ h => h) (Or.inl ⟨by rfl, ?_⟩) (by assumption) ?_
          rotate_left
          · intro w hSw; (try dsimp only at hSw); go_simp <;> (try with_reducible rfl)
          go_frame
          refine wpAnyH_take (i := 8) (oi := ⟨some 40, _, _, _, _, _⟩) (v := ?_) rfl (by kernel_rfl) (by kernel_rfl) (by kernel_rfl) (fun _ _ _ h => h) (Or.inl ⟨by rfl, ?_⟩) (by assumption) ?_
          rotate_left
          · intro w hSw; (try dsimp only at hSw); go_simp <;> (try with_reducible rfl)
          go_frame
          refine wpAnyH_take (i := 9) (oi := ⟨some 41, _, _, _, _, _⟩) (v := ?_) rfl (by kernel_rfl) (by kernel_rfl) (by kernel_rfl) (fun _ _ _ h => h) (Or.inl ⟨by rfl, ?_⟩) (by assumption) ?_
          rotate_left
          · intro w hSw; (try dsimp only at hSw); go_simp <;> (try with_reducible rfl)
          go_frame
          refine wpAnyH_take (i := 10) (oi := ⟨some 42, _, _, _, _, _⟩) (v := ?_) rfl (by kernel_rfl) (by kernel_rfl) (by kernel_rfl) (fun _ _ _ h => h) (Or.inl ⟨by rfl, ?_⟩) (by assumption) ?_
          rotate_left
          · intro w hSw; (try dsimp only at hSw); go_simp <;> (try with_reducible rfl)
          go_frame
          refine wpAnyH_ready (rs := [12]) (by kernel_rfl) (by simp) ?_
          refine AllReadyH.cons rfl (fun K hK => ?_) AllReadyH.nil
          go_simp
          refine hK.out _ _ (by first | go_keep | (refine ⟨?_, ?_, ?_⟩ <;> assumption)) (fun hHeld => ?_)
          clear hK K
          refine wpAnyH_ready (rs := [13]) (by kernel_rfl) (by simp) ?_
          refine AllReadyH.cons rfl (fun K hK => ?_) AllReadyH.nil
          go_simp
          refine hK.out _ _ (by first | go_keep | (refine ⟨?_, ?_, ?_⟩ <;> assumption)) (fun hHeld => ?_)
          clear hK K
          refine wpAnyH_ready (rs := [14]) (by kernel_rfl) (by simp) ?_
          refine AllReadyH.cons rfl (fun K hK => ?_) AllReadyH.nil
          go_simp
          refine hK.out _ _ (by first | go_keep | (refine ⟨?_, ?_, ?_⟩ <;> assumption)) (fun hHeld => ?_)
          clear hK K
          refine wpAnyH_take (i := 15) (oi := ⟨some 9, _, _, _, _, _⟩) (v := ?_) rfl (by kernel_rfl) (by kernel_rfl) (by kernel_rfl) (fun _ _ _ h => h) (Or.inl ⟨by rfl, ?_⟩) (by assumption) ?_
          rotate_left
          · intro w hSw; (try dsimp only at hSw); go_simp <;> (try with_reducible rfl)
          go_frame
          refine wpAnyH_done (by kernel_rfl) ?_ _
          go_wp2_with fail
          go_meet
          case rel =>
            obtain ⟨q7, q8, qR, qb⟩ := pb2 (lb6 (.cells #[.int .i64 0, .int .i64 0, .int .i64 0, .int .u32 0] 42)) (heap_alloc_new w5 (.cells #[.int .i64 0, .int .i64 0, .int .i64 0, .int .u32 0] 42)) (hR5.keep (Nat.le_trans (HC.out wc (Below.refl wc.heap.size wc)).2.2.2.1 hb5.size) (below_alloc w5 _)) (bal hb5 (.cells #[.int .i64 0, .int .i64 0, .int .i64 0, .int .u32 0] 42)) (HC.out wc (Below.refl wc.heap.size wc)).2.2.2.1 (Nat.le_refl _) (.slice sa n sc) (.slice V5 n C5)
            obtain ⟨t7, t8, tR, tb⟩ := pb4 q7 q8 qR qb (HC.out wc (Below.refl wc.heap.size wc)).2.2.2.1 hb5.size (.int .i64 P0) (.int .i64 P1) (.int .i64 P2) (.int .u32 (P3 : Nat))
            exact ⟨wc.heap.size, w5.heap.size, V5, C5, rfl, rfl, rfl, t7, t8, tR, tb, (show w.heap.size ≤ _ by have := HLO.out; have := hb5.size; omega)⟩
        · skip
          go_simp
          refine hK.out _ _ (by first | go_keep | (refine ⟨?_, ?_, ?_⟩ <;> assumption)) (fun hHeld => ?_)
          clear hK K
          refine wpAnyH_ready (rs := [6]) (by kernel_rfl) (by simp) ?_
          refine AllReadyH.cons rfl (fun K hK => ?_) AllReadyH.nil
          go_simp; go_at_call 28; refine (href ((wc.alloc (.cells #[.slice none 0 0, .slice none 0 0] 34)).alloc (.cells #[.int .i64 0, .int .i64 0, .int .i64 0, .int .u32 0] 42)).drew (HC.out _ (bd1 (bal (bal (Below.refl wc.heap.size wc) (.cells #[.slice none 0 0, .slice none 0 0] 34)) (.cells #[.int .i64 0, .int .i64 0, .int .i64 0, .int .u32 0] 42)))).2.2.1 (HC.out _ (bd1 (bal (bal (Below.refl wc.heap.size wc) (.cells #[.slice none 0 0, .slice none 0 0] 34)) (.cells #[.int .i64 0, .int .i64 0, .int .i64 0, .int .u32 0] 42)))).2.2.2.1 (HC.out _ (bd1 (bal (bal (Below.refl wc.heap.size wc) (.cells #[.slice none 0 0, .slice none 0 0] 34)) (.cells #[.int .i64 0, .int .i64 0, .int .i64 0, .int .u32 0] 42)))).2.2.2.2).mono ?_; rintro e w5 ⟨V5, C5, rfl, hR5, hb5'⟩; have hb5 : Below wc.heap.size wc w5 := (bal (bal (Below.refl wc.heap.size wc) (.cells #[.slice none 0 0, .slice none 0 0] 34)) (.cells #[.int .i64 0, .int .i64 0, .int .i64 0, .int .u32 0] 42)).trans ((below_of_drew hb5').mono (bal (bal (Below.refl wc.heap.size wc) (.cells #[.slice none 0 0, .slice none 0 0] 34)) (.cells #[.int .i64 0, .int .i64 0, .int .i64 0, .int .u32 0] 42)).size); obtain ⟨y0, y1, y2, y3, y4, yf⟩ := world_cells (HC.out w5 hb5).1; obtain ⟨m0, m1, m2, m3, m4, m5, m6⟩ := act_cells (HC.out w5 hb5).2.1; have lb5 : w5.heap[wc.heap.size]? = some (.cells #[.slice none 0 0, .slice none 0 0] 34 (0, 0)) := ((below_of_drew hb5').block _ (by simp; omega)).trans (((below_alloc (wc.alloc (.cells #[.slice none 0 0, .slice none 0 0] 34)) (.cells #[.int .i64 0, .int .i64 0, .int .i64 0, .int .u32 0] 42)).block _ (by simp)).trans (heap_alloc_new wc _)); have pb5 : w5.heap[wc.heap.size + 1]? = some (.cells #[.int .i64 0, .int .i64 0, .int .i64 0, .int .u32 0] 42 (0, 0)) := ((below_of_drew hb5').block _ (by simp)).trans (by have := heap_alloc_new (wc.alloc (.cells #[.slice none 0 0, .slice none 0 0] 34)) (.cells #[.int .i64 0, .int .i64 0, .int .i64 0, .int .u32 0] 42); rw [World.size_alloc] at this; exact this); obtain ⟨l0, l1, lf0, lf1⟩ := log_cells lb5; obtain ⟨p0, p1, p2, p3, ppf⟩ := pt_cells pb5; have pf0 := ppf 0; have pf1 := ppf 1; have pf2 := ppf 2; have pf3 := ppf 3; have nx5 : w5.heap.size ≠ x := Nat.ne_of_gt (cell_lt y2); have nx6 : w5.heap.size + 1 ≠ x := Nat.ne_of_gt (Nat.lt_succ_of_lt (cell_lt y2)); have nw5 : w5.heap.size ≠ w.heap.size := Nat.ne_of_gt (cell_lt m2); have nw6 : w5.heap.size + 1 ≠ w.heap.size := Nat.ne_of_gt (Nat.lt_succ_of_lt (cell_lt m2))
          refine hK.out _ _ (by first | go_keep | (refine ⟨?_, ?_, ?_⟩ <;> assumption)) (fun hHeld => ?_)
          clear hK K
          try go_frame
          refine wpAnyH_take (i := 7) (oi := ⟨some 32, _, _, _, _, _⟩) (v := ?_) rfl (by kernel_rfl) (by kernel_rfl) (by kernel_rfl) (fun _ _ _ h => h) (Or.inl ⟨by rfl, ?_⟩) (by assumption) ?_
          rotate_left
          · intro w hSw; (try dsimp only at hSw); go_simp <;> (try with_reducible rfl)
          go_frame
          refine wpAnyH_take (i := 8) (oi := ⟨some 40, _, _, _, _, _⟩) (v := ?_) rfl (by kernel_rfl) (by kernel_rfl) (by kernel_rfl) (fun _ _ _ h => h) (Or.inl ⟨by rfl, ?_⟩) (by assumption) ?_
          rotate_left
          · intro w hSw; (try dsimp only at hSw); go_simp <;> (try with_reducible rfl)
          go_frame
          refine wpAnyH_take (i := 9) (oi := ⟨some 41, _, _, _, _, _⟩) (v := ?_) rfl (by kernel_rfl) (by kernel_rfl) (by kernel_rfl) (fun _ _ _ h => h) (Or.inl ⟨by rfl, ?_⟩) (by assumption) ?_
          rotate_left
          · intro w hSw; (try dsimp only at hSw); go_simp <;> (try with_reducible rfl)
          go_frame
          refine wpAnyH_take (i := 10) (oi := ⟨some 42, _, _, _, _, _⟩) (v := ?_) rfl (by kernel_rfl) (by kernel_rfl) (by kernel_rfl) (fun _ _ _ h => h) (Or.inl ⟨by rfl, ?_⟩) (by assumption) ?_
          rotate_left
          · intro w hSw; (try dsimp only at hSw); go_simp <;> (try with_reducible rfl)
          go_frame
          refine wpAnyH_ready (rs := [13]) (by kernel_rfl) (by simp) ?_
          refine AllReadyH.cons rfl (fun K hK => ?_) AllReadyH.nil
          go_simp
          refine hK.out _ _ (by first | go_keep | (refine ⟨?_, ?_, ?_⟩ <;> assumption)) (fun hHeld => ?_)
          clear hK K
          refine wpAnyH_ready (rs := [14]) (by kernel_rfl) (by simp) ?_
          refine AllReadyH.cons rfl (fun K hK => ?_) AllReadyH.nil
          go_simp
          refine hK.out _ _ (by first | go_keep | (refine ⟨?_, ?_, ?_⟩ <;> assumption)) (fun hHeld => ?_)
          clear hK K
          refine wpAnyH_take (i := 15) (oi := ⟨some 9, _, _, _, _, _⟩) (v := ?_) rfl (by kernel_rfl) (by kernel_rfl) (by kernel_rfl) (fun _ _ _ h => h) (Or.inl ⟨by rfl, ?_⟩) (by assumption) ?_
          rotate_left
          · intro w hSw; (try dsimp only at hSw); go_simp <;> (try with_reducible rfl)
          go_frame
          refine wpAnyH_done (by kernel_rfl) ?_ _
          go_wp2_with fail
          go_meet
          case rel =>
            obtain ⟨q7, q8, qR, qb⟩ := pb2 lb5 pb5 hR5 hb5 (HC.out wc (Below.refl wc.heap.size wc)).2.2.2.1 (Nat.le_refl _) (.slice sa n sc) (.slice V5 n C5)
            obtain ⟨t7, t8, tR, tb⟩ := pb4 q7 q8 qR qb (HC.out wc (Below.refl wc.heap.size wc)).2.2.2.1 (Nat.le_succ _) (.int .i64 P0) (.int .i64 P1) (.int .i64 P2) (.int .u32 (P3 : Nat))
            exact ⟨wc.heap.size, wc.heap.size + 1, V5, C5, rfl, rfl, rfl, t7, t8, tR, tb, (show w.heap.size ≤ _ by have := HLO.out; have := hb5.size; omega)⟩
      · skip
        go_simp
        refine hK.out _ _ (by first | go_keep | (refine ⟨?_, ?_, ?_⟩ <;> assumption)) (fun hHeld => ?_)
        clear hK K
        refine wpAnyH_ready (rs := [6, 11]) (by kernel_rfl) (by simp) ?_
        refine AllReadyH.cons rfl (fun K hK => ?_) (AllReadyH.cons rfl (fun K hK => ?_) AllReadyH.nil)
        · skip
          go_simp; go_at_call 28; refine (href (wc.alloc (.cells #[.int .i64 0, .int .i64 0, .int .i64 0, .int .u32 0] 42)).drew (HC.out _ (bd1 (bal (Below.refl wc.heap.size wc) (.cells #[.int .i64 0, .int .i64 0, .int .i64 0, .int .u32 0] 42)))).2.2.1 (HC.out _ (bd1 (bal (Below.refl wc.heap.size wc) (.cells #[.int .i64 0, .int .i64 0, .int .i64 0, .int .u32 0] 42)))).2.2.2.1 (HC.out _ (bd1 (bal (Below.refl wc.heap.size wc) (.cells #[.int .i64 0, .int .i64 0, .int .i64 0, .int .u32 0] 42)))).2.2.2.2).mono ?_; rintro e w5 ⟨V5, C5, rfl, hR5, hb5'⟩; have hb5 : Below wc.heap.size wc w5 := (bal (Below.refl wc.heap.size wc) (.cells #[.int .i64 0, .int .i64 0, .int .i64 0, .int .u32 0] 42)).trans ((below_of_drew hb5').mono (bal (Below.refl wc.heap.size wc) (.cells #[.int .i64 0, .int .i64 0, .int .i64 0, .int .u32 0] 42)).size); obtain ⟨y0, y1, y2, y3, y4, yf⟩ := world_cells (HC.out w5 hb5).1; obtain ⟨m0, m1, m2, m3, m4, m5, m6⟩ := act_cells (HC.out w5 hb5).2.1; have pb5 : w5.heap[wc.heap.size]? = some (.cells #[.int .i64 0, .int .i64 0, .int .i64 0, .int .u32 0] 42 (0, 0)) := ((below_of_drew hb5').block _ (by simp)).trans (heap_alloc_new wc _); obtain ⟨p0, p1, p2, p3, ppf⟩ := pt_cells pb5; have pf0 := ppf 0; have pf1 := ppf 1; have pf2 := ppf 2; have pf3 := ppf 3; have pb6 := fun o => ((below_alloc w5 o).block _ (heap_lt pb5)).trans pb5; have p60 := fun o => (pt_cells (pb6 o)).1; have p61 := fun o => (pt_cells (pb6 o)).2.1; have p62 := fun o => (pt_cells (pb6 o)).2.2.1; have p63 := fun o => (pt_cells (pb6 o)).2.2.2.1; have p64 := fun o => (pt_cells (pb6 o)).2.2.2.2 0; have p65 := fun o => (pt_cells (pb6 o)).2.2.2.2 1; have p66 := fun o => (pt_cells (pb6 o)).2.2.2.2 2; have p67 := fun o => (pt_cells (pb6 o)).2.2.2.2 3; have nx5 : w5.heap.size ≠ x := Nat.ne_of_gt (cell_lt y2); have nx6 : w5.heap.size + 1 ≠ x := Nat.ne_of_gt (Nat.lt_succ_of_lt (cell_lt y2)); have nw5 : w5.heap.size ≠ w.heap.size := Nat.ne_of_gt (cell_lt m2); have nw6 : w5.heap.size + 1 ≠ w.heap.size := Nat.ne_of_gt (Nat.lt_succ_of_lt (cell_lt m2)); have ng : wc.heap.size ≠ w5.heap.size := Nat.ne_of_lt (heap_lt pb5)
          refine hK.out _ _ (by first | go_keep | (refine ⟨?_, ?_, ?_⟩ <;> assumption)) (fun hHeld => ?_)
          clear hK K
          try go_frame
          refine wpAnyH_take (i := 7) (oi := ⟨some 32, _, _, _, _, _⟩) (v := ?_) rfl (by kernel_rfl) (by kernel_rfl) (by kernel_rfl) (fun _ _ _ h => h) (Or.inl ⟨by rfl, ?_⟩) (by assumption) ?_
          rotate_left
          · intro w hSw; (try dsimp only at hSw); go_simp <;> (try with_reducible rfl)
          go_frame
          refine wpAnyH_take (i := 8) (oi := ⟨some 40, _, _, _, _, _⟩) (v := ?_) rfl (by kernel_rfl) (by kernel_rfl) (by kernel_rfl) (fun _ _ _ h => h) (Or.inl ⟨by rfl, ?_⟩) (by assumption) ?_
          rotate_left
          · intro w hSw; (try dsimp only at hSw); go_simp <;> (try with_reducible rfl)
          go_frame
          refine wpAnyH_take (i := 9) (oi := ⟨some 41, _, _, _, _, _⟩) (v := ?_) rfl (by kernel_rfl) (by kernel_rfl) (by kernel_rfl) (fun _ _ _ h => h) (Or.inl ⟨by rfl, ?_⟩) (by assumption) ?_
          rotate_left
          · intro w hSw; (try dsimp only at hSw); go_simp <;> (try with_reducible rfl)
          go_frame
          refine wpAnyH_take (i := 10) (oi := ⟨some 42, _, _, _, _, _⟩) (v := ?_) rfl (by kernel_rfl) (by kernel_rfl) (by kernel_rfl) (fun _ _ _ h => h) (Or.inl ⟨by rfl, ?_⟩) (by assumption) ?_
          rotate_left
          · intro w hSw; (try dsimp only at hSw); go_simp <;> (try with_reducible rfl)
          go_frame
          refine wpAnyH_ready (rs := [11]) (by kernel_rfl) (by simp) ?_
          refine AllReadyH.cons rfl (fun K hK => ?_) AllReadyH.nil
          go_simp
          refine hK.out _ _ (by first | go_keep | (refine ⟨?_, ?_, ?_⟩ <;> assumption)) (fun hHeld => ?_)
          clear hK K
          refine wpAnyH_ready (rs := [13]) (by kernel_rfl) (by simp) ?_
          refine AllReadyH.cons rfl (fun K hK => ?_) AllReadyH.nil
          go_simp
          refine hK.out _ _ (by first | go_keep | (refine ⟨?_, ?_, ?_⟩ <;> assumption)) (fun hHeld => ?_)
          clear hK K
          refine wpAnyH_ready (rs := [14]) (by kernel_rfl) (by simp) ?_
          refine AllReadyH.cons rfl (fun K hK => ?_) AllReadyH.nil
          go_simp
          refine hK.out _ _ (by first | go_keep | (refine ⟨?_, ?_, ?_⟩ <;> assumption)) (fun hHeld => ?_)
          clear hK K
          refine wpAnyH_take (i := 15) (oi := ⟨some 9, _, _, _, _, _⟩) (v := ?_) rfl (by kernel_rfl) (by kernel_rfl) (by kernel_rfl) (fun _ _ _ h => h) (Or.inl ⟨by rfl, ?_⟩) (by assumption) ?_
          rotate_left
          · intro w hSw; (try dsimp only at hSw); go_simp <;> (try with_reducible rfl)
          go_frame
          refine wpAnyH_done (by kernel_rfl) ?_ _
          go_wp2_with fail
          go_meet
          case rel =>
            obtain ⟨t7, t8, tR, tb⟩ := pb4 (heap_alloc_new w5 (.cells #[.slice sa n sc, .slice V5 n C5] 34)) (pb6 (.cells #[.slice sa n sc, .slice V5 n C5] 34)) (hR5.keep (Nat.le_trans (HC.out wc (Below.refl wc.heap.size wc)).2.2.2.1 hb5.size) (below_alloc w5 _)) (bal hb5 (.cells #[.slice sa n sc, .slice V5 n C5] 34)) (HC.out wc (Below.refl wc.heap.size wc)).2.2.2.1 (Nat.le_refl _) (.int .i64 P0) (.int .i64 P1) (.int .i64 P2) (.int .u32 (P3 : Nat))
            exact ⟨w5.heap.size, wc.heap.size, V5, C5, rfl, rfl, rfl, t7, t8, tR, tb, (show w.heap.size ≤ _ by have := HLO.out; have := hb5.size; omega)⟩
        · skip
          go_simp
          refine hK.out _ _ (by first | go_keep | (refine ⟨?_, ?_, ?_⟩ <;> assumption)) (fun hHeld => ?_)
          clear hK K
          refine wpAnyH_ready (rs := [6]) (by kernel_rfl) (by simp) ?_
          refine AllReadyH.cons rfl (fun K hK => ?_) AllReadyH.nil
          go_simp; go_at_call 28; refine (href ((wc.alloc (.cells #[.int .i64 0, .int .i64 0, .int .i64 0, .int .u32 0] 42)).alloc (.cells #[.slice none 0 0, .slice none 0 0] 34)).drew (HC.out _ (bd1 (bal (bal (Below.refl wc.heap.size wc) (.cells #[.int .i64 0, .int .i64 0, .int .i64 0, .int .u32 0] 42)) (.cells #[.slice none 0 0, .slice none 0 0] 34)))).2.2.1 (HC.out _ (bd1 (bal (bal (Below.refl wc.heap.size wc) (.cells #[.int .i64 0, .int .i64 0, .int .i64 0, .int .u32 0] 42)) (.cells #[.slice none 0 0, .slice none 0 0] 34)))).2.2.2.1 (HC.out _ (bd1 (bal (bal (Below.refl wc.heap.size wc) (.cells #[.int .i64 0, .int .i64 0, .int .i64 0, .int .u32 0] 42)) (.cells #[.slice none 0 0, .slice none 0 0] 34)))).2.2.2.2).mono ?_; rintro e w5 ⟨V5, C5, rfl, hR5, hb5'⟩; have hb5 : Below wc.heap.size wc w5 := (bal (bal (Below.refl wc.heap.size wc) (.cells #[.int .i64 0, .int .i64 0, .int .i64 0, .int .u32 0] 42)) (.cells #[.slice none 0 0, .slice none 0 0] 34)).trans ((below_of_drew hb5').mono (bal (bal (Below.refl wc.heap.size wc) (.cells #[.int .i64 0, .int .i64 0, .int .i64 0, .int .u32 0] 42)) (.cells #[.slice none 0 0, .slice none 0 0] 34)).size); obtain ⟨y0, y1, y2, y3, y4, yf⟩ := world_cells (HC.out w5 hb5).1; obtain ⟨m0, m1, m2, m3, m4, m5, m6⟩ := act_cells (HC.out w5 hb5).2.1; have pb5 : w5.heap[wc.heap.size]? = some (.cells #[.int .i64 0, .int .i64 0, .int .i64 0, .int .u32 0] 42 (0, 0)) := ((below_of_drew hb5').block _ (by simp; omega)).trans (((below_alloc (wc.alloc (.cells #[.int .i64 0, .int .i64 0, .int .i64 0, .int .u32 0] 42)) (.cells #[.slice none 0 0, .slice none 0 0] 34)).block _ (by simp)).trans (heap_alloc_new wc _)); have lb5 : w5.heap[wc.heap.size + 1]? = some (.cells #[.slice none 0 0, .slice none 0 0] 34 (0, 0)) := ((below_of_drew hb5').block _ (by simp)).trans (by have := heap_alloc_new (wc.alloc (.cells #[.int .i64 0, .int .i64 0, .int .i64 0, .int .u32 0] 42)) (.cells #[.slice none 0 0, .slice none 0 0] 34); rw [World.size_alloc] at this; exact this); obtain ⟨l0, l1, lf0, lf1⟩ := log_cells lb5; obtain ⟨p0, p1, p2, p3, ppf⟩ := pt_cells pb5; have pf0 := ppf 0; have pf1 := ppf 1; have pf2 := ppf 2; have pf3 := ppf 3; have nx5 : w5.heap.size ≠ x := Nat.ne_of_gt (cell_lt y2); have nx6 : w5.heap.size + 1 ≠ x := Nat.ne_of_gt (Nat.lt_succ_of_lt (cell_lt y2)); have nw5 : w5.heap.size ≠ w.heap.size := Nat.ne_of_gt (cell_lt m2); have nw6 : w5.heap.size + 1 ≠ w.heap.size := Nat.ne_of_gt (Nat.lt_succ_of_lt (cell_lt m2))
          refine hK.out _ _ (by first | go_keep | (refine ⟨?_, ?_, ?_⟩ <;> assumption)) (fun hHeld => ?_)
          clear hK K
          try go_frame
          refine wpAnyH_take (i := 7) (oi := ⟨some 32, _, _, _, _, _⟩) (v := ?_) rfl (by kernel_rfl) (by kernel_rfl) (by kernel_rfl) (fun _ _ _ h => h) (Or.inl ⟨by rfl, ?_⟩) (by assumption) ?_
          rotate_left
          · intro w hSw; (try dsimp only at hSw); go_simp <;> (try with_reducible rfl)
          go_frame
          refine wpAnyH_take (i := 8) (oi := ⟨some 40, _, _, _, _, _⟩) (v := ?_) rfl (by kernel_rfl) (by kernel_rfl) (by kernel_rfl) (fun _ _ _ h => h) (Or.inl ⟨by rfl, ?_⟩) (by assumption) ?_
          rotate_left
          · intro w hSw; (try dsimp only at hSw); go_simp <;> (try with_reducible rfl)
          go_frame
          refine wpAnyH_take (i := 9) (oi := ⟨some 41, _, _, _, _, _⟩) (v := ?_) rfl (by kernel_rfl) (by kernel_rfl) (by kernel_rfl) (fun _ _ _ h => h) (Or.inl ⟨by rfl, ?_⟩) (by assumption) ?_
          rotate_left
          · intro w hSw; (try dsimp only at hSw); go_simp <;> (try with_reducible rfl)
          go_frame
          refine wpAnyH_take (i := 10) (oi := ⟨some 42, _, _, _, _, _⟩) (v := ?_) rfl (by kernel_rfl) (by kernel_rfl) (by kernel_rfl) (fun _ _ _ h => h) (Or.inl ⟨by rfl, ?_⟩) (by assumption) ?_
          rotate_left
          · intro w hSw; (try dsimp only at hSw); go_simp <;> (try with_reducible rfl)
          go_frame
          refine wpAnyH_ready (rs := [13]) (by kernel_rfl) (by simp) ?_
          refine AllReadyH.cons rfl (fun K hK => ?_) AllReadyH.nil
          go_simp
          refine hK.out _ _ (by first | go_keep | (refine ⟨?_, ?_, ?_⟩ <;> assumption)) (fun hHeld => ?_)
          clear hK K
          refine wpAnyH_ready (rs := [14]) (by kernel_rfl) (by simp) ?_
          refine AllReadyH.cons rfl (fun K hK => ?_) AllReadyH.nil
          go_simp
          refine hK.out _ _ (by first | go_keep | (refine ⟨?_, ?_, ?_⟩ <;> assumption)) (fun hHeld => ?_)
          clear hK K
          refine wpAnyH_take (i := 15) (oi := ⟨some 9, _, _, _, _, _⟩) (v := ?_) rfl (by kernel_rfl) (by kernel_rfl) (by kernel_rfl) (fun _ _ _ h => h) (Or.inl ⟨by rfl, ?_⟩) (by assumption) ?_
          rotate_left
          · intro w hSw; (try dsimp only at hSw); go_simp <;> (try with_reducible rfl)
          go_frame
          refine wpAnyH_done (by kernel_rfl) ?_ _
          go_wp2_with fail
          go_meet
          case rel =>
            obtain ⟨q7, q8, qR, qb⟩ := pb2 lb5 pb5 hR5 hb5 (HC.out wc (Below.refl wc.heap.size wc)).2.2.2.1 (Nat.le_succ _) (.slice sa n sc) (.slice V5 n C5)
            obtain ⟨t7, t8, tR, tb⟩ := pb4 q7 q8 qR qb (HC.out wc (Below.refl wc.heap.size wc)).2.2.2.1 (Nat.le_refl _) (.int .i64 P0) (.int .i64 P1) (.int .i64 P2) (.int .u32 (P3 : Nat))
            exact ⟨wc.heap.size + 1, wc.heap.size, V5, C5, rfl, rfl, rfl, t7, t8, tR, tb, (show w.heap.size ≤ _ by have := HLO.out; have := hb5.size; omega)⟩
    case rest =>
      obtain ⟨G7, G8, V5, C5, rfl, rfl, rfl, h7, h8, hR5, hb5, H8N⟩ := hcut
      have hx5 := (HC.out wc hb5.out).1
      have hD5 := hVD.out.keep hb5.out
      have hL5 := (HW.out.lg.wk hWk.out).keep hb5.out
      have ht5 := owns_below (hWk.out.own HW.out.told (by decide) (by decide) (by decide) (by decide)) hb5.out
      have hG5 := (hb5.out.block _ (heap_lt hG.out)).trans hG.out
      have hB5 : Below B w wc := (hWk.out.below hBw.out).trans (hb5.out.mono (Nat.le_trans hBw.out (hWk.out.below hBw.out).size))
      simp only at hD5 hL5 ht5
      clear x0 x1 x2 x3 x4 xf k0 k1 k2 k3 k4 k5 k6 href
      obtain ⟨x0, x1, x2, x3, x4, xf⟩ := world_cells hx5
      have xf2 := xf 2; have xf3 := xf 3
      obtain ⟨l0, l1, _, _⟩ := log_cells h7.out
      have n7 : G7 ≠ x := Ne.symm (box_ne hx5 h7.out (by decide))
      have n8 : G8 ≠ x := Ne.symm (box_ne hx5 h8.out (by decide))
      have nG : G ≠ x := Ne.symm (box_ne hx5 hG5 (by decide))
      obtain ⟨i0, i1, i2, i3, _⟩ := pt_cells h8.out
      obtain ⟨o0, o1, o2, o3, _⟩ := pt_cells hG5
      clear xf
      have n8' : x ≠ G8 := Ne.symm n8
      have nG' : x ≠ G := Ne.symm nG
      have HNB : Hid (∀ k, w.heap.size ≤ k → some k ≠ (Value.slice ta tn tc).ownBlock) := (fun k hk e => by have := own_hi HW.out.told e.symm; omega : ∀ k, w.heap.size ≤ k → some k ≠ (Value.slice ta tn tc).ownBlock)
      have HGN : Hid (w.heap.size ≤ G) := hGN
      go_upto_region 7 with fail
      have hx6' := Go.Joins.block_setCell hx5 (.slice sa n sc) (i := 2)
      have HUX : Hid (((wc.setCell ⟨x, 2, none⟩ (.slice sa n sc)).setCell ⟨x, 3, none⟩ (.slice V5 n C5)).heap[x]? = some (.cells #[.pointer (some ⟨p, 0, none⟩), .pointer (some ⟨m, 0, none⟩), .slice sa n sc, .slice V5 n C5, .slice ta tn tc] 37 (0, 0))) := Go.Joins.block_setCell hx6' (.slice V5 n C5) (i := 3)
      have HUL : Hid (LgAt B ((wc.setCell ⟨x, 2, none⟩ (.slice sa n sc)).setCell ⟨x, 3, none⟩ (.slice V5 n C5)) m p a n c segs) := lg_box (lg_box hL5 hx5 2 _) hx6' 3 _
      have HUD : Hid (VD B ((wc.setCell ⟨x, 2, none⟩ (.slice sa n sc)).setCell ⟨x, 3, none⟩ (.slice V5 n C5)) p D2) := vd_box (vd_box hD5 hx5 HW.out.le 2 _) hx6' HW.out.le 3 _
      have HUR : Hid (RL B ((wc.setCell ⟨x, 2, none⟩ (.slice sa n sc)).setCell ⟨x, 3, none⟩ (.slice V5 n C5)) sa n sc V5 C5 segs vals2) := rl_box (rl_box hR5.out hx5 HW.out.le 2 _) hx6' HW.out.le 3 _
      have HT : Hid (((wc.setCell ⟨x, 2, none⟩ (.slice sa n sc)).setCell ⟨x, 3, none⟩ (.slice V5 n C5)).ownsRow B 42 4 (.slice ta tn tc) tn (tcells pve told)) := own_box (own_box ht5 hx5 (by decide) 2 _) hx6' (by decide) 3 _
      have HUW : Hid (Below B w ((wc.setCell ⟨x, 2, none⟩ (.slice sa n sc)).setCell ⟨x, 3, none⟩ (.slice V5 n C5))) := below_box (below_box hB5 HW.out.le 2 _) HW.out.le 3 _
      have H8U : Hid (((wc.setCell ⟨x, 2, none⟩ (.slice sa n sc)).setCell ⟨x, 3, none⟩ (.slice V5 n C5)).heap[G8]? = some (.cells #[.int .i64 P0, .int .i64 P1, .int .i64 P2, .int .u32 (P3 : Nat)] 42 (0, 0))) := (set_other _ _ _ _ n8).trans ((set_other _ _ _ _ n8).trans h8.out)
      have HGU : Hid (((wc.setCell ⟨x, 2, none⟩ (.slice sa n sc)).setCell ⟨x, 3, none⟩ (.slice V5 n C5)).heap[G]? = some (.cells #[.int .i64 P0, .int .i64 P1, .int .i64 P2, .int .u32 (P3 : Nat)] 42 (0, 0))) := (set_other _ _ _ _ nG).trans ((set_other _ _ _ _ nG).trans hG5)
      have HUB : Hid (B ≤ ((wc.setCell ⟨x, 2, none⟩ (.slice sa n sc)).setCell ⟨x, 3, none⟩ (.slice V5 n C5)).heap.size) := (by simp only [World.size_setCell]; exact Nat.le_trans hBw.out hB5.size : B ≤ ((wc.setCell ⟨x, 2, none⟩ (.slice sa n sc)).setCell ⟨x, 3, none⟩ (.slice V5 n C5)).heap.size)
      have HTN : Hid (tn ≤ 40) := (Nat.le_trans HW.out.cnt HW.out.bb.1 : tn ≤ 40)
      clear x0 x1 x2 x3 x4 xf2 xf3 l0 l1 i0 i1 i2 i3 o0 o1 o2 o3 hx6' hx5 hD5 hL5 ht5 hG5 hB5 h7 h8 hR5 hb5 HC
      obtain ⟨U, hU⟩ : ∃ U, U = (wc.setCell ⟨x, 2, none⟩ (.slice sa n sc)).setCell ⟨x, 3, none⟩ (.slice V5 n C5) := ⟨_, rfl⟩
      rw [← hU] at HUX HUL HUD HUR HT HUW H8U HGU HUB
      rw [← hU]
      clear hU
      obtain ⟨x0, x1, x2, x3, x4, xf⟩ := world_cells HUX.out
      obtain ⟨i0, i1, i2, i3, _⟩ := pt_cells H8U.out
      have z4 := fun o => ((below_alloc U o).cell (p := ⟨x, 4, none⟩) (cell_lt x4)).trans x4
      refine wp_region_held_drew (S := (fun W => W.cell? ⟨G8, 0, none⟩ = some (.int .i64 P0) ∧ W.cell? ⟨G8, 1, none⟩ = some (.int .i64 P1) ∧ W.cell? ⟨G8, 2, none⟩ = some (.int .i64 P2) ∧ W.cell? ⟨G8, 3, none⟩ = some (.int .u32 (P3 : Nat)))) (by kernel_rfl) (by first | go_keep | (refine ⟨?_, ?_, ?_, ?_⟩ <;> assumption)) (fun hHeld => ?_)
      refine wpAnyH_take (i := 0) (oi := ⟨some 49, _, _, _, _, _⟩) (v := ?_) rfl (by kernel_rfl) (by kernel_rfl) (by kernel_rfl) (fun _ _ _ h => h) (Or.inl ⟨by rfl, ?_⟩) (by assumption) ?_
      rotate_left
      · intro w hSw; (try dsimp only at hSw); go_simp <;> (try with_reducible rfl)
      go_frame
      refine wpAnyH_take (i := 1) (oi := ⟨some 50, _, _, _, _, _⟩) (v := ?_) rfl (by kernel_rfl) (by kernel_rfl) (by kernel_rfl) (fun _ _ _ h => h) (Or.inl ⟨by rfl, ?_⟩) (by assumption) ?_
      rotate_left
      · intro w hSw; (try dsimp only at hSw); go_simp <;> (try with_reducible rfl)
      go_frame
      refine wpAnyH_take (i := 2) (oi := ⟨some 51, _, _, _, _, _⟩) (v := ?_) rfl (by kernel_rfl) (by kernel_rfl) (by kernel_rfl) (fun _ _ _ h => h) (Or.inl ⟨by rfl, ?_⟩) (by assumption) ?_
      rotate_left
      · intro w hSw; (try dsimp only at hSw); go_simp <;> (try with_reducible rfl)
      go_frame
      refine wpAnyH_take (i := 3) (oi := ⟨some 52, _, _, _, _, _⟩) (v := ?_) rfl (by kernel_rfl) (by kernel_rfl) (by kernel_rfl) (fun _ _ _ h => h) (Or.inl ⟨by rfl, ?_⟩) (by assumption) ?_
      rotate_left
      · intro w hSw; (try dsimp only at hSw); go_simp <;> (try with_reducible rfl)
      go_frame
      refine wpAnyH_take (i := 5) (oi := ⟨some 54, _, _, _, _, _⟩) (v := ?_) rfl (by kernel_rfl) (by kernel_rfl) (by kernel_rfl) (fun _ _ _ h => h) (Or.inl ⟨by rfl, ?_⟩) (by assumption) ?_
      rotate_left
      · intro w hSw; (try dsimp only at hSw); go_simp <;> (try with_reducible rfl)
      go_frame
      refine wpAnyH_ready (rs := [4, 6]) (by kernel_rfl) (by simp) ?_
      refine AllReadyH.cons rfl (fun K hK => ?_) (AllReadyH.cons rfl (fun K hK => ?_) AllReadyH.nil)
      · skip
        go_simp
        refine hK.out _ _ (by first | go_keep | (refine ⟨?_, ?_, ?_, ?_⟩ <;> assumption)) (fun hHeld => ?_)
        clear hK K
        refine wpAnyH_ready (rs := [6]) (by kernel_rfl) (by simp) ?_
        refine AllReadyH.cons rfl (fun K hK => ?_) AllReadyH.nil
        go_simp
        refine hK.out _ _ (by first | go_keep | (refine ⟨?_, ?_, ?_, ?_⟩ <;> assumption)) (fun hHeld => ?_)
        clear hK K
        refine wpAnyH_ready (rs := [7]) (by kernel_rfl) (by simp) ?_
        refine AllReadyH.cons rfl (fun K hK => ?_) AllReadyH.nil
        refine step_tg pntE pvE (w0 := U) (B := B) (w := (U.alloc (.cells #[.int .i64 P0, .int .i64 P1, .int .i64 P2, .int .u32 (P3 : Nat)] 42)).drew) (by rfl) _ _ (by rfl) _ tn told (by rfl) (show World.ownsRow (U.alloc (.cells #[.int .i64 P0, .int .i64 P1, .int .i64 P2, .int .u32 (P3 : Nat)] 42)).drew B 42 4 (.slice ta tn tc) tn (tcells pve told) from HT.out.alloc _) (some ⟨U.heap.size, 0, none⟩) 1 1 [(P0, P1, P2, P3)] (by rfl) (show TRow 4 pve Po.zero (U.alloc (.cells #[.int .i64 P0, .int .i64 P1, .int .i64 P2, .int .u32 (P3 : Nat)] 42)).drew (some ⟨U.heap.size, 0, none⟩) 1 [(P0, P1, P2, P3)] from (lit_ptx (w := U) rfl)) (fun h => by cases h) (by have := HTN.out; omega) (((below_alloc U (.cells #[.int .i64 P0, .int .i64 P1, .int .i64 P2, .int .u32 (P3 : Nat)] 42)).mono HUB.out).trans (below_drewN _ _ 1)) (by simp; have := HUB.out; omega) ?_; intro A7 C7 w7 hg7 _ _ ho7 hb7; have hxx := pts_grown (v := .slice ta tn tc) (HT.out.alloc (.cells #[.int .i64 P0, .int .i64 P1, .int .i64 P2, .int .u32 (P3 : Nat)] 42)) (show World.grownBy (U.alloc (.cells #[.int .i64 P0, .int .i64 P1, .int .i64 P2, .int .u32 (P3 : Nat)] 42)) w7 _ from ⟨hg7.os, hg7.tape, hg7.output, hg7.size, hg7.block⟩) (((below_alloc U (.cells #[.int .i64 P0, .int .i64 P1, .int .i64 P2, .int .u32 (P3 : Nat)] 42)).block _ (heap_lt HUX.out)).trans HUX.out) (by decide); obtain ⟨e0, e1, e2, e3, e4, ef⟩ := world_cells hxx; have ef4 := ef 4; have hgg : World.grownBy (U.alloc (.cells #[.int .i64 P0, .int .i64 P1, .int .i64 P2, .int .u32 (P3 : Nat)] 42)) w7 (Value.slice ta tn tc).ownBlock := ⟨hg7.os, hg7.tape, hg7.output, hg7.size, hg7.block⟩; have h87 := (hgg.block _ (heap_lt (((below_alloc U (.cells #[.int .i64 P0, .int .i64 P1, .int .i64 P2, .int .u32 (P3 : Nat)] 42)).block _ (heap_lt H8U.out)).trans H8U.out)) (HNB.out G8 H8N.out)).trans (((below_alloc U (.cells #[.int .i64 P0, .int .i64 P1, .int .i64 P2, .int .u32 (P3 : Nat)] 42)).block _ (heap_lt H8U.out)).trans H8U.out); have hG7 := (hgg.block _ (heap_lt (((below_alloc U (.cells #[.int .i64 P0, .int .i64 P1, .int .i64 P2, .int .u32 (P3 : Nat)] 42)).block _ (heap_lt HGU.out)).trans HGU.out)) (HNB.out G HGN.out)).trans (((below_alloc U (.cells #[.int .i64 P0, .int .i64 P1, .int .i64 P2, .int .u32 (P3 : Nat)] 42)).block _ (heap_lt HGU.out)).trans HGU.out); obtain ⟨i0, i1, i2, i3, _⟩ := pt_cells h87; obtain ⟨o0, o1, o2, o3, _⟩ := pt_cells hG7
        refine hK.out _ _ (by first | go_keep | (refine ⟨?_, ?_, ?_, ?_⟩ <;> assumption)) (fun hHeld => ?_)
        clear hK K
        try go_frame
        refine wpAnyH_take (i := 8) (oi := ⟨some 57, _, _, _, _, _⟩) (v := ?_) rfl (by kernel_rfl) (by kernel_rfl) (by kernel_rfl) (fun _ _ _ h => h) (Or.inl ⟨by rfl, ?_⟩) (by assumption) ?_
        rotate_left
        · intro w hSw; (try dsimp only at hSw); go_simp <;> (try with_reducible rfl)
        go_frame
        refine wpAnyH_take (i := 9) (oi := ⟨some 58, _, _, _, _, _⟩) (v := ?_) rfl (by kernel_rfl) (by kernel_rfl) (by kernel_rfl) (fun _ _ _ h => h) (Or.inl ⟨by rfl, ?_⟩) (by assumption) ?_
        rotate_left
        · intro w hSw; (try dsimp only at hSw); go_simp <;> (try with_reducible rfl)
        go_frame
        refine wpAnyH_ready (rs := [10]) (by kernel_rfl) (by simp) ?_
        refine AllReadyH.cons rfl (fun K hK => ?_) AllReadyH.nil
        go_simp
        refine hK.out _ _ (by first | go_keep | (refine ⟨?_, ?_, ?_, ?_⟩ <;> assumption)) (fun hHeld => ?_)
        clear hK K
        refine wpAnyH_done (by kernel_rfl) ?_ _
        go_wp2_with fail
        go_ret
        have ha := HT.out.alloc (.cells #[.int .i64 P0, .int .i64 P1, .int .i64 P2, .int .u32 (P3 : Nat)] 42)
        have hbU := below_alloc U (.cells #[.int .i64 P0, .int .i64 P1, .int .i64 P2, .int .u32 (P3 : Nat)] 42)
        have hx8 := Go.Joins.block_setCell hxx (.slice A7 (tn + 1) C7) (i := 4)
        exact ⟨by simp, (HUW.out.trans ((hbU.mono HUB.out).trans (pts_below ha hgg (Nat.le_trans HUB.out hbU.size)))).setCell (p := ⟨x, 4, none⟩) HW.out.le _, wi_put HW.out hx8 (lg_box (pts_lg (HUL.out.keep hbU) ha hgg) hxx 4 _) (vd_box (pts_vd (HUD.out.keep hbU) ha hgg) hxx HW.out.le 4 _) (rl_box (pts_rl (HUR.out.keep HUB.out hbU) ha hgg (Nat.le_trans HUB.out hbU.size)) hxx HW.out.le 4 _) (own_box ho7 hxx (by decide) 4 _) (fun q hq => by rcases List.mem_append.1 hq with h' | h'; exact HW.out.fits q h'; have e' : q = (P0, P1, P2, P3) := (by simpa using h'); subst e'; exact HPF.out) HAC.out HBZ.out (Nat.succ_le_succ HW.out.cnt)⟩
      · skip
        go_simp
        refine hK.out _ _ (by first | go_keep | (refine ⟨?_, ?_, ?_, ?_⟩ <;> assumption)) (fun hHeld => ?_)
        clear hK K
        refine wpAnyH_ready (rs := [4]) (by kernel_rfl) (by simp) ?_
        refine AllReadyH.cons rfl (fun K hK => ?_) AllReadyH.nil
        go_simp
        refine hK.out _ _ (by first | go_keep | (refine ⟨?_, ?_, ?_, ?_⟩ <;> assumption)) (fun hHeld => ?_)
        clear hK K
        refine wpAnyH_ready (rs := [7]) (by kernel_rfl) (by simp) ?_
        refine AllReadyH.cons rfl (fun K hK => ?_) AllReadyH.nil
        refine step_tg pntE pvE (w0 := U) (B := B) (w := (U.alloc (.cells #[.int .i64 P0, .int .i64 P1, .int .i64 P2, .int .u32 (P3 : Nat)] 42)).drew) (by rfl) _ _ (by rfl) _ tn told (by rfl) (show World.ownsRow (U.alloc (.cells #[.int .i64 P0, .int .i64 P1, .int .i64 P2, .int .u32 (P3 : Nat)] 42)).drew B 42 4 (.slice ta tn tc) tn (tcells pve told) from HT.out.alloc _) (some ⟨U.heap.size, 0, none⟩) 1 1 [(P0, P1, P2, P3)] (by rfl) (show TRow 4 pve Po.zero (U.alloc (.cells #[.int .i64 P0, .int .i64 P1, .int .i64 P2, .int .u32 (P3 : Nat)] 42)).drew (some ⟨U.heap.size, 0, none⟩) 1 [(P0, P1, P2, P3)] from (lit_ptx (w := U) rfl)) (fun h => by cases h) (by have := HTN.out; omega) (((below_alloc U (.cells #[.int .i64 P0, .int .i64 P1, .int .i64 P2, .int .u32 (P3 : Nat)] 42)).mono HUB.out).trans (below_drewN _ _ 1)) (by simp; have := HUB.out; omega) ?_; intro A7 C7 w7 hg7 _ _ ho7 hb7; have hxx := pts_grown (v := .slice ta tn tc) (HT.out.alloc (.cells #[.int .i64 P0, .int .i64 P1, .int .i64 P2, .int .u32 (P3 : Nat)] 42)) (show World.grownBy (U.alloc (.cells #[.int .i64 P0, .int .i64 P1, .int .i64 P2, .int .u32 (P3 : Nat)] 42)) w7 _ from ⟨hg7.os, hg7.tape, hg7.output, hg7.size, hg7.block⟩) (((below_alloc U (.cells #[.int .i64 P0, .int .i64 P1, .int .i64 P2, .int .u32 (P3 : Nat)] 42)).block _ (heap_lt HUX.out)).trans HUX.out) (by decide); obtain ⟨e0, e1, e2, e3, e4, ef⟩ := world_cells hxx; have ef4 := ef 4; have hgg : World.grownBy (U.alloc (.cells #[.int .i64 P0, .int .i64 P1, .int .i64 P2, .int .u32 (P3 : Nat)] 42)) w7 (Value.slice ta tn tc).ownBlock := ⟨hg7.os, hg7.tape, hg7.output, hg7.size, hg7.block⟩; have h87 := (hgg.block _ (heap_lt (((below_alloc U (.cells #[.int .i64 P0, .int .i64 P1, .int .i64 P2, .int .u32 (P3 : Nat)] 42)).block _ (heap_lt H8U.out)).trans H8U.out)) (HNB.out G8 H8N.out)).trans (((below_alloc U (.cells #[.int .i64 P0, .int .i64 P1, .int .i64 P2, .int .u32 (P3 : Nat)] 42)).block _ (heap_lt H8U.out)).trans H8U.out); have hG7 := (hgg.block _ (heap_lt (((below_alloc U (.cells #[.int .i64 P0, .int .i64 P1, .int .i64 P2, .int .u32 (P3 : Nat)] 42)).block _ (heap_lt HGU.out)).trans HGU.out)) (HNB.out G HGN.out)).trans (((below_alloc U (.cells #[.int .i64 P0, .int .i64 P1, .int .i64 P2, .int .u32 (P3 : Nat)] 42)).block _ (heap_lt HGU.out)).trans HGU.out); obtain ⟨i0, i1, i2, i3, _⟩ := pt_cells h87; obtain ⟨o0, o1, o2, o3, _⟩ := pt_cells hG7
        refine hK.out _ _ (by first | go_keep | (refine ⟨?_, ?_, ?_, ?_⟩ <;> assumption)) (fun hHeld => ?_)
        clear hK K
        try go_frame
        refine wpAnyH_take (i := 8) (oi := ⟨some 57, _, _, _, _, _⟩) (v := ?_) rfl (by kernel_rfl) (by kernel_rfl) (by kernel_rfl) (fun _ _ _ h => h) (Or.inl ⟨by rfl, ?_⟩) (by assumption) ?_
        rotate_left
        · intro w hSw; (try dsimp only at hSw); go_simp <;> (try with_reducible rfl)
        go_frame
        refine wpAnyH_take (i := 9) (oi := ⟨some 58, _, _, _, _, _⟩) (v := ?_) rfl (by kernel_rfl) (by kernel_rfl) (by kernel_rfl) (fun _ _ _ h => h) (Or.inl ⟨by rfl, ?_⟩) (by assumption) ?_
        rotate_left
        · intro w hSw; (try dsimp only at hSw); go_simp <;> (try with_reducible rfl)
        go_frame
        refine wpAnyH_ready (rs := [10]) (by kernel_rfl) (by simp) ?_
        refine AllReadyH.cons rfl (fun K hK => ?_) AllReadyH.nil
        go_simp
        refine hK.out _ _ (by first | go_keep | (refine ⟨?_, ?_, ?_, ?_⟩ <;> assumption)) (fun hHeld => ?_)
        clear hK K
        refine wpAnyH_done (by kernel_rfl) ?_ _
        go_wp2_with fail
        go_ret
        have ha := HT.out.alloc (.cells #[.int .i64 P0, .int .i64 P1, .int .i64 P2, .int .u32 (P3 : Nat)] 42)
        have hbU := below_alloc U (.cells #[.int .i64 P0, .int .i64 P1, .int .i64 P2, .int .u32 (P3 : Nat)] 42)
        have hx8 := Go.Joins.block_setCell hxx (.slice A7 (tn + 1) C7) (i := 4)
        exact ⟨by simp, (HUW.out.trans ((hbU.mono HUB.out).trans (pts_below ha hgg (Nat.le_trans HUB.out hbU.size)))).setCell (p := ⟨x, 4, none⟩) HW.out.le _, wi_put HW.out hx8 (lg_box (pts_lg (HUL.out.keep hbU) ha hgg) hxx 4 _) (vd_box (pts_vd (HUD.out.keep hbU) ha hgg) hxx HW.out.le 4 _) (rl_box (pts_rl (HUR.out.keep HUB.out hbU) ha hgg (Nat.le_trans HUB.out hbU.size)) hxx HW.out.le 4 _) (own_box ho7 hxx (by decide) 4 _) (fun q hq => by rcases List.mem_append.1 hq with h' | h'; exact HW.out.fits q h'; have e' : q = (P0, P1, P2, P3) := (by simpa using h'); subst e'; exact HPF.out) HAC.out HBZ.out (Nat.succ_le_succ HW.out.cnt)⟩
end
end Go.Proofs.YtnoknmnbfkdccaaGreatDoor
