/- RosterFiles: the files that a roster names, its edits, which rosters are alike. -/
import Derived.Test.YtmodogmjfbcddaaGreatSM
import Derived.Test.YtmodogmjfbcddaaGreatSL
import Derived.Test.YtmodogmjfbcddaaGreatSE
import Derived.Test.YtmodogmjfbcddaaGreatSH
import Derived.Test.YtmodogmjfbcddaaGreatRZ
namespace Go.Proofs.YtmodogmjfbcddaaGreat
open Go.RowKit

set_option maxRecDepth 100000 in
set_option maxHeartbeats 8000000 in
theorem rfil_any (s : List Int) (ms : List (Int × Int)) (ts : List Lv.T) (ks : List (Int × Int × Int)) (a1 : Option Addr) (n1 c1 : Nat) (a2 : Option Addr) (n2 c2 : Nat) (a3 : Option Addr) (n3 c3 : Nat) (a4 : Option Addr) (n4 c4 : Nat) (i1 i2 i3 i4 i5 i6 i7 : Int) (s2 : List Int) (ms2 : List (Int × Int)) (ts2 : List Lv.T) (ks2 : List (Int × Int × Int)) (p1 : Option Addr) (m1 d1 : Nat) (p2 : Option Addr) (m2 d2 : Nat) (p3 : Option Addr) (m3 d3 : Nat) (p4 : Option Addr) (m4 d4 : Nat) (j1 j2 j3 j4 j5 j6 j7 : Int) (w : World) (h0 : IsRos w a1 n1 c1 a2 n2 c2 a3 n3 c3 a4 n4 c4 ⟨s, ms, ts, ks, i1, i2, i3, i4, i5, i6, i7⟩) (h1 : IsRos w p1 m1 d1 p2 m2 d2 p3 m3 d3 p4 m4 d4 ⟨s2, ms2, ts2, ks2, j1, j2, j3, j4, j5, j6, j7⟩) (hg : rlgt ⟨s, ms, ts, ks, i1, i2, i3, i4, i5, i6, i7⟩ = true) (hg2 : rlgt ⟨s2, ms2, ts2, ks2, j1, j2, j3, j4, j5, j6, j7⟩ = true) :
    Calls Tryz.prog 5 #[.agg #[.slice a1 n1 c1, .slice a2 n2 c2, .slice a3 n3 c3, .slice a4 n4 c4, .int .i64 i1, .int .i64 i2, .int .i64 i3, .int .i64 i4, .int .i64 i5, .int .i64 i6, .int .i64 i7], .agg #[.slice p1 m1 d1, .slice p2 m2 d2, .slice p3 m3 d3, .slice p4 m4 d4, .int .i64 j1, .int .i64 j2, .int .i64 j3, .int .i64 j4, .int .i64 j5, .int .i64 j6, .int .i64 j7]] w fun e w' => e = .returned (.bool true) ∧ Below w.heap.size w w' := by
  have h : RIn w a1 n1 c1 a2 n2 c2 a3 n3 c3 a4 n4 c4 ⟨s, ms, ts, ks, i1, i2, i3, i4, i5, i6, i7⟩ := h0.rin hg
  have h' : RIn w p1 m1 d1 p2 m2 d2 p3 m3 d3 p4 m4 d4 ⟨s2, ms2, ts2, ks2, j1, j2, j3, j4, j5, j6, j7⟩ := h1.rin hg2
  have hli := fun R hR W (hb : Below w.heap.size w W) => rlight_any s ms ts ks a1 n1 c1 a2 n2 c2 a3 n3 c3 a4 n4 c4 i1 i2 i3 i4 i5 i6 i7 W ⟨h0.r1.below hb (Nat.le_refl _), h0.r2.below hb (Nat.le_refl _), h0.r3.below hb (Nat.le_refl _), h0.r4.below hb (Nat.le_refl _), h0.z1, h0.z2, h0.z3, h0.z4, h0.c3, h0.s1, h0.s2, h0.s3, h0.s4⟩ R hR
  have hlj := fun R hR W (hb : Below w.heap.size w W) => rlight_any s2 ms2 ts2 ks2 p1 m1 d1 p2 m2 d2 p3 m3 d3 p4 m4 d4 j1 j2 j3 j4 j5 j6 j7 W ⟨h1.r1.below hb (Nat.le_refl _), h1.r2.below hb (Nat.le_refl _), h1.r3.below hb (Nat.le_refl _), h1.r4.below hb (Nat.le_refl _), h1.z1, h1.z2, h1.z3, h1.z4, h1.c3, h1.s1, h1.s2, h1.s3, h1.s4⟩ R hR
  have hl1 := hli true hg.symm
  have hl2 := hlj true hg2.symm
  have HI : Hid (∀ W, Below w.heap.size w W → RIn W a1 n1 c1 a2 n2 c2 a3 n3 c3 a4 n4 c4 ⟨s, ms, ts, ks, i1, i2, i3, i4, i5, i6, i7⟩) := (fun W hb => h.below hb : ∀ W, _ → _)
  obtain ⟨R, hR⟩ : ∃ R : Bool, (R = true ↔ (⟨s, ms, ts, ks, i1, i2, i3, i4, i5, i6, i7⟩ : Ro.R) = ⟨s2, ms2, ts2, ks2, j1, j2, j3, j4, j5, j6, j7⟩) := by
    rcases Classical.em ((⟨s, ms, ts, ks, i1, i2, i3, i4, i5, i6, i7⟩ : Ro.R) = ⟨s2, ms2, ts2, ks2, j1, j2, j3, j4, j5, j6, j7⟩) with hp | hp
    · exact ⟨true, fun _ => hp, fun _ => rfl⟩
    · exact ⟨false, fun h => (by cases h), fun h => absurd h hp⟩
  have hps := fun W (hb : Below w.heap.size w W) => psame_any s ms ts ks a1 n1 c1 a2 n2 c2 a3 n3 c3 a4 n4 c4 i1 i2 i3 i4 i5 i6 i7 s2 ms2 ts2 ks2 p1 m1 d1 p2 m2 d2 p3 m3 d3 p4 m4 d4 j1 j2 j3 j4 j5 j6 j7 W (h.below hb) (h'.below hb) R hR
  have hrs := fun W (hb : Below w.heap.size w W) => rsame17_any s ms ts ks a1 n1 c1 a2 n2 c2 a3 n3 c3 a4 n4 c4 i1 i2 i3 i4 i5 i6 i7 s2 ms2 ts2 ks2 p1 m1 d1 p2 m2 d2 p3 m3 d3 p4 m4 d4 j1 j2 j3 j4 j5 j6 j7 W (h.below hb) (h'.below hb) R hR
  have hwa := fun W => rawake_any W
  obtain ⟨F, hF⟩ : ∃ F, F = Ro.files ⟨s, ms, ts, ks, i1, i2, i3, i4, i5, i6, i7⟩ := ⟨_, rfl⟩
  obtain ⟨NF, hNF⟩ : ∃ NF, NF = F.length := ⟨_, rfl⟩
  have hNF4 : NF ≤ 4000 := by
    rw [hNF, hF, Ro.files]
    have a1 := h.m1; have a2 := h.m2; have a3 := h.m3; have a4 := h.m4
    have q1 := h.r1.1; have q2 := h.r2.1; have q3 := h.r3.1; have q4 := h.r4.1
    dsimp only at q1 q2 q3 q4
    split
    · simp only [List.length_append, List.length_map]; omega
    · simp
  have hfl : ∀ W, Below w.heap.size w W → Calls Tryz.prog 19 #[.agg #[.slice a1 n1 c1, .slice a2 n2 c2, .slice a3 n3 c3, .slice a4 n4 c4, .int .i64 i1, .int .i64 i2, .int .i64 i3, .int .i64 i4, .int .i64 i5, .int .i64 i6, .int .i64 i7]] W (fun e w' => ∃ g c, e = .returned (.slice g NF c) ∧ MRow w' g NF F ∧ Below W.heap.size W w') := fun W hb =>
    (rfiles_any s ms ts ks a1 n1 c1 a2 n2 c2 a3 n3 c3 a4 n4 c4 i1 i2 i3 i4 i5 i6 i7 W (h.below hb)).mono (by
      rintro e w' ⟨g, c, rfl, how, hbe⟩
      rw [← hF, ← hNF] at how
      rw [← hF, ← hNF]
      exact ⟨g, c, rfl, trow_of_owns meE how (by omega) (by omega), hbe⟩)
  have HR : Hid (R = true ↔ (⟨s, ms, ts, ks, i1, i2, i3, i4, i5, i6, i7⟩ : Ro.R) = ⟨s2, ms2, ts2, ks2, j1, j2, j3, j4, j5, j6, j7⟩) := hR
  have HF : Hid (F = Ro.files ⟨s, ms, ts, ks, i1, i2, i3, i4, i5, i6, i7⟩) := hF
  have HNF : Hid (F.length = NF) := hNF.symm
  obtain ⟨U, hU⟩ : ∃ U, U = (w.alloc (.cells #[.slice a1 n1 c1, .slice a2 n2 c2, .slice a3 n3 c3, .slice a4 n4 c4, .int .i64 i1, .int .i64 i2, .int .i64 i3, .int .i64 i4, .int .i64 i5, .int .i64 i6, .int .i64 i7] 29)).alloc (.cells #[.slice p1 m1 d1, .slice p2 m2 d2, .slice p3 m3 d3, .slice p4 m4 d4, .int .i64 j1, .int .i64 j2, .int .i64 j3, .int .i64 j4, .int .i64 j5, .int .i64 j6, .int .i64 j7] 29) := ⟨_, rfl⟩
  have hbU : Below w.heap.size w U := by rw [hU]; exact below_two _ _ _
  have e0 : U.heap[w.heap.size]? = some (.cells #[.slice a1 n1 c1, .slice a2 n2 c2, .slice a3 n3 c3, .slice a4 n4 c4, .int .i64 i1, .int .i64 i2, .int .i64 i3, .int .i64 i4, .int .i64 i5, .int .i64 i6, .int .i64 i7] 29 (0, 0)) := by
    rw [hU]; exact (Below.heap_alloc _ _ _ (by simp)).trans (heap_alloc_new _ _)
  have e1 : U.heap[w.heap.size + 1]? = some (.cells #[.slice p1 m1 d1, .slice p2 m2 d2, .slice p3 m3 d3, .slice p4 m4 d4, .int .i64 j1, .int .i64 j2, .int .i64 j3, .int .i64 j4, .int .i64 j5, .int .i64 j6, .int .i64 j7] 29 (0, 0)) := by
    rw [hU]; have := heap_alloc_new (w.alloc (.cells #[.slice a1 n1 c1, .slice a2 n2 c2, .slice a3 n3 c3, .slice a4 n4 c4, .int .i64 i1, .int .i64 i2, .int .i64 i3, .int .i64 i4, .int .i64 i5, .int .i64 i6, .int .i64 i7] 29)) (.cells #[.slice p1 m1 d1, .slice p2 m2 d2, .slice p3 m3 d3, .slice p4 m4 d4, .int .i64 j1, .int .i64 j2, .int .i64 j3, .int .i64 j4, .int .i64 j5, .int .i64 j6, .int .i64 j7] 29); rwa [World.size_alloc] at this
  have HV : Hid (∀ W, Below U.heap.size U W → (W.cell? ⟨w.heap.size, 0, none⟩ = some (.slice a1 n1 c1) ∧ W.cell? ⟨w.heap.size, 1, none⟩ = some (.slice a2 n2 c2) ∧ W.cell? ⟨w.heap.size, 2, none⟩ = some (.slice a3 n3 c3) ∧ W.cell? ⟨w.heap.size, 3, none⟩ = some (.slice a4 n4 c4) ∧ W.cell? ⟨w.heap.size, 4, none⟩ = some (.int .i64 i1) ∧ W.cell? ⟨w.heap.size, 5, none⟩ = some (.int .i64 i2) ∧ W.cell? ⟨w.heap.size, 6, none⟩ = some (.int .i64 i3) ∧ W.cell? ⟨w.heap.size, 7, none⟩ = some (.int .i64 i4) ∧ W.cell? ⟨w.heap.size, 8, none⟩ = some (.int .i64 i5) ∧ W.cell? ⟨w.heap.size, 9, none⟩ = some (.int .i64 i6) ∧ W.cell? ⟨w.heap.size, 10, none⟩ = some (.int .i64 i7) ∧ W.cell? ⟨w.heap.size + 1, 0, none⟩ = some (.slice p1 m1 d1) ∧ W.cell? ⟨w.heap.size + 1, 1, none⟩ = some (.slice p2 m2 d2) ∧ W.cell? ⟨w.heap.size + 1, 2, none⟩ = some (.slice p3 m3 d3) ∧ W.cell? ⟨w.heap.size + 1, 3, none⟩ = some (.slice p4 m4 d4) ∧ W.cell? ⟨w.heap.size + 1, 4, none⟩ = some (.int .i64 j1) ∧ W.cell? ⟨w.heap.size + 1, 5, none⟩ = some (.int .i64 j2) ∧ W.cell? ⟨w.heap.size + 1, 6, none⟩ = some (.int .i64 j3) ∧ W.cell? ⟨w.heap.size + 1, 7, none⟩ = some (.int .i64 j4) ∧ W.cell? ⟨w.heap.size + 1, 8, none⟩ = some (.int .i64 j5) ∧ W.cell? ⟨w.heap.size + 1, 9, none⟩ = some (.int .i64 j6) ∧ W.cell? ⟨w.heap.size + 1, 10, none⟩ = some (.int .i64 j7))) := (fun W hb => by
    have a := (blkc ((hb.block _ (ob_ltB e0)).trans e0)).1
    have b := (blkc ((hb.block _ (ob_ltB e1)).trans e1)).1
    exact ⟨a 0, a 1, a 2, a 3, a 4, a 5, a 6, a 7, a 8, a 9, a 10, b 0, b 1, b 2, b 3, b 4, b 5, b 6, b 7, b 8, b 9, b 10⟩ : ∀ W, _ → _)
  have HPB : Hid (∀ W, Below U.heap.size U W → W.heap[w.heap.size]? = some (.cells #[.slice a1 n1 c1, .slice a2 n2 c2, .slice a3 n3 c3, .slice a4 n4 c4, .int .i64 i1, .int .i64 i2, .int .i64 i3, .int .i64 i4, .int .i64 i5, .int .i64 i6, .int .i64 i7] 29 (0, 0))) := (fun W hb => (hb.block _ (ob_ltB e0)).trans e0 : ∀ W, _ → _)
  have HU : Hid (Below w.heap.size w U) := hbU
  have hUe : (w.alloc (.cells #[.slice a1 n1 c1, .slice a2 n2 c2, .slice a3 n3 c3, .slice a4 n4 c4, .int .i64 i1, .int .i64 i2, .int .i64 i3, .int .i64 i4, .int .i64 i5, .int .i64 i6, .int .i64 i7] 29)).alloc (.cells #[.slice p1 m1 d1, .slice p2 m2 d2, .slice p3 m3 d3, .slice p4 m4 d4, .int .i64 j1, .int .i64 j2, .int .i64 j3, .int .i64 j4, .int .i64 j5, .int .i64 j6, .int .i64 j7] 29) = U := hU.symm
  obtain ⟨x0, x1, x2, x3, x4, x5, x6, x7, x8, x9, x10, y0, y1, y2, y3, y4, y5, y6, y7, y8, y9, y10⟩ := HV.out U (Below.refl _ _)
  clear hU hbU e0 e1
  have tok : Hid (0 = 0) := (rfl : 0 = 0)
  clear h h' hli hlj h0 h1 hg hg2 hR hF hNF
  go_enter Tryz.func5, Tryz.ntmps5
  go_upto_region 4 with (first
    | (go_at_call 7; clear tok; refine (hl1 _ (HU.out)).mono ?_; rintro e w1 ⟨rfl, hb1⟩; clear x0 x1 x2 x3 x4 x5 x6 x7 x8 x9 x10 y0 y1 y2 y3 y4 y5 y6 y7 y8 y9 y10; obtain ⟨x0, x1, x2, x3, x4, x5, x6, x7, x8, x9, x10, y0, y1, y2, y3, y4, y5, y6, y7, y8, y9, y10⟩ := HV.out w1 hb1)
    | (go_at_call 7; go_must (refine (hl2 _ (HU.out.trans (hb1.mono HU.out.size))).mono ?_; rintro e w2 ⟨rfl, h2⟩; have hb2 := hb1.trans (h2.mono hb1.size); clear x0 x1 x2 x3 x4 x5 x6 x7 x8 x9 x10 y0 y1 y2 y3 y4 y5 y6 y7 y8 y9 y10; obtain ⟨x0, x1, x2, x3, x4, x5, x6, x7, x8, x9, x10, y0, y1, y2, y3, y4, y5, y6, y7, y8, y9, y10⟩ := HV.out w2 hb2))
    | (go_at_call 19; go_must (refine (hfl _ (HU.out.trans (hb2.mono HU.out.size))).mono ?_; rintro e w3 ⟨gf, cf, rfl, hrf, h3⟩; have b3 := hb2.trans (h3.mono hb2.size); clear x0 x1 x2 x3 x4 x5 x6 x7 x8 x9 x10 y0 y1 y2 y3 y4 y5 y6 y7 y8 y9 y10; obtain ⟨x0, x1, x2, x3, x4, x5, x6, x7, x8, x9, x10, y0, y1, y2, y3, y4, y5, y6, y7, y8, y9, y10⟩ := HV.out w3 b3)))
  clear hUe hl1 hl2 hfl
  have b3d := b3.drew
  refine wp_region_held_drew (S := (fun W => W.cell? ⟨w.heap.size, 0, none⟩ = some (.slice a1 n1 c1) ∧ W.cell? ⟨w.heap.size, 1, none⟩ = some (.slice a2 n2 c2) ∧ W.cell? ⟨w.heap.size, 2, none⟩ = some (.slice a3 n3 c3) ∧ W.cell? ⟨w.heap.size, 3, none⟩ = some (.slice a4 n4 c4) ∧ W.cell? ⟨w.heap.size, 4, none⟩ = some (.int .i64 i1) ∧ W.cell? ⟨w.heap.size, 5, none⟩ = some (.int .i64 i2) ∧ W.cell? ⟨w.heap.size, 6, none⟩ = some (.int .i64 i3) ∧ W.cell? ⟨w.heap.size, 7, none⟩ = some (.int .i64 i4) ∧ W.cell? ⟨w.heap.size, 8, none⟩ = some (.int .i64 i5) ∧ W.cell? ⟨w.heap.size, 9, none⟩ = some (.int .i64 i6) ∧ W.cell? ⟨w.heap.size, 10, none⟩ = some (.int .i64 i7) ∧ W.cell? ⟨w.heap.size + 1, 0, none⟩ = some (.slice p1 m1 d1) ∧ W.cell? ⟨w.heap.size + 1, 1, none⟩ = some (.slice p2 m2 d2) ∧ W.cell? ⟨w.heap.size + 1, 2, none⟩ = some (.slice p3 m3 d3) ∧ W.cell? ⟨w.heap.size + 1, 3, none⟩ = some (.slice p4 m4 d4) ∧ W.cell? ⟨w.heap.size + 1, 4, none⟩ = some (.int .i64 j1) ∧ W.cell? ⟨w.heap.size + 1, 5, none⟩ = some (.int .i64 j2) ∧ W.cell? ⟨w.heap.size + 1, 6, none⟩ = some (.int .i64 j3) ∧ W.cell? ⟨w.heap.size + 1, 7, none⟩ = some (.int .i64 j4) ∧ W.cell? ⟨w.heap.size + 1, 8, none⟩ = some (.int .i64 j5) ∧ W.cell? ⟨w.heap.size + 1, 9, none⟩ = some (.int .i64 j6) ∧ W.cell? ⟨w.heap.size + 1, 10, none⟩ = some (.int .i64 j7))) (by kernel_rfl) (HV.out _ b3d) (fun hHeld => ?_)
  refine wpAnyH_take (i := 0) (oi := ⟨some 21, _, _, _, _, _⟩) (v := ?_) rfl (by kernel_rfl) (by kernel_rfl) (by kernel_rfl) (fun _ _ _ h => h) (Or.inl ⟨by rfl, ?_⟩) (by assumption) ?_
  rotate_left
  · intro w hSw; (try dsimp only at hSw); go_simp <;> (try with_reducible rfl)
  go_frame
  refine wpAnyH_take (i := 1) (oi := ⟨some 22, _, _, _, _, _⟩) (v := ?_) rfl (by kernel_rfl) (by kernel_rfl) (by kernel_rfl) (fun _ _ _ h => h) (Or.inl ⟨by rfl, ?_⟩) (by assumption) ?_
  rotate_left
  · intro w hSw; (try dsimp only at hSw); go_simp <;> (try with_reducible rfl)
  go_frame
  refine wpAnyH_take (i := 3) (oi := ⟨some 24, _, _, _, _, _⟩) (v := ?_) rfl (by kernel_rfl) (by kernel_rfl) (by kernel_rfl) (fun _ _ _ h => h) (Or.inl ⟨by rfl, ?_⟩) (by assumption) ?_
  rotate_left
  · intro w hSw; (try dsimp only at hSw); go_simp <;> (try with_reducible rfl)
  go_frame
  refine wpAnyH_take (i := 4) (oi := ⟨some 25, _, _, _, _, _⟩) (v := ?_) rfl (by kernel_rfl) (by kernel_rfl) (by kernel_rfl) (fun _ _ _ h => h) (Or.inl ⟨by rfl, ?_⟩) (by assumption) ?_
  rotate_left
  · intro w hSw; (try dsimp only at hSw); go_simp <;> (try with_reducible rfl)
  go_frame
  refine wpAnyH_ready (rs := [2]) (by kernel_rfl) (by simp) ?_
  refine AllReadyH.cons rfl (fun K hK => ?_) AllReadyH.nil
  go_simp; go_at_call 20; refine (hps _ (HU.out.trans (b3d.mono HU.out.size))).mono ?_; rintro e v4 ⟨rfl, h4⟩; have b4 := b3d.trans (h4.mono b3d.size)
  refine hK.out _ _ (HV.out _ b4) (fun hHeld => ?_)
  clear hK K
  try go_frame
  refine wpAnyH_ready (rs := [5]) (by kernel_rfl) (by simp) ?_
  refine AllReadyH.cons rfl (fun K hK => ?_) AllReadyH.nil
  go_simp; go_at_call 14; refine (hrs _ (HU.out.trans (b4.mono HU.out.size))).mono ?_; rintro e v5 ⟨rfl, h5⟩; have b5 := b4.trans (h5.mono b4.size)
  refine hK.out _ _ (HV.out _ b5) (fun hHeld => ?_)
  clear hK K
  try go_frame
  refine wpAnyH_take (i := 6) (oi := ⟨some 27, _, _, _, _, _⟩) (v := ?_) rfl (by kernel_rfl) (by kernel_rfl) (by kernel_rfl) (fun _ _ _ h => h) (Or.inl ⟨by rfl, ?_⟩) (by assumption) ?_
  rotate_left
  · intro w hSw; (try dsimp only at hSw); go_simp <;> (try with_reducible rfl)
  go_frame
  refine wpAnyH_done (by kernel_rfl) ?_ _
  
  have HRF : Hid (MRow w3 gf NF F) := hrf
  have c35 : Below w3.heap.size w3 v5 := ((Below.refl _ _).drew).trans ((h4.mono (Below.refl w3.heap.size w3).drew.size).trans (h5.mono (((Below.refl w3.heap.size w3).drew).trans (h4.mono (Below.refl w3.heap.size w3).drew.size)).size))
  have hRR : (R != R) = false := by simp
  clear x0 x1 x2 x3 x4 x5 x6 x7 x8 x9 x10 y0 y1 y2 y3 y4 y5 y6 y7 y8 y9 y10; obtain ⟨x0, x1, x2, x3, x4, x5, x6, x7, x8, x9, x10, y0, y1, y2, y3, y4, y5, y6, y7, y8, y9, y10⟩ := HV.out v5 b5
  have HB5 : Hid (Below U.heap.size U v5) := b5
  have HC5 : Hid (Below w3.heap.size w3 v5) := c35
  clear hps hrs hrf b3d b4 b5 h4 h5 b3 hb1 hb2 h2 h3 c35
  cases hc : Ro.check ⟨s, ms, ts, ks, i1, i2, i3, i4, i5, i6, i7⟩ with
  | false =>
    have hmy := rmay17_no s ms ts ks a1 n1 c1 a2 n2 c2 a3 n3 c3 a4 n4 c4 i1 i2 i3 i4 i5 i6 i7 v5 (HI.out _ (HU.out.trans (HB5.out.mono HU.out.size))) hc
    have hN0 : NF = 0 := by rw [← HNF.out, HF.out, Ro.files, hc]; rfl
    subst hN0
    have hed : ∀ W, Below U.heap.size U W → Calls Tryz.prog 17 #[.agg #[.slice a1 n1 c1, .slice a2 n2 c2, .slice a3 n3 c3, .slice a4 n4 c4, .int .i64 i1, .int .i64 i2, .int .i64 i3, .int .i64 i4, .int .i64 i5, .int .i64 i6, .int .i64 i7]] W (fun e w' => ∃ g c, e = .returned (.slice g 0 c) ∧ Below W.heap.size W w') := fun W hb =>
      (redits_any s ms ts ks a1 n1 c1 a2 n2 c2 a3 n3 c3 a4 n4 c4 i1 i2 i3 i4 i5 i6 i7 W (HI.out _ (HU.out.trans (hb.mono HU.out.size)))).mono (by
        rintro e w' ⟨g, c, rfl, how, hbe⟩
        have hz : (Ro.edits ⟨s, ms, ts, ks, i1, i2, i3, i4, i5, i6, i7⟩).length = 0 := by rw [Ro.edits, hc]; rfl
        rw [hz]
        exact ⟨g, c, rfl, hbe⟩)
    clear hc
    go_wp2_with (first
      | (go_at_call 12; go_must (refine hmy.mono ?_; rintro e v6 ⟨rfl, h6⟩; have b6 := HB5.out.trans (h6.mono HB5.out.size); clear x0 x1 x2 x3 x4 x5 x6 x7 x8 x9 x10 y0 y1 y2 y3 y4 y5 y6 y7 y8 y9 y10; obtain ⟨x0, x1, x2, x3, x4, x5, x6, x7, x8, x9, x10, y0, y1, y2, y3, y4, y5, y6, y7, y8, y9, y10⟩ := HV.out v6 b6))
      | (go_at_call 17; go_must (refine (hed _ b6).mono ?_; rintro e v7 ⟨g7, c7, rfl, h7⟩; have b7 := b6.trans (h7.mono b6.size)))
      | (go_at_call 9; go_must (refine (hwa _).mono ?_; rintro e v8 ⟨rfl, h8⟩; have b8 := b7.trans (h8.mono b7.size))))
    go_ret
    exact ⟨rfl, HU.out.trans (b8.mono HU.out.size)⟩
  | true =>
    have hmy := rmay17_yes s ms ts ks a1 n1 c1 a2 n2 c2 a3 n3 c3 a4 n4 c4 i1 i2 i3 i4 i5 i6 i7 v5 (HI.out _ (HU.out.trans (HB5.out.mono HU.out.size))) hc
    have hFI : F = s.map (fun x => ((3 : Int), x)) ++ (ms.map (·.2)).map (fun x => ((7 : Int), x)) ++ (ts.map (·.num)).map (fun x => ((5 : Int), x)) ++ (ks.map (·.1)).map (fun x => ((6 : Int), x)) := by rw [HF.out, Ro.files, if_pos hc]
    have hf17 : ∀ W, Below U.heap.size U W → Calls Tryz.prog 21 #[.agg #[.slice a1 n1 c1, .slice a2 n2 c2, .slice a3 n3 c3, .slice a4 n4 c4, .int .i64 i1, .int .i64 i2, .int .i64 i3, .int .i64 i4, .int .i64 i5, .int .i64 i6, .int .i64 i7]] W (fun e w' => ∃ g c, e = .returned (.slice g NF c) ∧ MRow w' g NF F ∧ Below W.heap.size W w') := fun W hb =>
      (rfiles17_any s ms ts ks a1 n1 c1 a2 n2 c2 a3 n3 c3 a4 n4 c4 i1 i2 i3 i4 i5 i6 i7 W (HI.out _ (HU.out.trans (hb.mono HU.out.size)))).mono (by
        rintro e w' ⟨g, c, rfl, how, hbe⟩
        rw [← hFI] at how ⊢
        rw [HNF.out] at how ⊢
        exact ⟨g, c, rfl, trow_of_owns meE how (by omega) (by omega), hbe⟩)
    have HCK : Hid (Ro.check ⟨s, ms, ts, ks, i1, i2, i3, i4, i5, i6, i7⟩ = true) := hc
    have hnn : ((NF : Int) == (NF : Int)) = true := by simp
    clear hFI hc
    go_upto_region 11 with (first
      | (go_at_call 12; go_must (refine hmy.mono ?_; rintro e v6 ⟨rfl, h6⟩; have b6 := HB5.out.trans (h6.mono HB5.out.size); clear x0 x1 x2 x3 x4 x5 x6 x7 x8 x9 x10 y0 y1 y2 y3 y4 y5 y6 y7 y8 y9 y10; obtain ⟨x0, x1, x2, x3, x4, x5, x6, x7, x8, x9, x10, y0, y1, y2, y3, y4, y5, y6, y7, y8, y9, y10⟩ := HV.out v6 b6))
      | (go_at_call 21; go_must (refine (hf17 _ b6).mono ?_; rintro e v7 ⟨gg, cg, rfl, hrg, h7⟩; have b7 := b6.trans (h7.mono b6.size))))
    have HRG : Hid (MRow v7 gg NF F) := hrg
    have HB7 : Hid (Below U.heap.size U v7) := b7
    have HC7 : Hid (Below w3.heap.size w3 v7) := (HC5.out.trans ((h6.trans (h7.mono h6.size)).mono HC5.out.size) : Below _ _ _)
    clear hmy hf17 hnn hrg b6 b7 h6 h7 x0 x1 x2 x3 x4 x5 x6 x7 x8 x9 x10 y0 y1 y2 y3 y4 y5 y6 y7 y8 y9 y10
    go_wp2
    go_loopw [7] (fun iv wr => ∃ i : Nat, i ≤ NF ∧ iv = .int .i64 i ∧ Hid (Below v7.heap.size v7 wr)) (fun iv _ => NF - (intOf iv).toNat)
    case atStart => exact ⟨0, by omega, rfl, (Below.refl _ _ : Below _ _ _)⟩
    case round =>
      obtain ⟨i, hi, rfl, HW⟩ := hrel
      by_cases hlt : i < NF
      · obtain ⟨b, off, x, y, rfl, hx, q0, q1⟩ := mget HRF.out (HC7.out.trans (HW.out.mono HC7.out.size)) hlt
        obtain ⟨b', off', x', y', rfl, hx', q2, q3⟩ := mget HRG.out HW.out hlt
        obtain ⟨rfl, rfl⟩ := Prod.mk.inj (hx.out.symm.trans hx'.out)
        have i0 : (0 : Int) ≤ (i : Int) := by omega
        have i1' : (i : Int) < (NF : Int) := by omega
        clear hx hx'
        go_wp2_with fail
        go_quiet (fail)
        go_wp2
        go_roundw
        case rel => exact ⟨i + 1, by omega, by go_num, (HW.out.trans (below_drewN _ _ _) : Below _ _ _)⟩
        case measure => simp [intOf]; omega
      · obtain rfl : i = NF := by omega
        have hB2 := HB7.out.trans (HW.out.mono HB7.out.size)
        obtain ⟨W2, rfl⟩ : ∃ W2, W2 = wr := ⟨_, rfl⟩
        have HB2 : Hid (Below U.heap.size U W2) := hB2
        have HV6 : Hid (∀ W, Below W2.heap.size W2 W → (W.cell? ⟨w.heap.size, 0, none⟩ = some (.slice a1 n1 c1) ∧ W.cell? ⟨w.heap.size, 1, none⟩ = some (.slice a2 n2 c2) ∧ W.cell? ⟨w.heap.size, 2, none⟩ = some (.slice a3 n3 c3) ∧ W.cell? ⟨w.heap.size, 3, none⟩ = some (.slice a4 n4 c4) ∧ W.cell? ⟨w.heap.size, 4, none⟩ = some (.int .i64 i1) ∧ W.cell? ⟨w.heap.size, 5, none⟩ = some (.int .i64 i2) ∧ W.cell? ⟨w.heap.size, 6, none⟩ = some (.int .i64 i3) ∧ W.cell? ⟨w.heap.size, 7, none⟩ = some (.int .i64 i4) ∧ W.cell? ⟨w.heap.size, 8, none⟩ = some (.int .i64 i5) ∧ W.cell? ⟨w.heap.size, 9, none⟩ = some (.int .i64 i6) ∧ W.cell? ⟨w.heap.size, 10, none⟩ = some (.int .i64 i7))) := (fun W hb => by
          have a := (blkc (HPB.out W (HB2.out.trans (hb.mono HB2.out.size)))).1
          exact ⟨a 0, a 1, a 2, a 3, a 4, a 5, a 6, a 7, a 8, a 9, a 10⟩ : ∀ W, _ → _)
        have HPW : Hid (w.heap.size < W2.heap.size) := (ob_ltB (HPB.out W2 HB2.out) : _ < _)
        have hri := HI.out W2 (HU.out.trans (HB2.out.mono HU.out.size))
        have HQ : Hid (s.length = n1 ∧ ms.length = n2 ∧ ts.length = n3 ∧ ks.length = n4) := (⟨hri.r1.1, hri.r2.1, hri.r3.1, hri.r4.1⟩ : _ ∧ _)
        obtain ⟨ES, hES⟩ : ∃ ES, ES = Ro.edits ⟨s, ms, ts, ks, i1, i2, i3, i4, i5, i6, i7⟩ := ⟨_, rfl⟩
        obtain ⟨LE, hLE⟩ : ∃ LE, LE = ES.length := ⟨_, rfl⟩
        have hLE2 : LE ≤ 900 := by
          have := Ro.makes_length (Ro.may_of_check HCK.out)
          rw [hLE, hES, Ro.edits, if_pos HCK.out]; omega
        have hpath : Ro.Path Ro.first ES ⟨s, ms, ts, ks, i1, i2, i3, i4, i5, i6, i7⟩ := by
          rw [hES, Ro.edits, if_pos HCK.out]; exact Ro.makes_path (Ro.may_of_check HCK.out)
        have hedc : ∀ W, Below W2.heap.size W2 W → Calls Tryz.prog 17 #[.agg #[.slice a1 n1 c1, .slice a2 n2 c2, .slice a3 n3 c3, .slice a4 n4 c4, .int .i64 i1, .int .i64 i2, .int .i64 i3, .int .i64 i4, .int .i64 i5, .int .i64 i6, .int .i64 i7]] W (fun e w' => ∃ g c, e = .returned (.slice g LE c) ∧ ERow w' g LE ES ∧ Below W.heap.size W w') := fun W hb =>
          (redits_any s ms ts ks a1 n1 c1 a2 n2 c2 a3 n3 c3 a4 n4 c4 i1 i2 i3 i4 i5 i6 i7 W (HI.out _ (HU.out.trans ((HB2.out.trans (hb.mono HB2.out.size)).mono HU.out.size)))).mono (by
            rintro e w' ⟨g, c, rfl, how, hbe⟩
            rw [← hES, ← hLE] at *
            exact ⟨g, c, rfl, trow_of_owns eeE how (by omega) (by omega), hbe⟩)
        have hapc : ∀ (yb : Nat) W (g : Option Addr) (c : Nat), yb < W.heap.size → ERow W g LE ES → Calls Tryz.prog 15 #[.agg #[.slice none 0 0, .slice none 0 0, .slice none 0 0, .slice none 0 0, .int .i64 1, .int .i64 0, .int .i64 0, .int .i64 0, .int .i64 0, .int .i64 0, .int .i64 0], .slice g LE c] W (fun e w' => ∃ E1 L1 F1 E2 L2 F2 E3 L3 F3 E4 L4 F4, e = .returned (.tuple #[.agg #[.slice E1 L1 F1, .slice E2 L2 F2, .slice E3 L3 F3, .slice E4 L4 F4, .int .i64 i1, .int .i64 i2, .int .i64 i3, .int .i64 i4, .int .i64 i5, .int .i64 i6, .int .i64 i7], .bool true]) ∧ (∀ W', w'.grownBy W' (some yb) → RIn W' E1 L1 F1 E2 L2 F2 E3 L3 F3 E4 L4 F4 ⟨s, ms, ts, ks, i1, i2, i3, i4, i5, i6, i7⟩) ∧ Below W.heap.size W w') := fun yb W g c hy he => rapply17_any yb g LE c ES W hy he hLE2 ⟨s, ms, ts, ks, i1, i2, i3, i4, i5, i6, i7⟩ hpath HCK.out
        clear hES hLE hLE2 hpath hri HW
        obtain ⟨x0, x1, x2, x3, x4, x5, x6, x7, x8, x9, x10⟩ := HV6.out W2 (Below.refl _ _)
        go_upto_region 16 with fail
        go_cut [8, 9] (fun s8 s9 wx => ∃ (E1 : Option Addr) (F1 : Nat) (E2 : Option Addr) (F2 : Nat) (E3 : Option Addr) (F3 : Nat) (E4 : Option Addr) (F4 : Nat) (gY : Nat), s8 = .pointer (some ⟨gY, 0, none⟩) ∧ s9 = .bool true ∧ Hid (wx.heap[gY]? = some (.cells #[.slice E1 n1 F1, .slice E2 n2 F2, .slice E3 n3 F3, .slice E4 n4 F4, .int .i64 i1, .int .i64 i2, .int .i64 i3, .int .i64 i4, .int .i64 i5, .int .i64 i6, .int .i64 i7] 29 (0, 0))) ∧ Hid (RIn wx E1 n1 F1 E2 n2 F2 E3 n3 F3 E4 n4 F4 ⟨s, ms, ts, ks, i1, i2, i3, i4, i5, i6, i7⟩) ∧ Hid (Below W2.heap.size W2 wx))
        case first =>
          refine wp_region_held_drew (S := (fun W => W.cell? ⟨w.heap.size, 0, none⟩ = some (.slice a1 n1 c1) ∧ W.cell? ⟨w.heap.size, 1, none⟩ = some (.slice a2 n2 c2) ∧ W.cell? ⟨w.heap.size, 2, none⟩ = some (.slice a3 n3 c3) ∧ W.cell? ⟨w.heap.size, 3, none⟩ = some (.slice a4 n4 c4) ∧ W.cell? ⟨w.heap.size, 4, none⟩ = some (.int .i64 i1) ∧ W.cell? ⟨w.heap.size, 5, none⟩ = some (.int .i64 i2) ∧ W.cell? ⟨w.heap.size, 6, none⟩ = some (.int .i64 i3) ∧ W.cell? ⟨w.heap.size, 7, none⟩ = some (.int .i64 i4) ∧ W.cell? ⟨w.heap.size, 8, none⟩ = some (.int .i64 i5) ∧ W.cell? ⟨w.heap.size, 9, none⟩ = some (.int .i64 i6) ∧ W.cell? ⟨w.heap.size, 10, none⟩ = some (.int .i64 i7))) (by kernel_rfl) (HV6.out _ (Below.refl _ _).drew) (fun hHeld => ?_)
          refine wpAnyH_take (i := 1) (oi := ⟨some 67, _, _, _, _, _⟩) (v := ?_) rfl (by kernel_rfl) (by kernel_rfl) (by kernel_rfl) (fun _ _ _ h => h) (Or.inl ⟨by rfl, ?_⟩) (by assumption) ?_
          rotate_left
          · intro w hSw; (try dsimp only at hSw); go_simp <;> (try with_reducible rfl)
          go_frame
          refine wpAnyH_ready (rs := [0, 7]) (by kernel_rfl) (by simp) ?_
          refine AllReadyH.cons rfl (fun K hK => ?_) (AllReadyH.cons rfl (fun K hK => ?_) AllReadyH.nil)
          · skip
            go_simp; go_at_call 18; refine (rfirst17_any _).mono ?_; rintro e v11 ⟨rfl, h11⟩; have c11' := ((Below.refl W2.heap.size W2).drew).trans (h11.mono (((Below.refl W2.heap.size W2).drew)).size)
            refine hK.out _ _ (HV6.out _ c11') (fun hHeld => ?_)
            clear hK K
            try go_frame
            refine wpAnyH_ready (rs := [2, 7]) (by kernel_rfl) (by simp) ?_
            refine AllReadyH.cons rfl (fun K hK => ?_) (AllReadyH.cons rfl (fun K hK => ?_) AllReadyH.nil)
            · skip
              go_simp; go_at_call 17; refine (hedc _ c11').mono ?_; rintro e v12 ⟨ga, gc, rfl, her, h12⟩; have c12' := c11'.trans (h12.mono (c11').size)
              refine hK.out _ _ (HV6.out _ c12') (fun hHeld => ?_)
              clear hK K
              try go_frame
              have c12 := Below.refl v12.heap.size v12
              refine wpAnyH_ready (rs := [3, 7]) (by kernel_rfl) (by simp) ?_
              refine AllReadyH.cons rfl (fun K hK => ?_) (AllReadyH.cons rfl (fun K hK => ?_) AllReadyH.nil)
              · skip
                go_simp; go_at_call 15; refine (hapc (w.heap.size) _ ga gc (Nat.lt_of_lt_of_le HPW.out (c12').size) (her.below c12 (Nat.le_refl _))).mono ?_; rintro e v13 ⟨E1, L1, F1, E2, L2, F2, E3, L3, F3, E4, L4, F4, rfl, hro, h13⟩; have c13' := c12'.trans (h13.mono (c12').size); have c13 := c12.trans (h13.mono (c12).size)
                refine hK.out _ _ (HV6.out _ c13') (fun hHeld => ?_)
                clear hK K
                try go_frame
                refine wpAnyH_take (i := 4) (oi := ⟨some 65, _, _, _, _, _⟩) (v := ?_) rfl (by kernel_rfl) (by kernel_rfl) (by kernel_rfl) (fun _ _ _ h => h) (Or.inl ⟨by rfl, ?_⟩) (by assumption) ?_
                rotate_left
                · intro w hSw; (try dsimp only at hSw); go_simp <;> (try with_reducible rfl)
                go_frame
                refine wpAnyH_take (i := 5) (oi := ⟨some 70, _, _, _, _, _⟩) (v := ?_) rfl (by kernel_rfl) (by kernel_rfl) (by kernel_rfl) (fun _ _ _ h => h) (Or.inl ⟨by rfl, ?_⟩) (by assumption) ?_
                rotate_left
                · intro w hSw; (try dsimp only at hSw); go_simp <;> (try with_reducible rfl)
                go_frame
                refine wpAnyH_take (i := 6) (oi := ⟨some 71, _, _, _, _, _⟩) (v := ?_) rfl (by kernel_rfl) (by kernel_rfl) (by kernel_rfl) (fun _ _ _ h => h) (Or.inl ⟨by rfl, ?_⟩) (by assumption) ?_
                rotate_left
                · intro w hSw; (try dsimp only at hSw); go_simp <;> (try with_reducible rfl)
                go_frame
                refine wpAnyH_ready (rs := [7]) (by kernel_rfl) (by simp) ?_
                refine AllReadyH.cons rfl (fun K hK => ?_) AllReadyH.nil
                go_simp
                refine hK.out _ _ (HV6.out _ (c13'.alloc (c13').size _)) (fun hHeld => ?_)
                clear hK K
                refine wpAnyH_ready (rs := [8]) (by kernel_rfl) (by simp) ?_
                refine AllReadyH.cons rfl (fun K hK => ?_) AllReadyH.nil
                go_simp
                refine hK.out _ _ (HV6.out _ (c13'.alloc (c13').size _)) (fun hHeld => ?_)
                clear hK K
                refine wpAnyH_take (i := 9) (oi := ⟨some 9, _, _, _, _, _⟩) (v := ?_) rfl (by kernel_rfl) (by kernel_rfl) (by kernel_rfl) (fun _ _ _ h => h) (Or.inl ⟨by rfl, ?_⟩) (by assumption) ?_
                rotate_left
                · intro w hSw; (try dsimp only at hSw); go_simp <;> (try with_reducible rfl)
                go_frame
                refine wpAnyH_done (by kernel_rfl) ?_ _
                obtain ⟨V, hV⟩ : ∃ V, V = v13.alloc (.cells #[.slice E1 L1 F1, .slice E2 L2 F2, .slice E3 L3 F3, .slice E4 L4 F4, .int .i64 i1, .int .i64 i2, .int .i64 i3, .int .i64 i4, .int .i64 i5, .int .i64 i6, .int .i64 i7] 29) := ⟨_, rfl⟩
                rw [← hV]
                have hY : Hid (V.heap[v13.heap.size]? = some (.cells #[.slice E1 L1 F1, .slice E2 L2 F2, .slice E3 L3 F3, .slice E4 L4 F4, .int .i64 i1, .int .i64 i2, .int .i64 i3, .int .i64 i4, .int .i64 i5, .int .i64 i6, .int .i64 i7] 29 (0, 0))) := (by rw [hV]; exact heap_alloc_new _ _ : _ = _)
                have hbV : Hid (Below W2.heap.size W2 V) := (by rw [hV]; exact c13'.alloc c13'.size _ : Below _ _ _)
                have hRY : RIn V E1 L1 F1 E2 L2 F2 E3 L3 F3 E4 L4 F4 ⟨s, ms, ts, ks, i1, i2, i3, i4, i5, i6, i7⟩ := hro V (by rw [hV]; exact grown_any (below_alloc _ _) _)
                clear hV
                have hr0 := hRY
                obtain ⟨u1, u2, u3, u4⟩ := HQ.out
                obtain rfl : n1 = L1 := u1.symm.trans hr0.r1.1
                obtain rfl : n2 = L2 := u2.symm.trans hr0.r2.1
                obtain rfl : n3 = L3 := u3.symm.trans hr0.r3.1
                obtain rfl : n4 = L4 := u4.symm.trans hr0.r4.1
                have hRV : Hid (RIn V E1 n1 F1 E2 n2 F2 E3 n3 F3 E4 n4 F4 ⟨s, ms, ts, ks, i1, i2, i3, i4, i5, i6, i7⟩) := hRY
                go_wp2_with fail
                go_meet
                case rel => exact ⟨E1, F1, E2, F2, E3, F3, E4, F4, v13.heap.size, rfl, rfl, hY, hRV, hbV⟩
              · skip
                go_simp
                refine hK.out _ _ (HV6.out _ ((c12'.alloc (c12').size (.cells #[.slice none 0 0, .slice none 0 0, .slice none 0 0, .slice none 0 0, .int .i64 0, .int .i64 0, .int .i64 0, .int .i64 0, .int .i64 0, .int .i64 0, .int .i64 0] 29)))) (fun hHeld => ?_)
                clear hK K
                have bz : Below W2.heap.size W2 (v12.alloc (.cells #[.slice none 0 0, .slice none 0 0, .slice none 0 0, .slice none 0 0, .int .i64 0, .int .i64 0, .int .i64 0, .int .i64 0, .int .i64 0, .int .i64 0, .int .i64 0] 29)) := (c12'.alloc (c12').size (.cells #[.slice none 0 0, .slice none 0 0, .slice none 0 0, .slice none 0 0, .int .i64 0, .int .i64 0, .int .i64 0, .int .i64 0, .int .i64 0, .int .i64 0, .int .i64 0] 29))
                have zz := (heap_alloc_new v12 (.cells #[.slice none 0 0, .slice none 0 0, .slice none 0 0, .slice none 0 0, .int .i64 0, .int .i64 0, .int .i64 0, .int .i64 0, .int .i64 0, .int .i64 0, .int .i64 0] 29))
                have cz := c12.alloc (c12).size (.cells #[.slice none 0 0, .slice none 0 0, .slice none 0 0, .slice none 0 0, .int .i64 0, .int .i64 0, .int .i64 0, .int .i64 0, .int .i64 0, .int .i64 0, .int .i64 0] 29)
                refine wpAnyH_ready (rs := [3]) (by kernel_rfl) (by simp) ?_
                refine AllReadyH.cons rfl (fun K hK => ?_) AllReadyH.nil
                go_simp; go_at_call 15; refine (hapc (v12.heap.size) _ ga gc (ob_ltB zz) (her.below cz (Nat.le_refl _))).mono ?_; rintro e v13 ⟨E1, L1, F1, E2, L2, F2, E3, L3, F3, E4, L4, F4, rfl, hro, h13⟩; have c13' := bz.trans (h13.mono (bz).size); have c13 := cz.trans (h13.mono (cz).size); have z13 := (h13.block _ (ob_ltB zz)).trans zz; have zc0 := (blkc z13).1 0; have zf0 := (blkc z13).2 0; have zc1 := (blkc z13).1 1; have zf1 := (blkc z13).2 1; have zc2 := (blkc z13).1 2; have zf2 := (blkc z13).2 2; have zc3 := (blkc z13).1 3; have zf3 := (blkc z13).2 3; have zc4 := (blkc z13).1 4; have zf4 := (blkc z13).2 4; have zc5 := (blkc z13).1 5; have zf5 := (blkc z13).2 5; have zc6 := (blkc z13).1 6; have zf6 := (blkc z13).2 6; have zc7 := (blkc z13).1 7; have zf7 := (blkc z13).2 7; have zc8 := (blkc z13).1 8; have zf8 := (blkc z13).2 8; have zc9 := (blkc z13).1 9; have zf9 := (blkc z13).2 9; have zc10 := (blkc z13).1 10; have zf10 := (blkc z13).2 10
                refine hK.out _ _ (HV6.out _ c13') (fun hHeld => ?_)
                clear hK K
                try go_frame
                refine wpAnyH_take (i := 4) (oi := ⟨some 65, _, _, _, _, _⟩) (v := ?_) rfl (by kernel_rfl) (by kernel_rfl) (by kernel_rfl) (fun _ _ _ h => h) (Or.inl ⟨by rfl, ?_⟩) (by assumption) ?_
                rotate_left
                · intro w hSw; (try dsimp only at hSw); go_simp <;> (try with_reducible rfl)
                go_frame
                refine wpAnyH_take (i := 5) (oi := ⟨some 70, _, _, _, _, _⟩) (v := ?_) rfl (by kernel_rfl) (by kernel_rfl) (by kernel_rfl) (fun _ _ _ h => h) (Or.inl ⟨by rfl, ?_⟩) (by assumption) ?_
                rotate_left
                · intro w hSw; (try dsimp only at hSw); go_simp <;> (try with_reducible rfl)
                go_frame
                refine wpAnyH_take (i := 6) (oi := ⟨some 71, _, _, _, _, _⟩) (v := ?_) rfl (by kernel_rfl) (by kernel_rfl) (by kernel_rfl) (fun _ _ _ h => h) (Or.inl ⟨by rfl, ?_⟩) (by assumption) ?_
                rotate_left
                · intro w hSw; (try dsimp only at hSw); go_simp <;> (try with_reducible rfl)
                go_frame
                refine wpAnyH_ready (rs := [8]) (by kernel_rfl) (by simp) ?_
                refine AllReadyH.cons rfl (fun K hK => ?_) AllReadyH.nil
                go_simp
                refine hK.out _ _ (HV6.out _ (below_grownB c13' (turned_setL (v12.heap.size) [.slice E1 L1 F1, .slice E2 L2 F2, .slice E3 L3 F3, .slice E4 L4 F4, .int .i64 i1, .int .i64 i2, .int .i64 i3, .int .i64 i4, .int .i64 i5, .int .i64 i6, .int .i64 i7] 0 v13) (c13').size (fun q hq => by cases hq; exact c12'.size))) (fun hHeld => ?_)
                clear hK K
                refine wpAnyH_take (i := 9) (oi := ⟨some 9, _, _, _, _, _⟩) (v := ?_) rfl (by kernel_rfl) (by kernel_rfl) (by kernel_rfl) (fun _ _ _ h => h) (Or.inl ⟨by rfl, ?_⟩) (by assumption) ?_
                rotate_left
                · intro w hSw; (try dsimp only at hSw); go_simp <;> (try with_reducible rfl)
                go_frame
                refine wpAnyH_done (by kernel_rfl) ?_ _
                have Y10 : (((((((((((v13.setCell ⟨v12.heap.size, 0, none⟩ (.slice E1 L1 F1)).setCell ⟨v12.heap.size, 1, none⟩ (.slice E2 L2 F2)).setCell ⟨v12.heap.size, 2, none⟩ (.slice E3 L3 F3)).setCell ⟨v12.heap.size, 3, none⟩ (.slice E4 L4 F4)).setCell ⟨v12.heap.size, 4, none⟩ (.int .i64 i1)).setCell ⟨v12.heap.size, 5, none⟩ (.int .i64 i2)).setCell ⟨v12.heap.size, 6, none⟩ (.int .i64 i3)).setCell ⟨v12.heap.size, 7, none⟩ (.int .i64 i4)).setCell ⟨v12.heap.size, 8, none⟩ (.int .i64 i5)).setCell ⟨v12.heap.size, 9, none⟩ (.int .i64 i6)).setCell ⟨v12.heap.size, 10, none⟩ (.int .i64 i7)).heap[v12.heap.size]? = some (.cells #[.slice E1 L1 F1, .slice E2 L2 F2, .slice E3 L3 F3, .slice E4 L4 F4, .int .i64 i1, .int .i64 i2, .int .i64 i3, .int .i64 i4, .int .i64 i5, .int .i64 i6, .int .i64 i7] 29 (0, 0)) := bput_new [.slice E1 L1 F1, .slice E2 L2 F2, .slice E3 L3 F3, .slice E4 L4 F4, .int .i64 i1, .int .i64 i2, .int .i64 i3, .int .i64 i4, .int .i64 i5, .int .i64 i6, .int .i64 i7] z13 rfl
                have hgz : v13.grownBy (((((((((((v13.setCell ⟨v12.heap.size, 0, none⟩ (.slice E1 L1 F1)).setCell ⟨v12.heap.size, 1, none⟩ (.slice E2 L2 F2)).setCell ⟨v12.heap.size, 2, none⟩ (.slice E3 L3 F3)).setCell ⟨v12.heap.size, 3, none⟩ (.slice E4 L4 F4)).setCell ⟨v12.heap.size, 4, none⟩ (.int .i64 i1)).setCell ⟨v12.heap.size, 5, none⟩ (.int .i64 i2)).setCell ⟨v12.heap.size, 6, none⟩ (.int .i64 i3)).setCell ⟨v12.heap.size, 7, none⟩ (.int .i64 i4)).setCell ⟨v12.heap.size, 8, none⟩ (.int .i64 i5)).setCell ⟨v12.heap.size, 9, none⟩ (.int .i64 i6)).setCell ⟨v12.heap.size, 10, none⟩ (.int .i64 i7)) (some (v12.heap.size)) := turned_setL (v12.heap.size) [.slice E1 L1 F1, .slice E2 L2 F2, .slice E3 L3 F3, .slice E4 L4 F4, .int .i64 i1, .int .i64 i2, .int .i64 i3, .int .i64 i4, .int .i64 i5, .int .i64 i6, .int .i64 i7] 0 v13
                have hbV0 : Below W2.heap.size W2 (((((((((((v13.setCell ⟨v12.heap.size, 0, none⟩ (.slice E1 L1 F1)).setCell ⟨v12.heap.size, 1, none⟩ (.slice E2 L2 F2)).setCell ⟨v12.heap.size, 2, none⟩ (.slice E3 L3 F3)).setCell ⟨v12.heap.size, 3, none⟩ (.slice E4 L4 F4)).setCell ⟨v12.heap.size, 4, none⟩ (.int .i64 i1)).setCell ⟨v12.heap.size, 5, none⟩ (.int .i64 i2)).setCell ⟨v12.heap.size, 6, none⟩ (.int .i64 i3)).setCell ⟨v12.heap.size, 7, none⟩ (.int .i64 i4)).setCell ⟨v12.heap.size, 8, none⟩ (.int .i64 i5)).setCell ⟨v12.heap.size, 9, none⟩ (.int .i64 i6)).setCell ⟨v12.heap.size, 10, none⟩ (.int .i64 i7)) := below_grownB c13' hgz c13'.size (fun q hq => by cases hq; exact c12'.size)
                have hRY0 := hro _ hgz
                obtain ⟨V, hV⟩ : ∃ V, V = (((((((((((v13.setCell ⟨v12.heap.size, 0, none⟩ (.slice E1 L1 F1)).setCell ⟨v12.heap.size, 1, none⟩ (.slice E2 L2 F2)).setCell ⟨v12.heap.size, 2, none⟩ (.slice E3 L3 F3)).setCell ⟨v12.heap.size, 3, none⟩ (.slice E4 L4 F4)).setCell ⟨v12.heap.size, 4, none⟩ (.int .i64 i1)).setCell ⟨v12.heap.size, 5, none⟩ (.int .i64 i2)).setCell ⟨v12.heap.size, 6, none⟩ (.int .i64 i3)).setCell ⟨v12.heap.size, 7, none⟩ (.int .i64 i4)).setCell ⟨v12.heap.size, 8, none⟩ (.int .i64 i5)).setCell ⟨v12.heap.size, 9, none⟩ (.int .i64 i6)).setCell ⟨v12.heap.size, 10, none⟩ (.int .i64 i7)) := ⟨_, rfl⟩
                rw [← hV]
                rw [← hV] at hbV0 hRY0 Y10
                have hY : Hid (V.heap[v12.heap.size]? = some (.cells #[.slice E1 L1 F1, .slice E2 L2 F2, .slice E3 L3 F3, .slice E4 L4 F4, .int .i64 i1, .int .i64 i2, .int .i64 i3, .int .i64 i4, .int .i64 i5, .int .i64 i6, .int .i64 i7] 29 (0, 0))) := Y10
                have hbV : Hid (Below W2.heap.size W2 V) := hbV0
                have hRY : RIn V E1 L1 F1 E2 L2 F2 E3 L3 F3 E4 L4 F4 ⟨s, ms, ts, ks, i1, i2, i3, i4, i5, i6, i7⟩ := hRY0
                clear hV hgz hbV0 hRY0
                have hr0 := hRY
                obtain ⟨u1, u2, u3, u4⟩ := HQ.out
                obtain rfl : n1 = L1 := u1.symm.trans hr0.r1.1
                obtain rfl : n2 = L2 := u2.symm.trans hr0.r2.1
                obtain rfl : n3 = L3 := u3.symm.trans hr0.r3.1
                obtain rfl : n4 = L4 := u4.symm.trans hr0.r4.1
                have hRV : Hid (RIn V E1 n1 F1 E2 n2 F2 E3 n3 F3 E4 n4 F4 ⟨s, ms, ts, ks, i1, i2, i3, i4, i5, i6, i7⟩) := hRY
                go_wp2_with fail
                go_meet
                case rel => exact ⟨E1, F1, E2, F2, E3, F3, E4, F4, v12.heap.size, rfl, rfl, hY, hRV, hbV⟩
            · skip
              go_simp
              refine hK.out _ _ (HV6.out _ ((c11'.alloc (c11').size (.cells #[.slice none 0 0, .slice none 0 0, .slice none 0 0, .slice none 0 0, .int .i64 0, .int .i64 0, .int .i64 0, .int .i64 0, .int .i64 0, .int .i64 0, .int .i64 0] 29)))) (fun hHeld => ?_)
              clear hK K
              have bz : Below W2.heap.size W2 (v11.alloc (.cells #[.slice none 0 0, .slice none 0 0, .slice none 0 0, .slice none 0 0, .int .i64 0, .int .i64 0, .int .i64 0, .int .i64 0, .int .i64 0, .int .i64 0, .int .i64 0] 29)) := (c11'.alloc (c11').size (.cells #[.slice none 0 0, .slice none 0 0, .slice none 0 0, .slice none 0 0, .int .i64 0, .int .i64 0, .int .i64 0, .int .i64 0, .int .i64 0, .int .i64 0, .int .i64 0] 29))
              have zz := (heap_alloc_new v11 (.cells #[.slice none 0 0, .slice none 0 0, .slice none 0 0, .slice none 0 0, .int .i64 0, .int .i64 0, .int .i64 0, .int .i64 0, .int .i64 0, .int .i64 0, .int .i64 0] 29))
              refine wpAnyH_ready (rs := [2]) (by kernel_rfl) (by simp) ?_
              refine AllReadyH.cons rfl (fun K hK => ?_) AllReadyH.nil
              go_simp; go_at_call 17; refine (hedc _ bz).mono ?_; rintro e v12 ⟨ga, gc, rfl, her, h12⟩; have c12' := bz.trans (h12.mono (bz).size); have z12 := (h12.block _ (ob_ltB zz)).trans zz
              refine hK.out _ _ (HV6.out _ c12') (fun hHeld => ?_)
              clear hK K
              try go_frame
              have c12 := Below.refl v12.heap.size v12
              refine wpAnyH_ready (rs := [3]) (by kernel_rfl) (by simp) ?_
              refine AllReadyH.cons rfl (fun K hK => ?_) AllReadyH.nil
              go_simp; go_at_call 15; refine (hapc (v11.heap.size) _ ga gc (ob_ltB z12) (her.below c12 (Nat.le_refl _))).mono ?_; rintro e v13 ⟨E1, L1, F1, E2, L2, F2, E3, L3, F3, E4, L4, F4, rfl, hro, h13⟩; have c13' := c12'.trans (h13.mono (c12').size); have c13 := c12.trans (h13.mono (c12).size); have z13 := (h13.block _ (ob_ltB z12)).trans z12; have zc0 := (blkc z13).1 0; have zf0 := (blkc z13).2 0; have zc1 := (blkc z13).1 1; have zf1 := (blkc z13).2 1; have zc2 := (blkc z13).1 2; have zf2 := (blkc z13).2 2; have zc3 := (blkc z13).1 3; have zf3 := (blkc z13).2 3; have zc4 := (blkc z13).1 4; have zf4 := (blkc z13).2 4; have zc5 := (blkc z13).1 5; have zf5 := (blkc z13).2 5; have zc6 := (blkc z13).1 6; have zf6 := (blkc z13).2 6; have zc7 := (blkc z13).1 7; have zf7 := (blkc z13).2 7; have zc8 := (blkc z13).1 8; have zf8 := (blkc z13).2 8; have zc9 := (blkc z13).1 9; have zf9 := (blkc z13).2 9; have zc10 := (blkc z13).1 10; have zf10 := (blkc z13).2 10
              refine hK.out _ _ (HV6.out _ c13') (fun hHeld => ?_)
              clear hK K
              try go_frame
              refine wpAnyH_take (i := 4) (oi := ⟨some 65, _, _, _, _, _⟩) (v := ?_) rfl (by kernel_rfl) (by kernel_rfl) (by kernel_rfl) (fun _ _ _ h => h) (Or.inl ⟨by rfl, ?_⟩) (by assumption) ?_
              rotate_left
              · intro w hSw; (try dsimp only at hSw); go_simp <;> (try with_reducible rfl)
              go_frame
              refine wpAnyH_take (i := 5) (oi := ⟨some 70, _, _, _, _, _⟩) (v := ?_) rfl (by kernel_rfl) (by kernel_rfl) (by kernel_rfl) (fun _ _ _ h => h) (Or.inl ⟨by rfl, ?_⟩) (by assumption) ?_
              rotate_left
              · intro w hSw; (try dsimp only at hSw); go_simp <;> (try with_reducible rfl)
              go_frame
              refine wpAnyH_take (i := 6) (oi := ⟨some 71, _, _, _, _, _⟩) (v := ?_) rfl (by kernel_rfl) (by kernel_rfl) (by kernel_rfl) (fun _ _ _ h => h) (Or.inl ⟨by rfl, ?_⟩) (by assumption) ?_
              rotate_left
              · intro w hSw; (try dsimp only at hSw); go_simp <;> (try with_reducible rfl)
              go_frame
              refine wpAnyH_ready (rs := [8]) (by kernel_rfl) (by simp) ?_
              refine AllReadyH.cons rfl (fun K hK => ?_) AllReadyH.nil
              go_simp
              refine hK.out _ _ (HV6.out _ (below_grownB c13' (turned_setL (v11.heap.size) [.slice E1 L1 F1, .slice E2 L2 F2, .slice E3 L3 F3, .slice E4 L4 F4, .int .i64 i1, .int .i64 i2, .int .i64 i3, .int .i64 i4, .int .i64 i5, .int .i64 i6, .int .i64 i7] 0 v13) (c13').size (fun q hq => by cases hq; exact c11'.size))) (fun hHeld => ?_)
              clear hK K
              refine wpAnyH_take (i := 9) (oi := ⟨some 9, _, _, _, _, _⟩) (v := ?_) rfl (by kernel_rfl) (by kernel_rfl) (by kernel_rfl) (fun _ _ _ h => h) (Or.inl ⟨by rfl, ?_⟩) (by assumption) ?_
              rotate_left
              · intro w hSw; (try dsimp only at hSw); go_simp <;> (try with_reducible rfl)
              go_frame
              refine wpAnyH_done (by kernel_rfl) ?_ _
              have Y10 : (((((((((((v13.setCell ⟨v11.heap.size, 0, none⟩ (.slice E1 L1 F1)).setCell ⟨v11.heap.size, 1, none⟩ (.slice E2 L2 F2)).setCell ⟨v11.heap.size, 2, none⟩ (.slice E3 L3 F3)).setCell ⟨v11.heap.size, 3, none⟩ (.slice E4 L4 F4)).setCell ⟨v11.heap.size, 4, none⟩ (.int .i64 i1)).setCell ⟨v11.heap.size, 5, none⟩ (.int .i64 i2)).setCell ⟨v11.heap.size, 6, none⟩ (.int .i64 i3)).setCell ⟨v11.heap.size, 7, none⟩ (.int .i64 i4)).setCell ⟨v11.heap.size, 8, none⟩ (.int .i64 i5)).setCell ⟨v11.heap.size, 9, none⟩ (.int .i64 i6)).setCell ⟨v11.heap.size, 10, none⟩ (.int .i64 i7)).heap[v11.heap.size]? = some (.cells #[.slice E1 L1 F1, .slice E2 L2 F2, .slice E3 L3 F3, .slice E4 L4 F4, .int .i64 i1, .int .i64 i2, .int .i64 i3, .int .i64 i4, .int .i64 i5, .int .i64 i6, .int .i64 i7] 29 (0, 0)) := bput_new [.slice E1 L1 F1, .slice E2 L2 F2, .slice E3 L3 F3, .slice E4 L4 F4, .int .i64 i1, .int .i64 i2, .int .i64 i3, .int .i64 i4, .int .i64 i5, .int .i64 i6, .int .i64 i7] z13 rfl
              have hgz : v13.grownBy (((((((((((v13.setCell ⟨v11.heap.size, 0, none⟩ (.slice E1 L1 F1)).setCell ⟨v11.heap.size, 1, none⟩ (.slice E2 L2 F2)).setCell ⟨v11.heap.size, 2, none⟩ (.slice E3 L3 F3)).setCell ⟨v11.heap.size, 3, none⟩ (.slice E4 L4 F4)).setCell ⟨v11.heap.size, 4, none⟩ (.int .i64 i1)).setCell ⟨v11.heap.size, 5, none⟩ (.int .i64 i2)).setCell ⟨v11.heap.size, 6, none⟩ (.int .i64 i3)).setCell ⟨v11.heap.size, 7, none⟩ (.int .i64 i4)).setCell ⟨v11.heap.size, 8, none⟩ (.int .i64 i5)).setCell ⟨v11.heap.size, 9, none⟩ (.int .i64 i6)).setCell ⟨v11.heap.size, 10, none⟩ (.int .i64 i7)) (some (v11.heap.size)) := turned_setL (v11.heap.size) [.slice E1 L1 F1, .slice E2 L2 F2, .slice E3 L3 F3, .slice E4 L4 F4, .int .i64 i1, .int .i64 i2, .int .i64 i3, .int .i64 i4, .int .i64 i5, .int .i64 i6, .int .i64 i7] 0 v13
              have hbV0 : Below W2.heap.size W2 (((((((((((v13.setCell ⟨v11.heap.size, 0, none⟩ (.slice E1 L1 F1)).setCell ⟨v11.heap.size, 1, none⟩ (.slice E2 L2 F2)).setCell ⟨v11.heap.size, 2, none⟩ (.slice E3 L3 F3)).setCell ⟨v11.heap.size, 3, none⟩ (.slice E4 L4 F4)).setCell ⟨v11.heap.size, 4, none⟩ (.int .i64 i1)).setCell ⟨v11.heap.size, 5, none⟩ (.int .i64 i2)).setCell ⟨v11.heap.size, 6, none⟩ (.int .i64 i3)).setCell ⟨v11.heap.size, 7, none⟩ (.int .i64 i4)).setCell ⟨v11.heap.size, 8, none⟩ (.int .i64 i5)).setCell ⟨v11.heap.size, 9, none⟩ (.int .i64 i6)).setCell ⟨v11.heap.size, 10, none⟩ (.int .i64 i7)) := below_grownB c13' hgz c13'.size (fun q hq => by cases hq; exact c11'.size)
              have hRY0 := hro _ hgz
              obtain ⟨V, hV⟩ : ∃ V, V = (((((((((((v13.setCell ⟨v11.heap.size, 0, none⟩ (.slice E1 L1 F1)).setCell ⟨v11.heap.size, 1, none⟩ (.slice E2 L2 F2)).setCell ⟨v11.heap.size, 2, none⟩ (.slice E3 L3 F3)).setCell ⟨v11.heap.size, 3, none⟩ (.slice E4 L4 F4)).setCell ⟨v11.heap.size, 4, none⟩ (.int .i64 i1)).setCell ⟨v11.heap.size, 5, none⟩ (.int .i64 i2)).setCell ⟨v11.heap.size, 6, none⟩ (.int .i64 i3)).setCell ⟨v11.heap.size, 7, none⟩ (.int .i64 i4)).setCell ⟨v11.heap.size, 8, none⟩ (.int .i64 i5)).setCell ⟨v11.heap.size, 9, none⟩ (.int .i64 i6)).setCell ⟨v11.heap.size, 10, none⟩ (.int .i64 i7)) := ⟨_, rfl⟩
              rw [← hV]
              rw [← hV] at hbV0 hRY0 Y10
              have hY : Hid (V.heap[v11.heap.size]? = some (.cells #[.slice E1 L1 F1, .slice E2 L2 F2, .slice E3 L3 F3, .slice E4 L4 F4, .int .i64 i1, .int .i64 i2, .int .i64 i3, .int .i64 i4, .int .i64 i5, .int .i64 i6, .int .i64 i7] 29 (0, 0))) := Y10
              have hbV : Hid (Below W2.heap.size W2 V) := hbV0
              have hRY : RIn V E1 L1 F1 E2 L2 F2 E3 L3 F3 E4 L4 F4 ⟨s, ms, ts, ks, i1, i2, i3, i4, i5, i6, i7⟩ := hRY0
              clear hV hgz hbV0 hRY0
              have hr0 := hRY
              obtain ⟨u1, u2, u3, u4⟩ := HQ.out
              obtain rfl : n1 = L1 := u1.symm.trans hr0.r1.1
              obtain rfl : n2 = L2 := u2.symm.trans hr0.r2.1
              obtain rfl : n3 = L3 := u3.symm.trans hr0.r3.1
              obtain rfl : n4 = L4 := u4.symm.trans hr0.r4.1
              have hRV : Hid (RIn V E1 n1 F1 E2 n2 F2 E3 n3 F3 E4 n4 F4 ⟨s, ms, ts, ks, i1, i2, i3, i4, i5, i6, i7⟩) := hRY
              go_wp2_with fail
              go_meet
              case rel => exact ⟨E1, F1, E2, F2, E3, F3, E4, F4, v11.heap.size, rfl, rfl, hY, hRV, hbV⟩
          · skip
            go_simp
            refine hK.out _ _ (HV6.out _ (((below_alloc _ _).drew : Below W2.heap.size W2 _))) (fun hHeld => ?_)
            clear hK K
            have bz : Below W2.heap.size W2 (W2.alloc (.cells #[.slice none 0 0, .slice none 0 0, .slice none 0 0, .slice none 0 0, .int .i64 0, .int .i64 0, .int .i64 0, .int .i64 0, .int .i64 0, .int .i64 0, .int .i64 0] 29)).drew := ((below_alloc _ _).drew : Below W2.heap.size W2 _)
            have zz := (heap_alloc_new W2 (.cells #[.slice none 0 0, .slice none 0 0, .slice none 0 0, .slice none 0 0, .int .i64 0, .int .i64 0, .int .i64 0, .int .i64 0, .int .i64 0, .int .i64 0, .int .i64 0] 29) : (W2.alloc (.cells #[.slice none 0 0, .slice none 0 0, .slice none 0 0, .slice none 0 0, .int .i64 0, .int .i64 0, .int .i64 0, .int .i64 0, .int .i64 0, .int .i64 0, .int .i64 0] 29)).drew.heap[W2.heap.size]? = _)
            refine wpAnyH_ready (rs := [0]) (by kernel_rfl) (by simp) ?_
            refine AllReadyH.cons rfl (fun K hK => ?_) AllReadyH.nil
            go_simp; go_at_call 18; refine (rfirst17_any _).mono ?_; rintro e v11 ⟨rfl, h11⟩; have c11' := bz.trans (h11.mono (bz).size); have z11 := (h11.block _ (ob_ltB zz)).trans zz
            refine hK.out _ _ (HV6.out _ c11') (fun hHeld => ?_)
            clear hK K
            try go_frame
            refine wpAnyH_ready (rs := [2]) (by kernel_rfl) (by simp) ?_
            refine AllReadyH.cons rfl (fun K hK => ?_) AllReadyH.nil
            go_simp; go_at_call 17; refine (hedc _ c11').mono ?_; rintro e v12 ⟨ga, gc, rfl, her, h12⟩; have c12' := c11'.trans (h12.mono (c11').size); have z12 := (h12.block _ (ob_ltB z11)).trans z11
            refine hK.out _ _ (HV6.out _ c12') (fun hHeld => ?_)
            clear hK K
            try go_frame
            have c12 := Below.refl v12.heap.size v12
            refine wpAnyH_ready (rs := [3]) (by kernel_rfl) (by simp) ?_
            refine AllReadyH.cons rfl (fun K hK => ?_) AllReadyH.nil
            go_simp; go_at_call 15; refine (hapc (W2.heap.size) _ ga gc (ob_ltB z12) (her.below c12 (Nat.le_refl _))).mono ?_; rintro e v13 ⟨E1, L1, F1, E2, L2, F2, E3, L3, F3, E4, L4, F4, rfl, hro, h13⟩; have c13' := c12'.trans (h13.mono (c12').size); have c13 := c12.trans (h13.mono (c12).size); have z13 := (h13.block _ (ob_ltB z12)).trans z12; have zc0 := (blkc z13).1 0; have zf0 := (blkc z13).2 0; have zc1 := (blkc z13).1 1; have zf1 := (blkc z13).2 1; have zc2 := (blkc z13).1 2; have zf2 := (blkc z13).2 2; have zc3 := (blkc z13).1 3; have zf3 := (blkc z13).2 3; have zc4 := (blkc z13).1 4; have zf4 := (blkc z13).2 4; have zc5 := (blkc z13).1 5; have zf5 := (blkc z13).2 5; have zc6 := (blkc z13).1 6; have zf6 := (blkc z13).2 6; have zc7 := (blkc z13).1 7; have zf7 := (blkc z13).2 7; have zc8 := (blkc z13).1 8; have zf8 := (blkc z13).2 8; have zc9 := (blkc z13).1 9; have zf9 := (blkc z13).2 9; have zc10 := (blkc z13).1 10; have zf10 := (blkc z13).2 10
            refine hK.out _ _ (HV6.out _ c13') (fun hHeld => ?_)
            clear hK K
            try go_frame
            refine wpAnyH_take (i := 4) (oi := ⟨some 65, _, _, _, _, _⟩) (v := ?_) rfl (by kernel_rfl) (by kernel_rfl) (by kernel_rfl) (fun _ _ _ h => h) (Or.inl ⟨by rfl, ?_⟩) (by assumption) ?_
            rotate_left
            · intro w hSw; (try dsimp only at hSw); go_simp <;> (try with_reducible rfl)
            go_frame
            refine wpAnyH_take (i := 5) (oi := ⟨some 70, _, _, _, _, _⟩) (v := ?_) rfl (by kernel_rfl) (by kernel_rfl) (by kernel_rfl) (fun _ _ _ h => h) (Or.inl ⟨by rfl, ?_⟩) (by assumption) ?_
            rotate_left
            · intro w hSw; (try dsimp only at hSw); go_simp <;> (try with_reducible rfl)
            go_frame
            refine wpAnyH_take (i := 6) (oi := ⟨some 71, _, _, _, _, _⟩) (v := ?_) rfl (by kernel_rfl) (by kernel_rfl) (by kernel_rfl) (fun _ _ _ h => h) (Or.inl ⟨by rfl, ?_⟩) (by assumption) ?_
            rotate_left
            · intro w hSw; (try dsimp only at hSw); go_simp <;> (try with_reducible rfl)
            go_frame
            refine wpAnyH_ready (rs := [8]) (by kernel_rfl) (by simp) ?_
            refine AllReadyH.cons rfl (fun K hK => ?_) AllReadyH.nil
            go_simp
            refine hK.out _ _ (HV6.out _ (below_grownB c13' (turned_setL (W2.heap.size) [.slice E1 L1 F1, .slice E2 L2 F2, .slice E3 L3 F3, .slice E4 L4 F4, .int .i64 i1, .int .i64 i2, .int .i64 i3, .int .i64 i4, .int .i64 i5, .int .i64 i6, .int .i64 i7] 0 v13) (c13').size (fun q hq => by cases hq; exact (Nat.le_refl _)))) (fun hHeld => ?_)
            clear hK K
            refine wpAnyH_take (i := 9) (oi := ⟨some 9, _, _, _, _, _⟩) (v := ?_) rfl (by kernel_rfl) (by kernel_rfl) (by kernel_rfl) (fun _ _ _ h => h) (Or.inl ⟨by rfl, ?_⟩) (by assumption) ?_
            rotate_left
            · intro w hSw; (try dsimp only at hSw); go_simp <;> (try with_reducible rfl)
            go_frame
            refine wpAnyH_done (by kernel_rfl) ?_ _
            have Y10 : (((((((((((v13.setCell ⟨W2.heap.size, 0, none⟩ (.slice E1 L1 F1)).setCell ⟨W2.heap.size, 1, none⟩ (.slice E2 L2 F2)).setCell ⟨W2.heap.size, 2, none⟩ (.slice E3 L3 F3)).setCell ⟨W2.heap.size, 3, none⟩ (.slice E4 L4 F4)).setCell ⟨W2.heap.size, 4, none⟩ (.int .i64 i1)).setCell ⟨W2.heap.size, 5, none⟩ (.int .i64 i2)).setCell ⟨W2.heap.size, 6, none⟩ (.int .i64 i3)).setCell ⟨W2.heap.size, 7, none⟩ (.int .i64 i4)).setCell ⟨W2.heap.size, 8, none⟩ (.int .i64 i5)).setCell ⟨W2.heap.size, 9, none⟩ (.int .i64 i6)).setCell ⟨W2.heap.size, 10, none⟩ (.int .i64 i7)).heap[W2.heap.size]? = some (.cells #[.slice E1 L1 F1, .slice E2 L2 F2, .slice E3 L3 F3, .slice E4 L4 F4, .int .i64 i1, .int .i64 i2, .int .i64 i3, .int .i64 i4, .int .i64 i5, .int .i64 i6, .int .i64 i7] 29 (0, 0)) := bput_new [.slice E1 L1 F1, .slice E2 L2 F2, .slice E3 L3 F3, .slice E4 L4 F4, .int .i64 i1, .int .i64 i2, .int .i64 i3, .int .i64 i4, .int .i64 i5, .int .i64 i6, .int .i64 i7] z13 rfl
            have hgz : v13.grownBy (((((((((((v13.setCell ⟨W2.heap.size, 0, none⟩ (.slice E1 L1 F1)).setCell ⟨W2.heap.size, 1, none⟩ (.slice E2 L2 F2)).setCell ⟨W2.heap.size, 2, none⟩ (.slice E3 L3 F3)).setCell ⟨W2.heap.size, 3, none⟩ (.slice E4 L4 F4)).setCell ⟨W2.heap.size, 4, none⟩ (.int .i64 i1)).setCell ⟨W2.heap.size, 5, none⟩ (.int .i64 i2)).setCell ⟨W2.heap.size, 6, none⟩ (.int .i64 i3)).setCell ⟨W2.heap.size, 7, none⟩ (.int .i64 i4)).setCell ⟨W2.heap.size, 8, none⟩ (.int .i64 i5)).setCell ⟨W2.heap.size, 9, none⟩ (.int .i64 i6)).setCell ⟨W2.heap.size, 10, none⟩ (.int .i64 i7)) (some (W2.heap.size)) := turned_setL (W2.heap.size) [.slice E1 L1 F1, .slice E2 L2 F2, .slice E3 L3 F3, .slice E4 L4 F4, .int .i64 i1, .int .i64 i2, .int .i64 i3, .int .i64 i4, .int .i64 i5, .int .i64 i6, .int .i64 i7] 0 v13
            have hbV0 : Below W2.heap.size W2 (((((((((((v13.setCell ⟨W2.heap.size, 0, none⟩ (.slice E1 L1 F1)).setCell ⟨W2.heap.size, 1, none⟩ (.slice E2 L2 F2)).setCell ⟨W2.heap.size, 2, none⟩ (.slice E3 L3 F3)).setCell ⟨W2.heap.size, 3, none⟩ (.slice E4 L4 F4)).setCell ⟨W2.heap.size, 4, none⟩ (.int .i64 i1)).setCell ⟨W2.heap.size, 5, none⟩ (.int .i64 i2)).setCell ⟨W2.heap.size, 6, none⟩ (.int .i64 i3)).setCell ⟨W2.heap.size, 7, none⟩ (.int .i64 i4)).setCell ⟨W2.heap.size, 8, none⟩ (.int .i64 i5)).setCell ⟨W2.heap.size, 9, none⟩ (.int .i64 i6)).setCell ⟨W2.heap.size, 10, none⟩ (.int .i64 i7)) := below_grownB c13' hgz c13'.size (fun q hq => by cases hq; exact (Nat.le_refl _))
            have hRY0 := hro _ hgz
            obtain ⟨V, hV⟩ : ∃ V, V = (((((((((((v13.setCell ⟨W2.heap.size, 0, none⟩ (.slice E1 L1 F1)).setCell ⟨W2.heap.size, 1, none⟩ (.slice E2 L2 F2)).setCell ⟨W2.heap.size, 2, none⟩ (.slice E3 L3 F3)).setCell ⟨W2.heap.size, 3, none⟩ (.slice E4 L4 F4)).setCell ⟨W2.heap.size, 4, none⟩ (.int .i64 i1)).setCell ⟨W2.heap.size, 5, none⟩ (.int .i64 i2)).setCell ⟨W2.heap.size, 6, none⟩ (.int .i64 i3)).setCell ⟨W2.heap.size, 7, none⟩ (.int .i64 i4)).setCell ⟨W2.heap.size, 8, none⟩ (.int .i64 i5)).setCell ⟨W2.heap.size, 9, none⟩ (.int .i64 i6)).setCell ⟨W2.heap.size, 10, none⟩ (.int .i64 i7)) := ⟨_, rfl⟩
            rw [← hV]
            rw [← hV] at hbV0 hRY0 Y10
            have hY : Hid (V.heap[W2.heap.size]? = some (.cells #[.slice E1 L1 F1, .slice E2 L2 F2, .slice E3 L3 F3, .slice E4 L4 F4, .int .i64 i1, .int .i64 i2, .int .i64 i3, .int .i64 i4, .int .i64 i5, .int .i64 i6, .int .i64 i7] 29 (0, 0))) := Y10
            have hbV : Hid (Below W2.heap.size W2 V) := hbV0
            have hRY : RIn V E1 L1 F1 E2 L2 F2 E3 L3 F3 E4 L4 F4 ⟨s, ms, ts, ks, i1, i2, i3, i4, i5, i6, i7⟩ := hRY0
            clear hV hgz hbV0 hRY0
            have hr0 := hRY
            obtain ⟨u1, u2, u3, u4⟩ := HQ.out
            obtain rfl : n1 = L1 := u1.symm.trans hr0.r1.1
            obtain rfl : n2 = L2 := u2.symm.trans hr0.r2.1
            obtain rfl : n3 = L3 := u3.symm.trans hr0.r3.1
            obtain rfl : n4 = L4 := u4.symm.trans hr0.r4.1
            have hRV : Hid (RIn V E1 n1 F1 E2 n2 F2 E3 n3 F3 E4 n4 F4 ⟨s, ms, ts, ks, i1, i2, i3, i4, i5, i6, i7⟩) := hRY
            go_wp2_with fail
            go_meet
            case rel => exact ⟨E1, F1, E2, F2, E3, F3, E4, F4, W2.heap.size, rfl, rfl, hY, hRV, hbV⟩
        case rest =>
          clear hedc hapc HV6 x0 x1 x2 x3 x4 x5 x6 x7 x8 x9 x10
          obtain ⟨E1, F1, E2, F2, E3, F3, E4, F4, gY, rfl, rfl, hY, hRV, hbV⟩ := hcut
          obtain ⟨V, rfl⟩ : ∃ V, V = wc := ⟨_, rfl⟩
          have hBU : Below U.heap.size U V := HB2.out.trans (hbV.out.mono HB2.out.size)
          have hsm := rsame_eq s ms ts ks E1 n1 F1 E2 n2 F2 E3 n3 F3 E4 n4 F4 i1 i2 i3 i4 i5 i6 i7 a1 c1 a2 c2 a3 c3 a4 c4 V hRV.out (HI.out V (HU.out.trans (hBU.mono HU.out.size)))
          obtain ⟨x0, x1, x2, x3, x4, x5, x6, x7, x8, x9, x10, _, _, _, _, _, _, _, _, _, _, _⟩ := HV.out V hBU
          have gy := (blkc hY.out).1
          have y0 := gy 0
          have y1 := gy 1
          have y2 := gy 2
          have y3 := gy 3
          have y4 := gy 4
          have y5 := gy 5
          have y6 := gy 6
          have y7 := gy 7
          have y8 := gy 8
          have y9 := gy 9
          have y10 := gy 10
          clear gy
          go_wp2_with (first
            | (go_at_call 14; go_must (refine hsm.mono ?_; rintro e v8 ⟨rfl, h8⟩; have b8 := hBU.trans (h8.mono hBU.size)))
            | (go_at_call 9; go_must (refine (hwa _).mono ?_; rintro e v9 ⟨rfl, h9⟩; have b9 := b8.trans (h9.mono b8.size))))
          go_ret
          exact ⟨rfl, HU.out.trans (b9.mono HU.out.size)⟩

set_option maxRecDepth 100000 in
set_option maxHeartbeats 2000000 in
theorem rfil_dark (s : List Int) (ms : List (Int × Int)) (ts : List Lv.T) (ks : List (Int × Int × Int)) (a1 : Option Addr) (n1 c1 : Nat) (a2 : Option Addr) (n2 c2 : Nat) (a3 : Option Addr) (n3 c3 : Nat) (a4 : Option Addr) (n4 c4 : Nat) (i1 i2 i3 i4 i5 i6 i7 : Int) (s2 : List Int) (ms2 : List (Int × Int)) (ts2 : List Lv.T) (ks2 : List (Int × Int × Int)) (p1 : Option Addr) (m1 d1 : Nat) (p2 : Option Addr) (m2 d2 : Nat) (p3 : Option Addr) (m3 d3 : Nat) (p4 : Option Addr) (m4 d4 : Nat) (j1 j2 j3 j4 j5 j6 j7 : Int) (w : World) (h0 : IsRos w a1 n1 c1 a2 n2 c2 a3 n3 c3 a4 n4 c4 ⟨s, ms, ts, ks, i1, i2, i3, i4, i5, i6, i7⟩) (h1 : IsRos w p1 m1 d1 p2 m2 d2 p3 m3 d3 p4 m4 d4 ⟨s2, ms2, ts2, ks2, j1, j2, j3, j4, j5, j6, j7⟩) (hd : (rlgt ⟨s, ms, ts, ks, i1, i2, i3, i4, i5, i6, i7⟩ && rlgt ⟨s2, ms2, ts2, ks2, j1, j2, j3, j4, j5, j6, j7⟩) = false) :
    Calls Tryz.prog 5 #[.agg #[.slice a1 n1 c1, .slice a2 n2 c2, .slice a3 n3 c3, .slice a4 n4 c4, .int .i64 i1, .int .i64 i2, .int .i64 i3, .int .i64 i4, .int .i64 i5, .int .i64 i6, .int .i64 i7], .agg #[.slice p1 m1 d1, .slice p2 m2 d2, .slice p3 m3 d3, .slice p4 m4 d4, .int .i64 j1, .int .i64 j2, .int .i64 j3, .int .i64 j4, .int .i64 j5, .int .i64 j6, .int .i64 j7]] w fun e w' => e = .returned (.bool true) ∧ Below w.heap.size w w' := by
  have hli := fun R hR W (hb : Below w.heap.size w W) => rlight_any s ms ts ks a1 n1 c1 a2 n2 c2 a3 n3 c3 a4 n4 c4 i1 i2 i3 i4 i5 i6 i7 W ⟨h0.r1.below hb (Nat.le_refl _), h0.r2.below hb (Nat.le_refl _), h0.r3.below hb (Nat.le_refl _), h0.r4.below hb (Nat.le_refl _), h0.z1, h0.z2, h0.z3, h0.z4, h0.c3, h0.s1, h0.s2, h0.s3, h0.s4⟩ R hR
  have hlj := fun R hR W (hb : Below w.heap.size w W) => rlight_any s2 ms2 ts2 ks2 p1 m1 d1 p2 m2 d2 p3 m3 d3 p4 m4 d4 j1 j2 j3 j4 j5 j6 j7 W ⟨h1.r1.below hb (Nat.le_refl _), h1.r2.below hb (Nat.le_refl _), h1.r3.below hb (Nat.le_refl _), h1.r4.below hb (Nat.le_refl _), h1.z1, h1.z2, h1.z3, h1.z4, h1.c3, h1.s1, h1.s2, h1.s3, h1.s4⟩ R hR
  have hwa := fun W => rawake_any W
  obtain ⟨U, hU⟩ : ∃ U, U = (w.alloc (.cells #[.slice a1 n1 c1, .slice a2 n2 c2, .slice a3 n3 c3, .slice a4 n4 c4, .int .i64 i1, .int .i64 i2, .int .i64 i3, .int .i64 i4, .int .i64 i5, .int .i64 i6, .int .i64 i7] 29)).alloc (.cells #[.slice p1 m1 d1, .slice p2 m2 d2, .slice p3 m3 d3, .slice p4 m4 d4, .int .i64 j1, .int .i64 j2, .int .i64 j3, .int .i64 j4, .int .i64 j5, .int .i64 j6, .int .i64 j7] 29) := ⟨_, rfl⟩
  have hbU : Below w.heap.size w U := by rw [hU]; exact below_two _ _ _
  have e0 : U.heap[w.heap.size]? = some (.cells #[.slice a1 n1 c1, .slice a2 n2 c2, .slice a3 n3 c3, .slice a4 n4 c4, .int .i64 i1, .int .i64 i2, .int .i64 i3, .int .i64 i4, .int .i64 i5, .int .i64 i6, .int .i64 i7] 29 (0, 0)) := by
    rw [hU]; exact (Below.heap_alloc _ _ _ (by simp)).trans (heap_alloc_new _ _)
  have e1 : U.heap[w.heap.size + 1]? = some (.cells #[.slice p1 m1 d1, .slice p2 m2 d2, .slice p3 m3 d3, .slice p4 m4 d4, .int .i64 j1, .int .i64 j2, .int .i64 j3, .int .i64 j4, .int .i64 j5, .int .i64 j6, .int .i64 j7] 29 (0, 0)) := by
    rw [hU]; have := heap_alloc_new (w.alloc (.cells #[.slice a1 n1 c1, .slice a2 n2 c2, .slice a3 n3 c3, .slice a4 n4 c4, .int .i64 i1, .int .i64 i2, .int .i64 i3, .int .i64 i4, .int .i64 i5, .int .i64 i6, .int .i64 i7] 29)) (.cells #[.slice p1 m1 d1, .slice p2 m2 d2, .slice p3 m3 d3, .slice p4 m4 d4, .int .i64 j1, .int .i64 j2, .int .i64 j3, .int .i64 j4, .int .i64 j5, .int .i64 j6, .int .i64 j7] 29); rwa [World.size_alloc] at this
  have HV : Hid (∀ W, Below U.heap.size U W → (W.cell? ⟨w.heap.size, 0, none⟩ = some (.slice a1 n1 c1) ∧ W.cell? ⟨w.heap.size, 1, none⟩ = some (.slice a2 n2 c2) ∧ W.cell? ⟨w.heap.size, 2, none⟩ = some (.slice a3 n3 c3) ∧ W.cell? ⟨w.heap.size, 3, none⟩ = some (.slice a4 n4 c4) ∧ W.cell? ⟨w.heap.size, 4, none⟩ = some (.int .i64 i1) ∧ W.cell? ⟨w.heap.size, 5, none⟩ = some (.int .i64 i2) ∧ W.cell? ⟨w.heap.size, 6, none⟩ = some (.int .i64 i3) ∧ W.cell? ⟨w.heap.size, 7, none⟩ = some (.int .i64 i4) ∧ W.cell? ⟨w.heap.size, 8, none⟩ = some (.int .i64 i5) ∧ W.cell? ⟨w.heap.size, 9, none⟩ = some (.int .i64 i6) ∧ W.cell? ⟨w.heap.size, 10, none⟩ = some (.int .i64 i7) ∧ W.cell? ⟨w.heap.size + 1, 0, none⟩ = some (.slice p1 m1 d1) ∧ W.cell? ⟨w.heap.size + 1, 1, none⟩ = some (.slice p2 m2 d2) ∧ W.cell? ⟨w.heap.size + 1, 2, none⟩ = some (.slice p3 m3 d3) ∧ W.cell? ⟨w.heap.size + 1, 3, none⟩ = some (.slice p4 m4 d4) ∧ W.cell? ⟨w.heap.size + 1, 4, none⟩ = some (.int .i64 j1) ∧ W.cell? ⟨w.heap.size + 1, 5, none⟩ = some (.int .i64 j2) ∧ W.cell? ⟨w.heap.size + 1, 6, none⟩ = some (.int .i64 j3) ∧ W.cell? ⟨w.heap.size + 1, 7, none⟩ = some (.int .i64 j4) ∧ W.cell? ⟨w.heap.size + 1, 8, none⟩ = some (.int .i64 j5) ∧ W.cell? ⟨w.heap.size + 1, 9, none⟩ = some (.int .i64 j6) ∧ W.cell? ⟨w.heap.size + 1, 10, none⟩ = some (.int .i64 j7))) := (fun W hb => by
    have a := (blkc ((hb.block _ (ob_ltB e0)).trans e0)).1
    have b := (blkc ((hb.block _ (ob_ltB e1)).trans e1)).1
    exact ⟨a 0, a 1, a 2, a 3, a 4, a 5, a 6, a 7, a 8, a 9, a 10, b 0, b 1, b 2, b 3, b 4, b 5, b 6, b 7, b 8, b 9, b 10⟩ : ∀ W, _ → _)
  have HPB : Hid (∀ W, Below U.heap.size U W → W.heap[w.heap.size]? = some (.cells #[.slice a1 n1 c1, .slice a2 n2 c2, .slice a3 n3 c3, .slice a4 n4 c4, .int .i64 i1, .int .i64 i2, .int .i64 i3, .int .i64 i4, .int .i64 i5, .int .i64 i6, .int .i64 i7] 29 (0, 0))) := (fun W hb => (hb.block _ (ob_ltB e0)).trans e0 : ∀ W, _ → _)
  have HU : Hid (Below w.heap.size w U) := hbU
  have hUe : (w.alloc (.cells #[.slice a1 n1 c1, .slice a2 n2 c2, .slice a3 n3 c3, .slice a4 n4 c4, .int .i64 i1, .int .i64 i2, .int .i64 i3, .int .i64 i4, .int .i64 i5, .int .i64 i6, .int .i64 i7] 29)).alloc (.cells #[.slice p1 m1 d1, .slice p2 m2 d2, .slice p3 m3 d3, .slice p4 m4 d4, .int .i64 j1, .int .i64 j2, .int .i64 j3, .int .i64 j4, .int .i64 j5, .int .i64 j6, .int .i64 j7] 29) = U := hU.symm
  obtain ⟨x0, x1, x2, x3, x4, x5, x6, x7, x8, x9, x10, y0, y1, y2, y3, y4, y5, y6, y7, y8, y9, y10⟩ := HV.out U (Below.refl _ _)
  clear hU hbU e0 e1
  cases hr : rlgt ⟨s, ms, ts, ks, i1, i2, i3, i4, i5, i6, i7⟩ with
  | false =>
    have hl1 := hli false hr.symm
    clear hli hlj hd hr h0 h1 HPB
    go_enter Tryz.func5, Tryz.ntmps5
    go_wp2_with (first
      | (go_at_call 7; go_must (refine (hl1 _ HU.out).mono ?_; rintro e w1 ⟨rfl, hb1⟩))
      | (go_at_call 9; go_must (refine (hwa _).mono ?_; rintro e w7 ⟨rfl, hb7⟩)))
    go_ret
    have b9 := hb1.trans (hb7.mono hb1.size)
    exact ⟨rfl, HU.out.trans (b9.mono HU.out.size)⟩
  | true =>
    have hl1 := hli true hr.symm
    have hl2 := hlj false (by rw [hr, Bool.true_and] at hd; exact hd.symm)
    have tok : Hid (0 = 0) := (rfl : 0 = 0)
    clear hli hlj hd hr h0 h1 HPB
    go_enter Tryz.func5, Tryz.ntmps5
    go_wp2_with (first
      | (go_at_call 7; clear tok; refine (hl1 _ (HU.out)).mono ?_; rintro e w1 ⟨rfl, hb1⟩; clear x0 x1 x2 x3 x4 x5 x6 x7 x8 x9 x10 y0 y1 y2 y3 y4 y5 y6 y7 y8 y9 y10; obtain ⟨x0, x1, x2, x3, x4, x5, x6, x7, x8, x9, x10, y0, y1, y2, y3, y4, y5, y6, y7, y8, y9, y10⟩ := HV.out w1 hb1)
      | (go_at_call 7; go_must (refine (hl2 _ (HU.out.trans (hb1.mono HU.out.size))).mono ?_; rintro e w2 ⟨rfl, h2⟩; have hb2 := hb1.trans (h2.mono hb1.size); clear x0 x1 x2 x3 x4 x5 x6 x7 x8 x9 x10 y0 y1 y2 y3 y4 y5 y6 y7 y8 y9 y10; obtain ⟨x0, x1, x2, x3, x4, x5, x6, x7, x8, x9, x10, y0, y1, y2, y3, y4, y5, y6, y7, y8, y9, y10⟩ := HV.out w2 hb2))
      | (go_at_call 9; go_must (refine (hwa _).mono ?_; rintro e w7 ⟨rfl, hb7⟩)))
    go_ret
    have b9 := hb2.trans (hb7.mono hb2.size)
    exact ⟨rfl, HU.out.trans (b9.mono HU.out.size)⟩
theorem rfil_all (s : List Int) (ms : List (Int × Int)) (ts : List Lv.T) (ks : List (Int × Int × Int)) (a1 : Option Addr) (n1 c1 : Nat) (a2 : Option Addr) (n2 c2 : Nat) (a3 : Option Addr) (n3 c3 : Nat) (a4 : Option Addr) (n4 c4 : Nat) (i1 i2 i3 i4 i5 i6 i7 : Int) (s2 : List Int) (ms2 : List (Int × Int)) (ts2 : List Lv.T) (ks2 : List (Int × Int × Int)) (p1 : Option Addr) (m1 d1 : Nat) (p2 : Option Addr) (m2 d2 : Nat) (p3 : Option Addr) (m3 d3 : Nat) (p4 : Option Addr) (m4 d4 : Nat) (j1 j2 j3 j4 j5 j6 j7 : Int) (w : World) (h0 : IsRos w a1 n1 c1 a2 n2 c2 a3 n3 c3 a4 n4 c4 ⟨s, ms, ts, ks, i1, i2, i3, i4, i5, i6, i7⟩) (h1 : IsRos w p1 m1 d1 p2 m2 d2 p3 m3 d3 p4 m4 d4 ⟨s2, ms2, ts2, ks2, j1, j2, j3, j4, j5, j6, j7⟩) :
    Calls Tryz.prog 5 #[.agg #[.slice a1 n1 c1, .slice a2 n2 c2, .slice a3 n3 c3, .slice a4 n4 c4, .int .i64 i1, .int .i64 i2, .int .i64 i3, .int .i64 i4, .int .i64 i5, .int .i64 i6, .int .i64 i7], .agg #[.slice p1 m1 d1, .slice p2 m2 d2, .slice p3 m3 d3, .slice p4 m4 d4, .int .i64 j1, .int .i64 j2, .int .i64 j3, .int .i64 j4, .int .i64 j5, .int .i64 j6, .int .i64 j7]] w fun e w' => e = .returned (.bool true) ∧ Below w.heap.size w w' := by
  cases hd : (rlgt ⟨s, ms, ts, ks, i1, i2, i3, i4, i5, i6, i7⟩ && rlgt ⟨s2, ms2, ts2, ks2, j1, j2, j3, j4, j5, j6, j7⟩) with
  | false => exact rfil_dark s ms ts ks a1 n1 c1 a2 n2 c2 a3 n3 c3 a4 n4 c4 i1 i2 i3 i4 i5 i6 i7 s2 ms2 ts2 ks2 p1 m1 d1 p2 m2 d2 p3 m3 d3 p4 m4 d4 j1 j2 j3 j4 j5 j6 j7 w h0 h1 hd
  | true =>
    rw [Bool.and_eq_true] at hd
    exact rfil_any s ms ts ks a1 n1 c1 a2 n2 c2 a3 n3 c3 a4 n4 c4 i1 i2 i3 i4 i5 i6 i7 s2 ms2 ts2 ks2 p1 m1 d1 p2 m2 d2 p3 m3 d3 p4 m4 d4 j1 j2 j3 j4 j5 j6 j7 w h0 h1 hd.1 hd.2
end Go.Proofs.YtmodogmjfbcddaaGreat
