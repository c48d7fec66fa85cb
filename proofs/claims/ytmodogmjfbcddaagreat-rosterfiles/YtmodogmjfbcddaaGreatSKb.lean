/- The reference's Do of the edits that make a roster. -/
import Derived.Test.YtmodogmjfbcddaaGreatSK
import Derived.Deep.DeepCutAuto
namespace Go.Proofs.YtmodogmjfbcddaaGreat
open Go.RowKit


set_option maxRecDepth 100000 in
set_option maxHeartbeats 8000000 in
theorem rdo17_mark  (a1 : Option Addr) (n1 c1 : Nat) (a2 : Option Addr) (n2 c2 : Nat) (a3 : Option Addr) (n3 c3 : Nat) (a4 : Option Addr) (n4 c4 : Nat) (i1 i2 i3 i4 i5 i6 i7 : Int) (n9 i9 t9 a9 b9 c9 p9 q9 r9 : Int) (f9 g9 : ByteArray) (w : World) (hok : i7 ≤ i9) :
    Calls Tryz.prog 36 #[.agg #[.slice a1 n1 c1, .slice a2 n2 c2, .slice a3 n3 c3, .slice a4 n4 c4, .int .i64 i1, .int .i64 i2, .int .i64 i3, .int .i64 i4, .int .i64 i5, .int .i64 i6, .int .i64 i7], .agg #[.int .i64 9, .int .i64 n9, .int .i64 i9, .int .i64 t9, .int .i64 a9, .int .i64 b9, .int .i64 c9, .int .i64 p9, .int .i64 q9, .int .i64 r9, .string f9, .string g9]] w fun e w' => e = .returned (.tuple #[.agg #[.slice a1 n1 c1, .slice a2 n2 c2, .slice a3 n3 c3, .slice a4 n4 c4, .int .i64 i1, .int .i64 i2, .int .i64 i3, .int .i64 i4, .int .i64 i5, .int .i64 i6, .int .i64 i9], .bool true]) ∧ Below w.heap.size w w' := by
  obtain ⟨U, hU⟩ : ∃ U, U = ((w.alloc (.cells #[.slice a1 n1 c1, .slice a2 n2 c2, .slice a3 n3 c3, .slice a4 n4 c4, .int .i64 i1, .int .i64 i2, .int .i64 i3, .int .i64 i4, .int .i64 i5, .int .i64 i6, .int .i64 i7] 29)).alloc (oed 9 n9 i9 t9 a9 b9 c9 p9 q9 r9 f9 g9)).alloc (.cells #[.slice none 0 0, .slice none 0 0, .slice none 0 0, .slice none 0 0, .int .i64 0, .int .i64 0, .int .i64 0, .int .i64 0, .int .i64 0, .int .i64 0, .int .i64 0] 29) := ⟨_, rfl⟩
  have hbU : Below w.heap.size w U := by rw [hU]; exact (below_two _ _ _).alloc (below_two _ _ _).size _
  have e0 : U.heap[w.heap.size]? = some (.cells #[.slice a1 n1 c1, .slice a2 n2 c2, .slice a3 n3 c3, .slice a4 n4 c4, .int .i64 i1, .int .i64 i2, .int .i64 i3, .int .i64 i4, .int .i64 i5, .int .i64 i6, .int .i64 i7] 29 (0, 0)) := by
    rw [hU]; exact (Below.heap_alloc _ _ _ (by simp; omega)).trans ((Below.heap_alloc _ _ _ (by simp)).trans (heap_alloc_new _ _))
  have e1 : U.heap[w.heap.size + 1]? = some (oed 9 n9 i9 t9 a9 b9 c9 p9 q9 r9 f9 g9) := by
    have h1 := heap_alloc_new (w.alloc (.cells #[.slice a1 n1 c1, .slice a2 n2 c2, .slice a3 n3 c3, .slice a4 n4 c4, .int .i64 i1, .int .i64 i2, .int .i64 i3, .int .i64 i4, .int .i64 i5, .int .i64 i6, .int .i64 i7] 29)) (oed 9 n9 i9 t9 a9 b9 c9 p9 q9 r9 f9 g9)
    rw [World.size_alloc] at h1
    rw [hU]; exact (Below.heap_alloc _ _ _ (by simp)).trans h1
  have e2 : U.heap[w.heap.size + 1 + 1]? = some (.cells #[.slice none 0 0, .slice none 0 0, .slice none 0 0, .slice none 0 0, .int .i64 0, .int .i64 0, .int .i64 0, .int .i64 0, .int .i64 0, .int .i64 0, .int .i64 0] 29 (0, 0)) := by
    have h1 := heap_alloc_new ((w.alloc (.cells #[.slice a1 n1 c1, .slice a2 n2 c2, .slice a3 n3 c3, .slice a4 n4 c4, .int .i64 i1, .int .i64 i2, .int .i64 i3, .int .i64 i4, .int .i64 i5, .int .i64 i6, .int .i64 i7] 29)).alloc (oed 9 n9 i9 t9 a9 b9 c9 p9 q9 r9 f9 g9)) (.cells #[.slice none 0 0, .slice none 0 0, .slice none 0 0, .slice none 0 0, .int .i64 0, .int .i64 0, .int .i64 0, .int .i64 0, .int .i64 0, .int .i64 0, .int .i64 0] 29)
    rw [World.size_alloc, World.size_alloc] at h1
    rw [hU]; exact h1
  have HP : Hid (∀ W, Below U.heap.size U W → W.heap[w.heap.size]? = some (.cells #[.slice a1 n1 c1, .slice a2 n2 c2, .slice a3 n3 c3, .slice a4 n4 c4, .int .i64 i1, .int .i64 i2, .int .i64 i3, .int .i64 i4, .int .i64 i5, .int .i64 i6, .int .i64 i7] 29 (0, 0))) := (fun W hb => (hb.block _ (ob_ltB e0)).trans e0 : ∀ W, _ → _)
  have HE : Hid (∀ W, Below U.heap.size U W → W.heap[w.heap.size + 1]? = some (oed 9 n9 i9 t9 a9 b9 c9 p9 q9 r9 f9 g9)) := (fun W hb => (hb.block _ (ob_ltB e1)).trans e1 : ∀ W, _ → _)
  have HZ : Hid (∀ W, Below U.heap.size U W → W.heap[w.heap.size + 1 + 1]? = some (.cells #[.slice none 0 0, .slice none 0 0, .slice none 0 0, .slice none 0 0, .int .i64 0, .int .i64 0, .int .i64 0, .int .i64 0, .int .i64 0, .int .i64 0, .int .i64 0] 29 (0, 0))) := (fun W hb => (hb.block _ (ob_ltB e2)).trans e2 : ∀ W, _ → _)
  have HU : Hid (Below w.heap.size w U) := hbU
  have HSZ : Hid (U.heap.size = w.heap.size + 3) := (by rw [hU]; simp : _ = _)
  have hUe : ((w.alloc (.cells #[.slice a1 n1 c1, .slice a2 n2 c2, .slice a3 n3 c3, .slice a4 n4 c4, .int .i64 i1, .int .i64 i2, .int .i64 i3, .int .i64 i4, .int .i64 i5, .int .i64 i6, .int .i64 i7] 29)).alloc (oed 9 n9 i9 t9 a9 b9 c9 p9 q9 r9 f9 g9)).alloc (.cells #[.slice none 0 0, .slice none 0 0, .slice none 0 0, .slice none 0 0, .int .i64 0, .int .i64 0, .int .i64 0, .int .i64 0, .int .i64 0, .int .i64 0, .int .i64 0] 29) = U := hU.symm
  have x0 := (blkc e0).1 0
  have x1 := (blkc e0).1 1
  have x2 := (blkc e0).1 2
  have x3 := (blkc e0).1 3
  have x4 := (blkc e0).1 4
  have x5 := (blkc e0).1 5
  have x6 := (blkc e0).1 6
  have x7 := (blkc e0).1 7
  have x8 := (blkc e0).1 8
  have x9 := (blkc e0).1 9
  have x10 := (blkc e0).1 10
  have y0 := (blkc e1).1 0
  have y1 := (blkc e1).1 1
  have y2 := (blkc e1).1 2
  have y3 := (blkc e1).1 3
  have y4 := (blkc e1).1 4
  have y5 := (blkc e1).1 5
  have y6 := (blkc e1).1 6
  have y7 := (blkc e1).1 7
  have y8 := (blkc e1).1 8
  have y9 := (blkc e1).1 9
  have y10 := (blkc e1).1 10
  have y11 := (blkc e1).1 11
  clear hU hbU e0 e1 e2
  have hpe : ¬ (w.heap.size + 1 = w.heap.size) := by omega
  have hpe2 : ¬ (w.heap.size = w.heap.size + 1) := by omega
  have hpz : ¬ (w.heap.size + 1 + 1 = w.heap.size) := by omega
  have hpz2 : ¬ (w.heap.size = w.heap.size + 1 + 1) := by omega
  have hez : ¬ (w.heap.size + 1 = w.heap.size + 1 + 1) := by omega
  have hpl := rplace_no a1 n1 c1 a2 n2 c2 a3 n3 c3 a4 n4 c4 i1 i2 i3 i4 i5 i6 i7 9 n9 i9 t9 a9 b9 c9 p9 q9 r9 f9 g9 U (by decide) (by decide) (by decide) (by decide)
  have dk : decide (i7 ≤ i9) = true := by simpa using hok
  clear hok
  go_enter Tryz.func36, Tryz.ntmps36
  go_upto_region 20 with (first
    | (go_at_call 81; go_must (refine hpl.mono ?_; rintro e v1 ⟨rfl, b1⟩; clear x0 x1 x2 x3 x4 x5 x6 x7 x8 x9 x10 y0 y1 y2 y3 y4 y5 y6 y7 y8 y9 y10 y11; have hp := HP.out v1 b1; have x0 := (blkc hp).1 0; have x1 := (blkc hp).1 1; have x2 := (blkc hp).1 2; have x3 := (blkc hp).1 3; have x4 := (blkc hp).1 4; have x5 := (blkc hp).1 5; have x6 := (blkc hp).1 6; have x7 := (blkc hp).1 7; have x8 := (blkc hp).1 8; have x9 := (blkc hp).1 9; have x10 := (blkc hp).1 10; clear hp; have hp := HP.out v1 b1; have xf0 := (blkc hp).2 0; have xf1 := (blkc hp).2 1; have xf2 := (blkc hp).2 2; have xf3 := (blkc hp).2 3; have xf4 := (blkc hp).2 4; have xf5 := (blkc hp).2 5; have xf6 := (blkc hp).2 6; have xf7 := (blkc hp).2 7; have xf8 := (blkc hp).2 8; have xf9 := (blkc hp).2 9; have xf10 := (blkc hp).2 10; clear hp; have y0 := (blkc (HE.out v1 b1)).1 0; have y1 := (blkc (HE.out v1 b1)).1 1; have y2 := (blkc (HE.out v1 b1)).1 2; have y3 := (blkc (HE.out v1 b1)).1 3; have y4 := (blkc (HE.out v1 b1)).1 4; have y5 := (blkc (HE.out v1 b1)).1 5; have y6 := (blkc (HE.out v1 b1)).1 6; have y7 := (blkc (HE.out v1 b1)).1 7; have y8 := (blkc (HE.out v1 b1)).1 8; have y9 := (blkc (HE.out v1 b1)).1 9; have y10 := (blkc (HE.out v1 b1)).1 10; have y11 := (blkc (HE.out v1 b1)).1 11)))
  clear hUe
  have P0 : (v1.setCell ⟨w.heap.size, 10, none⟩ (.int .i64 i9)).heap[w.heap.size]? = some (.cells #[.slice a1 n1 c1, .slice a2 n2 c2, .slice a3 n3 c3, .slice a4 n4 c4, .int .i64 i1, .int .i64 i2, .int .i64 i3, .int .i64 i4, .int .i64 i5, .int .i64 i6, .int .i64 i9] 29 (0, 0)) := bput (HP.out v1 b1) _ rfl
  have hg0 : v1.grownBy (v1.setCell ⟨w.heap.size, 10, none⟩ (.int .i64 i9)) (some (w.heap.size)) := turned_setL (w.heap.size) [.int .i64 i9] 10 _
  obtain ⟨WF, hWF⟩ : ∃ WF, WF = (v1.setCell ⟨w.heap.size, 10, none⟩ (.int .i64 i9)) := ⟨_, rfl⟩
  have hP9 : Hid (WF.heap[w.heap.size]? = some (.cells #[.slice a1 n1 c1, .slice a2 n2 c2, .slice a3 n3 c3, .slice a4 n4 c4, .int .i64 i1, .int .i64 i2, .int .i64 i3, .int .i64 i4, .int .i64 i5, .int .i64 i6, .int .i64 i9] 29 (0, 0))) := (by rw [hWF]; exact P0 : _ = _)
  have hZ9 : Hid (WF.heap[w.heap.size + 1 + 1]? = some (.cells #[.slice none 0 0, .slice none 0 0, .slice none 0 0, .slice none 0 0, .int .i64 0, .int .i64 0, .int .i64 0, .int .i64 0, .int .i64 0, .int .i64 0, .int .i64 0] 29 (0, 0))) := (by rw [hWF]; exact (hg0.block _ (ob_ltB (HZ.out v1 b1)) (fun e => hpz (Option.some.inj e))).trans (HZ.out v1 b1) : _ = _)
  have hB9 : Hid (Below w.heap.size w WF) := (by rw [hWF]; exact below_grownB (HU.out.trans (b1.mono HU.out.size)) hg0 (HU.out.trans (b1.mono HU.out.size)).size (fun q hq => by cases hq; exact Nat.le_refl _) : Below _ _ _)
  rw [← hWF]
  clear hWF P0 hg0 x0 xf0 x1 xf1 x2 xf2 x3 xf3 x4 xf4 x5 xf5 x6 xf6 x7 xf7 x8 xf8 x9 xf9 x10 xf10 y0 y1 y2 y3 y4 y5 y6 y7 y8 y9 y10 y11
  have d0 := (blkc hP9.out).1 0
  have d1 := (blkc hP9.out).1 1
  have d2 := (blkc hP9.out).1 2
  have d3 := (blkc hP9.out).1 3
  have d4 := (blkc hP9.out).1 4
  have d5 := (blkc hP9.out).1 5
  have d6 := (blkc hP9.out).1 6
  have d7 := (blkc hP9.out).1 7
  have d8 := (blkc hP9.out).1 8
  have d9 := (blkc hP9.out).1 9
  have d10 := (blkc hP9.out).1 10
  have e0 := (blkc hZ9.out).1 0
  have e1 := (blkc hZ9.out).1 1
  have e2 := (blkc hZ9.out).1 2
  have e3 := (blkc hZ9.out).1 3
  have e4 := (blkc hZ9.out).1 4
  have e5 := (blkc hZ9.out).1 5
  have e6 := (blkc hZ9.out).1 6
  have e7 := (blkc hZ9.out).1 7
  have e8 := (blkc hZ9.out).1 8
  have e9 := (blkc hZ9.out).1 9
  have e10 := (blkc hZ9.out).1 10
  have fz0 := (blkc hZ9.out).2 0
  have fz1 := (blkc hZ9.out).2 1
  have fz2 := (blkc hZ9.out).2 2
  have fz3 := (blkc hZ9.out).2 3
  have fz4 := (blkc hZ9.out).2 4
  have fz5 := (blkc hZ9.out).2 5
  have fz6 := (blkc hZ9.out).2 6
  have fz7 := (blkc hZ9.out).2 7
  have fz8 := (blkc hZ9.out).2 8
  have fz9 := (blkc hZ9.out).2 9
  have fz10 := (blkc hZ9.out).2 10
  go_wp2
  have B10 : (((((((((((WF.setCell ⟨w.heap.size + 1 + 1, 0, none⟩ (.slice a1 n1 c1)).setCell ⟨w.heap.size + 1 + 1, 1, none⟩ (.slice a2 n2 c2)).setCell ⟨w.heap.size + 1 + 1, 2, none⟩ (.slice a3 n3 c3)).setCell ⟨w.heap.size + 1 + 1, 3, none⟩ (.slice a4 n4 c4)).setCell ⟨w.heap.size + 1 + 1, 4, none⟩ (.int .i64 i1)).setCell ⟨w.heap.size + 1 + 1, 5, none⟩ (.int .i64 i2)).setCell ⟨w.heap.size + 1 + 1, 6, none⟩ (.int .i64 i3)).setCell ⟨w.heap.size + 1 + 1, 7, none⟩ (.int .i64 i4)).setCell ⟨w.heap.size + 1 + 1, 8, none⟩ (.int .i64 i5)).setCell ⟨w.heap.size + 1 + 1, 9, none⟩ (.int .i64 i6)).setCell ⟨w.heap.size + 1 + 1, 10, none⟩ (.int .i64 i9)).heap[w.heap.size + 1 + 1]? = some (.cells #[.slice a1 n1 c1, .slice a2 n2 c2, .slice a3 n3 c3, .slice a4 n4 c4, .int .i64 i1, .int .i64 i2, .int .i64 i3, .int .i64 i4, .int .i64 i5, .int .i64 i6, .int .i64 i9] 29 (0, 0)) := bput_new [.slice a1 n1 c1, .slice a2 n2 c2, .slice a3 n3 c3, .slice a4 n4 c4, .int .i64 i1, .int .i64 i2, .int .i64 i3, .int .i64 i4, .int .i64 i5, .int .i64 i6, .int .i64 i9] hZ9.out rfl
  have hgr : WF.grownBy (((((((((((WF.setCell ⟨w.heap.size + 1 + 1, 0, none⟩ (.slice a1 n1 c1)).setCell ⟨w.heap.size + 1 + 1, 1, none⟩ (.slice a2 n2 c2)).setCell ⟨w.heap.size + 1 + 1, 2, none⟩ (.slice a3 n3 c3)).setCell ⟨w.heap.size + 1 + 1, 3, none⟩ (.slice a4 n4 c4)).setCell ⟨w.heap.size + 1 + 1, 4, none⟩ (.int .i64 i1)).setCell ⟨w.heap.size + 1 + 1, 5, none⟩ (.int .i64 i2)).setCell ⟨w.heap.size + 1 + 1, 6, none⟩ (.int .i64 i3)).setCell ⟨w.heap.size + 1 + 1, 7, none⟩ (.int .i64 i4)).setCell ⟨w.heap.size + 1 + 1, 8, none⟩ (.int .i64 i5)).setCell ⟨w.heap.size + 1 + 1, 9, none⟩ (.int .i64 i6)).setCell ⟨w.heap.size + 1 + 1, 10, none⟩ (.int .i64 i9)) (some (w.heap.size + 1 + 1)) := turned_setL (w.heap.size + 1 + 1) [.slice a1 n1 c1, .slice a2 n2 c2, .slice a3 n3 c3, .slice a4 n4 c4, .int .i64 i1, .int .i64 i2, .int .i64 i3, .int .i64 i4, .int .i64 i5, .int .i64 i6, .int .i64 i9] 0 WF
  have hbF := below_grownB hB9.out hgr hB9.out.size (fun q hq => by cases hq; omega)
  have u0 := (blkc B10).1 0
  have u1 := (blkc B10).1 1
  have u2 := (blkc B10).1 2
  have u3 := (blkc B10).1 3
  have u4 := (blkc B10).1 4
  have u5 := (blkc B10).1 5
  have u6 := (blkc B10).1 6
  have u7 := (blkc B10).1 7
  have u8 := (blkc B10).1 8
  have u9 := (blkc B10).1 9
  have u10 := (blkc B10).1 10
  refine bodyPost_ret (v := .tuple #[.agg #[.slice a1 n1 c1, .slice a2 n2 c2, .slice a3 n3 c3, .slice a4 n4 c4, .int .i64 i1, .int .i64 i2, .int .i64 i3, .int .i64 i4, .int .i64 i5, .int .i64 i6, .int .i64 i9], .bool true]) (by simp [results, Tryz.results36, go_sem, u0, u1, u2, u3, u4, u5, u6, u7, u8, u9, u10]) rfl ⟨rfl, hbF⟩

set_option maxRecDepth 100000 in
set_option maxHeartbeats 8000000 in
theorem rdo17_base  (a1 : Option Addr) (n1 c1 : Nat) (a2 : Option Addr) (n2 c2 : Nat) (a3 : Option Addr) (n3 c3 : Nat) (a4 : Option Addr) (n4 c4 : Nat) (i1 i2 i3 i4 i5 i6 i7 : Int) (n9 i9 t9 a9 b9 c9 p9 q9 r9 : Int) (f9 g9 : ByteArray) (w : World) (hok1 : i1 ≤ n9) (hok2 : i2 ≤ i9) :
    Calls Tryz.prog 36 #[.agg #[.slice a1 n1 c1, .slice a2 n2 c2, .slice a3 n3 c3, .slice a4 n4 c4, .int .i64 i1, .int .i64 i2, .int .i64 i3, .int .i64 i4, .int .i64 i5, .int .i64 i6, .int .i64 i7], .agg #[.int .i64 8, .int .i64 n9, .int .i64 i9, .int .i64 t9, .int .i64 a9, .int .i64 b9, .int .i64 c9, .int .i64 p9, .int .i64 q9, .int .i64 r9, .string f9, .string g9]] w fun e w' => e = .returned (.tuple #[.agg #[.slice a1 n1 c1, .slice a2 n2 c2, .slice a3 n3 c3, .slice a4 n4 c4, .int .i64 n9, .int .i64 i9, .int .i64 t9, .int .i64 a9, .int .i64 b9, .int .i64 c9, .int .i64 i7], .bool true]) ∧ Below w.heap.size w w' := by
  obtain ⟨U, hU⟩ : ∃ U, U = ((w.alloc (.cells #[.slice a1 n1 c1, .slice a2 n2 c2, .slice a3 n3 c3, .slice a4 n4 c4, .int .i64 i1, .int .i64 i2, .int .i64 i3, .int .i64 i4, .int .i64 i5, .int .i64 i6, .int .i64 i7] 29)).alloc (oed 8 n9 i9 t9 a9 b9 c9 p9 q9 r9 f9 g9)).alloc (.cells #[.slice none 0 0, .slice none 0 0, .slice none 0 0, .slice none 0 0, .int .i64 0, .int .i64 0, .int .i64 0, .int .i64 0, .int .i64 0, .int .i64 0, .int .i64 0] 29) := ⟨_, rfl⟩
  have hbU : Below w.heap.size w U := by rw [hU]; exact (below_two _ _ _).alloc (below_two _ _ _).size _
  have e0 : U.heap[w.heap.size]? = some (.cells #[.slice a1 n1 c1, .slice a2 n2 c2, .slice a3 n3 c3, .slice a4 n4 c4, .int .i64 i1, .int .i64 i2, .int .i64 i3, .int .i64 i4, .int .i64 i5, .int .i64 i6, .int .i64 i7] 29 (0, 0)) := by
    rw [hU]; exact (Below.heap_alloc _ _ _ (by simp; omega)).trans ((Below.heap_alloc _ _ _ (by simp)).trans (heap_alloc_new _ _))
  have e1 : U.heap[w.heap.size + 1]? = some (oed 8 n9 i9 t9 a9 b9 c9 p9 q9 r9 f9 g9) := by
    have h1 := heap_alloc_new (w.alloc (.cells #[.slice a1 n1 c1, .slice a2 n2 c2, .slice a3 n3 c3, .slice a4 n4 c4, .int .i64 i1, .int .i64 i2, .int .i64 i3, .int .i64 i4, .int .i64 i5, .int .i64 i6, .int .i64 i7] 29)) (oed 8 n9 i9 t9 a9 b9 c9 p9 q9 r9 f9 g9)
    rw [World.size_alloc] at h1
    rw [hU]; exact (Below.heap_alloc _ _ _ (by simp)).trans h1
  have e2 : U.heap[w.heap.size + 1 + 1]? = some (.cells #[.slice none 0 0, .slice none 0 0, .slice none 0 0, .slice none 0 0, .int .i64 0, .int .i64 0, .int .i64 0, .int .i64 0, .int .i64 0, .int .i64 0, .int .i64 0] 29 (0, 0)) := by
    have h1 := heap_alloc_new ((w.alloc (.cells #[.slice a1 n1 c1, .slice a2 n2 c2, .slice a3 n3 c3, .slice a4 n4 c4, .int .i64 i1, .int .i64 i2, .int .i64 i3, .int .i64 i4, .int .i64 i5, .int .i64 i6, .int .i64 i7] 29)).alloc (oed 8 n9 i9 t9 a9 b9 c9 p9 q9 r9 f9 g9)) (.cells #[.slice none 0 0, .slice none 0 0, .slice none 0 0, .slice none 0 0, .int .i64 0, .int .i64 0, .int .i64 0, .int .i64 0, .int .i64 0, .int .i64 0, .int .i64 0] 29)
    rw [World.size_alloc, World.size_alloc] at h1
    rw [hU]; exact h1
  have HP : Hid (∀ W, Below U.heap.size U W → W.heap[w.heap.size]? = some (.cells #[.slice a1 n1 c1, .slice a2 n2 c2, .slice a3 n3 c3, .slice a4 n4 c4, .int .i64 i1, .int .i64 i2, .int .i64 i3, .int .i64 i4, .int .i64 i5, .int .i64 i6, .int .i64 i7] 29 (0, 0))) := (fun W hb => (hb.block _ (ob_ltB e0)).trans e0 : ∀ W, _ → _)
  have HE : Hid (∀ W, Below U.heap.size U W → W.heap[w.heap.size + 1]? = some (oed 8 n9 i9 t9 a9 b9 c9 p9 q9 r9 f9 g9)) := (fun W hb => (hb.block _ (ob_ltB e1)).trans e1 : ∀ W, _ → _)
  have HZ : Hid (∀ W, Below U.heap.size U W → W.heap[w.heap.size + 1 + 1]? = some (.cells #[.slice none 0 0, .slice none 0 0, .slice none 0 0, .slice none 0 0, .int .i64 0, .int .i64 0, .int .i64 0, .int .i64 0, .int .i64 0, .int .i64 0, .int .i64 0] 29 (0, 0))) := (fun W hb => (hb.block _ (ob_ltB e2)).trans e2 : ∀ W, _ → _)
  have HU : Hid (Below w.heap.size w U) := hbU
  have HSZ : Hid (U.heap.size = w.heap.size + 3) := (by rw [hU]; simp : _ = _)
  have hUe : ((w.alloc (.cells #[.slice a1 n1 c1, .slice a2 n2 c2, .slice a3 n3 c3, .slice a4 n4 c4, .int .i64 i1, .int .i64 i2, .int .i64 i3, .int .i64 i4, .int .i64 i5, .int .i64 i6, .int .i64 i7] 29)).alloc (oed 8 n9 i9 t9 a9 b9 c9 p9 q9 r9 f9 g9)).alloc (.cells #[.slice none 0 0, .slice none 0 0, .slice none 0 0, .slice none 0 0, .int .i64 0, .int .i64 0, .int .i64 0, .int .i64 0, .int .i64 0, .int .i64 0, .int .i64 0] 29) = U := hU.symm
  have x0 := (blkc e0).1 0
  have x1 := (blkc e0).1 1
  have x2 := (blkc e0).1 2
  have x3 := (blkc e0).1 3
  have x4 := (blkc e0).1 4
  have x5 := (blkc e0).1 5
  have x6 := (blkc e0).1 6
  have x7 := (blkc e0).1 7
  have x8 := (blkc e0).1 8
  have x9 := (blkc e0).1 9
  have x10 := (blkc e0).1 10
  have y0 := (blkc e1).1 0
  have y1 := (blkc e1).1 1
  have y2 := (blkc e1).1 2
  have y3 := (blkc e1).1 3
  have y4 := (blkc e1).1 4
  have y5 := (blkc e1).1 5
  have y6 := (blkc e1).1 6
  have y7 := (blkc e1).1 7
  have y8 := (blkc e1).1 8
  have y9 := (blkc e1).1 9
  have y10 := (blkc e1).1 10
  have y11 := (blkc e1).1 11
  clear hU hbU e0 e1 e2
  have hpe : ¬ (w.heap.size + 1 = w.heap.size) := by omega
  have hpe2 : ¬ (w.heap.size = w.heap.size + 1) := by omega
  have hpz : ¬ (w.heap.size + 1 + 1 = w.heap.size) := by omega
  have hpz2 : ¬ (w.heap.size = w.heap.size + 1 + 1) := by omega
  have hez : ¬ (w.heap.size + 1 = w.heap.size + 1 + 1) := by omega
  have hpl := rplace_no a1 n1 c1 a2 n2 c2 a3 n3 c3 a4 n4 c4 i1 i2 i3 i4 i5 i6 i7 8 n9 i9 t9 a9 b9 c9 p9 q9 r9 f9 g9 U (by decide) (by decide) (by decide) (by decide)
  have dk : decide (i1 ≤ n9) = true := by simpa using hok1
  have dk2 : decide (i2 ≤ i9) = true := by simpa using hok2
  clear hok1 hok2
  go_enter Tryz.func36, Tryz.ntmps36
  go_upto_region 15 with (first
    | (go_at_call 81; go_must (refine hpl.mono ?_; rintro e v1 ⟨rfl, b1⟩; clear x0 x1 x2 x3 x4 x5 x6 x7 x8 x9 x10 y0 y1 y2 y3 y4 y5 y6 y7 y8 y9 y10 y11; have hp := HP.out v1 b1; have x0 := (blkc hp).1 0; have x1 := (blkc hp).1 1; have x2 := (blkc hp).1 2; have x3 := (blkc hp).1 3; have x4 := (blkc hp).1 4; have x5 := (blkc hp).1 5; have x6 := (blkc hp).1 6; have x7 := (blkc hp).1 7; have x8 := (blkc hp).1 8; have x9 := (blkc hp).1 9; have x10 := (blkc hp).1 10; clear hp; have hp := HP.out v1 b1; have xf0 := (blkc hp).2 0; have xf1 := (blkc hp).2 1; have xf2 := (blkc hp).2 2; have xf3 := (blkc hp).2 3; have xf4 := (blkc hp).2 4; have xf5 := (blkc hp).2 5; have xf6 := (blkc hp).2 6; have xf7 := (blkc hp).2 7; have xf8 := (blkc hp).2 8; have xf9 := (blkc hp).2 9; have xf10 := (blkc hp).2 10; clear hp; have y0 := (blkc (HE.out v1 b1)).1 0; have y1 := (blkc (HE.out v1 b1)).1 1; have y2 := (blkc (HE.out v1 b1)).1 2; have y3 := (blkc (HE.out v1 b1)).1 3; have y4 := (blkc (HE.out v1 b1)).1 4; have y5 := (blkc (HE.out v1 b1)).1 5; have y6 := (blkc (HE.out v1 b1)).1 6; have y7 := (blkc (HE.out v1 b1)).1 7; have y8 := (blkc (HE.out v1 b1)).1 8; have y9 := (blkc (HE.out v1 b1)).1 9; have y10 := (blkc (HE.out v1 b1)).1 10; have y11 := (blkc (HE.out v1 b1)).1 11)))
  clear hUe
  go_cut [] (fun wx => Hid (wx.heap[w.heap.size]? = some (.cells #[.slice a1 n1 c1, .slice a2 n2 c2, .slice a3 n3 c3, .slice a4 n4 c4, .int .i64 n9, .int .i64 i9, .int .i64 t9, .int .i64 a9, .int .i64 b9, .int .i64 c9, .int .i64 i7] 29 (0, 0))) ∧ Hid (wx.heap[w.heap.size + 1 + 1]? = some (.cells #[.slice none 0 0, .slice none 0 0, .slice none 0 0, .slice none 0 0, .int .i64 0, .int .i64 0, .int .i64 0, .int .i64 0, .int .i64 0, .int .i64 0, .int .i64 0] 29 (0, 0))) ∧ Hid (Below w.heap.size w wx))
  case first =>
    refine wp_region_held_drew (S := (fun W => W.cell? ⟨w.heap.size + 1, 1, none⟩ = some (.int .i64 n9) ∧ W.cell? ⟨w.heap.size + 1, 2, none⟩ = some (.int .i64 i9) ∧ W.cell? ⟨w.heap.size + 1, 3, none⟩ = some (.int .i64 t9) ∧ W.cell? ⟨w.heap.size + 1, 4, none⟩ = some (.int .i64 a9) ∧ W.cell? ⟨w.heap.size + 1, 5, none⟩ = some (.int .i64 b9) ∧ W.cell? ⟨w.heap.size + 1, 6, none⟩ = some (.int .i64 c9))) (by kernel_rfl) ⟨(blkc (HE.out v1 b1)).1 1, (blkc (HE.out v1 b1)).1 2, (blkc (HE.out v1 b1)).1 3, (blkc (HE.out v1 b1)).1 4, (blkc (HE.out v1 b1)).1 5, (blkc (HE.out v1 b1)).1 6⟩ (fun hHeld => ?_)
    refine wpAnyH_take (i := 0) (oi := ⟨some 72, _, _, _, _, _⟩) (v := ?_) rfl (by kernel_rfl) (by kernel_rfl) (by kernel_rfl) (fun _ _ _ h => h) (Or.inl ⟨by rfl, ?_⟩) (by assumption) ?_
    rotate_left
    · intro w hSw; (try dsimp only at hSw); go_simp <;> (try with_reducible rfl)
    go_frame
    refine wpAnyH_take (i := 1) (oi := ⟨some 73, _, _, _, _, _⟩) (v := ?_) rfl (by kernel_rfl) (by kernel_rfl) (by kernel_rfl) (fun _ _ _ h => h) (Or.inl ⟨by rfl, ?_⟩) (by assumption) ?_
    rotate_left
    · intro w hSw; (try dsimp only at hSw); go_simp <;> (try with_reducible rfl)
    go_frame
    refine wpAnyH_take (i := 2) (oi := ⟨some 74, _, _, _, _, _⟩) (v := ?_) rfl (by kernel_rfl) (by kernel_rfl) (by kernel_rfl) (fun _ _ _ h => h) (Or.inl ⟨by rfl, ?_⟩) (by assumption) ?_
    rotate_left
    · intro w hSw; (try dsimp only at hSw); go_simp <;> (try with_reducible rfl)
    go_frame
    refine wpAnyH_take (i := 3) (oi := ⟨some 75, _, _, _, _, _⟩) (v := ?_) rfl (by kernel_rfl) (by kernel_rfl) (by kernel_rfl) (fun _ _ _ h => h) (Or.inl ⟨by rfl, ?_⟩) (by assumption) ?_
    rotate_left
    · intro w hSw; (try dsimp only at hSw); go_simp <;> (try with_reducible rfl)
    go_frame
    refine wpAnyH_take (i := 4) (oi := ⟨some 76, _, _, _, _, _⟩) (v := ?_) rfl (by kernel_rfl) (by kernel_rfl) (by kernel_rfl) (fun _ _ _ h => h) (Or.inl ⟨by rfl, ?_⟩) (by assumption) ?_
    rotate_left
    · intro w hSw; (try dsimp only at hSw); go_simp <;> (try with_reducible rfl)
    go_frame
    refine wpAnyH_take (i := 5) (oi := ⟨some 77, _, _, _, _, _⟩) (v := ?_) rfl (by kernel_rfl) (by kernel_rfl) (by kernel_rfl) (fun _ _ _ h => h) (Or.inl ⟨by rfl, ?_⟩) (by assumption) ?_
    rotate_left
    · intro w hSw; (try dsimp only at hSw); go_simp <;> (try with_reducible rfl)
    go_frame
    refine wpAnyH_take (i := 6) (oi := ⟨some 78, _, _, _, _, _⟩) (v := ?_) rfl (by kernel_rfl) (by kernel_rfl) (by kernel_rfl) (fun _ _ _ h => h) (Or.inl ⟨by rfl, ?_⟩) (by assumption) ?_
    rotate_left
    · intro w hSw; (try dsimp only at hSw); go_simp <;> (try with_reducible rfl)
    go_frame
    refine wpAnyH_take (i := 7) (oi := ⟨some 79, _, _, _, _, _⟩) (v := ?_) rfl (by kernel_rfl) (by kernel_rfl) (by kernel_rfl) (fun _ _ _ h => h) (Or.inl ⟨by rfl, ?_⟩) (by assumption) ?_
    rotate_left
    · intro w hSw; (try dsimp only at hSw); go_simp <;> (try with_reducible rfl)
    go_frame
    have P0 : Hid ((v1.setCell ⟨w.heap.size, 4, none⟩ (.int .i64 n9)).heap[w.heap.size]? = some (.cells #[.slice a1 n1 c1, .slice a2 n2 c2, .slice a3 n3 c3, .slice a4 n4 c4, .int .i64 n9, .int .i64 i2, .int .i64 i3, .int .i64 i4, .int .i64 i5, .int .i64 i6, .int .i64 i7] 29 (0, 0))) := (bput (HP.out v1 b1) _ rfl : _ = _)
    have hg0 : Hid (v1.grownBy (v1.setCell ⟨w.heap.size, 4, none⟩ (.int .i64 n9)) (some (w.heap.size))) := (turned_setL (w.heap.size) [.int .i64 n9] 4 _ : World.grownBy _ _ _)
    have he0 : Hid ((v1.setCell ⟨w.heap.size, 4, none⟩ (.int .i64 n9)).heap[w.heap.size + 1]? = some (oed 8 n9 i9 t9 a9 b9 c9 p9 q9 r9 f9 g9)) := ((hg0.out.block _ (ob_ltB (HE.out v1 b1)) (fun e => hpe (Option.some.inj e))).trans (HE.out v1 b1) : _ = _)
    have P1 : Hid (((v1.setCell ⟨w.heap.size, 4, none⟩ (.int .i64 n9)).setCell ⟨w.heap.size, 5, none⟩ (.int .i64 i9)).heap[w.heap.size]? = some (.cells #[.slice a1 n1 c1, .slice a2 n2 c2, .slice a3 n3 c3, .slice a4 n4 c4, .int .i64 n9, .int .i64 i9, .int .i64 i3, .int .i64 i4, .int .i64 i5, .int .i64 i6, .int .i64 i7] 29 (0, 0))) := (bput P0.out _ rfl : _ = _)
    have hg1 : Hid (v1.grownBy ((v1.setCell ⟨w.heap.size, 4, none⟩ (.int .i64 n9)).setCell ⟨w.heap.size, 5, none⟩ (.int .i64 i9)) (some (w.heap.size))) := (hg0.out.trans (turned_setL (w.heap.size) [.int .i64 i9] 5 _) : World.grownBy _ _ _)
    have he1 : Hid (((v1.setCell ⟨w.heap.size, 4, none⟩ (.int .i64 n9)).setCell ⟨w.heap.size, 5, none⟩ (.int .i64 i9)).heap[w.heap.size + 1]? = some (oed 8 n9 i9 t9 a9 b9 c9 p9 q9 r9 f9 g9)) := ((hg1.out.block _ (ob_ltB (HE.out v1 b1)) (fun e => hpe (Option.some.inj e))).trans (HE.out v1 b1) : _ = _)
    have P2 : Hid ((((v1.setCell ⟨w.heap.size, 4, none⟩ (.int .i64 n9)).setCell ⟨w.heap.size, 5, none⟩ (.int .i64 i9)).setCell ⟨w.heap.size, 6, none⟩ (.int .i64 t9)).heap[w.heap.size]? = some (.cells #[.slice a1 n1 c1, .slice a2 n2 c2, .slice a3 n3 c3, .slice a4 n4 c4, .int .i64 n9, .int .i64 i9, .int .i64 t9, .int .i64 i4, .int .i64 i5, .int .i64 i6, .int .i64 i7] 29 (0, 0))) := (bput P1.out _ rfl : _ = _)
    have hg2 : Hid (v1.grownBy (((v1.setCell ⟨w.heap.size, 4, none⟩ (.int .i64 n9)).setCell ⟨w.heap.size, 5, none⟩ (.int .i64 i9)).setCell ⟨w.heap.size, 6, none⟩ (.int .i64 t9)) (some (w.heap.size))) := (hg1.out.trans (turned_setL (w.heap.size) [.int .i64 t9] 6 _) : World.grownBy _ _ _)
    have he2 : Hid ((((v1.setCell ⟨w.heap.size, 4, none⟩ (.int .i64 n9)).setCell ⟨w.heap.size, 5, none⟩ (.int .i64 i9)).setCell ⟨w.heap.size, 6, none⟩ (.int .i64 t9)).heap[w.heap.size + 1]? = some (oed 8 n9 i9 t9 a9 b9 c9 p9 q9 r9 f9 g9)) := ((hg2.out.block _ (ob_ltB (HE.out v1 b1)) (fun e => hpe (Option.some.inj e))).trans (HE.out v1 b1) : _ = _)
    have P3 : Hid (((((v1.setCell ⟨w.heap.size, 4, none⟩ (.int .i64 n9)).setCell ⟨w.heap.size, 5, none⟩ (.int .i64 i9)).setCell ⟨w.heap.size, 6, none⟩ (.int .i64 t9)).setCell ⟨w.heap.size, 7, none⟩ (.int .i64 a9)).heap[w.heap.size]? = some (.cells #[.slice a1 n1 c1, .slice a2 n2 c2, .slice a3 n3 c3, .slice a4 n4 c4, .int .i64 n9, .int .i64 i9, .int .i64 t9, .int .i64 a9, .int .i64 i5, .int .i64 i6, .int .i64 i7] 29 (0, 0))) := (bput P2.out _ rfl : _ = _)
    have hg3 : Hid (v1.grownBy ((((v1.setCell ⟨w.heap.size, 4, none⟩ (.int .i64 n9)).setCell ⟨w.heap.size, 5, none⟩ (.int .i64 i9)).setCell ⟨w.heap.size, 6, none⟩ (.int .i64 t9)).setCell ⟨w.heap.size, 7, none⟩ (.int .i64 a9)) (some (w.heap.size))) := (hg2.out.trans (turned_setL (w.heap.size) [.int .i64 a9] 7 _) : World.grownBy _ _ _)
    have he3 : Hid (((((v1.setCell ⟨w.heap.size, 4, none⟩ (.int .i64 n9)).setCell ⟨w.heap.size, 5, none⟩ (.int .i64 i9)).setCell ⟨w.heap.size, 6, none⟩ (.int .i64 t9)).setCell ⟨w.heap.size, 7, none⟩ (.int .i64 a9)).heap[w.heap.size + 1]? = some (oed 8 n9 i9 t9 a9 b9 c9 p9 q9 r9 f9 g9)) := ((hg3.out.block _ (ob_ltB (HE.out v1 b1)) (fun e => hpe (Option.some.inj e))).trans (HE.out v1 b1) : _ = _)
    have P4 : Hid ((((((v1.setCell ⟨w.heap.size, 4, none⟩ (.int .i64 n9)).setCell ⟨w.heap.size, 5, none⟩ (.int .i64 i9)).setCell ⟨w.heap.size, 6, none⟩ (.int .i64 t9)).setCell ⟨w.heap.size, 7, none⟩ (.int .i64 a9)).setCell ⟨w.heap.size, 8, none⟩ (.int .i64 b9)).heap[w.heap.size]? = some (.cells #[.slice a1 n1 c1, .slice a2 n2 c2, .slice a3 n3 c3, .slice a4 n4 c4, .int .i64 n9, .int .i64 i9, .int .i64 t9, .int .i64 a9, .int .i64 b9, .int .i64 i6, .int .i64 i7] 29 (0, 0))) := (bput P3.out _ rfl : _ = _)
    have hg4 : Hid (v1.grownBy (((((v1.setCell ⟨w.heap.size, 4, none⟩ (.int .i64 n9)).setCell ⟨w.heap.size, 5, none⟩ (.int .i64 i9)).setCell ⟨w.heap.size, 6, none⟩ (.int .i64 t9)).setCell ⟨w.heap.size, 7, none⟩ (.int .i64 a9)).setCell ⟨w.heap.size, 8, none⟩ (.int .i64 b9)) (some (w.heap.size))) := (hg3.out.trans (turned_setL (w.heap.size) [.int .i64 b9] 8 _) : World.grownBy _ _ _)
    have he4 : Hid ((((((v1.setCell ⟨w.heap.size, 4, none⟩ (.int .i64 n9)).setCell ⟨w.heap.size, 5, none⟩ (.int .i64 i9)).setCell ⟨w.heap.size, 6, none⟩ (.int .i64 t9)).setCell ⟨w.heap.size, 7, none⟩ (.int .i64 a9)).setCell ⟨w.heap.size, 8, none⟩ (.int .i64 b9)).heap[w.heap.size + 1]? = some (oed 8 n9 i9 t9 a9 b9 c9 p9 q9 r9 f9 g9)) := ((hg4.out.block _ (ob_ltB (HE.out v1 b1)) (fun e => hpe (Option.some.inj e))).trans (HE.out v1 b1) : _ = _)
    have P5 : Hid (((((((v1.setCell ⟨w.heap.size, 4, none⟩ (.int .i64 n9)).setCell ⟨w.heap.size, 5, none⟩ (.int .i64 i9)).setCell ⟨w.heap.size, 6, none⟩ (.int .i64 t9)).setCell ⟨w.heap.size, 7, none⟩ (.int .i64 a9)).setCell ⟨w.heap.size, 8, none⟩ (.int .i64 b9)).setCell ⟨w.heap.size, 9, none⟩ (.int .i64 c9)).heap[w.heap.size]? = some (.cells #[.slice a1 n1 c1, .slice a2 n2 c2, .slice a3 n3 c3, .slice a4 n4 c4, .int .i64 n9, .int .i64 i9, .int .i64 t9, .int .i64 a9, .int .i64 b9, .int .i64 c9, .int .i64 i7] 29 (0, 0))) := (bput P4.out _ rfl : _ = _)
    have hg5 : Hid (v1.grownBy ((((((v1.setCell ⟨w.heap.size, 4, none⟩ (.int .i64 n9)).setCell ⟨w.heap.size, 5, none⟩ (.int .i64 i9)).setCell ⟨w.heap.size, 6, none⟩ (.int .i64 t9)).setCell ⟨w.heap.size, 7, none⟩ (.int .i64 a9)).setCell ⟨w.heap.size, 8, none⟩ (.int .i64 b9)).setCell ⟨w.heap.size, 9, none⟩ (.int .i64 c9)) (some (w.heap.size))) := (hg4.out.trans (turned_setL (w.heap.size) [.int .i64 c9] 9 _) : World.grownBy _ _ _)
    have he5 : Hid (((((((v1.setCell ⟨w.heap.size, 4, none⟩ (.int .i64 n9)).setCell ⟨w.heap.size, 5, none⟩ (.int .i64 i9)).setCell ⟨w.heap.size, 6, none⟩ (.int .i64 t9)).setCell ⟨w.heap.size, 7, none⟩ (.int .i64 a9)).setCell ⟨w.heap.size, 8, none⟩ (.int .i64 b9)).setCell ⟨w.heap.size, 9, none⟩ (.int .i64 c9)).heap[w.heap.size + 1]? = some (oed 8 n9 i9 t9 a9 b9 c9 p9 q9 r9 f9 g9)) := ((hg5.out.block _ (ob_ltB (HE.out v1 b1)) (fun e => hpe (Option.some.inj e))).trans (HE.out v1 b1) : _ = _)
    refine wpAnyH_take (i := 8) (oi := ⟨some 80, _, _, _, _, _⟩) (v := ?_) rfl (by kernel_rfl) (by kernel_rfl) (by kernel_rfl) (fun _ _ _ h => h) (Or.inl ⟨by rfl, ?_⟩) (by assumption) ?_
    rotate_left
    · intro w hSw; (try dsimp only at hSw); go_simp <;> (try with_reducible rfl)
    go_frame
    refine wpAnyH_ready (rs := [9]) (by kernel_rfl) (by simp) ?_
    refine AllReadyH.cons rfl (fun K hK => ?_) AllReadyH.nil
    go_simp
    refine hK.out _ _ ⟨(blkc (drew_heap he0.out)).1 1, (blkc (drew_heap he0.out)).1 2, (blkc (drew_heap he0.out)).1 3, (blkc (drew_heap he0.out)).1 4, (blkc (drew_heap he0.out)).1 5, (blkc (drew_heap he0.out)).1 6⟩ (fun hHeld => ?_)
    clear hK K
    clear x0 xf0 x1 xf1 x2 xf2 x3 xf3 x4 xf4 x5 xf5 x6 xf6 x7 xf7 x8 xf8 x9 xf9 x10 xf10 y0 y1 y2 y3 y4 y5 y6 y7 y8 y9 y10 y11
    refine wpAnyH_take (i := 10) (oi := ⟨some 81, _, _, _, _, _⟩) (v := ?_) rfl (by kernel_rfl) (by kernel_rfl) (by kernel_rfl) (fun _ _ _ h => h) (Or.inl ⟨by rfl, ?_⟩) (by assumption) ?_
    rotate_left
    · intro w hSw; (try dsimp only at hSw); go_simp <;> (try with_reducible rfl)
    go_frame
    refine wpAnyH_ready (rs := [11]) (by kernel_rfl) (by simp) ?_
    refine AllReadyH.cons rfl (fun K hK => ?_) AllReadyH.nil
    have xc5 := (blkc P0.out).1 5; have xg5 := (blkc P0.out).2 5; go_simp; clear xc5 xg5
    refine hK.out _ _ ⟨(blkc (drew_heap he1.out)).1 1, (blkc (drew_heap he1.out)).1 2, (blkc (drew_heap he1.out)).1 3, (blkc (drew_heap he1.out)).1 4, (blkc (drew_heap he1.out)).1 5, (blkc (drew_heap he1.out)).1 6⟩ (fun hHeld => ?_)
    clear hK K
    try go_frame
    refine wpAnyH_take (i := 12) (oi := ⟨some 82, _, _, _, _, _⟩) (v := ?_) rfl (by kernel_rfl) (by kernel_rfl) (by kernel_rfl) (fun _ _ _ h => h) (Or.inl ⟨by rfl, ?_⟩) (by assumption) ?_
    rotate_left
    · intro w hSw; (try dsimp only at hSw); go_simp <;> (try with_reducible rfl)
    go_frame
    refine wpAnyH_ready (rs := [13]) (by kernel_rfl) (by simp) ?_
    refine AllReadyH.cons rfl (fun K hK => ?_) AllReadyH.nil
    have xc6 := (blkc P1.out).1 6; have xg6 := (blkc P1.out).2 6; go_simp; clear xc6 xg6
    refine hK.out _ _ ⟨(blkc (drew_heap he2.out)).1 1, (blkc (drew_heap he2.out)).1 2, (blkc (drew_heap he2.out)).1 3, (blkc (drew_heap he2.out)).1 4, (blkc (drew_heap he2.out)).1 5, (blkc (drew_heap he2.out)).1 6⟩ (fun hHeld => ?_)
    clear hK K
    try go_frame
    refine wpAnyH_take (i := 14) (oi := ⟨some 83, _, _, _, _, _⟩) (v := ?_) rfl (by kernel_rfl) (by kernel_rfl) (by kernel_rfl) (fun _ _ _ h => h) (Or.inl ⟨by rfl, ?_⟩) (by assumption) ?_
    rotate_left
    · intro w hSw; (try dsimp only at hSw); go_simp <;> (try with_reducible rfl)
    go_frame
    refine wpAnyH_ready (rs := [15]) (by kernel_rfl) (by simp) ?_
    refine AllReadyH.cons rfl (fun K hK => ?_) AllReadyH.nil
    have xc7 := (blkc P2.out).1 7; have xg7 := (blkc P2.out).2 7; have xc8 := (blkc P2.out).1 8; have xg8 := (blkc P2.out).2 8; have xc9 := (blkc P2.out).1 9; have xg9 := (blkc P2.out).2 9; go_simp; clear xc7 xg7 xc8 xg8 xc9 xg9
    refine hK.out _ _ ⟨(blkc (drew_heap he5.out)).1 1, (blkc (drew_heap he5.out)).1 2, (blkc (drew_heap he5.out)).1 3, (blkc (drew_heap he5.out)).1 4, (blkc (drew_heap he5.out)).1 5, (blkc (drew_heap he5.out)).1 6⟩ (fun hHeld => ?_)
    clear hK K
    try go_frame
    refine wpAnyH_done (by kernel_rfl) ?_ _
    have hP9 : Hid (((((((v1.setCell ⟨w.heap.size, 4, none⟩ (.int .i64 n9)).setCell ⟨w.heap.size, 5, none⟩ (.int .i64 i9)).setCell ⟨w.heap.size, 6, none⟩ (.int .i64 t9)).setCell ⟨w.heap.size, 7, none⟩ (.int .i64 a9)).setCell ⟨w.heap.size, 8, none⟩ (.int .i64 b9)).setCell ⟨w.heap.size, 9, none⟩ (.int .i64 c9)).drew.heap[w.heap.size]? = some (.cells #[.slice a1 n1 c1, .slice a2 n2 c2, .slice a3 n3 c3, .slice a4 n4 c4, .int .i64 n9, .int .i64 i9, .int .i64 t9, .int .i64 a9, .int .i64 b9, .int .i64 c9, .int .i64 i7] 29 (0, 0))) := drew_heap P5.out
    have hZ9 : Hid (((((((v1.setCell ⟨w.heap.size, 4, none⟩ (.int .i64 n9)).setCell ⟨w.heap.size, 5, none⟩ (.int .i64 i9)).setCell ⟨w.heap.size, 6, none⟩ (.int .i64 t9)).setCell ⟨w.heap.size, 7, none⟩ (.int .i64 a9)).setCell ⟨w.heap.size, 8, none⟩ (.int .i64 b9)).setCell ⟨w.heap.size, 9, none⟩ (.int .i64 c9)).drew.heap[w.heap.size + 1 + 1]? = some (.cells #[.slice none 0 0, .slice none 0 0, .slice none 0 0, .slice none 0 0, .int .i64 0, .int .i64 0, .int .i64 0, .int .i64 0, .int .i64 0, .int .i64 0, .int .i64 0] 29 (0, 0))) := drew_heap ((hg5.out.block _ (ob_ltB (HZ.out v1 b1)) (fun e => hpz (Option.some.inj e))).trans (HZ.out v1 b1))
    have hB9 : Hid (Below w.heap.size w ((((((v1.setCell ⟨w.heap.size, 4, none⟩ (.int .i64 n9)).setCell ⟨w.heap.size, 5, none⟩ (.int .i64 i9)).setCell ⟨w.heap.size, 6, none⟩ (.int .i64 t9)).setCell ⟨w.heap.size, 7, none⟩ (.int .i64 a9)).setCell ⟨w.heap.size, 8, none⟩ (.int .i64 b9)).setCell ⟨w.heap.size, 9, none⟩ (.int .i64 c9)).drew) := ((below_grownB (HU.out.trans (b1.mono HU.out.size)) hg5.out (HU.out.trans (b1.mono HU.out.size)).size (fun q hq => by cases hq; exact Nat.le_refl _)).drew : Below _ _ _)
    clear P0 hg0 he0 P1 hg1 he1 P2 hg2 he2 P3 hg3 he3 P4 hg4 he4 P5 hg5 he5
    go_wp2_with fail
    go_meet
    case rel => exact ⟨hP9, hZ9, hB9⟩
  case rest =>
    obtain ⟨hP9, hZ9, hB9⟩ := hcut
    clear x0 xf0 x1 xf1 x2 xf2 x3 xf3 x4 xf4 x5 xf5 x6 xf6 x7 xf7 x8 xf8 x9 xf9 x10 xf10 y0 y1 y2 y3 y4 y5 y6 y7 y8 y9 y10 y11
    have d0 := (blkc hP9.out).1 0
    have d1 := (blkc hP9.out).1 1
    have d2 := (blkc hP9.out).1 2
    have d3 := (blkc hP9.out).1 3
    have d4 := (blkc hP9.out).1 4
    have d5 := (blkc hP9.out).1 5
    have d6 := (blkc hP9.out).1 6
    have d7 := (blkc hP9.out).1 7
    have d8 := (blkc hP9.out).1 8
    have d9 := (blkc hP9.out).1 9
    have d10 := (blkc hP9.out).1 10
    have e0 := (blkc hZ9.out).1 0
    have e1 := (blkc hZ9.out).1 1
    have e2 := (blkc hZ9.out).1 2
    have e3 := (blkc hZ9.out).1 3
    have e4 := (blkc hZ9.out).1 4
    have e5 := (blkc hZ9.out).1 5
    have e6 := (blkc hZ9.out).1 6
    have e7 := (blkc hZ9.out).1 7
    have e8 := (blkc hZ9.out).1 8
    have e9 := (blkc hZ9.out).1 9
    have e10 := (blkc hZ9.out).1 10
    have fz0 := (blkc hZ9.out).2 0
    have fz1 := (blkc hZ9.out).2 1
    have fz2 := (blkc hZ9.out).2 2
    have fz3 := (blkc hZ9.out).2 3
    have fz4 := (blkc hZ9.out).2 4
    have fz5 := (blkc hZ9.out).2 5
    have fz6 := (blkc hZ9.out).2 6
    have fz7 := (blkc hZ9.out).2 7
    have fz8 := (blkc hZ9.out).2 8
    have fz9 := (blkc hZ9.out).2 9
    have fz10 := (blkc hZ9.out).2 10
    go_wp2
    have B10 : (((((((((((wc.setCell ⟨w.heap.size + 1 + 1, 0, none⟩ (.slice a1 n1 c1)).setCell ⟨w.heap.size + 1 + 1, 1, none⟩ (.slice a2 n2 c2)).setCell ⟨w.heap.size + 1 + 1, 2, none⟩ (.slice a3 n3 c3)).setCell ⟨w.heap.size + 1 + 1, 3, none⟩ (.slice a4 n4 c4)).setCell ⟨w.heap.size + 1 + 1, 4, none⟩ (.int .i64 n9)).setCell ⟨w.heap.size + 1 + 1, 5, none⟩ (.int .i64 i9)).setCell ⟨w.heap.size + 1 + 1, 6, none⟩ (.int .i64 t9)).setCell ⟨w.heap.size + 1 + 1, 7, none⟩ (.int .i64 a9)).setCell ⟨w.heap.size + 1 + 1, 8, none⟩ (.int .i64 b9)).setCell ⟨w.heap.size + 1 + 1, 9, none⟩ (.int .i64 c9)).setCell ⟨w.heap.size + 1 + 1, 10, none⟩ (.int .i64 i7)).heap[w.heap.size + 1 + 1]? = some (.cells #[.slice a1 n1 c1, .slice a2 n2 c2, .slice a3 n3 c3, .slice a4 n4 c4, .int .i64 n9, .int .i64 i9, .int .i64 t9, .int .i64 a9, .int .i64 b9, .int .i64 c9, .int .i64 i7] 29 (0, 0)) := bput_new [.slice a1 n1 c1, .slice a2 n2 c2, .slice a3 n3 c3, .slice a4 n4 c4, .int .i64 n9, .int .i64 i9, .int .i64 t9, .int .i64 a9, .int .i64 b9, .int .i64 c9, .int .i64 i7] hZ9.out rfl
    have hgr : wc.grownBy (((((((((((wc.setCell ⟨w.heap.size + 1 + 1, 0, none⟩ (.slice a1 n1 c1)).setCell ⟨w.heap.size + 1 + 1, 1, none⟩ (.slice a2 n2 c2)).setCell ⟨w.heap.size + 1 + 1, 2, none⟩ (.slice a3 n3 c3)).setCell ⟨w.heap.size + 1 + 1, 3, none⟩ (.slice a4 n4 c4)).setCell ⟨w.heap.size + 1 + 1, 4, none⟩ (.int .i64 n9)).setCell ⟨w.heap.size + 1 + 1, 5, none⟩ (.int .i64 i9)).setCell ⟨w.heap.size + 1 + 1, 6, none⟩ (.int .i64 t9)).setCell ⟨w.heap.size + 1 + 1, 7, none⟩ (.int .i64 a9)).setCell ⟨w.heap.size + 1 + 1, 8, none⟩ (.int .i64 b9)).setCell ⟨w.heap.size + 1 + 1, 9, none⟩ (.int .i64 c9)).setCell ⟨w.heap.size + 1 + 1, 10, none⟩ (.int .i64 i7)) (some (w.heap.size + 1 + 1)) := turned_setL (w.heap.size + 1 + 1) [.slice a1 n1 c1, .slice a2 n2 c2, .slice a3 n3 c3, .slice a4 n4 c4, .int .i64 n9, .int .i64 i9, .int .i64 t9, .int .i64 a9, .int .i64 b9, .int .i64 c9, .int .i64 i7] 0 wc
    have hbF := below_grownB hB9.out hgr hB9.out.size (fun q hq => by cases hq; omega)
    have u0 := (blkc B10).1 0
    have u1 := (blkc B10).1 1
    have u2 := (blkc B10).1 2
    have u3 := (blkc B10).1 3
    have u4 := (blkc B10).1 4
    have u5 := (blkc B10).1 5
    have u6 := (blkc B10).1 6
    have u7 := (blkc B10).1 7
    have u8 := (blkc B10).1 8
    have u9 := (blkc B10).1 9
    have u10 := (blkc B10).1 10
    refine bodyPost_ret (v := .tuple #[.agg #[.slice a1 n1 c1, .slice a2 n2 c2, .slice a3 n3 c3, .slice a4 n4 c4, .int .i64 n9, .int .i64 i9, .int .i64 t9, .int .i64 a9, .int .i64 b9, .int .i64 c9, .int .i64 i7], .bool true]) (by simp [results, Tryz.results36, go_sem, u0, u1, u2, u3, u4, u5, u6, u7, u8, u9, u10]) rfl ⟨rfl, hbF⟩

set_option maxRecDepth 100000 in
set_option maxHeartbeats 8000000 in
theorem rdo17_still (ks : List (Int × Int × Int)) (a1 : Option Addr) (n1 c1 : Nat) (a2 : Option Addr) (n2 c2 : Nat) (a3 : Option Addr) (n3 c3 : Nat) (a4 : Option Addr) (n4 c4 : Nat) (i1 i2 i3 i4 i5 i6 i7 : Int) (n9 i9 t9 a9 b9 c9 p9 q9 r9 : Int) (f9 g9 : ByteArray) (w : World) (hr : KRow w a4 n4 ks) (hn : n4 ≤ 1000) (hnc : n4 ≤ c4) (hz : a4 = none → n4 = 0 ∧ c4 = 0) (ha0 : n4 = 0 → a4 = none) (hlast : ∀ m ∈ ks, m.2.1 < i9) :
    Calls Tryz.prog 36 #[.agg #[.slice a1 n1 c1, .slice a2 n2 c2, .slice a3 n3 c3, .slice a4 n4 c4, .int .i64 i1, .int .i64 i2, .int .i64 i3, .int .i64 i4, .int .i64 i5, .int .i64 i6, .int .i64 i7], .agg #[.int .i64 6, .int .i64 n9, .int .i64 i9, .int .i64 t9, .int .i64 a9, .int .i64 b9, .int .i64 c9, .int .i64 p9, .int .i64 q9, .int .i64 r9, .string f9, .string g9]] w fun e w' => ∃ (g : Option Addr) (d : Nat), e = .returned (.tuple #[.agg #[.slice a1 n1 c1, .slice a2 n2 c2, .slice a3 n3 c3, .slice g (n4 + 1) d, .int .i64 i1, .int .i64 i2, .int .i64 i3, .int .i64 i4, .int .i64 i5, .int .i64 i6, .int .i64 i7], .bool true]) ∧ w'.ownsRow w.heap.size 67 3 (.slice g (n4 + 1) d) (n4 + 1) (tcells ke (ks ++ [(n9, i9, t9)])) ∧ Below w.heap.size w w' := by
  obtain ⟨U, hU⟩ : ∃ U, U = ((w.alloc (.cells #[.slice a1 n1 c1, .slice a2 n2 c2, .slice a3 n3 c3, .slice a4 n4 c4, .int .i64 i1, .int .i64 i2, .int .i64 i3, .int .i64 i4, .int .i64 i5, .int .i64 i6, .int .i64 i7] 29)).alloc (oed 6 n9 i9 t9 a9 b9 c9 p9 q9 r9 f9 g9)).alloc (.cells #[.slice none 0 0, .slice none 0 0, .slice none 0 0, .slice none 0 0, .int .i64 0, .int .i64 0, .int .i64 0, .int .i64 0, .int .i64 0, .int .i64 0, .int .i64 0] 29) := ⟨_, rfl⟩
  have hbU : Below w.heap.size w U := by rw [hU]; exact (below_two _ _ _).alloc (below_two _ _ _).size _
  have e0 : U.heap[w.heap.size]? = some (.cells #[.slice a1 n1 c1, .slice a2 n2 c2, .slice a3 n3 c3, .slice a4 n4 c4, .int .i64 i1, .int .i64 i2, .int .i64 i3, .int .i64 i4, .int .i64 i5, .int .i64 i6, .int .i64 i7] 29 (0, 0)) := by
    rw [hU]; exact (Below.heap_alloc _ _ _ (by simp; omega)).trans ((Below.heap_alloc _ _ _ (by simp)).trans (heap_alloc_new _ _))
  have e1 : U.heap[w.heap.size + 1]? = some (oed 6 n9 i9 t9 a9 b9 c9 p9 q9 r9 f9 g9) := by
    have h1 := heap_alloc_new (w.alloc (.cells #[.slice a1 n1 c1, .slice a2 n2 c2, .slice a3 n3 c3, .slice a4 n4 c4, .int .i64 i1, .int .i64 i2, .int .i64 i3, .int .i64 i4, .int .i64 i5, .int .i64 i6, .int .i64 i7] 29)) (oed 6 n9 i9 t9 a9 b9 c9 p9 q9 r9 f9 g9)
    rw [World.size_alloc] at h1
    rw [hU]; exact (Below.heap_alloc _ _ _ (by simp)).trans h1
  have e2 : U.heap[w.heap.size + 1 + 1]? = some (.cells #[.slice none 0 0, .slice none 0 0, .slice none 0 0, .slice none 0 0, .int .i64 0, .int .i64 0, .int .i64 0, .int .i64 0, .int .i64 0, .int .i64 0, .int .i64 0] 29 (0, 0)) := by
    have h1 := heap_alloc_new ((w.alloc (.cells #[.slice a1 n1 c1, .slice a2 n2 c2, .slice a3 n3 c3, .slice a4 n4 c4, .int .i64 i1, .int .i64 i2, .int .i64 i3, .int .i64 i4, .int .i64 i5, .int .i64 i6, .int .i64 i7] 29)).alloc (oed 6 n9 i9 t9 a9 b9 c9 p9 q9 r9 f9 g9)) (.cells #[.slice none 0 0, .slice none 0 0, .slice none 0 0, .slice none 0 0, .int .i64 0, .int .i64 0, .int .i64 0, .int .i64 0, .int .i64 0, .int .i64 0, .int .i64 0] 29)
    rw [World.size_alloc, World.size_alloc] at h1
    rw [hU]; exact h1
  have HP : Hid (∀ W, Below U.heap.size U W → W.heap[w.heap.size]? = some (.cells #[.slice a1 n1 c1, .slice a2 n2 c2, .slice a3 n3 c3, .slice a4 n4 c4, .int .i64 i1, .int .i64 i2, .int .i64 i3, .int .i64 i4, .int .i64 i5, .int .i64 i6, .int .i64 i7] 29 (0, 0))) := (fun W hb => (hb.block _ (ob_ltB e0)).trans e0 : ∀ W, _ → _)
  have HE : Hid (∀ W, Below U.heap.size U W → W.heap[w.heap.size + 1]? = some (oed 6 n9 i9 t9 a9 b9 c9 p9 q9 r9 f9 g9)) := (fun W hb => (hb.block _ (ob_ltB e1)).trans e1 : ∀ W, _ → _)
  have HZ : Hid (∀ W, Below U.heap.size U W → W.heap[w.heap.size + 1 + 1]? = some (.cells #[.slice none 0 0, .slice none 0 0, .slice none 0 0, .slice none 0 0, .int .i64 0, .int .i64 0, .int .i64 0, .int .i64 0, .int .i64 0, .int .i64 0, .int .i64 0] 29 (0, 0))) := (fun W hb => (hb.block _ (ob_ltB e2)).trans e2 : ∀ W, _ → _)
  have HU : Hid (Below w.heap.size w U) := hbU
  have HSZ : Hid (U.heap.size = w.heap.size + 3) := (by rw [hU]; simp : _ = _)
  have hUe : ((w.alloc (.cells #[.slice a1 n1 c1, .slice a2 n2 c2, .slice a3 n3 c3, .slice a4 n4 c4, .int .i64 i1, .int .i64 i2, .int .i64 i3, .int .i64 i4, .int .i64 i5, .int .i64 i6, .int .i64 i7] 29)).alloc (oed 6 n9 i9 t9 a9 b9 c9 p9 q9 r9 f9 g9)).alloc (.cells #[.slice none 0 0, .slice none 0 0, .slice none 0 0, .slice none 0 0, .int .i64 0, .int .i64 0, .int .i64 0, .int .i64 0, .int .i64 0, .int .i64 0, .int .i64 0] 29) = U := hU.symm
  have x0 := (blkc e0).1 0
  have x1 := (blkc e0).1 1
  have x2 := (blkc e0).1 2
  have x3 := (blkc e0).1 3
  have x4 := (blkc e0).1 4
  have x5 := (blkc e0).1 5
  have x6 := (blkc e0).1 6
  have x7 := (blkc e0).1 7
  have x8 := (blkc e0).1 8
  have x9 := (blkc e0).1 9
  have x10 := (blkc e0).1 10
  have y0 := (blkc e1).1 0
  have y1 := (blkc e1).1 1
  have y2 := (blkc e1).1 2
  have y3 := (blkc e1).1 3
  have y4 := (blkc e1).1 4
  have y5 := (blkc e1).1 5
  have y6 := (blkc e1).1 6
  have y7 := (blkc e1).1 7
  have y8 := (blkc e1).1 8
  have y9 := (blkc e1).1 9
  have y10 := (blkc e1).1 10
  have y11 := (blkc e1).1 11
  clear hU hbU e0 e1 e2
  have hpe : ¬ (w.heap.size + 1 = w.heap.size) := by omega
  have hpe2 : ¬ (w.heap.size = w.heap.size + 1) := by omega
  have hpz : ¬ (w.heap.size + 1 + 1 = w.heap.size) := by omega
  have hpz2 : ¬ (w.heap.size = w.heap.size + 1 + 1) := by omega
  have hez : ¬ (w.heap.size + 1 = w.heap.size + 1 + 1) := by omega
  have hpl := rplace_no a1 n1 c1 a2 n2 c2 a3 n3 c3 a4 n4 c4 i1 i2 i3 i4 i5 i6 i7 6 n9 i9 t9 a9 b9 c9 p9 q9 r9 f9 g9 U (by decide) (by decide) (by decide) (by decide)
  have hkp : ∀ W, Below U.heap.size U W → _ := fun W hb => rkept_end a4 n4 c4 ks n9 i9 t9 W hn hnc (hr.below (HU.out.trans (hb.mono HU.out.size)) (Nat.le_refl _)) hz ha0 hlast
  clear hr hn hnc hz ha0 hlast
  go_enter Tryz.func36, Tryz.ntmps36
  go_upto_region 12 with (first
    | (go_at_call 81; go_must (refine hpl.mono ?_; rintro e v1 ⟨rfl, b1⟩; clear x0 x1 x2 x3 x4 x5 x6 x7 x8 x9 x10 y0 y1 y2 y3 y4 y5 y6 y7 y8 y9 y10 y11; have hp := HP.out v1 b1; have x0 := (blkc hp).1 0; have x1 := (blkc hp).1 1; have x2 := (blkc hp).1 2; have x3 := (blkc hp).1 3; have x4 := (blkc hp).1 4; have x5 := (blkc hp).1 5; have x6 := (blkc hp).1 6; have x7 := (blkc hp).1 7; have x8 := (blkc hp).1 8; have x9 := (blkc hp).1 9; have x10 := (blkc hp).1 10; clear hp; have hp := HP.out v1 b1; have xf0 := (blkc hp).2 0; have xf1 := (blkc hp).2 1; have xf2 := (blkc hp).2 2; have xf3 := (blkc hp).2 3; have xf4 := (blkc hp).2 4; have xf5 := (blkc hp).2 5; have xf6 := (blkc hp).2 6; have xf7 := (blkc hp).2 7; have xf8 := (blkc hp).2 8; have xf9 := (blkc hp).2 9; have xf10 := (blkc hp).2 10; clear hp; have y0 := (blkc (HE.out v1 b1)).1 0; have y1 := (blkc (HE.out v1 b1)).1 1; have y2 := (blkc (HE.out v1 b1)).1 2; have y3 := (blkc (HE.out v1 b1)).1 3; have y4 := (blkc (HE.out v1 b1)).1 4; have y5 := (blkc (HE.out v1 b1)).1 5; have y6 := (blkc (HE.out v1 b1)).1 6; have y7 := (blkc (HE.out v1 b1)).1 7; have y8 := (blkc (HE.out v1 b1)).1 8; have y9 := (blkc (HE.out v1 b1)).1 9; have y10 := (blkc (HE.out v1 b1)).1 10; have y11 := (blkc (HE.out v1 b1)).1 11))
    | (go_at_call 83; go_must (refine (hkp v1 b1).mono ?_; rintro e v2 ⟨ga, gd, rfl, how, h2⟩; have b2 := b1.trans (h2.mono b1.size); clear x0 xf0 x1 xf1 x2 xf2 x3 xf3 x4 xf4 x5 xf5 x6 xf6 x7 xf7 x8 xf8 x9 xf9 x10 xf10 y0 y1 y2 y3 y4 y5 y6 y7 y8 y9 y10 y11; have hp := HP.out v2 b2; have x0 := (blkc hp).1 0; have x1 := (blkc hp).1 1; have x2 := (blkc hp).1 2; have x3 := (blkc hp).1 3; have x4 := (blkc hp).1 4; have x5 := (blkc hp).1 5; have x6 := (blkc hp).1 6; have x7 := (blkc hp).1 7; have x8 := (blkc hp).1 8; have x9 := (blkc hp).1 9; have x10 := (blkc hp).1 10; clear hp; have hp := HP.out v2 b2; have xf0 := (blkc hp).2 0; have xf1 := (blkc hp).2 1; have xf2 := (blkc hp).2 2; have xf3 := (blkc hp).2 3; have xf4 := (blkc hp).2 4; have xf5 := (blkc hp).2 5; have xf6 := (blkc hp).2 6; have xf7 := (blkc hp).2 7; have xf8 := (blkc hp).2 8; have xf9 := (blkc hp).2 9; have xf10 := (blkc hp).2 10; clear hp; have y0 := (blkc (HE.out v2 b2)).1 0; have y1 := (blkc (HE.out v2 b2)).1 1; have y2 := (blkc (HE.out v2 b2)).1 2; have y3 := (blkc (HE.out v2 b2)).1 3; have y4 := (blkc (HE.out v2 b2)).1 4; have y5 := (blkc (HE.out v2 b2)).1 5; have y6 := (blkc (HE.out v2 b2)).1 6; have y7 := (blkc (HE.out v2 b2)).1 7; have y8 := (blkc (HE.out v2 b2)).1 8; have y9 := (blkc (HE.out v2 b2)).1 9; have y10 := (blkc (HE.out v2 b2)).1 10; have y11 := (blkc (HE.out v2 b2)).1 11)))
  clear hUe
  have P0 : (v2.setCell ⟨w.heap.size, 3, none⟩ (.slice ga (n4 + 1) gd)).heap[w.heap.size]? = some (.cells #[.slice a1 n1 c1, .slice a2 n2 c2, .slice a3 n3 c3, .slice ga (n4 + 1) gd, .int .i64 i1, .int .i64 i2, .int .i64 i3, .int .i64 i4, .int .i64 i5, .int .i64 i6, .int .i64 i7] 29 (0, 0)) := bput (HP.out v2 b2) _ rfl
  have hg0 : v2.grownBy (v2.setCell ⟨w.heap.size, 3, none⟩ (.slice ga (n4 + 1) gd)) (some (w.heap.size)) := turned_setL (w.heap.size) [.slice ga (n4 + 1) gd] 3 _
  obtain ⟨WF, hWF⟩ : ∃ WF, WF = (v2.setCell ⟨w.heap.size, 3, none⟩ (.slice ga (n4 + 1) gd)) := ⟨_, rfl⟩
  have hP9 : Hid (WF.heap[w.heap.size]? = some (.cells #[.slice a1 n1 c1, .slice a2 n2 c2, .slice a3 n3 c3, .slice ga (n4 + 1) gd, .int .i64 i1, .int .i64 i2, .int .i64 i3, .int .i64 i4, .int .i64 i5, .int .i64 i6, .int .i64 i7] 29 (0, 0))) := (by rw [hWF]; exact P0 : _ = _)
  have hZ9 : Hid (WF.heap[w.heap.size + 1 + 1]? = some (.cells #[.slice none 0 0, .slice none 0 0, .slice none 0 0, .slice none 0 0, .int .i64 0, .int .i64 0, .int .i64 0, .int .i64 0, .int .i64 0, .int .i64 0, .int .i64 0] 29 (0, 0))) := (by rw [hWF]; exact (hg0.block _ (ob_ltB (HZ.out v2 b2)) (fun e => hpz (Option.some.inj e))).trans (HZ.out v2 b2) : _ = _)
  have hB9 : Hid (Below w.heap.size w WF) := (by rw [hWF]; exact below_grownB (HU.out.trans (b2.mono HU.out.size)) hg0 (HU.out.trans (b2.mono HU.out.size)).size (fun q hq => by cases hq; exact Nat.le_refl _) : Below _ _ _)
  have hO9 : Hid (WF.ownsRow U.heap.size 67 3 (.slice ga (n4 + 1) gd) (n4 + 1) (tcells ke (ks ++ [(n9, i9, t9)]))) := (by rw [hWF]; exact (lowns_base how b1.size).kept hg0 (.inr (own_ne (lowns_base how b1.size) (by have := HSZ.out; omega)).symm) : World.ownsRow _ _ _ _ _ _ _)
  rw [← hWF]
  clear hWF P0 hg0 x0 xf0 x1 xf1 x2 xf2 x3 xf3 x4 xf4 x5 xf5 x6 xf6 x7 xf7 x8 xf8 x9 xf9 x10 xf10 y0 y1 y2 y3 y4 y5 y6 y7 y8 y9 y10 y11
  have d0 := (blkc hP9.out).1 0
  have d1 := (blkc hP9.out).1 1
  have d2 := (blkc hP9.out).1 2
  have d3 := (blkc hP9.out).1 3
  have d4 := (blkc hP9.out).1 4
  have d5 := (blkc hP9.out).1 5
  have d6 := (blkc hP9.out).1 6
  have d7 := (blkc hP9.out).1 7
  have d8 := (blkc hP9.out).1 8
  have d9 := (blkc hP9.out).1 9
  have d10 := (blkc hP9.out).1 10
  have e0 := (blkc hZ9.out).1 0
  have e1 := (blkc hZ9.out).1 1
  have e2 := (blkc hZ9.out).1 2
  have e3 := (blkc hZ9.out).1 3
  have e4 := (blkc hZ9.out).1 4
  have e5 := (blkc hZ9.out).1 5
  have e6 := (blkc hZ9.out).1 6
  have e7 := (blkc hZ9.out).1 7
  have e8 := (blkc hZ9.out).1 8
  have e9 := (blkc hZ9.out).1 9
  have e10 := (blkc hZ9.out).1 10
  have fz0 := (blkc hZ9.out).2 0
  have fz1 := (blkc hZ9.out).2 1
  have fz2 := (blkc hZ9.out).2 2
  have fz3 := (blkc hZ9.out).2 3
  have fz4 := (blkc hZ9.out).2 4
  have fz5 := (blkc hZ9.out).2 5
  have fz6 := (blkc hZ9.out).2 6
  have fz7 := (blkc hZ9.out).2 7
  have fz8 := (blkc hZ9.out).2 8
  have fz9 := (blkc hZ9.out).2 9
  have fz10 := (blkc hZ9.out).2 10
  go_wp2
  have B10 : (((((((((((WF.setCell ⟨w.heap.size + 1 + 1, 0, none⟩ (.slice a1 n1 c1)).setCell ⟨w.heap.size + 1 + 1, 1, none⟩ (.slice a2 n2 c2)).setCell ⟨w.heap.size + 1 + 1, 2, none⟩ (.slice a3 n3 c3)).setCell ⟨w.heap.size + 1 + 1, 3, none⟩ (.slice ga (n4 + 1) gd)).setCell ⟨w.heap.size + 1 + 1, 4, none⟩ (.int .i64 i1)).setCell ⟨w.heap.size + 1 + 1, 5, none⟩ (.int .i64 i2)).setCell ⟨w.heap.size + 1 + 1, 6, none⟩ (.int .i64 i3)).setCell ⟨w.heap.size + 1 + 1, 7, none⟩ (.int .i64 i4)).setCell ⟨w.heap.size + 1 + 1, 8, none⟩ (.int .i64 i5)).setCell ⟨w.heap.size + 1 + 1, 9, none⟩ (.int .i64 i6)).setCell ⟨w.heap.size + 1 + 1, 10, none⟩ (.int .i64 i7)).heap[w.heap.size + 1 + 1]? = some (.cells #[.slice a1 n1 c1, .slice a2 n2 c2, .slice a3 n3 c3, .slice ga (n4 + 1) gd, .int .i64 i1, .int .i64 i2, .int .i64 i3, .int .i64 i4, .int .i64 i5, .int .i64 i6, .int .i64 i7] 29 (0, 0)) := bput_new [.slice a1 n1 c1, .slice a2 n2 c2, .slice a3 n3 c3, .slice ga (n4 + 1) gd, .int .i64 i1, .int .i64 i2, .int .i64 i3, .int .i64 i4, .int .i64 i5, .int .i64 i6, .int .i64 i7] hZ9.out rfl
  have hgr : WF.grownBy (((((((((((WF.setCell ⟨w.heap.size + 1 + 1, 0, none⟩ (.slice a1 n1 c1)).setCell ⟨w.heap.size + 1 + 1, 1, none⟩ (.slice a2 n2 c2)).setCell ⟨w.heap.size + 1 + 1, 2, none⟩ (.slice a3 n3 c3)).setCell ⟨w.heap.size + 1 + 1, 3, none⟩ (.slice ga (n4 + 1) gd)).setCell ⟨w.heap.size + 1 + 1, 4, none⟩ (.int .i64 i1)).setCell ⟨w.heap.size + 1 + 1, 5, none⟩ (.int .i64 i2)).setCell ⟨w.heap.size + 1 + 1, 6, none⟩ (.int .i64 i3)).setCell ⟨w.heap.size + 1 + 1, 7, none⟩ (.int .i64 i4)).setCell ⟨w.heap.size + 1 + 1, 8, none⟩ (.int .i64 i5)).setCell ⟨w.heap.size + 1 + 1, 9, none⟩ (.int .i64 i6)).setCell ⟨w.heap.size + 1 + 1, 10, none⟩ (.int .i64 i7)) (some (w.heap.size + 1 + 1)) := turned_setL (w.heap.size + 1 + 1) [.slice a1 n1 c1, .slice a2 n2 c2, .slice a3 n3 c3, .slice ga (n4 + 1) gd, .int .i64 i1, .int .i64 i2, .int .i64 i3, .int .i64 i4, .int .i64 i5, .int .i64 i6, .int .i64 i7] 0 WF
  have hbF := below_grownB hB9.out hgr hB9.out.size (fun q hq => by cases hq; omega)
  have u0 := (blkc B10).1 0
  have u1 := (blkc B10).1 1
  have u2 := (blkc B10).1 2
  have u3 := (blkc B10).1 3
  have u4 := (blkc B10).1 4
  have u5 := (blkc B10).1 5
  have u6 := (blkc B10).1 6
  have u7 := (blkc B10).1 7
  have u8 := (blkc B10).1 8
  have u9 := (blkc B10).1 9
  have u10 := (blkc B10).1 10
  refine bodyPost_ret (v := .tuple #[.agg #[.slice a1 n1 c1, .slice a2 n2 c2, .slice a3 n3 c3, .slice ga (n4 + 1) gd, .int .i64 i1, .int .i64 i2, .int .i64 i3, .int .i64 i4, .int .i64 i5, .int .i64 i6, .int .i64 i7], .bool true]) (by simp [results, Tryz.results36, go_sem, u0, u1, u2, u3, u4, u5, u6, u7, u8, u9, u10]) rfl ⟨ga, gd, rfl, (lowns_base (hO9.out.kept hgr (.inr (own_ne hO9.out (by have := HSZ.out; omega)).symm)) HU.out.size), hbF⟩

theorem zrow_take {w : World} {a : Option Addr} {n : Nat} {l : List Int} (h : ZRow w a n l) (k : Nat) (hk : k ≤ n) : ZRow w a k (l.take k) := by
  obtain ⟨h1, h2, h3⟩ := h
  refine ⟨by rw [List.length_take]; omega, by omega, ?_⟩
  rcases Nat.eq_zero_or_pos k with h0 | h0
  · exact .inl h0
  · rcases h3 with h3 | ⟨b, off, e, hc⟩
    · omega
    · refine .inr ⟨b, off, e, fun i hi => ?_⟩
      have := hc i (by omega)
      have e2 : (l.take k).getD i 0 = l.getD i 0 := by simp [hi]
      rw [e2]; exact this
theorem zrow_drop {w : World} {b off n : Nat} {l : List Int} (h : ZRow w (some ⟨b, off, none⟩) n l) (k m : Nat) (hk : n = k + m) : ZRow w (some ⟨b, off + k, none⟩) m (l.drop k) := by
  obtain ⟨h1, h2, h3⟩ := h
  refine ⟨by rw [List.length_drop]; omega, by omega, ?_⟩
  rcases Nat.eq_zero_or_pos m with h0 | h0
  · exact .inl h0
  · rcases h3 with h3 | ⟨b', off', e, hc⟩
    · omega
    · simp only [Option.some.injEq, Addr.mk.injEq] at e
      obtain ⟨rfl, rfl, _⟩ := e
      refine .inr ⟨b, off + k, rfl, fun i hi => ?_⟩
      have := hc (k + i) (by omega)
      have e2 : (l.drop k).getD i 0 = l.getD (k + i) 0 := by simp
      rw [e2, show off + k + i * 1 = off + (k + i) * 1 by omega]; exact this

set_option maxRecDepth 100000 in
set_option maxHeartbeats 8000000 in
theorem rdo17_move (s : List Int) (ms : List (Int × Int)) (a1 : Option Addr) (n1 c1 : Nat) (a2 : Option Addr) (n2 c2 : Nat) (a3 : Option Addr) (n3 c3 : Nat) (a4 : Option Addr) (n4 c4 : Nat) (i1 i2 i3 i4 i5 i6 i7 : Int) (n9 i9 t9 a9 b9 c9 p9 q9 r9 : Int) (f9 g9 : ByteArray) (w : World) (hr : ZRow w a1 n1 s) (hn : n1 ≤ 1000) (hnc : n1 ≤ c1) (p m : Nat) (hp : p < 64) (hpm : n1 = p + 1 + m) (hat : s.getD p 0 = i9) (hne : ∀ q, q < p → ¬ (s.getD q 0 = i9)) (hn9 : 0 < n9)
    (hr2 : MRow w a2 n2 ms) (hn2 : n2 ≤ 1000) (hnc2 : n2 ≤ c2) (hz2 : a2 = none → n2 = 0 ∧ c2 = 0) (ha2 : n2 = 0 → a2 = none) (hlast : ∀ q ∈ ms, q.1 < i9) :
    Calls Tryz.prog 36 #[.agg #[.slice a1 n1 c1, .slice a2 n2 c2, .slice a3 n3 c3, .slice a4 n4 c4, .int .i64 i1, .int .i64 i2, .int .i64 i3, .int .i64 i4, .int .i64 i5, .int .i64 i6, .int .i64 i7], .agg #[.int .i64 2, .int .i64 n9, .int .i64 i9, .int .i64 t9, .int .i64 a9, .int .i64 b9, .int .i64 c9, .int .i64 p9, .int .i64 q9, .int .i64 r9, .string f9, .string g9]] w fun e w' => ∃ (g : Option Addr) (d : Nat) (g' : Option Addr) (d' : Nat), e = .returned (.tuple #[.agg #[.slice g (p + m) d, .slice g' (n2 + 1) d', .slice a3 n3 c3, .slice a4 n4 c4, .int .i64 i1, .int .i64 i2, .int .i64 i3, .int .i64 i4, .int .i64 i5, .int .i64 i6, .int .i64 i7], .bool true]) ∧ p + m ≤ d ∧ w'.ownsRow w.heap.size 3 1 (.slice g (p + m) d) (p + m) (tcells ze (s.take p ++ s.drop (p + 1))) ∧ w'.ownsRow w.heap.size 53 2 (.slice g' (n2 + 1) d') (n2 + 1) (tcells me (ms ++ [(i9, n9)])) ∧ Below w.heap.size w w' := by
  obtain ⟨U, hU⟩ : ∃ U, U = ((w.alloc (.cells #[.slice a1 n1 c1, .slice a2 n2 c2, .slice a3 n3 c3, .slice a4 n4 c4, .int .i64 i1, .int .i64 i2, .int .i64 i3, .int .i64 i4, .int .i64 i5, .int .i64 i6, .int .i64 i7] 29)).alloc (oed 2 n9 i9 t9 a9 b9 c9 p9 q9 r9 f9 g9)).alloc (.cells #[.slice none 0 0, .slice none 0 0, .slice none 0 0, .slice none 0 0, .int .i64 0, .int .i64 0, .int .i64 0, .int .i64 0, .int .i64 0, .int .i64 0, .int .i64 0] 29) := ⟨_, rfl⟩
  have hbU : Below w.heap.size w U := by rw [hU]; exact (below_two _ _ _).alloc (below_two _ _ _).size _
  have e0 : U.heap[w.heap.size]? = some (.cells #[.slice a1 n1 c1, .slice a2 n2 c2, .slice a3 n3 c3, .slice a4 n4 c4, .int .i64 i1, .int .i64 i2, .int .i64 i3, .int .i64 i4, .int .i64 i5, .int .i64 i6, .int .i64 i7] 29 (0, 0)) := by
    rw [hU]; exact (Below.heap_alloc _ _ _ (by simp; omega)).trans ((Below.heap_alloc _ _ _ (by simp)).trans (heap_alloc_new _ _))
  have e1 : U.heap[w.heap.size + 1]? = some (oed 2 n9 i9 t9 a9 b9 c9 p9 q9 r9 f9 g9) := by
    have h1 := heap_alloc_new (w.alloc (.cells #[.slice a1 n1 c1, .slice a2 n2 c2, .slice a3 n3 c3, .slice a4 n4 c4, .int .i64 i1, .int .i64 i2, .int .i64 i3, .int .i64 i4, .int .i64 i5, .int .i64 i6, .int .i64 i7] 29)) (oed 2 n9 i9 t9 a9 b9 c9 p9 q9 r9 f9 g9)
    rw [World.size_alloc] at h1
    rw [hU]; exact (Below.heap_alloc _ _ _ (by simp)).trans h1
  have e2 : U.heap[w.heap.size + 1 + 1]? = some (.cells #[.slice none 0 0, .slice none 0 0, .slice none 0 0, .slice none 0 0, .int .i64 0, .int .i64 0, .int .i64 0, .int .i64 0, .int .i64 0, .int .i64 0, .int .i64 0] 29 (0, 0)) := by
    have h1 := heap_alloc_new ((w.alloc (.cells #[.slice a1 n1 c1, .slice a2 n2 c2, .slice a3 n3 c3, .slice a4 n4 c4, .int .i64 i1, .int .i64 i2, .int .i64 i3, .int .i64 i4, .int .i64 i5, .int .i64 i6, .int .i64 i7] 29)).alloc (oed 2 n9 i9 t9 a9 b9 c9 p9 q9 r9 f9 g9)) (.cells #[.slice none 0 0, .slice none 0 0, .slice none 0 0, .slice none 0 0, .int .i64 0, .int .i64 0, .int .i64 0, .int .i64 0, .int .i64 0, .int .i64 0, .int .i64 0] 29)
    rw [World.size_alloc, World.size_alloc] at h1
    rw [hU]; exact h1
  have HP : Hid (∀ W, Below U.heap.size U W → W.heap[w.heap.size]? = some (.cells #[.slice a1 n1 c1, .slice a2 n2 c2, .slice a3 n3 c3, .slice a4 n4 c4, .int .i64 i1, .int .i64 i2, .int .i64 i3, .int .i64 i4, .int .i64 i5, .int .i64 i6, .int .i64 i7] 29 (0, 0))) := (fun W hb => (hb.block _ (ob_ltB e0)).trans e0 : ∀ W, _ → _)
  have HE : Hid (∀ W, Below U.heap.size U W → W.heap[w.heap.size + 1]? = some (oed 2 n9 i9 t9 a9 b9 c9 p9 q9 r9 f9 g9)) := (fun W hb => (hb.block _ (ob_ltB e1)).trans e1 : ∀ W, _ → _)
  have HZ : Hid (∀ W, Below U.heap.size U W → W.heap[w.heap.size + 1 + 1]? = some (.cells #[.slice none 0 0, .slice none 0 0, .slice none 0 0, .slice none 0 0, .int .i64 0, .int .i64 0, .int .i64 0, .int .i64 0, .int .i64 0, .int .i64 0, .int .i64 0] 29 (0, 0))) := (fun W hb => (hb.block _ (ob_ltB e2)).trans e2 : ∀ W, _ → _)
  have HU : Hid (Below w.heap.size w U) := hbU
  have HSZ : Hid (U.heap.size = w.heap.size + 3) := (by rw [hU]; simp : _ = _)
  have hUe : ((w.alloc (.cells #[.slice a1 n1 c1, .slice a2 n2 c2, .slice a3 n3 c3, .slice a4 n4 c4, .int .i64 i1, .int .i64 i2, .int .i64 i3, .int .i64 i4, .int .i64 i5, .int .i64 i6, .int .i64 i7] 29)).alloc (oed 2 n9 i9 t9 a9 b9 c9 p9 q9 r9 f9 g9)).alloc (.cells #[.slice none 0 0, .slice none 0 0, .slice none 0 0, .slice none 0 0, .int .i64 0, .int .i64 0, .int .i64 0, .int .i64 0, .int .i64 0, .int .i64 0, .int .i64 0] 29) = U := hU.symm
  have x0 := (blkc e0).1 0
  have x1 := (blkc e0).1 1
  have x2 := (blkc e0).1 2
  have x3 := (blkc e0).1 3
  have x4 := (blkc e0).1 4
  have x5 := (blkc e0).1 5
  have x6 := (blkc e0).1 6
  have x7 := (blkc e0).1 7
  have x8 := (blkc e0).1 8
  have x9 := (blkc e0).1 9
  have x10 := (blkc e0).1 10
  have y0 := (blkc e1).1 0
  have y1 := (blkc e1).1 1
  have y2 := (blkc e1).1 2
  have y3 := (blkc e1).1 3
  have y4 := (blkc e1).1 4
  have y5 := (blkc e1).1 5
  have y6 := (blkc e1).1 6
  have y7 := (blkc e1).1 7
  have y8 := (blkc e1).1 8
  have y9 := (blkc e1).1 9
  have y10 := (blkc e1).1 10
  have y11 := (blkc e1).1 11
  clear hU hbU e0 e1 e2
  have hpe : ¬ (w.heap.size + 1 = w.heap.size) := by omega
  have hpe2 : ¬ (w.heap.size = w.heap.size + 1) := by omega
  have hpz : ¬ (w.heap.size + 1 + 1 = w.heap.size) := by omega
  have hpz2 : ¬ (w.heap.size = w.heap.size + 1 + 1) := by omega
  have hez : ¬ (w.heap.size + 1 = w.heap.size + 1 + 1) := by omega
  have hpl := rplace_move s a1 n1 c1 a2 n2 c2 a3 n3 c3 a4 n4 c4 i1 i2 i3 i4 i5 i6 i7 2 n9 i9 t9 a9 b9 c9 p9 q9 r9 f9 g9 U (hr.below HU.out (Nat.le_refl _)) p hp (by omega) hat hne rfl
  obtain ⟨p1, hp1⟩ : ∃ p1, p1 = p + 1 := ⟨_, rfl⟩
  rw [← hp1]
  obtain ⟨b, off, x9, rfl, _, _⟩ := zget hr (Below.refl _ _) (show p < n1 by omega)
  have HT : Hid (∀ W, Below U.heap.size U W → ZRow W (some ⟨b, off, none⟩) p (s.take p)) := (fun W hb => zrow_take (hr.below (HU.out.trans (hb.mono HU.out.size)) (Nat.le_refl _)) p (by omega) : ∀ W, _ → _)
  have HD : Hid (∀ W, Below U.heap.size U W → ZRow W (some ⟨b, off + p1, none⟩) m (s.drop p1)) := (fun W hb => zrow_drop (hr.below (HU.out.trans (hb.mono HU.out.size)) (Nat.le_refl _)) p1 m (by omega) : ∀ W, _ → _)
  have hD0 : m = 0 → s.drop p1 = [] := fun h => List.drop_of_length_le (by rw [hr.1]; omega)
  have HD0 : Hid (m = 0 → s.drop p1 = []) := hD0
  have HM2 : Hid (∀ W, Below w.heap.size w W → _) := (fun W hb => rmoved_end a2 n2 c2 ms i9 n9 W hn2 hnc2 (hr2.below hb (Nat.le_refl _)) hz2 ha2 hlast : ∀ W, Below w.heap.size w W → _)
  have hw1 : IntKind.i64.wrap ((p : Int) + 1) = (p1 : Int) := by rw [IntKind.wrap_i64]; omega
  have o0 : (0 : Int) ≤ (p : Int) := by omega
  have o1 : (p : Int) ≤ (c1 : Int) := by omega
  have o2 : (0 : Int) ≤ (p1 : Int) := by omega
  have o3 : (p1 : Int) ≤ (n1 : Int) := by omega
  have o4 : (n1 : Int) ≤ (c1 : Int) := by omega
  have d0 : decide ((p : Int) < 0) = false := decide_eq_false (by omega)
  have d9 : decide (0 < n9) = true := by simpa using hn9
  have HPM : Hid (n1 = p1 + m) := (by omega : _ = _)
  have HPL : Hid (p < n1) := (by omega : _ < _)
  clear hr hat hne hr2 hn2 hnc2 hz2 ha2 hlast hn9 hD0 hpm hp1 hnc
  go_enter Tryz.func36, Tryz.ntmps36
  go_upto_region 25 with (first
    | (go_at_call 81; go_must (refine hpl.mono ?_; rintro e v1 ⟨rfl, b1⟩; clear x0 x1 x2 x3 x4 x5 x6 x7 x8 x9 x10 y0 y1 y2 y3 y4 y5 y6 y7 y8 y9 y10 y11; have hp := HP.out v1 b1; have x0 := (blkc hp).1 0; have x1 := (blkc hp).1 1; have x2 := (blkc hp).1 2; have x3 := (blkc hp).1 3; have x4 := (blkc hp).1 4; have x5 := (blkc hp).1 5; have x6 := (blkc hp).1 6; have x7 := (blkc hp).1 7; have x8 := (blkc hp).1 8; have x9 := (blkc hp).1 9; have x10 := (blkc hp).1 10; clear hp; have y0 := (blkc (HE.out v1 b1)).1 0; have y1 := (blkc (HE.out v1 b1)).1 1; have y2 := (blkc (HE.out v1 b1)).1 2; have y3 := (blkc (HE.out v1 b1)).1 3; have y4 := (blkc (HE.out v1 b1)).1 4; have y5 := (blkc (HE.out v1 b1)).1 5; have y6 := (blkc (HE.out v1 b1)).1 6; have y7 := (blkc (HE.out v1 b1)).1 7; have y8 := (blkc (HE.out v1 b1)).1 8; have y9 := (blkc (HE.out v1 b1)).1 9; have y10 := (blkc (HE.out v1 b1)).1 10; have y11 := (blkc (HE.out v1 b1)).1 11)))
  clear hUe hpl
  have b1d : Below U.heap.size U v1.drew := b1.drew
  go_cut [] (fun wx => ∃ (g : Option Addr) (d : Nat), p + m ≤ d ∧ Hid (wx.heap[w.heap.size]? = some (.cells #[.slice g (p + m) d, .slice a2 n2 c2, .slice a3 n3 c3, .slice a4 n4 c4, .int .i64 i1, .int .i64 i2, .int .i64 i3, .int .i64 i4, .int .i64 i5, .int .i64 i6, .int .i64 i7] 29 (0, 0))) ∧ Hid (wx.heap[w.heap.size + 1 + 1]? = some (.cells #[.slice none 0 0, .slice none 0 0, .slice none 0 0, .slice none 0 0, .int .i64 0, .int .i64 0, .int .i64 0, .int .i64 0, .int .i64 0, .int .i64 0, .int .i64 0] 29 (0, 0))) ∧ Hid (wx.heap[w.heap.size + 1]? = some (oed 2 n9 i9 t9 a9 b9 c9 p9 q9 r9 f9 g9)) ∧ Hid (wx.ownsRow U.heap.size 3 1 (.slice g (p + m) d) (p + m) (tcells ze (s.take p ++ s.drop p1))) ∧ Hid (Below w.heap.size w wx) ∧ U.heap.size ≤ wx.heap.size)
  case first =>
    by_cases hcn : c1 = p1
    · obtain rfl : n1 = p1 := by omega
      obtain rfl : m = 0 := by have := HPM.out; omega
      subst hcn
      have HN : Hid (∀ W, Below U.heap.size U W → ZRow W (some ⟨b, off, none⟩) 0 (s.drop c1)) := (fun W _ => by rw [HD0.out rfl]; exact TRow.nil _ _ : ∀ W, _ → _)
      refine wp_region_held_drew (S := (fun W => W.cell? ⟨w.heap.size + 1, 0, none⟩ = some (.int .i64 2))) (by kernel_rfl) ((blkc (HE.out _ b1d)).1 0) (fun hHeld => ?_)
      refine wpAnyH_take (i := 1) (oi := ⟨some 106, _, _, _, _, _⟩) (v := ?_) rfl (by kernel_rfl) (by kernel_rfl) (by kernel_rfl) (fun _ _ _ h => h) (Or.inl ⟨by rfl, ?_⟩) (by assumption) ?_
      rotate_left
      · intro w hSw; (try dsimp only at hSw); go_simp <;> (try with_reducible rfl)
      go_frame
      refine wpAnyH_take (i := 3) (oi := ⟨some 108, _, _, _, _, _⟩) (v := ?_) rfl (by kernel_rfl) (by kernel_rfl) (by kernel_rfl) (fun _ _ _ h => h) (Or.inl ⟨by rfl, ?_⟩) (by assumption) ?_
      rotate_left
      · intro w hSw; (try dsimp only at hSw); go_simp <;> (try with_reducible rfl)
      go_frame
      refine wpAnyH_take (i := 6) (oi := ⟨some 111, _, _, _, _, _⟩) (v := ?_) rfl (by kernel_rfl) (by kernel_rfl) (by kernel_rfl) (fun _ _ _ h => h) (Or.inl ⟨by rfl, ?_⟩) (by assumption) ?_
      rotate_left
      · intro w hSw; (try dsimp only at hSw); go_simp <;> (try with_reducible rfl)
      go_frame
      refine wpAnyH_take (i := 8) (oi := ⟨some 113, _, _, _, _, _⟩) (v := ?_) rfl (by kernel_rfl) (by kernel_rfl) (by kernel_rfl) (fun _ _ _ h => h) (Or.inl ⟨by rfl, ?_⟩) (by assumption) ?_
      rotate_left
      · intro w hSw; (try dsimp only at hSw); go_simp <;> (try with_reducible rfl)
      go_frame
      refine wpAnyH_take (i := 9) (oi := ⟨some 114, _, _, _, _, _⟩) (v := ?_) rfl (by kernel_rfl) (by kernel_rfl) (by kernel_rfl) (fun _ _ _ h => h) (Or.inl ⟨by rfl, ?_⟩) (by assumption) ?_
      rotate_left
      · intro w hSw; (try dsimp only at hSw); go_simp <;> (try with_reducible rfl)
      go_frame
      refine wpAnyH_ready (rs := [0, 2, 7]) (by kernel_rfl) (by simp) ?_
      refine AllReadyH.cons rfl (fun K hK => ?_) (AllReadyH.cons rfl (fun K hK => ?_) (AllReadyH.cons rfl (fun K hK => ?_) AllReadyH.nil))
      · skip
        go_simp
        refine hK.out _ _ ((blkc (HE.out _ ((b1.alloc b1.size (.cells #[] 3)).drew))).1 0) (fun hHeld => ?_)
        clear hK K
        have bm : Below U.heap.size U (v1.alloc (.cells #[] 3)).drew := (b1.alloc b1.size _).drew
        have mm : (v1.alloc (.cells #[] 3)).drew.ownsRow U.heap.size 3 1 (.slice (some ⟨v1.heap.size, 0, none⟩) 0 0) 0 (tcells ze []) := owns_drew (made_t (s := 1) (enc := ze) v1 b1.size rfl)
        refine wpAnyH_ready (rs := [2, 7]) (by kernel_rfl) (by simp) ?_
        refine AllReadyH.cons rfl (fun K hK => ?_) (AllReadyH.cons rfl (fun K hK => ?_) AllReadyH.nil)
        · skip
          have xb : (v1.alloc (.cells #[] 3)).cell? ⟨w.heap.size, 0, none⟩ = some (.slice (some ⟨b, off, none⟩) c1 c1) := (blkc (HP.out (v1.alloc (.cells #[] 3)).drew bm)).1 0; go_simp
          refine hK.out _ _ ((blkc (HE.out _ bm)).1 0) (fun hHeld => ?_)
          clear hK K
          try go_frame
          refine wpAnyH_take (i := 4) (oi := ⟨some 109, _, _, _, _, _⟩) (v := ?_) rfl (by kernel_rfl) (by kernel_rfl) (by kernel_rfl) (fun _ _ _ h => h) (Or.inl ⟨by rfl, ?_⟩) (by assumption) ?_
          rotate_left
          · intro w hSw; (try dsimp only at hSw); go_simp <;> (try with_reducible rfl)
          go_frame
          refine wpAnyH_ready (rs := [5, 7]) (by kernel_rfl) (by simp) ?_
          refine AllReadyH.cons rfl (fun K hK => ?_) (AllReadyH.cons rfl (fun K hK => ?_) AllReadyH.nil)
          · skip
            refine step_tg (d := 0) intZ zeE (w0 := U) (B := U.heap.size) (by rfl) _ _ (by rfl) _ 0 [] (by rfl) mm (some ⟨b, off, none⟩) p c1 (s.take p) (by rfl) (HT.out _ bm) (fun h => by cases h) (by omega) bm bm.size ?_; intro a6 c6 w6 _ hc6 _ hown6 hb6; rw [Nat.zero_add] at hown6 hc6 ⊢; rw [List.nil_append] at hown6
            refine hK.out _ _ ((blkc (HE.out _ hb6)).1 0) (fun hHeld => ?_)
            clear hK K
            try go_frame
            refine wpAnyH_ready (rs := [7]) (by kernel_rfl) (by simp) ?_
            refine AllReadyH.cons rfl (fun K hK => ?_) AllReadyH.nil
            have xb : w6.cell? ⟨w.heap.size, 0, none⟩ = some (.slice (some ⟨b, off, none⟩) c1 c1) := (blkc (HP.out w6 hb6)).1 0; go_simp
            refine hK.out _ _ ((blkc (HE.out _ hb6)).1 0) (fun hHeld => ?_)
            clear hK K
            try go_frame
            refine wpAnyH_take (i := 10) (oi := ⟨some 115, _, _, _, _, _⟩) (v := ?_) rfl (by kernel_rfl) (by kernel_rfl) (by kernel_rfl) (fun _ _ _ h => h) (Or.inl ⟨by rfl, ?_⟩) (by assumption) ?_
            rotate_left
            · intro w hSw; (try dsimp only at hSw); go_simp <;> (try with_reducible rfl)
            go_frame
            refine wpAnyH_ready (rs := [11]) (by kernel_rfl) (by simp) ?_
            refine AllReadyH.cons rfl (fun K hK => ?_) AllReadyH.nil
            refine step_tg (d := 0) intZ zeE (w0 := U) (B := U.heap.size) (by rfl) _ _ (by rfl) _ p (s.take p) (by rfl) hown6 (some ⟨b, off, none⟩) 0 0 (s.drop c1) (by rfl) (HN.out _ hb6) (fun h => by cases h) (by omega) hb6 hb6.size ?_; intro a8 c8 w8 _ hc8 _ hown8 hb8; have hP8 := HP.out w8 hb8; have zc := (blkc hP8).1 0; have zf := (blkc hP8).2 0
            refine hK.out _ _ ((blkc (HE.out _ hb8)).1 0) (fun hHeld => ?_)
            clear hK K
            try go_frame
            refine wpAnyH_take (i := 12) (oi := ⟨some 117, _, _, _, _, _⟩) (v := ?_) rfl (by kernel_rfl) (by kernel_rfl) (by kernel_rfl) (fun _ _ _ h => h) (Or.inl ⟨by rfl, ?_⟩) (by assumption) ?_
            rotate_left
            · intro w hSw; (try dsimp only at hSw); go_simp <;> (try with_reducible rfl)
            go_frame
            refine wpAnyH_ready (rs := [13]) (by kernel_rfl) (by simp) ?_
            refine AllReadyH.cons rfl (fun K hK => ?_) AllReadyH.nil
            go_simp
            refine hK.out _ _ ((World.cell?_setCell_other _ _ _ _ (fun e => hpe2 (Addr.mk.inj e).1)).trans ((blkc (HE.out w8 hb8)).1 0)) (fun hHeld => ?_)
            clear hK K
            refine wpAnyH_done (by kernel_rfl) ?_ _
            have hg9 : w8.grownBy (w8.setCell ⟨w.heap.size, 0, none⟩ (.slice a8 (p + 0) c8)) (some (w.heap.size)) := turned_setL (w.heap.size) [.slice a8 (p + 0) c8] 0 w8
            go_wp2_with fail
            go_meet
            case rel => exact ⟨a8, c8, hc8, bput hP8 _ rfl, (hg9.block _ (ob_ltB (HZ.out w8 hb8)) (fun e => hpz (Option.some.inj e))).trans (HZ.out w8 hb8), (hg9.block _ (ob_ltB (HE.out w8 hb8)) (fun e => hpe (Option.some.inj e))).trans (HE.out w8 hb8), hown8.kept hg9 (.inr (own_ne hown8 (by have := HSZ.out; omega)).symm), below_grownB (HU.out.trans (hb8.mono HU.out.size)) hg9 (HU.out.trans (hb8.mono HU.out.size)).size (fun q hq => by cases hq; exact Nat.le_refl _), Nat.le_trans hb8.size hg9.size⟩
          · skip
            have xb : (v1.alloc (.cells #[] 3)).cell? ⟨w.heap.size, 0, none⟩ = some (.slice (some ⟨b, off, none⟩) c1 c1) := (blkc (HP.out (v1.alloc (.cells #[] 3)).drew bm)).1 0; go_simp
            refine hK.out _ _ ((blkc (HE.out _ bm)).1 0) (fun hHeld => ?_)
            clear hK K
            try go_frame
            refine wpAnyH_take (i := 10) (oi := ⟨some 115, _, _, _, _, _⟩) (v := ?_) rfl (by kernel_rfl) (by kernel_rfl) (by kernel_rfl) (fun _ _ _ h => h) (Or.inl ⟨by rfl, ?_⟩) (by assumption) ?_
            rotate_left
            · intro w hSw; (try dsimp only at hSw); go_simp <;> (try with_reducible rfl)
            go_frame
            refine wpAnyH_ready (rs := [5]) (by kernel_rfl) (by simp) ?_
            refine AllReadyH.cons rfl (fun K hK => ?_) AllReadyH.nil
            refine step_tg (d := 0) intZ zeE (w0 := U) (B := U.heap.size) (by rfl) _ _ (by rfl) _ 0 [] (by rfl) mm (some ⟨b, off, none⟩) p c1 (s.take p) (by rfl) (HT.out _ bm) (fun h => by cases h) (by omega) bm bm.size ?_; intro a6 c6 w6 _ hc6 _ hown6 hb6; rw [Nat.zero_add] at hown6 hc6 ⊢; rw [List.nil_append] at hown6
            refine hK.out _ _ ((blkc (HE.out _ hb6)).1 0) (fun hHeld => ?_)
            clear hK K
            try go_frame
            refine wpAnyH_ready (rs := [11]) (by kernel_rfl) (by simp) ?_
            refine AllReadyH.cons rfl (fun K hK => ?_) AllReadyH.nil
            refine step_tg (d := 0) intZ zeE (w0 := U) (B := U.heap.size) (by rfl) _ _ (by rfl) _ p (s.take p) (by rfl) hown6 (some ⟨b, off, none⟩) 0 0 (s.drop c1) (by rfl) (HN.out _ hb6) (fun h => by cases h) (by omega) hb6 hb6.size ?_; intro a8 c8 w8 _ hc8 _ hown8 hb8; have hP8 := HP.out w8 hb8; have zc := (blkc hP8).1 0; have zf := (blkc hP8).2 0
            refine hK.out _ _ ((blkc (HE.out _ hb8)).1 0) (fun hHeld => ?_)
            clear hK K
            try go_frame
            refine wpAnyH_take (i := 12) (oi := ⟨some 117, _, _, _, _, _⟩) (v := ?_) rfl (by kernel_rfl) (by kernel_rfl) (by kernel_rfl) (fun _ _ _ h => h) (Or.inl ⟨by rfl, ?_⟩) (by assumption) ?_
            rotate_left
            · intro w hSw; (try dsimp only at hSw); go_simp <;> (try with_reducible rfl)
            go_frame
            refine wpAnyH_ready (rs := [13]) (by kernel_rfl) (by simp) ?_
            refine AllReadyH.cons rfl (fun K hK => ?_) AllReadyH.nil
            go_simp
            refine hK.out _ _ ((World.cell?_setCell_other _ _ _ _ (fun e => hpe2 (Addr.mk.inj e).1)).trans ((blkc (HE.out w8 hb8)).1 0)) (fun hHeld => ?_)
            clear hK K
            refine wpAnyH_done (by kernel_rfl) ?_ _
            have hg9 : w8.grownBy (w8.setCell ⟨w.heap.size, 0, none⟩ (.slice a8 (p + 0) c8)) (some (w.heap.size)) := turned_setL (w.heap.size) [.slice a8 (p + 0) c8] 0 w8
            go_wp2_with fail
            go_meet
            case rel => exact ⟨a8, c8, hc8, bput hP8 _ rfl, (hg9.block _ (ob_ltB (HZ.out w8 hb8)) (fun e => hpz (Option.some.inj e))).trans (HZ.out w8 hb8), (hg9.block _ (ob_ltB (HE.out w8 hb8)) (fun e => hpe (Option.some.inj e))).trans (HE.out w8 hb8), hown8.kept hg9 (.inr (own_ne hown8 (by have := HSZ.out; omega)).symm), below_grownB (HU.out.trans (hb8.mono HU.out.size)) hg9 (HU.out.trans (hb8.mono HU.out.size)).size (fun q hq => by cases hq; exact Nat.le_refl _), Nat.le_trans hb8.size hg9.size⟩
        · skip
          have xb : (v1.alloc (.cells #[] 3)).cell? ⟨w.heap.size, 0, none⟩ = some (.slice (some ⟨b, off, none⟩) c1 c1) := (blkc (HP.out (v1.alloc (.cells #[] 3)).drew bm)).1 0; go_simp
          refine hK.out _ _ ((blkc (HE.out _ bm)).1 0) (fun hHeld => ?_)
          clear hK K
          try go_frame
          refine wpAnyH_take (i := 10) (oi := ⟨some 115, _, _, _, _, _⟩) (v := ?_) rfl (by kernel_rfl) (by kernel_rfl) (by kernel_rfl) (fun _ _ _ h => h) (Or.inl ⟨by rfl, ?_⟩) (by assumption) ?_
          rotate_left
          · intro w hSw; (try dsimp only at hSw); go_simp <;> (try with_reducible rfl)
          go_frame
          refine wpAnyH_ready (rs := [2]) (by kernel_rfl) (by simp) ?_
          refine AllReadyH.cons rfl (fun K hK => ?_) AllReadyH.nil
          have xb : (v1.alloc (.cells #[] 3)).cell? ⟨w.heap.size, 0, none⟩ = some (.slice (some ⟨b, off, none⟩) c1 c1) := (blkc (HP.out (v1.alloc (.cells #[] 3)).drew bm)).1 0; go_simp
          refine hK.out _ _ ((blkc (HE.out _ bm)).1 0) (fun hHeld => ?_)
          clear hK K
          try go_frame
          refine wpAnyH_take (i := 4) (oi := ⟨some 109, _, _, _, _, _⟩) (v := ?_) rfl (by kernel_rfl) (by kernel_rfl) (by kernel_rfl) (fun _ _ _ h => h) (Or.inl ⟨by rfl, ?_⟩) (by assumption) ?_
          rotate_left
          · intro w hSw; (try dsimp only at hSw); go_simp <;> (try with_reducible rfl)
          go_frame
          refine wpAnyH_ready (rs := [5]) (by kernel_rfl) (by simp) ?_
          refine AllReadyH.cons rfl (fun K hK => ?_) AllReadyH.nil
          refine step_tg (d := 0) intZ zeE (w0 := U) (B := U.heap.size) (by rfl) _ _ (by rfl) _ 0 [] (by rfl) mm (some ⟨b, off, none⟩) p c1 (s.take p) (by rfl) (HT.out _ bm) (fun h => by cases h) (by omega) bm bm.size ?_; intro a6 c6 w6 _ hc6 _ hown6 hb6; rw [Nat.zero_add] at hown6 hc6 ⊢; rw [List.nil_append] at hown6
          refine hK.out _ _ ((blkc (HE.out _ hb6)).1 0) (fun hHeld => ?_)
          clear hK K
          try go_frame
          refine wpAnyH_ready (rs := [11]) (by kernel_rfl) (by simp) ?_
          refine AllReadyH.cons rfl (fun K hK => ?_) AllReadyH.nil
          refine step_tg (d := 0) intZ zeE (w0 := U) (B := U.heap.size) (by rfl) _ _ (by rfl) _ p (s.take p) (by rfl) hown6 (some ⟨b, off, none⟩) 0 0 (s.drop c1) (by rfl) (HN.out _ hb6) (fun h => by cases h) (by omega) hb6 hb6.size ?_; intro a8 c8 w8 _ hc8 _ hown8 hb8; have hP8 := HP.out w8 hb8; have zc := (blkc hP8).1 0; have zf := (blkc hP8).2 0
          refine hK.out _ _ ((blkc (HE.out _ hb8)).1 0) (fun hHeld => ?_)
          clear hK K
          try go_frame
          refine wpAnyH_take (i := 12) (oi := ⟨some 117, _, _, _, _, _⟩) (v := ?_) rfl (by kernel_rfl) (by kernel_rfl) (by kernel_rfl) (fun _ _ _ h => h) (Or.inl ⟨by rfl, ?_⟩) (by assumption) ?_
          rotate_left
          · intro w hSw; (try dsimp only at hSw); go_simp <;> (try with_reducible rfl)
          go_frame
          refine wpAnyH_ready (rs := [13]) (by kernel_rfl) (by simp) ?_
          refine AllReadyH.cons rfl (fun K hK => ?_) AllReadyH.nil
          go_simp
          refine hK.out _ _ ((World.cell?_setCell_other _ _ _ _ (fun e => hpe2 (Addr.mk.inj e).1)).trans ((blkc (HE.out w8 hb8)).1 0)) (fun hHeld => ?_)
          clear hK K
          refine wpAnyH_done (by kernel_rfl) ?_ _
          have hg9 : w8.grownBy (w8.setCell ⟨w.heap.size, 0, none⟩ (.slice a8 (p + 0) c8)) (some (w.heap.size)) := turned_setL (w.heap.size) [.slice a8 (p + 0) c8] 0 w8
          go_wp2_with fail
          go_meet
          case rel => exact ⟨a8, c8, hc8, bput hP8 _ rfl, (hg9.block _ (ob_ltB (HZ.out w8 hb8)) (fun e => hpz (Option.some.inj e))).trans (HZ.out w8 hb8), (hg9.block _ (ob_ltB (HE.out w8 hb8)) (fun e => hpe (Option.some.inj e))).trans (HE.out w8 hb8), hown8.kept hg9 (.inr (own_ne hown8 (by have := HSZ.out; omega)).symm), below_grownB (HU.out.trans (hb8.mono HU.out.size)) hg9 (HU.out.trans (hb8.mono HU.out.size)).size (fun q hq => by cases hq; exact Nat.le_refl _), Nat.le_trans hb8.size hg9.size⟩
      · skip
        have xb : v1.cell? ⟨w.heap.size, 0, none⟩ = some (.slice (some ⟨b, off, none⟩) c1 c1) := (blkc (HP.out v1.drew b1d)).1 0; go_simp
        refine hK.out _ _ ((blkc (HE.out _ b1d)).1 0) (fun hHeld => ?_)
        clear hK K
        try go_frame
        refine wpAnyH_take (i := 4) (oi := ⟨some 109, _, _, _, _, _⟩) (v := ?_) rfl (by kernel_rfl) (by kernel_rfl) (by kernel_rfl) (fun _ _ _ h => h) (Or.inl ⟨by rfl, ?_⟩) (by assumption) ?_
        rotate_left
        · intro w hSw; (try dsimp only at hSw); go_simp <;> (try with_reducible rfl)
        go_frame
        refine wpAnyH_ready (rs := [0, 7]) (by kernel_rfl) (by simp) ?_
        refine AllReadyH.cons rfl (fun K hK => ?_) (AllReadyH.cons rfl (fun K hK => ?_) AllReadyH.nil)
        · skip
          go_simp
          refine hK.out _ _ ((blkc (HE.out _ ((b1.alloc b1.size (.cells #[] 3)).drew))).1 0) (fun hHeld => ?_)
          clear hK K
          have bm : Below U.heap.size U (v1.alloc (.cells #[] 3)).drew := (b1.alloc b1.size _).drew
          have mm : (v1.alloc (.cells #[] 3)).drew.ownsRow U.heap.size 3 1 (.slice (some ⟨v1.heap.size, 0, none⟩) 0 0) 0 (tcells ze []) := owns_drew (made_t (s := 1) (enc := ze) v1 b1.size rfl)
          refine wpAnyH_ready (rs := [5, 7]) (by kernel_rfl) (by simp) ?_
          refine AllReadyH.cons rfl (fun K hK => ?_) (AllReadyH.cons rfl (fun K hK => ?_) AllReadyH.nil)
          · skip
            refine step_tg (d := 0) intZ zeE (w0 := U) (B := U.heap.size) (by rfl) _ _ (by rfl) _ 0 [] (by rfl) mm (some ⟨b, off, none⟩) p c1 (s.take p) (by rfl) (HT.out _ bm) (fun h => by cases h) (by omega) bm bm.size ?_; intro a6 c6 w6 _ hc6 _ hown6 hb6; rw [Nat.zero_add] at hown6 hc6 ⊢; rw [List.nil_append] at hown6
            refine hK.out _ _ ((blkc (HE.out _ hb6)).1 0) (fun hHeld => ?_)
            clear hK K
            try go_frame
            refine wpAnyH_ready (rs := [7]) (by kernel_rfl) (by simp) ?_
            refine AllReadyH.cons rfl (fun K hK => ?_) AllReadyH.nil
            have xb : w6.cell? ⟨w.heap.size, 0, none⟩ = some (.slice (some ⟨b, off, none⟩) c1 c1) := (blkc (HP.out w6 hb6)).1 0; go_simp
            refine hK.out _ _ ((blkc (HE.out _ hb6)).1 0) (fun hHeld => ?_)
            clear hK K
            try go_frame
            refine wpAnyH_take (i := 10) (oi := ⟨some 115, _, _, _, _, _⟩) (v := ?_) rfl (by kernel_rfl) (by kernel_rfl) (by kernel_rfl) (fun _ _ _ h => h) (Or.inl ⟨by rfl, ?_⟩) (by assumption) ?_
            rotate_left
            · intro w hSw; (try dsimp only at hSw); go_simp <;> (try with_reducible rfl)
            go_frame
            refine wpAnyH_ready (rs := [11]) (by kernel_rfl) (by simp) ?_
            refine AllReadyH.cons rfl (fun K hK => ?_) AllReadyH.nil
            refine step_tg (d := 0) intZ zeE (w0 := U) (B := U.heap.size) (by rfl) _ _ (by rfl) _ p (s.take p) (by rfl) hown6 (some ⟨b, off, none⟩) 0 0 (s.drop c1) (by rfl) (HN.out _ hb6) (fun h => by cases h) (by omega) hb6 hb6.size ?_; intro a8 c8 w8 _ hc8 _ hown8 hb8; have hP8 := HP.out w8 hb8; have zc := (blkc hP8).1 0; have zf := (blkc hP8).2 0
            refine hK.out _ _ ((blkc (HE.out _ hb8)).1 0) (fun hHeld => ?_)
            clear hK K
            try go_frame
            refine wpAnyH_take (i := 12) (oi := ⟨some 117, _, _, _, _, _⟩) (v := ?_) rfl (by kernel_rfl) (by kernel_rfl) (by kernel_rfl) (fun _ _ _ h => h) (Or.inl ⟨by rfl, ?_⟩) (by assumption) ?_
            rotate_left
            · intro w hSw; (try dsimp only at hSw); go_simp <;> (try with_reducible rfl)
            go_frame
            refine wpAnyH_ready (rs := [13]) (by kernel_rfl) (by simp) ?_
            refine AllReadyH.cons rfl (fun K hK => ?_) AllReadyH.nil
            go_simp
            refine hK.out _ _ ((World.cell?_setCell_other _ _ _ _ (fun e => hpe2 (Addr.mk.inj e).1)).trans ((blkc (HE.out w8 hb8)).1 0)) (fun hHeld => ?_)
            clear hK K
            refine wpAnyH_done (by kernel_rfl) ?_ _
            have hg9 : w8.grownBy (w8.setCell ⟨w.heap.size, 0, none⟩ (.slice a8 (p + 0) c8)) (some (w.heap.size)) := turned_setL (w.heap.size) [.slice a8 (p + 0) c8] 0 w8
            go_wp2_with fail
            go_meet
            case rel => exact ⟨a8, c8, hc8, bput hP8 _ rfl, (hg9.block _ (ob_ltB (HZ.out w8 hb8)) (fun e => hpz (Option.some.inj e))).trans (HZ.out w8 hb8), (hg9.block _ (ob_ltB (HE.out w8 hb8)) (fun e => hpe (Option.some.inj e))).trans (HE.out w8 hb8), hown8.kept hg9 (.inr (own_ne hown8 (by have := HSZ.out; omega)).symm), below_grownB (HU.out.trans (hb8.mono HU.out.size)) hg9 (HU.out.trans (hb8.mono HU.out.size)).size (fun q hq => by cases hq; exact Nat.le_refl _), Nat.le_trans hb8.size hg9.size⟩
          · skip
            have xb : (v1.alloc (.cells #[] 3)).cell? ⟨w.heap.size, 0, none⟩ = some (.slice (some ⟨b, off, none⟩) c1 c1) := (blkc (HP.out (v1.alloc (.cells #[] 3)).drew bm)).1 0; go_simp
            refine hK.out _ _ ((blkc (HE.out _ bm)).1 0) (fun hHeld => ?_)
            clear hK K
            try go_frame
            refine wpAnyH_take (i := 10) (oi := ⟨some 115, _, _, _, _, _⟩) (v := ?_) rfl (by kernel_rfl) (by kernel_rfl) (by kernel_rfl) (fun _ _ _ h => h) (Or.inl ⟨by rfl, ?_⟩) (by assumption) ?_
            rotate_left
            · intro w hSw; (try dsimp only at hSw); go_simp <;> (try with_reducible rfl)
            go_frame
            refine wpAnyH_ready (rs := [5]) (by kernel_rfl) (by simp) ?_
            refine AllReadyH.cons rfl (fun K hK => ?_) AllReadyH.nil
            refine step_tg (d := 0) intZ zeE (w0 := U) (B := U.heap.size) (by rfl) _ _ (by rfl) _ 0 [] (by rfl) mm (some ⟨b, off, none⟩) p c1 (s.take p) (by rfl) (HT.out _ bm) (fun h => by cases h) (by omega) bm bm.size ?_; intro a6 c6 w6 _ hc6 _ hown6 hb6; rw [Nat.zero_add] at hown6 hc6 ⊢; rw [List.nil_append] at hown6
            refine hK.out _ _ ((blkc (HE.out _ hb6)).1 0) (fun hHeld => ?_)
            clear hK K
            try go_frame
            refine wpAnyH_ready (rs := [11]) (by kernel_rfl) (by simp) ?_
            refine AllReadyH.cons rfl (fun K hK => ?_) AllReadyH.nil
            refine step_tg (d := 0) intZ zeE (w0 := U) (B := U.heap.size) (by rfl) _ _ (by rfl) _ p (s.take p) (by rfl) hown6 (some ⟨b, off, none⟩) 0 0 (s.drop c1) (by rfl) (HN.out _ hb6) (fun h => by cases h) (by omega) hb6 hb6.size ?_; intro a8 c8 w8 _ hc8 _ hown8 hb8; have hP8 := HP.out w8 hb8; have zc := (blkc hP8).1 0; have zf := (blkc hP8).2 0
            refine hK.out _ _ ((blkc (HE.out _ hb8)).1 0) (fun hHeld => ?_)
            clear hK K
            try go_frame
            refine wpAnyH_take (i := 12) (oi := ⟨some 117, _, _, _, _, _⟩) (v := ?_) rfl (by kernel_rfl) (by kernel_rfl) (by kernel_rfl) (fun _ _ _ h => h) (Or.inl ⟨by rfl, ?_⟩) (by assumption) ?_
            rotate_left
            · intro w hSw; (try dsimp only at hSw); go_simp <;> (try with_reducible rfl)
            go_frame
            refine wpAnyH_ready (rs := [13]) (by kernel_rfl) (by simp) ?_
            refine AllReadyH.cons rfl (fun K hK => ?_) AllReadyH.nil
            go_simp
            refine hK.out _ _ ((World.cell?_setCell_other _ _ _ _ (fun e => hpe2 (Addr.mk.inj e).1)).trans ((blkc (HE.out w8 hb8)).1 0)) (fun hHeld => ?_)
            clear hK K
            refine wpAnyH_done (by kernel_rfl) ?_ _
            have hg9 : w8.grownBy (w8.setCell ⟨w.heap.size, 0, none⟩ (.slice a8 (p + 0) c8)) (some (w.heap.size)) := turned_setL (w.heap.size) [.slice a8 (p + 0) c8] 0 w8
            go_wp2_with fail
            go_meet
            case rel => exact ⟨a8, c8, hc8, bput hP8 _ rfl, (hg9.block _ (ob_ltB (HZ.out w8 hb8)) (fun e => hpz (Option.some.inj e))).trans (HZ.out w8 hb8), (hg9.block _ (ob_ltB (HE.out w8 hb8)) (fun e => hpe (Option.some.inj e))).trans (HE.out w8 hb8), hown8.kept hg9 (.inr (own_ne hown8 (by have := HSZ.out; omega)).symm), below_grownB (HU.out.trans (hb8.mono HU.out.size)) hg9 (HU.out.trans (hb8.mono HU.out.size)).size (fun q hq => by cases hq; exact Nat.le_refl _), Nat.le_trans hb8.size hg9.size⟩
        · skip
          have xb : v1.cell? ⟨w.heap.size, 0, none⟩ = some (.slice (some ⟨b, off, none⟩) c1 c1) := (blkc (HP.out v1.drew b1d)).1 0; go_simp
          refine hK.out _ _ ((blkc (HE.out _ b1d)).1 0) (fun hHeld => ?_)
          clear hK K
          try go_frame
          refine wpAnyH_take (i := 10) (oi := ⟨some 115, _, _, _, _, _⟩) (v := ?_) rfl (by kernel_rfl) (by kernel_rfl) (by kernel_rfl) (fun _ _ _ h => h) (Or.inl ⟨by rfl, ?_⟩) (by assumption) ?_
          rotate_left
          · intro w hSw; (try dsimp only at hSw); go_simp <;> (try with_reducible rfl)
          go_frame
          refine wpAnyH_ready (rs := [0]) (by kernel_rfl) (by simp) ?_
          refine AllReadyH.cons rfl (fun K hK => ?_) AllReadyH.nil
          go_simp
          refine hK.out _ _ ((blkc (HE.out _ ((b1.alloc b1.size (.cells #[] 3)).drew))).1 0) (fun hHeld => ?_)
          clear hK K
          have bm : Below U.heap.size U (v1.alloc (.cells #[] 3)).drew := (b1.alloc b1.size _).drew
          have mm : (v1.alloc (.cells #[] 3)).drew.ownsRow U.heap.size 3 1 (.slice (some ⟨v1.heap.size, 0, none⟩) 0 0) 0 (tcells ze []) := owns_drew (made_t (s := 1) (enc := ze) v1 b1.size rfl)
          refine wpAnyH_ready (rs := [5]) (by kernel_rfl) (by simp) ?_
          refine AllReadyH.cons rfl (fun K hK => ?_) AllReadyH.nil
          refine step_tg (d := 0) intZ zeE (w0 := U) (B := U.heap.size) (by rfl) _ _ (by rfl) _ 0 [] (by rfl) mm (some ⟨b, off, none⟩) p c1 (s.take p) (by rfl) (HT.out _ bm) (fun h => by cases h) (by omega) bm bm.size ?_; intro a6 c6 w6 _ hc6 _ hown6 hb6; rw [Nat.zero_add] at hown6 hc6 ⊢; rw [List.nil_append] at hown6
          refine hK.out _ _ ((blkc (HE.out _ hb6)).1 0) (fun hHeld => ?_)
          clear hK K
          try go_frame
          refine wpAnyH_ready (rs := [11]) (by kernel_rfl) (by simp) ?_
          refine AllReadyH.cons rfl (fun K hK => ?_) AllReadyH.nil
          refine step_tg (d := 0) intZ zeE (w0 := U) (B := U.heap.size) (by rfl) _ _ (by rfl) _ p (s.take p) (by rfl) hown6 (some ⟨b, off, none⟩) 0 0 (s.drop c1) (by rfl) (HN.out _ hb6) (fun h => by cases h) (by omega) hb6 hb6.size ?_; intro a8 c8 w8 _ hc8 _ hown8 hb8; have hP8 := HP.out w8 hb8; have zc := (blkc hP8).1 0; have zf := (blkc hP8).2 0
          refine hK.out _ _ ((blkc (HE.out _ hb8)).1 0) (fun hHeld => ?_)
          clear hK K
          try go_frame
          refine wpAnyH_take (i := 12) (oi := ⟨some 117, _, _, _, _, _⟩) (v := ?_) rfl (by kernel_rfl) (by kernel_rfl) (by kernel_rfl) (fun _ _ _ h => h) (Or.inl ⟨by rfl, ?_⟩) (by assumption) ?_
          rotate_left
          · intro w hSw; (try dsimp only at hSw); go_simp <;> (try with_reducible rfl)
          go_frame
          refine wpAnyH_ready (rs := [13]) (by kernel_rfl) (by simp) ?_
          refine AllReadyH.cons rfl (fun K hK => ?_) AllReadyH.nil
          go_simp
          refine hK.out _ _ ((World.cell?_setCell_other _ _ _ _ (fun e => hpe2 (Addr.mk.inj e).1)).trans ((blkc (HE.out w8 hb8)).1 0)) (fun hHeld => ?_)
          clear hK K
          refine wpAnyH_done (by kernel_rfl) ?_ _
          have hg9 : w8.grownBy (w8.setCell ⟨w.heap.size, 0, none⟩ (.slice a8 (p + 0) c8)) (some (w.heap.size)) := turned_setL (w.heap.size) [.slice a8 (p + 0) c8] 0 w8
          go_wp2_with fail
          go_meet
          case rel => exact ⟨a8, c8, hc8, bput hP8 _ rfl, (hg9.block _ (ob_ltB (HZ.out w8 hb8)) (fun e => hpz (Option.some.inj e))).trans (HZ.out w8 hb8), (hg9.block _ (ob_ltB (HE.out w8 hb8)) (fun e => hpe (Option.some.inj e))).trans (HE.out w8 hb8), hown8.kept hg9 (.inr (own_ne hown8 (by have := HSZ.out; omega)).symm), below_grownB (HU.out.trans (hb8.mono HU.out.size)) hg9 (HU.out.trans (hb8.mono HU.out.size)).size (fun q hq => by cases hq; exact Nat.le_refl _), Nat.le_trans hb8.size hg9.size⟩
      · skip
        have xb : v1.cell? ⟨w.heap.size, 0, none⟩ = some (.slice (some ⟨b, off, none⟩) c1 c1) := (blkc (HP.out v1.drew b1d)).1 0; go_simp
        refine hK.out _ _ ((blkc (HE.out _ b1d)).1 0) (fun hHeld => ?_)
        clear hK K
        try go_frame
        refine wpAnyH_take (i := 10) (oi := ⟨some 115, _, _, _, _, _⟩) (v := ?_) rfl (by kernel_rfl) (by kernel_rfl) (by kernel_rfl) (fun _ _ _ h => h) (Or.inl ⟨by rfl, ?_⟩) (by assumption) ?_
        rotate_left
        · intro w hSw; (try dsimp only at hSw); go_simp <;> (try with_reducible rfl)
        go_frame
        refine wpAnyH_ready (rs := [0, 2]) (by kernel_rfl) (by simp) ?_
        refine AllReadyH.cons rfl (fun K hK => ?_) (AllReadyH.cons rfl (fun K hK => ?_) AllReadyH.nil)
        · skip
          go_simp
          refine hK.out _ _ ((blkc (HE.out _ ((b1.alloc b1.size (.cells #[] 3)).drew))).1 0) (fun hHeld => ?_)
          clear hK K
          have bm : Below U.heap.size U (v1.alloc (.cells #[] 3)).drew := (b1.alloc b1.size _).drew
          have mm : (v1.alloc (.cells #[] 3)).drew.ownsRow U.heap.size 3 1 (.slice (some ⟨v1.heap.size, 0, none⟩) 0 0) 0 (tcells ze []) := owns_drew (made_t (s := 1) (enc := ze) v1 b1.size rfl)
          refine wpAnyH_ready (rs := [2]) (by kernel_rfl) (by simp) ?_
          refine AllReadyH.cons rfl (fun K hK => ?_) AllReadyH.nil
          have xb : (v1.alloc (.cells #[] 3)).cell? ⟨w.heap.size, 0, none⟩ = some (.slice (some ⟨b, off, none⟩) c1 c1) := (blkc (HP.out (v1.alloc (.cells #[] 3)).drew bm)).1 0; go_simp
          refine hK.out _ _ ((blkc (HE.out _ bm)).1 0) (fun hHeld => ?_)
          clear hK K
          try go_frame
          refine wpAnyH_take (i := 4) (oi := ⟨some 109, _, _, _, _, _⟩) (v := ?_) rfl (by kernel_rfl) (by kernel_rfl) (by kernel_rfl) (fun _ _ _ h => h) (Or.inl ⟨by rfl, ?_⟩) (by assumption) ?_
          rotate_left
          · intro w hSw; (try dsimp only at hSw); go_simp <;> (try with_reducible rfl)
          go_frame
          refine wpAnyH_ready (rs := [5]) (by kernel_rfl) (by simp) ?_
          refine AllReadyH.cons rfl (fun K hK => ?_) AllReadyH.nil
          refine step_tg (d := 0) intZ zeE (w0 := U) (B := U.heap.size) (by rfl) _ _ (by rfl) _ 0 [] (by rfl) mm (some ⟨b, off, none⟩) p c1 (s.take p) (by rfl) (HT.out _ bm) (fun h => by cases h) (by omega) bm bm.size ?_; intro a6 c6 w6 _ hc6 _ hown6 hb6; rw [Nat.zero_add] at hown6 hc6 ⊢; rw [List.nil_append] at hown6
          refine hK.out _ _ ((blkc (HE.out _ hb6)).1 0) (fun hHeld => ?_)
          clear hK K
          try go_frame
          refine wpAnyH_ready (rs := [11]) (by kernel_rfl) (by simp) ?_
          refine AllReadyH.cons rfl (fun K hK => ?_) AllReadyH.nil
          refine step_tg (d := 0) intZ zeE (w0 := U) (B := U.heap.size) (by rfl) _ _ (by rfl) _ p (s.take p) (by rfl) hown6 (some ⟨b, off, none⟩) 0 0 (s.drop c1) (by rfl) (HN.out _ hb6) (fun h => by cases h) (by omega) hb6 hb6.size ?_; intro a8 c8 w8 _ hc8 _ hown8 hb8; have hP8 := HP.out w8 hb8; have zc := (blkc hP8).1 0; have zf := (blkc hP8).2 0
          refine hK.out _ _ ((blkc (HE.out _ hb8)).1 0) (fun hHeld => ?_)
          clear hK K
          try go_frame
          refine wpAnyH_take (i := 12) (oi := ⟨some 117, _, _, _, _, _⟩) (v := ?_) rfl (by kernel_rfl) (by kernel_rfl) (by kernel_rfl) (fun _ _ _ h => h) (Or.inl ⟨by rfl, ?_⟩) (by assumption) ?_
          rotate_left
          · intro w hSw; (try dsimp only at hSw); go_simp <;> (try with_reducible rfl)
          go_frame
          refine wpAnyH_ready (rs := [13]) (by kernel_rfl) (by simp) ?_
          refine AllReadyH.cons rfl (fun K hK => ?_) AllReadyH.nil
          go_simp
          refine hK.out _ _ ((World.cell?_setCell_other _ _ _ _ (fun e => hpe2 (Addr.mk.inj e).1)).trans ((blkc (HE.out w8 hb8)).1 0)) (fun hHeld => ?_)
          clear hK K
          refine wpAnyH_done (by kernel_rfl) ?_ _
          have hg9 : w8.grownBy (w8.setCell ⟨w.heap.size, 0, none⟩ (.slice a8 (p + 0) c8)) (some (w.heap.size)) := turned_setL (w.heap.size) [.slice a8 (p + 0) c8] 0 w8
          go_wp2_with fail
          go_meet
          case rel => exact ⟨a8, c8, hc8, bput hP8 _ rfl, (hg9.block _ (ob_ltB (HZ.out w8 hb8)) (fun e => hpz (Option.some.inj e))).trans (HZ.out w8 hb8), (hg9.block _ (ob_ltB (HE.out w8 hb8)) (fun e => hpe (Option.some.inj e))).trans (HE.out w8 hb8), hown8.kept hg9 (.inr (own_ne hown8 (by have := HSZ.out; omega)).symm), below_grownB (HU.out.trans (hb8.mono HU.out.size)) hg9 (HU.out.trans (hb8.mono HU.out.size)).size (fun q hq => by cases hq; exact Nat.le_refl _), Nat.le_trans hb8.size hg9.size⟩
        · skip
          have xb : v1.cell? ⟨w.heap.size, 0, none⟩ = some (.slice (some ⟨b, off, none⟩) c1 c1) := (blkc (HP.out v1.drew b1d)).1 0; go_simp
          refine hK.out _ _ ((blkc (HE.out _ b1d)).1 0) (fun hHeld => ?_)
          clear hK K
          try go_frame
          refine wpAnyH_take (i := 4) (oi := ⟨some 109, _, _, _, _, _⟩) (v := ?_) rfl (by kernel_rfl) (by kernel_rfl) (by kernel_rfl) (fun _ _ _ h => h) (Or.inl ⟨by rfl, ?_⟩) (by assumption) ?_
          rotate_left
          · intro w hSw; (try dsimp only at hSw); go_simp <;> (try with_reducible rfl)
          go_frame
          refine wpAnyH_ready (rs := [0]) (by kernel_rfl) (by simp) ?_
          refine AllReadyH.cons rfl (fun K hK => ?_) AllReadyH.nil
          go_simp
          refine hK.out _ _ ((blkc (HE.out _ ((b1.alloc b1.size (.cells #[] 3)).drew))).1 0) (fun hHeld => ?_)
          clear hK K
          have bm : Below U.heap.size U (v1.alloc (.cells #[] 3)).drew := (b1.alloc b1.size _).drew
          have mm : (v1.alloc (.cells #[] 3)).drew.ownsRow U.heap.size 3 1 (.slice (some ⟨v1.heap.size, 0, none⟩) 0 0) 0 (tcells ze []) := owns_drew (made_t (s := 1) (enc := ze) v1 b1.size rfl)
          refine wpAnyH_ready (rs := [5]) (by kernel_rfl) (by simp) ?_
          refine AllReadyH.cons rfl (fun K hK => ?_) AllReadyH.nil
          refine step_tg (d := 0) intZ zeE (w0 := U) (B := U.heap.size) (by rfl) _ _ (by rfl) _ 0 [] (by rfl) mm (some ⟨b, off, none⟩) p c1 (s.take p) (by rfl) (HT.out _ bm) (fun h => by cases h) (by omega) bm bm.size ?_; intro a6 c6 w6 _ hc6 _ hown6 hb6; rw [Nat.zero_add] at hown6 hc6 ⊢; rw [List.nil_append] at hown6
          refine hK.out _ _ ((blkc (HE.out _ hb6)).1 0) (fun hHeld => ?_)
          clear hK K
          try go_frame
          refine wpAnyH_ready (rs := [11]) (by kernel_rfl) (by simp) ?_
          refine AllReadyH.cons rfl (fun K hK => ?_) AllReadyH.nil
          refine step_tg (d := 0) intZ zeE (w0 := U) (B := U.heap.size) (by rfl) _ _ (by rfl) _ p (s.take p) (by rfl) hown6 (some ⟨b, off, none⟩) 0 0 (s.drop c1) (by rfl) (HN.out _ hb6) (fun h => by cases h) (by omega) hb6 hb6.size ?_; intro a8 c8 w8 _ hc8 _ hown8 hb8; have hP8 := HP.out w8 hb8; have zc := (blkc hP8).1 0; have zf := (blkc hP8).2 0
          refine hK.out _ _ ((blkc (HE.out _ hb8)).1 0) (fun hHeld => ?_)
          clear hK K
          try go_frame
          refine wpAnyH_take (i := 12) (oi := ⟨some 117, _, _, _, _, _⟩) (v := ?_) rfl (by kernel_rfl) (by kernel_rfl) (by kernel_rfl) (fun _ _ _ h => h) (Or.inl ⟨by rfl, ?_⟩) (by assumption) ?_
          rotate_left
          · intro w hSw; (try dsimp only at hSw); go_simp <;> (try with_reducible rfl)
          go_frame
          refine wpAnyH_ready (rs := [13]) (by kernel_rfl) (by simp) ?_
          refine AllReadyH.cons rfl (fun K hK => ?_) AllReadyH.nil
          go_simp
          refine hK.out _ _ ((World.cell?_setCell_other _ _ _ _ (fun e => hpe2 (Addr.mk.inj e).1)).trans ((blkc (HE.out w8 hb8)).1 0)) (fun hHeld => ?_)
          clear hK K
          refine wpAnyH_done (by kernel_rfl) ?_ _
          have hg9 : w8.grownBy (w8.setCell ⟨w.heap.size, 0, none⟩ (.slice a8 (p + 0) c8)) (some (w.heap.size)) := turned_setL (w.heap.size) [.slice a8 (p + 0) c8] 0 w8
          go_wp2_with fail
          go_meet
          case rel => exact ⟨a8, c8, hc8, bput hP8 _ rfl, (hg9.block _ (ob_ltB (HZ.out w8 hb8)) (fun e => hpz (Option.some.inj e))).trans (HZ.out w8 hb8), (hg9.block _ (ob_ltB (HE.out w8 hb8)) (fun e => hpe (Option.some.inj e))).trans (HE.out w8 hb8), hown8.kept hg9 (.inr (own_ne hown8 (by have := HSZ.out; omega)).symm), below_grownB (HU.out.trans (hb8.mono HU.out.size)) hg9 (HU.out.trans (hb8.mono HU.out.size)).size (fun q hq => by cases hq; exact Nat.le_refl _), Nat.le_trans hb8.size hg9.size⟩
    · have hcn2 : ¬ ((c1 : Int) = (p1 : Int)) := by omega
      have hm2 : n1 - p1 = m := by have := HPM.out; omega
      refine wp_region_held_drew (S := (fun W => W.cell? ⟨w.heap.size + 1, 0, none⟩ = some (.int .i64 2))) (by kernel_rfl) ((blkc (HE.out _ b1d)).1 0) (fun hHeld => ?_)
      refine wpAnyH_take (i := 1) (oi := ⟨some 106, _, _, _, _, _⟩) (v := ?_) rfl (by kernel_rfl) (by kernel_rfl) (by kernel_rfl) (fun _ _ _ h => h) (Or.inl ⟨by rfl, ?_⟩) (by assumption) ?_
      rotate_left
      · intro w hSw; (try dsimp only at hSw); go_simp <;> (try with_reducible rfl)
      go_frame
      refine wpAnyH_take (i := 3) (oi := ⟨some 108, _, _, _, _, _⟩) (v := ?_) rfl (by kernel_rfl) (by kernel_rfl) (by kernel_rfl) (fun _ _ _ h => h) (Or.inl ⟨by rfl, ?_⟩) (by assumption) ?_
      rotate_left
      · intro w hSw; (try dsimp only at hSw); go_simp <;> (try with_reducible rfl)
      go_frame
      refine wpAnyH_take (i := 6) (oi := ⟨some 111, _, _, _, _, _⟩) (v := ?_) rfl (by kernel_rfl) (by kernel_rfl) (by kernel_rfl) (fun _ _ _ h => h) (Or.inl ⟨by rfl, ?_⟩) (by assumption) ?_
      rotate_left
      · intro w hSw; (try dsimp only at hSw); go_simp <;> (try with_reducible rfl)
      go_frame
      refine wpAnyH_take (i := 8) (oi := ⟨some 113, _, _, _, _, _⟩) (v := ?_) rfl (by kernel_rfl) (by kernel_rfl) (by kernel_rfl) (fun _ _ _ h => h) (Or.inl ⟨by rfl, ?_⟩) (by assumption) ?_
      rotate_left
      · intro w hSw; (try dsimp only at hSw); go_simp <;> (try with_reducible rfl)
      go_frame
      refine wpAnyH_take (i := 9) (oi := ⟨some 114, _, _, _, _, _⟩) (v := ?_) rfl (by kernel_rfl) (by kernel_rfl) (by kernel_rfl) (fun _ _ _ h => h) (Or.inl ⟨by rfl, ?_⟩) (by assumption) ?_
      rotate_left
      · intro w hSw; (try dsimp only at hSw); go_simp <;> (try with_reducible rfl)
      go_frame
      refine wpAnyH_ready (rs := [0, 2, 7]) (by kernel_rfl) (by simp) ?_
      refine AllReadyH.cons rfl (fun K hK => ?_) (AllReadyH.cons rfl (fun K hK => ?_) (AllReadyH.cons rfl (fun K hK => ?_) AllReadyH.nil))
      · skip
        go_simp
        refine hK.out _ _ ((blkc (HE.out _ ((b1.alloc b1.size (.cells #[] 3)).drew))).1 0) (fun hHeld => ?_)
        clear hK K
        have bm : Below U.heap.size U (v1.alloc (.cells #[] 3)).drew := (b1.alloc b1.size _).drew
        have mm : (v1.alloc (.cells #[] 3)).drew.ownsRow U.heap.size 3 1 (.slice (some ⟨v1.heap.size, 0, none⟩) 0 0) 0 (tcells ze []) := owns_drew (made_t (s := 1) (enc := ze) v1 b1.size rfl)
        refine wpAnyH_ready (rs := [2, 7]) (by kernel_rfl) (by simp) ?_
        refine AllReadyH.cons rfl (fun K hK => ?_) (AllReadyH.cons rfl (fun K hK => ?_) AllReadyH.nil)
        · skip
          have xb : (v1.alloc (.cells #[] 3)).cell? ⟨w.heap.size, 0, none⟩ = some (.slice (some ⟨b, off, none⟩) n1 c1) := (blkc (HP.out (v1.alloc (.cells #[] 3)).drew bm)).1 0; go_simp
          refine hK.out _ _ ((blkc (HE.out _ bm)).1 0) (fun hHeld => ?_)
          clear hK K
          try go_frame
          refine wpAnyH_take (i := 4) (oi := ⟨some 109, _, _, _, _, _⟩) (v := ?_) rfl (by kernel_rfl) (by kernel_rfl) (by kernel_rfl) (fun _ _ _ h => h) (Or.inl ⟨by rfl, ?_⟩) (by assumption) ?_
          rotate_left
          · intro w hSw; (try dsimp only at hSw); go_simp <;> (try with_reducible rfl)
          go_frame
          refine wpAnyH_ready (rs := [5, 7]) (by kernel_rfl) (by simp) ?_
          refine AllReadyH.cons rfl (fun K hK => ?_) (AllReadyH.cons rfl (fun K hK => ?_) AllReadyH.nil)
          · skip
            refine step_tg (d := 0) intZ zeE (w0 := U) (B := U.heap.size) (by rfl) _ _ (by rfl) _ 0 [] (by rfl) mm (some ⟨b, off, none⟩) p c1 (s.take p) (by rfl) (HT.out _ bm) (fun h => by cases h) (by omega) bm bm.size ?_; intro a6 c6 w6 _ hc6 _ hown6 hb6; rw [Nat.zero_add] at hown6 hc6 ⊢; rw [List.nil_append] at hown6
            refine hK.out _ _ ((blkc (HE.out _ hb6)).1 0) (fun hHeld => ?_)
            clear hK K
            try go_frame
            refine wpAnyH_ready (rs := [7]) (by kernel_rfl) (by simp) ?_
            refine AllReadyH.cons rfl (fun K hK => ?_) AllReadyH.nil
            have xb : w6.cell? ⟨w.heap.size, 0, none⟩ = some (.slice (some ⟨b, off, none⟩) n1 c1) := (blkc (HP.out w6 hb6)).1 0; go_simp
            refine hK.out _ _ ((blkc (HE.out _ hb6)).1 0) (fun hHeld => ?_)
            clear hK K
            try go_frame
            refine wpAnyH_take (i := 10) (oi := ⟨some 115, _, _, _, _, _⟩) (v := ?_) rfl (by kernel_rfl) (by kernel_rfl) (by kernel_rfl) (fun _ _ _ h => h) (Or.inl ⟨by rfl, ?_⟩) (by assumption) ?_
            rotate_left
            · intro w hSw; (try dsimp only at hSw); go_simp <;> (try with_reducible rfl)
            go_frame
            refine wpAnyH_ready (rs := [11]) (by kernel_rfl) (by simp) ?_
            refine AllReadyH.cons rfl (fun K hK => ?_) AllReadyH.nil
            refine step_tg (d := 0) intZ zeE (w0 := U) (B := U.heap.size) (by rfl) _ _ (by rfl) _ p (s.take p) (by rfl) hown6 (some ⟨b, off + p1, none⟩) m (c1 - p1) (s.drop p1) (by rfl) (HD.out _ hb6) (fun h => by cases h) (by omega) hb6 hb6.size ?_; intro a8 c8 w8 _ hc8 _ hown8 hb8; have hP8 := HP.out w8 hb8; have zc := (blkc hP8).1 0; have zf := (blkc hP8).2 0
            refine hK.out _ _ ((blkc (HE.out _ hb8)).1 0) (fun hHeld => ?_)
            clear hK K
            try go_frame
            refine wpAnyH_take (i := 12) (oi := ⟨some 117, _, _, _, _, _⟩) (v := ?_) rfl (by kernel_rfl) (by kernel_rfl) (by kernel_rfl) (fun _ _ _ h => h) (Or.inl ⟨by rfl, ?_⟩) (by assumption) ?_
            rotate_left
            · intro w hSw; (try dsimp only at hSw); go_simp <;> (try with_reducible rfl)
            go_frame
            refine wpAnyH_ready (rs := [13]) (by kernel_rfl) (by simp) ?_
            refine AllReadyH.cons rfl (fun K hK => ?_) AllReadyH.nil
            go_simp
            refine hK.out _ _ ((World.cell?_setCell_other _ _ _ _ (fun e => hpe2 (Addr.mk.inj e).1)).trans ((blkc (HE.out w8 hb8)).1 0)) (fun hHeld => ?_)
            clear hK K
            refine wpAnyH_done (by kernel_rfl) ?_ _
            have hg9 : w8.grownBy (w8.setCell ⟨w.heap.size, 0, none⟩ (.slice a8 (p + m) c8)) (some (w.heap.size)) := turned_setL (w.heap.size) [.slice a8 (p + m) c8] 0 w8
            go_wp2_with fail
            go_meet
            case rel => exact ⟨a8, c8, hc8, bput hP8 _ rfl, (hg9.block _ (ob_ltB (HZ.out w8 hb8)) (fun e => hpz (Option.some.inj e))).trans (HZ.out w8 hb8), (hg9.block _ (ob_ltB (HE.out w8 hb8)) (fun e => hpe (Option.some.inj e))).trans (HE.out w8 hb8), hown8.kept hg9 (.inr (own_ne hown8 (by have := HSZ.out; omega)).symm), below_grownB (HU.out.trans (hb8.mono HU.out.size)) hg9 (HU.out.trans (hb8.mono HU.out.size)).size (fun q hq => by cases hq; exact Nat.le_refl _), Nat.le_trans hb8.size hg9.size⟩
          · skip
            have xb : (v1.alloc (.cells #[] 3)).cell? ⟨w.heap.size, 0, none⟩ = some (.slice (some ⟨b, off, none⟩) n1 c1) := (blkc (HP.out (v1.alloc (.cells #[] 3)).drew bm)).1 0; go_simp
            refine hK.out _ _ ((blkc (HE.out _ bm)).1 0) (fun hHeld => ?_)
            clear hK K
            try go_frame
            refine wpAnyH_take (i := 10) (oi := ⟨some 115, _, _, _, _, _⟩) (v := ?_) rfl (by kernel_rfl) (by kernel_rfl) (by kernel_rfl) (fun _ _ _ h => h) (Or.inl ⟨by rfl, ?_⟩) (by assumption) ?_
            rotate_left
            · intro w hSw; (try dsimp only at hSw); go_simp <;> (try with_reducible rfl)
            go_frame
            refine wpAnyH_ready (rs := [5]) (by kernel_rfl) (by simp) ?_
            refine AllReadyH.cons rfl (fun K hK => ?_) AllReadyH.nil
            refine step_tg (d := 0) intZ zeE (w0 := U) (B := U.heap.size) (by rfl) _ _ (by rfl) _ 0 [] (by rfl) mm (some ⟨b, off, none⟩) p c1 (s.take p) (by rfl) (HT.out _ bm) (fun h => by cases h) (by omega) bm bm.size ?_; intro a6 c6 w6 _ hc6 _ hown6 hb6; rw [Nat.zero_add] at hown6 hc6 ⊢; rw [List.nil_append] at hown6
            refine hK.out _ _ ((blkc (HE.out _ hb6)).1 0) (fun hHeld => ?_)
            clear hK K
            try go_frame
            refine wpAnyH_ready (rs := [11]) (by kernel_rfl) (by simp) ?_
            refine AllReadyH.cons rfl (fun K hK => ?_) AllReadyH.nil
            refine step_tg (d := 0) intZ zeE (w0 := U) (B := U.heap.size) (by rfl) _ _ (by rfl) _ p (s.take p) (by rfl) hown6 (some ⟨b, off + p1, none⟩) m (c1 - p1) (s.drop p1) (by rfl) (HD.out _ hb6) (fun h => by cases h) (by omega) hb6 hb6.size ?_; intro a8 c8 w8 _ hc8 _ hown8 hb8; have hP8 := HP.out w8 hb8; have zc := (blkc hP8).1 0; have zf := (blkc hP8).2 0
            refine hK.out _ _ ((blkc (HE.out _ hb8)).1 0) (fun hHeld => ?_)
            clear hK K
            try go_frame
            refine wpAnyH_take (i := 12) (oi := ⟨some 117, _, _, _, _, _⟩) (v := ?_) rfl (by kernel_rfl) (by kernel_rfl) (by kernel_rfl) (fun _ _ _ h => h) (Or.inl ⟨by rfl, ?_⟩) (by assumption) ?_
            rotate_left
            · intro w hSw; (try dsimp only at hSw); go_simp <;> (try with_reducible rfl)
            go_frame
            refine wpAnyH_ready (rs := [13]) (by kernel_rfl) (by simp) ?_
            refine AllReadyH.cons rfl (fun K hK => ?_) AllReadyH.nil
            go_simp
            refine hK.out _ _ ((World.cell?_setCell_other _ _ _ _ (fun e => hpe2 (Addr.mk.inj e).1)).trans ((blkc (HE.out w8 hb8)).1 0)) (fun hHeld => ?_)
            clear hK K
            refine wpAnyH_done (by kernel_rfl) ?_ _
            have hg9 : w8.grownBy (w8.setCell ⟨w.heap.size, 0, none⟩ (.slice a8 (p + m) c8)) (some (w.heap.size)) := turned_setL (w.heap.size) [.slice a8 (p + m) c8] 0 w8
            go_wp2_with fail
            go_meet
            case rel => exact ⟨a8, c8, hc8, bput hP8 _ rfl, (hg9.block _ (ob_ltB (HZ.out w8 hb8)) (fun e => hpz (Option.some.inj e))).trans (HZ.out w8 hb8), (hg9.block _ (ob_ltB (HE.out w8 hb8)) (fun e => hpe (Option.some.inj e))).trans (HE.out w8 hb8), hown8.kept hg9 (.inr (own_ne hown8 (by have := HSZ.out; omega)).symm), below_grownB (HU.out.trans (hb8.mono HU.out.size)) hg9 (HU.out.trans (hb8.mono HU.out.size)).size (fun q hq => by cases hq; exact Nat.le_refl _), Nat.le_trans hb8.size hg9.size⟩
        · skip
          have xb : (v1.alloc (.cells #[] 3)).cell? ⟨w.heap.size, 0, none⟩ = some (.slice (some ⟨b, off, none⟩) n1 c1) := (blkc (HP.out (v1.alloc (.cells #[] 3)).drew bm)).1 0; go_simp
          refine hK.out _ _ ((blkc (HE.out _ bm)).1 0) (fun hHeld => ?_)
          clear hK K
          try go_frame
          refine wpAnyH_take (i := 10) (oi := ⟨some 115, _, _, _, _, _⟩) (v := ?_) rfl (by kernel_rfl) (by kernel_rfl) (by kernel_rfl) (fun _ _ _ h => h) (Or.inl ⟨by rfl, ?_⟩) (by assumption) ?_
          rotate_left
          · intro w hSw; (try dsimp only at hSw); go_simp <;> (try with_reducible rfl)
          go_frame
          refine wpAnyH_ready (rs := [2]) (by kernel_rfl) (by simp) ?_
          refine AllReadyH.cons rfl (fun K hK => ?_) AllReadyH.nil
          have xb : (v1.alloc (.cells #[] 3)).cell? ⟨w.heap.size, 0, none⟩ = some (.slice (some ⟨b, off, none⟩) n1 c1) := (blkc (HP.out (v1.alloc (.cells #[] 3)).drew bm)).1 0; go_simp
          refine hK.out _ _ ((blkc (HE.out _ bm)).1 0) (fun hHeld => ?_)
          clear hK K
          try go_frame
          refine wpAnyH_take (i := 4) (oi := ⟨some 109, _, _, _, _, _⟩) (v := ?_) rfl (by kernel_rfl) (by kernel_rfl) (by kernel_rfl) (fun _ _ _ h => h) (Or.inl ⟨by rfl, ?_⟩) (by assumption) ?_
          rotate_left
          · intro w hSw; (try dsimp only at hSw); go_simp <;> (try with_reducible rfl)
          go_frame
          refine wpAnyH_ready (rs := [5]) (by kernel_rfl) (by simp) ?_
          refine AllReadyH.cons rfl (fun K hK => ?_) AllReadyH.nil
          refine step_tg (d := 0) intZ zeE (w0 := U) (B := U.heap.size) (by rfl) _ _ (by rfl) _ 0 [] (by rfl) mm (some ⟨b, off, none⟩) p c1 (s.take p) (by rfl) (HT.out _ bm) (fun h => by cases h) (by omega) bm bm.size ?_; intro a6 c6 w6 _ hc6 _ hown6 hb6; rw [Nat.zero_add] at hown6 hc6 ⊢; rw [List.nil_append] at hown6
          refine hK.out _ _ ((blkc (HE.out _ hb6)).1 0) (fun hHeld => ?_)
          clear hK K
          try go_frame
          refine wpAnyH_ready (rs := [11]) (by kernel_rfl) (by simp) ?_
          refine AllReadyH.cons rfl (fun K hK => ?_) AllReadyH.nil
          refine step_tg (d := 0) intZ zeE (w0 := U) (B := U.heap.size) (by rfl) _ _ (by rfl) _ p (s.take p) (by rfl) hown6 (some ⟨b, off + p1, none⟩) m (c1 - p1) (s.drop p1) (by rfl) (HD.out _ hb6) (fun h => by cases h) (by omega) hb6 hb6.size ?_; intro a8 c8 w8 _ hc8 _ hown8 hb8; have hP8 := HP.out w8 hb8; have zc := (blkc hP8).1 0; have zf := (blkc hP8).2 0
          refine hK.out _ _ ((blkc (HE.out _ hb8)).1 0) (fun hHeld => ?_)
          clear hK K
          try go_frame
          refine wpAnyH_take (i := 12) (oi := ⟨some 117, _, _, _, _, _⟩) (v := ?_) rfl (by kernel_rfl) (by kernel_rfl) (by kernel_rfl) (fun _ _ _ h => h) (Or.inl ⟨by rfl, ?_⟩) (by assumption) ?_
          rotate_left
          · intro w hSw; (try dsimp only at hSw); go_simp <;> (try with_reducible rfl)
          go_frame
          refine wpAnyH_ready (rs := [13]) (by kernel_rfl) (by simp) ?_
          refine AllReadyH.cons rfl (fun K hK => ?_) AllReadyH.nil
          go_simp
          refine hK.out _ _ ((World.cell?_setCell_other _ _ _ _ (fun e => hpe2 (Addr.mk.inj e).1)).trans ((blkc (HE.out w8 hb8)).1 0)) (fun hHeld => ?_)
          clear hK K
          refine wpAnyH_done (by kernel_rfl) ?_ _
          have hg9 : w8.grownBy (w8.setCell ⟨w.heap.size, 0, none⟩ (.slice a8 (p + m) c8)) (some (w.heap.size)) := turned_setL (w.heap.size) [.slice a8 (p + m) c8] 0 w8
          go_wp2_with fail
          go_meet
          case rel => exact ⟨a8, c8, hc8, bput hP8 _ rfl, (hg9.block _ (ob_ltB (HZ.out w8 hb8)) (fun e => hpz (Option.some.inj e))).trans (HZ.out w8 hb8), (hg9.block _ (ob_ltB (HE.out w8 hb8)) (fun e => hpe (Option.some.inj e))).trans (HE.out w8 hb8), hown8.kept hg9 (.inr (own_ne hown8 (by have := HSZ.out; omega)).symm), below_grownB (HU.out.trans (hb8.mono HU.out.size)) hg9 (HU.out.trans (hb8.mono HU.out.size)).size (fun q hq => by cases hq; exact Nat.le_refl _), Nat.le_trans hb8.size hg9.size⟩
      · skip
        have xb : v1.cell? ⟨w.heap.size, 0, none⟩ = some (.slice (some ⟨b, off, none⟩) n1 c1) := (blkc (HP.out v1.drew b1d)).1 0; go_simp
        refine hK.out _ _ ((blkc (HE.out _ b1d)).1 0) (fun hHeld => ?_)
        clear hK K
        try go_frame
        refine wpAnyH_take (i := 4) (oi := ⟨some 109, _, _, _, _, _⟩) (v := ?_) rfl (by kernel_rfl) (by kernel_rfl) (by kernel_rfl) (fun _ _ _ h => h) (Or.inl ⟨by rfl, ?_⟩) (by assumption) ?_
        rotate_left
        · intro w hSw; (try dsimp only at hSw); go_simp <;> (try with_reducible rfl)
        go_frame
        refine wpAnyH_ready (rs := [0, 7]) (by kernel_rfl) (by simp) ?_
        refine AllReadyH.cons rfl (fun K hK => ?_) (AllReadyH.cons rfl (fun K hK => ?_) AllReadyH.nil)
        · skip
          go_simp
          refine hK.out _ _ ((blkc (HE.out _ ((b1.alloc b1.size (.cells #[] 3)).drew))).1 0) (fun hHeld => ?_)
          clear hK K
          have bm : Below U.heap.size U (v1.alloc (.cells #[] 3)).drew := (b1.alloc b1.size _).drew
          have mm : (v1.alloc (.cells #[] 3)).drew.ownsRow U.heap.size 3 1 (.slice (some ⟨v1.heap.size, 0, none⟩) 0 0) 0 (tcells ze []) := owns_drew (made_t (s := 1) (enc := ze) v1 b1.size rfl)
          refine wpAnyH_ready (rs := [5, 7]) (by kernel_rfl) (by simp) ?_
          refine AllReadyH.cons rfl (fun K hK => ?_) (AllReadyH.cons rfl (fun K hK => ?_) AllReadyH.nil)
          · skip
            refine step_tg (d := 0) intZ zeE (w0 := U) (B := U.heap.size) (by rfl) _ _ (by rfl) _ 0 [] (by rfl) mm (some ⟨b, off, none⟩) p c1 (s.take p) (by rfl) (HT.out _ bm) (fun h => by cases h) (by omega) bm bm.size ?_; intro a6 c6 w6 _ hc6 _ hown6 hb6; rw [Nat.zero_add] at hown6 hc6 ⊢; rw [List.nil_append] at hown6
            refine hK.out _ _ ((blkc (HE.out _ hb6)).1 0) (fun hHeld => ?_)
            clear hK K
            try go_frame
            refine wpAnyH_ready (rs := [7]) (by kernel_rfl) (by simp) ?_
            refine AllReadyH.cons rfl (fun K hK => ?_) AllReadyH.nil
            have xb : w6.cell? ⟨w.heap.size, 0, none⟩ = some (.slice (some ⟨b, off, none⟩) n1 c1) := (blkc (HP.out w6 hb6)).1 0; go_simp
            refine hK.out _ _ ((blkc (HE.out _ hb6)).1 0) (fun hHeld => ?_)
            clear hK K
            try go_frame
            refine wpAnyH_take (i := 10) (oi := ⟨some 115, _, _, _, _, _⟩) (v := ?_) rfl (by kernel_rfl) (by kernel_rfl) (by kernel_rfl) (fun _ _ _ h => h) (Or.inl ⟨by rfl, ?_⟩) (by assumption) ?_
            rotate_left
            · intro w hSw; (try dsimp only at hSw); go_simp <;> (try with_reducible rfl)
            go_frame
            refine wpAnyH_ready (rs := [11]) (by kernel_rfl) (by simp) ?_
            refine AllReadyH.cons rfl (fun K hK => ?_) AllReadyH.nil
            refine step_tg (d := 0) intZ zeE (w0 := U) (B := U.heap.size) (by rfl) _ _ (by rfl) _ p (s.take p) (by rfl) hown6 (some ⟨b, off + p1, none⟩) m (c1 - p1) (s.drop p1) (by rfl) (HD.out _ hb6) (fun h => by cases h) (by omega) hb6 hb6.size ?_; intro a8 c8 w8 _ hc8 _ hown8 hb8; have hP8 := HP.out w8 hb8; have zc := (blkc hP8).1 0; have zf := (blkc hP8).2 0
            refine hK.out _ _ ((blkc (HE.out _ hb8)).1 0) (fun hHeld => ?_)
            clear hK K
            try go_frame
            refine wpAnyH_take (i := 12) (oi := ⟨some 117, _, _, _, _, _⟩) (v := ?_) rfl (by kernel_rfl) (by kernel_rfl) (by kernel_rfl) (fun _ _ _ h => h) (Or.inl ⟨by rfl, ?_⟩) (by assumption) ?_
            rotate_left
            · intro w hSw; (try dsimp only at hSw); go_simp <;> (try with_reducible rfl)
            go_frame
            refine wpAnyH_ready (rs := [13]) (by kernel_rfl) (by simp) ?_
            refine AllReadyH.cons rfl (fun K hK => ?_) AllReadyH.nil
            go_simp
            refine hK.out _ _ ((World.cell?_setCell_other _ _ _ _ (fun e => hpe2 (Addr.mk.inj e).1)).trans ((blkc (HE.out w8 hb8)).1 0)) (fun hHeld => ?_)
            clear hK K
            refine wpAnyH_done (by kernel_rfl) ?_ _
            have hg9 : w8.grownBy (w8.setCell ⟨w.heap.size, 0, none⟩ (.slice a8 (p + m) c8)) (some (w.heap.size)) := turned_setL (w.heap.size) [.slice a8 (p + m) c8] 0 w8
            go_wp2_with fail
            go_meet
            case rel => exact ⟨a8, c8, hc8, bput hP8 _ rfl, (hg9.block _ (ob_ltB (HZ.out w8 hb8)) (fun e => hpz (Option.some.inj e))).trans (HZ.out w8 hb8), (hg9.block _ (ob_ltB (HE.out w8 hb8)) (fun e => hpe (Option.some.inj e))).trans (HE.out w8 hb8), hown8.kept hg9 (.inr (own_ne hown8 (by have := HSZ.out; omega)).symm), below_grownB (HU.out.trans (hb8.mono HU.out.size)) hg9 (HU.out.trans (hb8.mono HU.out.size)).size (fun q hq => by cases hq; exact Nat.le_refl _), Nat.le_trans hb8.size hg9.size⟩
          · skip
            have xb : (v1.alloc (.cells #[] 3)).cell? ⟨w.heap.size, 0, none⟩ = some (.slice (some ⟨b, off, none⟩) n1 c1) := (blkc (HP.out (v1.alloc (.cells #[] 3)).drew bm)).1 0; go_simp
            refine hK.out _ _ ((blkc (HE.out _ bm)).1 0) (fun hHeld => ?_)
            clear hK K
            try go_frame
            refine wpAnyH_take (i := 10) (oi := ⟨some 115, _, _, _, _, _⟩) (v := ?_) rfl (by kernel_rfl) (by kernel_rfl) (by kernel_rfl) (fun _ _ _ h => h) (Or.inl ⟨by rfl, ?_⟩) (by assumption) ?_
            rotate_left
            · intro w hSw; (try dsimp only at hSw); go_simp <;> (try with_reducible rfl)
            go_frame
            refine wpAnyH_ready (rs := [5]) (by kernel_rfl) (by simp) ?_
            refine AllReadyH.cons rfl (fun K hK => ?_) AllReadyH.nil
            refine step_tg (d := 0) intZ zeE (w0 := U) (B := U.heap.size) (by rfl) _ _ (by rfl) _ 0 [] (by rfl) mm (some ⟨b, off, none⟩) p c1 (s.take p) (by rfl) (HT.out _ bm) (fun h => by cases h) (by omega) bm bm.size ?_; intro a6 c6 w6 _ hc6 _ hown6 hb6; rw [Nat.zero_add] at hown6 hc6 ⊢; rw [List.nil_append] at hown6
            refine hK.out _ _ ((blkc (HE.out _ hb6)).1 0) (fun hHeld => ?_)
            clear hK K
            try go_frame
            refine wpAnyH_ready (rs := [11]) (by kernel_rfl) (by simp) ?_
            refine AllReadyH.cons rfl (fun K hK => ?_) AllReadyH.nil
            refine step_tg (d := 0) intZ zeE (w0 := U) (B := U.heap.size) (by rfl) _ _ (by rfl) _ p (s.take p) (by rfl) hown6 (some ⟨b, off + p1, none⟩) m (c1 - p1) (s.drop p1) (by rfl) (HD.out _ hb6) (fun h => by cases h) (by omega) hb6 hb6.size ?_; intro a8 c8 w8 _ hc8 _ hown8 hb8; have hP8 := HP.out w8 hb8; have zc := (blkc hP8).1 0; have zf := (blkc hP8).2 0
            refine hK.out _ _ ((blkc (HE.out _ hb8)).1 0) (fun hHeld => ?_)
            clear hK K
            try go_frame
            refine wpAnyH_take (i := 12) (oi := ⟨some 117, _, _, _, _, _⟩) (v := ?_) rfl (by kernel_rfl) (by kernel_rfl) (by kernel_rfl) (fun _ _ _ h => h) (Or.inl ⟨by rfl, ?_⟩) (by assumption) ?_
            rotate_left
            · intro w hSw; (try dsimp only at hSw); go_simp <;> (try with_reducible rfl)
            go_frame
            refine wpAnyH_ready (rs := [13]) (by kernel_rfl) (by simp) ?_
            refine AllReadyH.cons rfl (fun K hK => ?_) AllReadyH.nil
            go_simp
            refine hK.out _ _ ((World.cell?_setCell_other _ _ _ _ (fun e => hpe2 (Addr.mk.inj e).1)).trans ((blkc (HE.out w8 hb8)).1 0)) (fun hHeld => ?_)
            clear hK K
            refine wpAnyH_done (by kernel_rfl) ?_ _
            have hg9 : w8.grownBy (w8.setCell ⟨w.heap.size, 0, none⟩ (.slice a8 (p + m) c8)) (some (w.heap.size)) := turned_setL (w.heap.size) [.slice a8 (p + m) c8] 0 w8
            go_wp2_with fail
            go_meet
            case rel => exact ⟨a8, c8, hc8, bput hP8 _ rfl, (hg9.block _ (ob_ltB (HZ.out w8 hb8)) (fun e => hpz (Option.some.inj e))).trans (HZ.out w8 hb8), (hg9.block _ (ob_ltB (HE.out w8 hb8)) (fun e => hpe (Option.some.inj e))).trans (HE.out w8 hb8), hown8.kept hg9 (.inr (own_ne hown8 (by have := HSZ.out; omega)).symm), below_grownB (HU.out.trans (hb8.mono HU.out.size)) hg9 (HU.out.trans (hb8.mono HU.out.size)).size (fun q hq => by cases hq; exact Nat.le_refl _), Nat.le_trans hb8.size hg9.size⟩
        · skip
          have xb : v1.cell? ⟨w.heap.size, 0, none⟩ = some (.slice (some ⟨b, off, none⟩) n1 c1) := (blkc (HP.out v1.drew b1d)).1 0; go_simp
          refine hK.out _ _ ((blkc (HE.out _ b1d)).1 0) (fun hHeld => ?_)
          clear hK K
          try go_frame
          refine wpAnyH_take (i := 10) (oi := ⟨some 115, _, _, _, _, _⟩) (v := ?_) rfl (by kernel_rfl) (by kernel_rfl) (by kernel_rfl) (fun _ _ _ h => h) (Or.inl ⟨by rfl, ?_⟩) (by assumption) ?_
          rotate_left
          · intro w hSw; (try dsimp only at hSw); go_simp <;> (try with_reducible rfl)
          go_frame
          refine wpAnyH_ready (rs := [0]) (by kernel_rfl) (by simp) ?_
          refine AllReadyH.cons rfl (fun K hK => ?_) AllReadyH.nil
          go_simp
          refine hK.out _ _ ((blkc (HE.out _ ((b1.alloc b1.size (.cells #[] 3)).drew))).1 0) (fun hHeld => ?_)
          clear hK K
          have bm : Below U.heap.size U (v1.alloc (.cells #[] 3)).drew := (b1.alloc b1.size _).drew
          have mm : (v1.alloc (.cells #[] 3)).drew.ownsRow U.heap.size 3 1 (.slice (some ⟨v1.heap.size, 0, none⟩) 0 0) 0 (tcells ze []) := owns_drew (made_t (s := 1) (enc := ze) v1 b1.size rfl)
          refine wpAnyH_ready (rs := [5]) (by kernel_rfl) (by simp) ?_
          refine AllReadyH.cons rfl (fun K hK => ?_) AllReadyH.nil
          refine step_tg (d := 0) intZ zeE (w0 := U) (B := U.heap.size) (by rfl) _ _ (by rfl) _ 0 [] (by rfl) mm (some ⟨b, off, none⟩) p c1 (s.take p) (by rfl) (HT.out _ bm) (fun h => by cases h) (by omega) bm bm.size ?_; intro a6 c6 w6 _ hc6 _ hown6 hb6; rw [Nat.zero_add] at hown6 hc6 ⊢; rw [List.nil_append] at hown6
          refine hK.out _ _ ((blkc (HE.out _ hb6)).1 0) (fun hHeld => ?_)
          clear hK K
          try go_frame
          refine wpAnyH_ready (rs := [11]) (by kernel_rfl) (by simp) ?_
          refine AllReadyH.cons rfl (fun K hK => ?_) AllReadyH.nil
          refine step_tg (d := 0) intZ zeE (w0 := U) (B := U.heap.size) (by rfl) _ _ (by rfl) _ p (s.take p) (by rfl) hown6 (some ⟨b, off + p1, none⟩) m (c1 - p1) (s.drop p1) (by rfl) (HD.out _ hb6) (fun h => by cases h) (by omega) hb6 hb6.size ?_; intro a8 c8 w8 _ hc8 _ hown8 hb8; have hP8 := HP.out w8 hb8; have zc := (blkc hP8).1 0; have zf := (blkc hP8).2 0
          refine hK.out _ _ ((blkc (HE.out _ hb8)).1 0) (fun hHeld => ?_)
          clear hK K
          try go_frame
          refine wpAnyH_take (i := 12) (oi := ⟨some 117, _, _, _, _, _⟩) (v := ?_) rfl (by kernel_rfl) (by kernel_rfl) (by kernel_rfl) (fun _ _ _ h => h) (Or.inl ⟨by rfl, ?_⟩) (by assumption) ?_
          rotate_left
          · intro w hSw; (try dsimp only at hSw); go_simp <;> (try with_reducible rfl)
          go_frame
          refine wpAnyH_ready (rs := [13]) (by kernel_rfl) (by simp) ?_
          refine AllReadyH.cons rfl (fun K hK => ?_) AllReadyH.nil
          go_simp
          refine hK.out _ _ ((World.cell?_setCell_other _ _ _ _ (fun e => hpe2 (Addr.mk.inj e).1)).trans ((blkc (HE.out w8 hb8)).1 0)) (fun hHeld => ?_)
          clear hK K
          refine wpAnyH_done (by kernel_rfl) ?_ _
          have hg9 : w8.grownBy (w8.setCell ⟨w.heap.size, 0, none⟩ (.slice a8 (p + m) c8)) (some (w.heap.size)) := turned_setL (w.heap.size) [.slice a8 (p + m) c8] 0 w8
          go_wp2_with fail
          go_meet
          case rel => exact ⟨a8, c8, hc8, bput hP8 _ rfl, (hg9.block _ (ob_ltB (HZ.out w8 hb8)) (fun e => hpz (Option.some.inj e))).trans (HZ.out w8 hb8), (hg9.block _ (ob_ltB (HE.out w8 hb8)) (fun e => hpe (Option.some.inj e))).trans (HE.out w8 hb8), hown8.kept hg9 (.inr (own_ne hown8 (by have := HSZ.out; omega)).symm), below_grownB (HU.out.trans (hb8.mono HU.out.size)) hg9 (HU.out.trans (hb8.mono HU.out.size)).size (fun q hq => by cases hq; exact Nat.le_refl _), Nat.le_trans hb8.size hg9.size⟩
      · skip
        have xb : v1.cell? ⟨w.heap.size, 0, none⟩ = some (.slice (some ⟨b, off, none⟩) n1 c1) := (blkc (HP.out v1.drew b1d)).1 0; go_simp
        refine hK.out _ _ ((blkc (HE.out _ b1d)).1 0) (fun hHeld => ?_)
        clear hK K
        try go_frame
        refine wpAnyH_take (i := 10) (oi := ⟨some 115, _, _, _, _, _⟩) (v := ?_) rfl (by kernel_rfl) (by kernel_rfl) (by kernel_rfl) (fun _ _ _ h => h) (Or.inl ⟨by rfl, ?_⟩) (by assumption) ?_
        rotate_left
        · intro w hSw; (try dsimp only at hSw); go_simp <;> (try with_reducible rfl)
        go_frame
        refine wpAnyH_ready (rs := [0, 2]) (by kernel_rfl) (by simp) ?_
        refine AllReadyH.cons rfl (fun K hK => ?_) (AllReadyH.cons rfl (fun K hK => ?_) AllReadyH.nil)
        · skip
          go_simp
          refine hK.out _ _ ((blkc (HE.out _ ((b1.alloc b1.size (.cells #[] 3)).drew))).1 0) (fun hHeld => ?_)
          clear hK K
          have bm : Below U.heap.size U (v1.alloc (.cells #[] 3)).drew := (b1.alloc b1.size _).drew
          have mm : (v1.alloc (.cells #[] 3)).drew.ownsRow U.heap.size 3 1 (.slice (some ⟨v1.heap.size, 0, none⟩) 0 0) 0 (tcells ze []) := owns_drew (made_t (s := 1) (enc := ze) v1 b1.size rfl)
          refine wpAnyH_ready (rs := [2]) (by kernel_rfl) (by simp) ?_
          refine AllReadyH.cons rfl (fun K hK => ?_) AllReadyH.nil
          have xb : (v1.alloc (.cells #[] 3)).cell? ⟨w.heap.size, 0, none⟩ = some (.slice (some ⟨b, off, none⟩) n1 c1) := (blkc (HP.out (v1.alloc (.cells #[] 3)).drew bm)).1 0; go_simp
          refine hK.out _ _ ((blkc (HE.out _ bm)).1 0) (fun hHeld => ?_)
          clear hK K
          try go_frame
          refine wpAnyH_take (i := 4) (oi := ⟨some 109, _, _, _, _, _⟩) (v := ?_) rfl (by kernel_rfl) (by kernel_rfl) (by kernel_rfl) (fun _ _ _ h => h) (Or.inl ⟨by rfl, ?_⟩) (by assumption) ?_
          rotate_left
          · intro w hSw; (try dsimp only at hSw); go_simp <;> (try with_reducible rfl)
          go_frame
          refine wpAnyH_ready (rs := [5]) (by kernel_rfl) (by simp) ?_
          refine AllReadyH.cons rfl (fun K hK => ?_) AllReadyH.nil
          refine step_tg (d := 0) intZ zeE (w0 := U) (B := U.heap.size) (by rfl) _ _ (by rfl) _ 0 [] (by rfl) mm (some ⟨b, off, none⟩) p c1 (s.take p) (by rfl) (HT.out _ bm) (fun h => by cases h) (by omega) bm bm.size ?_; intro a6 c6 w6 _ hc6 _ hown6 hb6; rw [Nat.zero_add] at hown6 hc6 ⊢; rw [List.nil_append] at hown6
          refine hK.out _ _ ((blkc (HE.out _ hb6)).1 0) (fun hHeld => ?_)
          clear hK K
          try go_frame
          refine wpAnyH_ready (rs := [11]) (by kernel_rfl) (by simp) ?_
          refine AllReadyH.cons rfl (fun K hK => ?_) AllReadyH.nil
          refine step_tg (d := 0) intZ zeE (w0 := U) (B := U.heap.size) (by rfl) _ _ (by rfl) _ p (s.take p) (by rfl) hown6 (some ⟨b, off + p1, none⟩) m (c1 - p1) (s.drop p1) (by rfl) (HD.out _ hb6) (fun h => by cases h) (by omega) hb6 hb6.size ?_; intro a8 c8 w8 _ hc8 _ hown8 hb8; have hP8 := HP.out w8 hb8; have zc := (blkc hP8).1 0; have zf := (blkc hP8).2 0
          refine hK.out _ _ ((blkc (HE.out _ hb8)).1 0) (fun hHeld => ?_)
          clear hK K
          try go_frame
          refine wpAnyH_take (i := 12) (oi := ⟨some 117, _, _, _, _, _⟩) (v := ?_) rfl (by kernel_rfl) (by kernel_rfl) (by kernel_rfl) (fun _ _ _ h => h) (Or.inl ⟨by rfl, ?_⟩) (by assumption) ?_
          rotate_left
          · intro w hSw; (try dsimp only at hSw); go_simp <;> (try with_reducible rfl)
          go_frame
          refine wpAnyH_ready (rs := [13]) (by kernel_rfl) (by simp) ?_
          refine AllReadyH.cons rfl (fun K hK => ?_) AllReadyH.nil
          go_simp
          refine hK.out _ _ ((World.cell?_setCell_other _ _ _ _ (fun e => hpe2 (Addr.mk.inj e).1)).trans ((blkc (HE.out w8 hb8)).1 0)) (fun hHeld => ?_)
          clear hK K
          refine wpAnyH_done (by kernel_rfl) ?_ _
          have hg9 : w8.grownBy (w8.setCell ⟨w.heap.size, 0, none⟩ (.slice a8 (p + m) c8)) (some (w.heap.size)) := turned_setL (w.heap.size) [.slice a8 (p + m) c8] 0 w8
          go_wp2_with fail
          go_meet
          case rel => exact ⟨a8, c8, hc8, bput hP8 _ rfl, (hg9.block _ (ob_ltB (HZ.out w8 hb8)) (fun e => hpz (Option.some.inj e))).trans (HZ.out w8 hb8), (hg9.block _ (ob_ltB (HE.out w8 hb8)) (fun e => hpe (Option.some.inj e))).trans (HE.out w8 hb8), hown8.kept hg9 (.inr (own_ne hown8 (by have := HSZ.out; omega)).symm), below_grownB (HU.out.trans (hb8.mono HU.out.size)) hg9 (HU.out.trans (hb8.mono HU.out.size)).size (fun q hq => by cases hq; exact Nat.le_refl _), Nat.le_trans hb8.size hg9.size⟩
        · skip
          have xb : v1.cell? ⟨w.heap.size, 0, none⟩ = some (.slice (some ⟨b, off, none⟩) n1 c1) := (blkc (HP.out v1.drew b1d)).1 0; go_simp
          refine hK.out _ _ ((blkc (HE.out _ b1d)).1 0) (fun hHeld => ?_)
          clear hK K
          try go_frame
          refine wpAnyH_take (i := 4) (oi := ⟨some 109, _, _, _, _, _⟩) (v := ?_) rfl (by kernel_rfl) (by kernel_rfl) (by kernel_rfl) (fun _ _ _ h => h) (Or.inl ⟨by rfl, ?_⟩) (by assumption) ?_
          rotate_left
          · intro w hSw; (try dsimp only at hSw); go_simp <;> (try with_reducible rfl)
          go_frame
          refine wpAnyH_ready (rs := [0]) (by kernel_rfl) (by simp) ?_
          refine AllReadyH.cons rfl (fun K hK => ?_) AllReadyH.nil
          go_simp
          refine hK.out _ _ ((blkc (HE.out _ ((b1.alloc b1.size (.cells #[] 3)).drew))).1 0) (fun hHeld => ?_)
          clear hK K
          have bm : Below U.heap.size U (v1.alloc (.cells #[] 3)).drew := (b1.alloc b1.size _).drew
          have mm : (v1.alloc (.cells #[] 3)).drew.ownsRow U.heap.size 3 1 (.slice (some ⟨v1.heap.size, 0, none⟩) 0 0) 0 (tcells ze []) := owns_drew (made_t (s := 1) (enc := ze) v1 b1.size rfl)
          refine wpAnyH_ready (rs := [5]) (by kernel_rfl) (by simp) ?_
          refine AllReadyH.cons rfl (fun K hK => ?_) AllReadyH.nil
          refine step_tg (d := 0) intZ zeE (w0 := U) (B := U.heap.size) (by rfl) _ _ (by rfl) _ 0 [] (by rfl) mm (some ⟨b, off, none⟩) p c1 (s.take p) (by rfl) (HT.out _ bm) (fun h => by cases h) (by omega) bm bm.size ?_; intro a6 c6 w6 _ hc6 _ hown6 hb6; rw [Nat.zero_add] at hown6 hc6 ⊢; rw [List.nil_append] at hown6
          refine hK.out _ _ ((blkc (HE.out _ hb6)).1 0) (fun hHeld => ?_)
          clear hK K
          try go_frame
          refine wpAnyH_ready (rs := [11]) (by kernel_rfl) (by simp) ?_
          refine AllReadyH.cons rfl (fun K hK => ?_) AllReadyH.nil
          refine step_tg (d := 0) intZ zeE (w0 := U) (B := U.heap.size) (by rfl) _ _ (by rfl) _ p (s.take p) (by rfl) hown6 (some ⟨b, off + p1, none⟩) m (c1 - p1) (s.drop p1) (by rfl) (HD.out _ hb6) (fun h => by cases h) (by omega) hb6 hb6.size ?_; intro a8 c8 w8 _ hc8 _ hown8 hb8; have hP8 := HP.out w8 hb8; have zc := (blkc hP8).1 0; have zf := (blkc hP8).2 0
          refine hK.out _ _ ((blkc (HE.out _ hb8)).1 0) (fun hHeld => ?_)
          clear hK K
          try go_frame
          refine wpAnyH_take (i := 12) (oi := ⟨some 117, _, _, _, _, _⟩) (v := ?_) rfl (by kernel_rfl) (by kernel_rfl) (by kernel_rfl) (fun _ _ _ h => h) (Or.inl ⟨by rfl, ?_⟩) (by assumption) ?_
          rotate_left
          · intro w hSw; (try dsimp only at hSw); go_simp <;> (try with_reducible rfl)
          go_frame
          refine wpAnyH_ready (rs := [13]) (by kernel_rfl) (by simp) ?_
          refine AllReadyH.cons rfl (fun K hK => ?_) AllReadyH.nil
          go_simp
          refine hK.out _ _ ((World.cell?_setCell_other _ _ _ _ (fun e => hpe2 (Addr.mk.inj e).1)).trans ((blkc (HE.out w8 hb8)).1 0)) (fun hHeld => ?_)
          clear hK K
          refine wpAnyH_done (by kernel_rfl) ?_ _
          have hg9 : w8.grownBy (w8.setCell ⟨w.heap.size, 0, none⟩ (.slice a8 (p + m) c8)) (some (w.heap.size)) := turned_setL (w.heap.size) [.slice a8 (p + m) c8] 0 w8
          go_wp2_with fail
          go_meet
          case rel => exact ⟨a8, c8, hc8, bput hP8 _ rfl, (hg9.block _ (ob_ltB (HZ.out w8 hb8)) (fun e => hpz (Option.some.inj e))).trans (HZ.out w8 hb8), (hg9.block _ (ob_ltB (HE.out w8 hb8)) (fun e => hpe (Option.some.inj e))).trans (HE.out w8 hb8), hown8.kept hg9 (.inr (own_ne hown8 (by have := HSZ.out; omega)).symm), below_grownB (HU.out.trans (hb8.mono HU.out.size)) hg9 (HU.out.trans (hb8.mono HU.out.size)).size (fun q hq => by cases hq; exact Nat.le_refl _), Nat.le_trans hb8.size hg9.size⟩
  case rest =>
    obtain ⟨g, d, hd, hP9, hZ9, hE9, hO9, hB9, hVU⟩ := hcut
    clear x0 x1 x2 x3 x4 x5 x6 x7 x8 x9 x10 y0 y1 y2 y3 y4 y5 y6 y7 y8 y9 y10 y11
    obtain ⟨V, rfl⟩ : ∃ V, V = wc := ⟨_, rfl⟩
    have hmv := HM2.out V hB9.out
    have hy := (blkc hE9.out).1
    have y0 := hy 0
    have y1 := hy 1
    have y2 := hy 2
    have y3 := hy 3
    have y4 := hy 4
    have y5 := hy 5
    have y6 := hy 6
    have y7 := hy 7
    have y8 := hy 8
    have y9 := hy 9
    have y10 := hy 10
    have y11 := hy 11
    clear hy
    have x0 := (blkc hP9.out).1 0
    have x1 := (blkc hP9.out).1 1
    have x2 := (blkc hP9.out).1 2
    have x3 := (blkc hP9.out).1 3
    have x4 := (blkc hP9.out).1 4
    have x5 := (blkc hP9.out).1 5
    have x6 := (blkc hP9.out).1 6
    have x7 := (blkc hP9.out).1 7
    have x8 := (blkc hP9.out).1 8
    have x9 := (blkc hP9.out).1 9
    have x10 := (blkc hP9.out).1 10
    go_upto_region 34 with (first
      | (go_at_call 84; go_must (refine hmv.mono ?_; rintro e v5 ⟨ga, gd, rfl, how, h5⟩; have hP5 := (h5.block _ (ob_ltB hP9.out)).trans hP9.out; have xc := (blkc hP5).1 1; have xf := (blkc hP5).2 1)))
    have hb5 := hB9.out.trans (h5.mono hB9.out.size)
    have hP6 := bput hP5 (.slice ga (n2 + 1) gd) (i := 1) rfl
    have hg6 : v5.grownBy (v5.setCell ⟨w.heap.size, 1, none⟩ (.slice ga (n2 + 1) gd)) (some (w.heap.size)) := turned_setL (w.heap.size) [.slice ga (n2 + 1) gd] 1 v5
    have hZ5 := (h5.block _ (ob_ltB hZ9.out)).trans hZ9.out
    obtain ⟨WF, hWF⟩ : ∃ WF, WF = v5.setCell ⟨w.heap.size, 1, none⟩ (.slice ga (n2 + 1) gd) := ⟨_, rfl⟩
    have hPf : Hid (WF.heap[w.heap.size]? = some (.cells #[.slice g (p + m) d, .slice ga (n2 + 1) gd, .slice a3 n3 c3, .slice a4 n4 c4, .int .i64 i1, .int .i64 i2, .int .i64 i3, .int .i64 i4, .int .i64 i5, .int .i64 i6, .int .i64 i7] 29 (0, 0))) := (by rw [hWF]; exact hP6 : _ = _)
    have hZf : Hid (WF.heap[w.heap.size + 1 + 1]? = some (.cells #[.slice none 0 0, .slice none 0 0, .slice none 0 0, .slice none 0 0, .int .i64 0, .int .i64 0, .int .i64 0, .int .i64 0, .int .i64 0, .int .i64 0, .int .i64 0] 29 (0, 0))) := (by rw [hWF]; exact (hg6.block _ (ob_ltB hZ5) (fun e => hpz (Option.some.inj e))).trans hZ5 : _ = _)
    have hBf : Hid (Below w.heap.size w WF) := (by rw [hWF]; exact below_grownB hb5 hg6 hb5.size (fun q hq => by cases hq; exact Nat.le_refl _) : Below _ _ _)
    have hOf : Hid (WF.ownsRow U.heap.size 3 1 (.slice g (p + m) d) (p + m) (tcells ze (s.take p ++ s.drop p1))) := (by rw [hWF]; exact (own_keptB hO9.out h5).kept hg6 (.inr (own_ne hO9.out (by have := HSZ.out; omega)).symm) : World.ownsRow _ _ _ _ _ _ _)
    have hQf : Hid (WF.ownsRow U.heap.size 53 2 (.slice ga (n2 + 1) gd) (n2 + 1) (tcells me (ms ++ [(i9, n9)]))) := (by rw [hWF]; exact (lowns_base how hVU).kept hg6 (.inr (own_ne (lowns_base how hVU) (by have := HSZ.out; omega)).symm) : World.ownsRow _ _ _ _ _ _ _)
    rw [← hWF]
    clear hWF hP6 hg6 hZ5 hP5 xc xf x0 x1 x2 x3 x4 x5 x6 x7 x8 x9 x10 y0 y1 y2 y3 y4 y5 y6 y7 y8 y9 y10 y11
    have d0 := (blkc hPf.out).1 0
    have d1 := (blkc hPf.out).1 1
    have d2 := (blkc hPf.out).1 2
    have d3 := (blkc hPf.out).1 3
    have d4 := (blkc hPf.out).1 4
    have d5 := (blkc hPf.out).1 5
    have d6 := (blkc hPf.out).1 6
    have d7 := (blkc hPf.out).1 7
    have d8 := (blkc hPf.out).1 8
    have d9 := (blkc hPf.out).1 9
    have d10 := (blkc hPf.out).1 10
    have e0 := (blkc hZf.out).1 0
    have e1 := (blkc hZf.out).1 1
    have e2 := (blkc hZf.out).1 2
    have e3 := (blkc hZf.out).1 3
    have e4 := (blkc hZf.out).1 4
    have e5 := (blkc hZf.out).1 5
    have e6 := (blkc hZf.out).1 6
    have e7 := (blkc hZf.out).1 7
    have e8 := (blkc hZf.out).1 8
    have e9 := (blkc hZf.out).1 9
    have e10 := (blkc hZf.out).1 10
    have fz0 := (blkc hZf.out).2 0
    have fz1 := (blkc hZf.out).2 1
    have fz2 := (blkc hZf.out).2 2
    have fz3 := (blkc hZf.out).2 3
    have fz4 := (blkc hZf.out).2 4
    have fz5 := (blkc hZf.out).2 5
    have fz6 := (blkc hZf.out).2 6
    have fz7 := (blkc hZf.out).2 7
    have fz8 := (blkc hZf.out).2 8
    have fz9 := (blkc hZf.out).2 9
    have fz10 := (blkc hZf.out).2 10
    go_wp2
    have B10 : (((((((((((WF.setCell ⟨w.heap.size + 1 + 1, 0, none⟩ (.slice g (p + m) d)).setCell ⟨w.heap.size + 1 + 1, 1, none⟩ (.slice ga (n2 + 1) gd)).setCell ⟨w.heap.size + 1 + 1, 2, none⟩ (.slice a3 n3 c3)).setCell ⟨w.heap.size + 1 + 1, 3, none⟩ (.slice a4 n4 c4)).setCell ⟨w.heap.size + 1 + 1, 4, none⟩ (.int .i64 i1)).setCell ⟨w.heap.size + 1 + 1, 5, none⟩ (.int .i64 i2)).setCell ⟨w.heap.size + 1 + 1, 6, none⟩ (.int .i64 i3)).setCell ⟨w.heap.size + 1 + 1, 7, none⟩ (.int .i64 i4)).setCell ⟨w.heap.size + 1 + 1, 8, none⟩ (.int .i64 i5)).setCell ⟨w.heap.size + 1 + 1, 9, none⟩ (.int .i64 i6)).setCell ⟨w.heap.size + 1 + 1, 10, none⟩ (.int .i64 i7)).heap[w.heap.size + 1 + 1]? = some (.cells #[.slice g (p + m) d, .slice ga (n2 + 1) gd, .slice a3 n3 c3, .slice a4 n4 c4, .int .i64 i1, .int .i64 i2, .int .i64 i3, .int .i64 i4, .int .i64 i5, .int .i64 i6, .int .i64 i7] 29 (0, 0)) := bput_new [.slice g (p + m) d, .slice ga (n2 + 1) gd, .slice a3 n3 c3, .slice a4 n4 c4, .int .i64 i1, .int .i64 i2, .int .i64 i3, .int .i64 i4, .int .i64 i5, .int .i64 i6, .int .i64 i7] hZf.out rfl
    have hgr : WF.grownBy (((((((((((WF.setCell ⟨w.heap.size + 1 + 1, 0, none⟩ (.slice g (p + m) d)).setCell ⟨w.heap.size + 1 + 1, 1, none⟩ (.slice ga (n2 + 1) gd)).setCell ⟨w.heap.size + 1 + 1, 2, none⟩ (.slice a3 n3 c3)).setCell ⟨w.heap.size + 1 + 1, 3, none⟩ (.slice a4 n4 c4)).setCell ⟨w.heap.size + 1 + 1, 4, none⟩ (.int .i64 i1)).setCell ⟨w.heap.size + 1 + 1, 5, none⟩ (.int .i64 i2)).setCell ⟨w.heap.size + 1 + 1, 6, none⟩ (.int .i64 i3)).setCell ⟨w.heap.size + 1 + 1, 7, none⟩ (.int .i64 i4)).setCell ⟨w.heap.size + 1 + 1, 8, none⟩ (.int .i64 i5)).setCell ⟨w.heap.size + 1 + 1, 9, none⟩ (.int .i64 i6)).setCell ⟨w.heap.size + 1 + 1, 10, none⟩ (.int .i64 i7)) (some (w.heap.size + 1 + 1)) := turned_setL (w.heap.size + 1 + 1) [.slice g (p + m) d, .slice ga (n2 + 1) gd, .slice a3 n3 c3, .slice a4 n4 c4, .int .i64 i1, .int .i64 i2, .int .i64 i3, .int .i64 i4, .int .i64 i5, .int .i64 i6, .int .i64 i7] 0 WF
    have hbF := below_grownB hBf.out hgr hBf.out.size (fun q hq => by cases hq; omega)
    have u0 := (blkc B10).1 0
    have u1 := (blkc B10).1 1
    have u2 := (blkc B10).1 2
    have u3 := (blkc B10).1 3
    have u4 := (blkc B10).1 4
    have u5 := (blkc B10).1 5
    have u6 := (blkc B10).1 6
    have u7 := (blkc B10).1 7
    have u8 := (blkc B10).1 8
    have u9 := (blkc B10).1 9
    have u10 := (blkc B10).1 10
    refine bodyPost_ret (v := .tuple #[.agg #[.slice g (p + m) d, .slice ga (n2 + 1) gd, .slice a3 n3 c3, .slice a4 n4 c4, .int .i64 i1, .int .i64 i2, .int .i64 i3, .int .i64 i4, .int .i64 i5, .int .i64 i6, .int .i64 i7], .bool true]) (by simp [results, Tryz.results36, go_sem, u0, u1, u2, u3, u4, u5, u6, u7, u8, u9, u10]) rfl ⟨g, d, ga, gd, rfl, hd, (lowns_base (hOf.out.kept hgr (.inr (own_ne hOf.out (by have := HSZ.out; omega)).symm)) HU.out.size), (lowns_base (hQf.out.kept hgr (.inr (own_ne hQf.out (by have := HSZ.out; omega)).symm)) HU.out.size), hbF⟩
end Go.Proofs.YtmodogmjfbcddaaGreat
