/- Apply of the program. -/
import Derived.Test.YtmodogmjfbcddaaGreatRO
namespace Go.Proofs.YtmodogmjfbcddaaGreat
open Go.RowKit

theorem RIn.below {w w' : World} {a1 : Option Addr} {n1 c1 : Nat} {a2 : Option Addr} {n2 c2 : Nat} {a3 : Option Addr} {n3 c3 : Nat} {a4 : Option Addr} {n4 c4 : Nat} {r : Ro.R} (h : RIn w a1 n1 c1 a2 n2 c2 a3 n3 c3 a4 n4 c4 r) (hb : Below w.heap.size w w') : RIn w' a1 n1 c1 a2 n2 c2 a3 n3 c3 a4 n4 c4 r :=
  ⟨h.r1.below hb (Nat.le_refl _), h.r2.below hb (Nat.le_refl _), h.r3.below hb (Nat.le_refl _), h.r4.below hb (Nat.le_refl _), h.z1, h.z2, h.z3, h.z4, h.m1, h.m2, h.m3, h.m4, h.c3, h.texts⟩
theorem rown_zero (B : Nat) (w : World) : ROwn B w none 0 0 none 0 0 none 0 0 none 0 0 Ro.zero := ⟨⟨rfl, .inl ⟨rfl, rfl⟩⟩, ⟨rfl, .inl ⟨rfl, rfl⟩⟩, ⟨rfl, .inl ⟨rfl, rfl⟩⟩, ⟨rfl, .inl ⟨rfl, rfl⟩⟩⟩
/-- what Apply tells -/
def ApRes (w : World) (x : Ro.R) (err : Int) (e : Ending) (w' : World) : Prop :=
  ∃ a1 n1 c1 a2 n2 c2 a3 n3 c3 a4 n4 c4, e = .returned (.tuple #[.agg #[.slice a1 n1 c1, .slice a2 n2 c2, .slice a3 n3 c3, .slice a4 n4 c4, .int .i64 x.log, .int .i64 x.index, .int .i64 x.term, .int .i64 x.ht, .int .i64 x.hv, .int .i64 x.hc, .int .i64 x.mark], .int .i64 err]) ∧ ROwn w.heap.size w' a1 n1 c1 a2 n2 c2 a3 n3 c3 a4 n4 c4 x ∧ Below w.heap.size w w'
theorem rcheck_in {r : Ro.R} (a1 : Option Addr) (n1 c1 : Nat) (a2 : Option Addr) (n2 c2 : Nat) (a3 : Option Addr) (n3 c3 : Nat) (a4 : Option Addr) (n4 c4 : Nat) (w : World) (h : RIn w a1 n1 c1 a2 n2 c2 a3 n3 c3 a4 n4 c4 r) (R : Int) (hR : R = if Ro.check r = true then 0 else 1) :
    Calls Tryz.prog 11 #[.agg #[.slice a1 n1 c1, .slice a2 n2 c2, .slice a3 n3 c3, .slice a4 n4 c4, .int .i64 r.log, .int .i64 r.index, .int .i64 r.term, .int .i64 r.ht, .int .i64 r.hv, .int .i64 r.hc, .int .i64 r.mark]] w fun e w' => e = .returned (.int .i64 R) ∧ Below w.heap.size w w' := by
  have m1 := h.m1; have m2 := h.m2; have m4 := h.m4
  exact rcheck_any r a1 n1 c1 a2 n2 c2 a3 n3 c3 a4 n4 c4 w (by omega) (by omega) (by omega) h.c3 h.r1 h.r2 h.r3 h.r4 R hR

set_option maxRecDepth 100000 in
set_option maxHeartbeats 2000000 in
theorem rapply_no (s : List Int) (ms : List (Int × Int)) (ts : List Lv.T) (ks : List (Int × Int × Int)) (a1 : Option Addr) (n1 c1 : Nat) (a2 : Option Addr) (n2 c2 : Nat) (a3 : Option Addr) (n3 c3 : Nat) (a4 : Option Addr) (n4 c4 : Nat) (i1 i2 i3 i4 i5 i6 i7 : Int) (ad : Option Addr) (len cap : Nat) (l : List Ed.E) (w : World) (h : RIn w a1 n1 c1 a2 n2 c2 a3 n3 c3 a4 n4 c4 ⟨s, ms, ts, ks, i1, i2, i3, i4, i5, i6, i7⟩) (hl : ERow w ad len l) (hlen : len ≤ 1000) (hc : (Ro.check ⟨s, ms, ts, ks, i1, i2, i3, i4, i5, i6, i7⟩ && l.all Ed.may) = false) :
    Calls Tryz.prog 10 #[.agg #[.slice a1 n1 c1, .slice a2 n2 c2, .slice a3 n3 c3, .slice a4 n4 c4, .int .i64 i1, .int .i64 i2, .int .i64 i3, .int .i64 i4, .int .i64 i5, .int .i64 i6, .int .i64 i7], .slice ad len cap] w (ApRes w Ro.zero 1) := by
  obtain ⟨W0, hW0⟩ : ∃ W0, W0 = (w.alloc (.cells #[.slice a1 n1 c1, .slice a2 n2 c2, .slice a3 n3 c3, .slice a4 n4 c4, .int .i64 i1, .int .i64 i2, .int .i64 i3, .int .i64 i4, .int .i64 i5, .int .i64 i6, .int .i64 i7] 29)).alloc (.cells #[.slice none 0 0, .slice none 0 0, .slice none 0 0, .slice none 0 0, .int .i64 0, .int .i64 0, .int .i64 0, .int .i64 0, .int .i64 0, .int .i64 0, .int .i64 0] 29) := ⟨_, rfl⟩
  have hb0 : Below w.heap.size w W0 := by rw [hW0]; exact below_two _ _ _
  obtain ⟨p, hp⟩ : ∃ p, p = w.heap.size := ⟨_, rfl⟩
  have e0 : W0.heap[p]? = some (.cells #[.slice a1 n1 c1, .slice a2 n2 c2, .slice a3 n3 c3, .slice a4 n4 c4, .int .i64 i1, .int .i64 i2, .int .i64 i3, .int .i64 i4, .int .i64 i5, .int .i64 i6, .int .i64 i7] 29 (0, 0)) := by
    rw [hW0, hp]; exact (Below.heap_alloc _ _ _ (by simp)).trans (heap_alloc_new _ _)
  have e1 : W0.heap[p + 1]? = some (.cells #[.slice none 0 0, .slice none 0 0, .slice none 0 0, .slice none 0 0, .int .i64 0, .int .i64 0, .int .i64 0, .int .i64 0, .int .i64 0, .int .i64 0, .int .i64 0] 29 (0, 0)) := by
    rw [hW0, hp]; have := heap_alloc_new (w.alloc (.cells #[.slice a1 n1 c1, .slice a2 n2 c2, .slice a3 n3 c3, .slice a4 n4 c4, .int .i64 i1, .int .i64 i2, .int .i64 i3, .int .i64 i4, .int .i64 i5, .int .i64 i6, .int .i64 i7] 29)) (.cells #[.slice none 0 0, .slice none 0 0, .slice none 0 0, .slice none 0 0, .int .i64 0, .int .i64 0, .int .i64 0, .int .i64 0, .int .i64 0, .int .i64 0, .int .i64 0] 29); rwa [World.size_alloc] at this
  have HI : Hid (∀ W, Below w.heap.size w W → RIn W a1 n1 c1 a2 n2 c2 a3 n3 c3 a4 n4 c4 ⟨s, ms, ts, ks, i1, i2, i3, i4, i5, i6, i7⟩) := (fun W hb => h.below hb : ∀ W, _ → _)
  have hpp : ¬ (p + 1 = p) := by omega
  have hpp2 : ¬ (p = p + 1) := by omega
  have HP : Hid (p = w.heap.size) := hp
  have E0 : Hid (W0.heap[p]? = some (.cells #[.slice a1 n1 c1, .slice a2 n2 c2, .slice a3 n3 c3, .slice a4 n4 c4, .int .i64 i1, .int .i64 i2, .int .i64 i3, .int .i64 i4, .int .i64 i5, .int .i64 i6, .int .i64 i7] 29 (0, 0))) := e0
  have E1 : Hid (W0.heap[p + 1]? = some (.cells #[.slice none 0 0, .slice none 0 0, .slice none 0 0, .slice none 0 0, .int .i64 0, .int .i64 0, .int .i64 0, .int .i64 0, .int .i64 0, .int .i64 0, .int .i64 0] 29 (0, 0))) := e1
  have HB0 : Hid (Below w.heap.size w W0) := hb0
  have HW0 : Hid (W0 = (w.alloc (.cells #[.slice a1 n1 c1, .slice a2 n2 c2, .slice a3 n3 c3, .slice a4 n4 c4, .int .i64 i1, .int .i64 i2, .int .i64 i3, .int .i64 i4, .int .i64 i5, .int .i64 i6, .int .i64 i7] 29)).alloc (.cells #[.slice none 0 0, .slice none 0 0, .slice none 0 0, .slice none 0 0, .int .i64 0, .int .i64 0, .int .i64 0, .int .i64 0, .int .i64 0, .int .i64 0, .int .i64 0] 29)) := hW0
  clear hW0
  have hco := fun W hb => rcontains_e ad len cap l W (by omega) (hl.below hb (Nat.le_refl _)) (!l.all Ed.may) rfl
  have hck := fun R hR W hb => rcheck_in (r := ⟨s, ms, ts, ks, i1, i2, i3, i4, i5, i6, i7⟩) a1 n1 c1 a2 n2 c2 a3 n3 c3 a4 n4 c4 W (HI.out W hb) R hR
  have x0 := (blkc e0).1 0
  have x1 := (blkc e0).1 1
  have x2 := (blkc e0).1 2
  have x3 := (blkc e0).1 3
  have x4 := (blkc e0).1 4
  have x5 := (blkc e0).1 5
  have x6 := (blkc e0).1 6
  have x7 := (blkc e0).1 7
  have x8 := (blkc e0).1 8
  have x9 := (blkc e0).1 9
  have x10 := (blkc e0).1 10
  clear e0 e1 hb0 h hl hp
  cases hk : Ro.check ⟨s, ms, ts, ks, i1, i2, i3, i4, i5, i6, i7⟩ with
  | false =>
    have hc1 := fun W hb => hck 1 (by rw [hk]; rfl) W hb
    clear hck hk hc hco
    go_enter Tryz.func10, Tryz.ntmps10
    go_wp2_with fail
    rw [← HP.out, ← HW0.out]
    refine (hc1 _ HB0.out).mono ?_
    ( rintro e w1 ⟨rfl, hb1⟩; have hw1 := HB0.out.trans (hb1.mono HB0.out.size); have hQ1 := (hb1.block _ (ob_ltB E1.out)).trans E1.out; have hG1 := (hb1.block _ (ob_ltB E0.out)).trans E0.out; clear x0 x1 x2 x3 x4 x5 x6 x7 x8 x9 x10; have y0 := (blkc hQ1).1 0; have z0 := (blkc hQ1).2 0; have y1 := (blkc hQ1).1 1; have z1 := (blkc hQ1).2 1; have y2 := (blkc hQ1).1 2; have z2 := (blkc hQ1).2 2; have y3 := (blkc hQ1).1 3; have z3 := (blkc hQ1).2 3; have y4 := (blkc hQ1).1 4; have z4 := (blkc hQ1).2 4; have y5 := (blkc hQ1).1 5; have z5 := (blkc hQ1).2 5; have y6 := (blkc hQ1).1 6; have z6 := (blkc hQ1).2 6; have y7 := (blkc hQ1).1 7; have z7 := (blkc hQ1).2 7; have y8 := (blkc hQ1).1 8; have z8 := (blkc hQ1).2 8; have y9 := (blkc hQ1).1 9; have z9 := (blkc hQ1).2 9; have y10 := (blkc hQ1).1 10; have z10 := (blkc hQ1).2 10)
    go_wp2
    have B0 : (w1.setCell ⟨p + 1, 0, none⟩ (.slice none 0 0)).heap[p + 1]? = some (.cells #[.slice none 0 0, .slice none 0 0, .slice none 0 0, .slice none 0 0, .int .i64 0, .int .i64 0, .int .i64 0, .int .i64 0, .int .i64 0, .int .i64 0, .int .i64 0] 29 (0, 0)) := bput hQ1 _ rfl
    have B1 : ((w1.setCell ⟨p + 1, 0, none⟩ (.slice none 0 0)).setCell ⟨p + 1, 1, none⟩ (.slice none 0 0)).heap[p + 1]? = some (.cells #[.slice none 0 0, .slice none 0 0, .slice none 0 0, .slice none 0 0, .int .i64 0, .int .i64 0, .int .i64 0, .int .i64 0, .int .i64 0, .int .i64 0, .int .i64 0] 29 (0, 0)) := bput B0 _ rfl
    have B2 : (((w1.setCell ⟨p + 1, 0, none⟩ (.slice none 0 0)).setCell ⟨p + 1, 1, none⟩ (.slice none 0 0)).setCell ⟨p + 1, 2, none⟩ (.slice none 0 0)).heap[p + 1]? = some (.cells #[.slice none 0 0, .slice none 0 0, .slice none 0 0, .slice none 0 0, .int .i64 0, .int .i64 0, .int .i64 0, .int .i64 0, .int .i64 0, .int .i64 0, .int .i64 0] 29 (0, 0)) := bput B1 _ rfl
    have B3 : ((((w1.setCell ⟨p + 1, 0, none⟩ (.slice none 0 0)).setCell ⟨p + 1, 1, none⟩ (.slice none 0 0)).setCell ⟨p + 1, 2, none⟩ (.slice none 0 0)).setCell ⟨p + 1, 3, none⟩ (.slice none 0 0)).heap[p + 1]? = some (.cells #[.slice none 0 0, .slice none 0 0, .slice none 0 0, .slice none 0 0, .int .i64 0, .int .i64 0, .int .i64 0, .int .i64 0, .int .i64 0, .int .i64 0, .int .i64 0] 29 (0, 0)) := bput B2 _ rfl
    have B4 : (((((w1.setCell ⟨p + 1, 0, none⟩ (.slice none 0 0)).setCell ⟨p + 1, 1, none⟩ (.slice none 0 0)).setCell ⟨p + 1, 2, none⟩ (.slice none 0 0)).setCell ⟨p + 1, 3, none⟩ (.slice none 0 0)).setCell ⟨p + 1, 4, none⟩ (.int .i64 0)).heap[p + 1]? = some (.cells #[.slice none 0 0, .slice none 0 0, .slice none 0 0, .slice none 0 0, .int .i64 0, .int .i64 0, .int .i64 0, .int .i64 0, .int .i64 0, .int .i64 0, .int .i64 0] 29 (0, 0)) := bput B3 _ rfl
    have B5 : ((((((w1.setCell ⟨p + 1, 0, none⟩ (.slice none 0 0)).setCell ⟨p + 1, 1, none⟩ (.slice none 0 0)).setCell ⟨p + 1, 2, none⟩ (.slice none 0 0)).setCell ⟨p + 1, 3, none⟩ (.slice none 0 0)).setCell ⟨p + 1, 4, none⟩ (.int .i64 0)).setCell ⟨p + 1, 5, none⟩ (.int .i64 0)).heap[p + 1]? = some (.cells #[.slice none 0 0, .slice none 0 0, .slice none 0 0, .slice none 0 0, .int .i64 0, .int .i64 0, .int .i64 0, .int .i64 0, .int .i64 0, .int .i64 0, .int .i64 0] 29 (0, 0)) := bput B4 _ rfl
    have B6 : (((((((w1.setCell ⟨p + 1, 0, none⟩ (.slice none 0 0)).setCell ⟨p + 1, 1, none⟩ (.slice none 0 0)).setCell ⟨p + 1, 2, none⟩ (.slice none 0 0)).setCell ⟨p + 1, 3, none⟩ (.slice none 0 0)).setCell ⟨p + 1, 4, none⟩ (.int .i64 0)).setCell ⟨p + 1, 5, none⟩ (.int .i64 0)).setCell ⟨p + 1, 6, none⟩ (.int .i64 0)).heap[p + 1]? = some (.cells #[.slice none 0 0, .slice none 0 0, .slice none 0 0, .slice none 0 0, .int .i64 0, .int .i64 0, .int .i64 0, .int .i64 0, .int .i64 0, .int .i64 0, .int .i64 0] 29 (0, 0)) := bput B5 _ rfl
    have B7 : ((((((((w1.setCell ⟨p + 1, 0, none⟩ (.slice none 0 0)).setCell ⟨p + 1, 1, none⟩ (.slice none 0 0)).setCell ⟨p + 1, 2, none⟩ (.slice none 0 0)).setCell ⟨p + 1, 3, none⟩ (.slice none 0 0)).setCell ⟨p + 1, 4, none⟩ (.int .i64 0)).setCell ⟨p + 1, 5, none⟩ (.int .i64 0)).setCell ⟨p + 1, 6, none⟩ (.int .i64 0)).setCell ⟨p + 1, 7, none⟩ (.int .i64 0)).heap[p + 1]? = some (.cells #[.slice none 0 0, .slice none 0 0, .slice none 0 0, .slice none 0 0, .int .i64 0, .int .i64 0, .int .i64 0, .int .i64 0, .int .i64 0, .int .i64 0, .int .i64 0] 29 (0, 0)) := bput B6 _ rfl
    have B8 : (((((((((w1.setCell ⟨p + 1, 0, none⟩ (.slice none 0 0)).setCell ⟨p + 1, 1, none⟩ (.slice none 0 0)).setCell ⟨p + 1, 2, none⟩ (.slice none 0 0)).setCell ⟨p + 1, 3, none⟩ (.slice none 0 0)).setCell ⟨p + 1, 4, none⟩ (.int .i64 0)).setCell ⟨p + 1, 5, none⟩ (.int .i64 0)).setCell ⟨p + 1, 6, none⟩ (.int .i64 0)).setCell ⟨p + 1, 7, none⟩ (.int .i64 0)).setCell ⟨p + 1, 8, none⟩ (.int .i64 0)).heap[p + 1]? = some (.cells #[.slice none 0 0, .slice none 0 0, .slice none 0 0, .slice none 0 0, .int .i64 0, .int .i64 0, .int .i64 0, .int .i64 0, .int .i64 0, .int .i64 0, .int .i64 0] 29 (0, 0)) := bput B7 _ rfl
    have B9 : ((((((((((w1.setCell ⟨p + 1, 0, none⟩ (.slice none 0 0)).setCell ⟨p + 1, 1, none⟩ (.slice none 0 0)).setCell ⟨p + 1, 2, none⟩ (.slice none 0 0)).setCell ⟨p + 1, 3, none⟩ (.slice none 0 0)).setCell ⟨p + 1, 4, none⟩ (.int .i64 0)).setCell ⟨p + 1, 5, none⟩ (.int .i64 0)).setCell ⟨p + 1, 6, none⟩ (.int .i64 0)).setCell ⟨p + 1, 7, none⟩ (.int .i64 0)).setCell ⟨p + 1, 8, none⟩ (.int .i64 0)).setCell ⟨p + 1, 9, none⟩ (.int .i64 0)).heap[p + 1]? = some (.cells #[.slice none 0 0, .slice none 0 0, .slice none 0 0, .slice none 0 0, .int .i64 0, .int .i64 0, .int .i64 0, .int .i64 0, .int .i64 0, .int .i64 0, .int .i64 0] 29 (0, 0)) := bput B8 _ rfl
    have B10 : (((((((((((w1.setCell ⟨p + 1, 0, none⟩ (.slice none 0 0)).setCell ⟨p + 1, 1, none⟩ (.slice none 0 0)).setCell ⟨p + 1, 2, none⟩ (.slice none 0 0)).setCell ⟨p + 1, 3, none⟩ (.slice none 0 0)).setCell ⟨p + 1, 4, none⟩ (.int .i64 0)).setCell ⟨p + 1, 5, none⟩ (.int .i64 0)).setCell ⟨p + 1, 6, none⟩ (.int .i64 0)).setCell ⟨p + 1, 7, none⟩ (.int .i64 0)).setCell ⟨p + 1, 8, none⟩ (.int .i64 0)).setCell ⟨p + 1, 9, none⟩ (.int .i64 0)).setCell ⟨p + 1, 10, none⟩ (.int .i64 0)).heap[p + 1]? = some (.cells #[.slice none 0 0, .slice none 0 0, .slice none 0 0, .slice none 0 0, .int .i64 0, .int .i64 0, .int .i64 0, .int .i64 0, .int .i64 0, .int .i64 0, .int .i64 0] 29 (0, 0)) := bput B9 _ rfl
    have hgr : w1.grownBy _ (some (p + 1)) := turned_setL (p + 1) [.slice none 0 0, .slice none 0 0, .slice none 0 0, .slice none 0 0, .int .i64 0, .int .i64 0, .int .i64 0, .int .i64 0, .int .i64 0, .int .i64 0, .int .i64 0] 0 w1
    have hbF := below_grownB hw1 hgr hw1.size (fun q hq => by cases hq; have := HP.out; omega)
    have d0 := (blkc B10).1 0
    have d1 := (blkc B10).1 1
    have d2 := (blkc B10).1 2
    have d3 := (blkc B10).1 3
    have d4 := (blkc B10).1 4
    have d5 := (blkc B10).1 5
    have d6 := (blkc B10).1 6
    have d7 := (blkc B10).1 7
    have d8 := (blkc B10).1 8
    have d9 := (blkc B10).1 9
    have d10 := (blkc B10).1 10
    refine bodyPost_ret (v := .tuple #[.agg #[.slice none 0 0, .slice none 0 0, .slice none 0 0, .slice none 0 0, .int .i64 0, .int .i64 0, .int .i64 0, .int .i64 0, .int .i64 0, .int .i64 0, .int .i64 0], .int .i64 1]) (by simp [results, Tryz.results10, go_sem, d0, d1, d2, d3, d4, d5, d6, d7, d8, d9, d10]) rfl ⟨none, 0, 0, none, 0, 0, none, 0, 0, none, 0, 0, rfl, rown_zero _ _, hbF⟩
  | true =>
    have hc1 := fun W hb => hck 0 (by rw [hk]; rfl) W hb
    have hal : l.all Ed.may = false := by rw [hk, Bool.true_and] at hc; exact hc
    rw [hal] at hco
    clear hck hk hc hal
    go_enter Tryz.func10, Tryz.ntmps10
    go_wp2_with fail
    rw [← HP.out, ← HW0.out]
    refine (hc1 _ HB0.out).mono ?_
    rintro e w0 ⟨rfl, hb1⟩
    have hw0 := HB0.out.trans (hb1.mono HB0.out.size)
    go_wp2_with (go_at_call 22; go_must (refine (hco _ hw0).mono ?_; rintro e w1 ⟨rfl, hb2⟩; have hw1 := hw0.trans (hb2.mono hw0.size); have hQ1 := ((hb1.trans (hb2.mono hb1.size)).block _ (ob_ltB E1.out)).trans E1.out; clear x0 x1 x2 x3 x4 x5 x6 x7 x8 x9 x10; have y0 := (blkc hQ1).1 0; have z0 := (blkc hQ1).2 0; have y1 := (blkc hQ1).1 1; have z1 := (blkc hQ1).2 1; have y2 := (blkc hQ1).1 2; have z2 := (blkc hQ1).2 2; have y3 := (blkc hQ1).1 3; have z3 := (blkc hQ1).2 3; have y4 := (blkc hQ1).1 4; have z4 := (blkc hQ1).2 4; have y5 := (blkc hQ1).1 5; have z5 := (blkc hQ1).2 5; have y6 := (blkc hQ1).1 6; have z6 := (blkc hQ1).2 6; have y7 := (blkc hQ1).1 7; have z7 := (blkc hQ1).2 7; have y8 := (blkc hQ1).1 8; have z8 := (blkc hQ1).2 8; have y9 := (blkc hQ1).1 9; have z9 := (blkc hQ1).2 9; have y10 := (blkc hQ1).1 10; have z10 := (blkc hQ1).2 10))
    have B0 : (w1.setCell ⟨p + 1, 0, none⟩ (.slice none 0 0)).heap[p + 1]? = some (.cells #[.slice none 0 0, .slice none 0 0, .slice none 0 0, .slice none 0 0, .int .i64 0, .int .i64 0, .int .i64 0, .int .i64 0, .int .i64 0, .int .i64 0, .int .i64 0] 29 (0, 0)) := bput hQ1 _ rfl
    have B1 : ((w1.setCell ⟨p + 1, 0, none⟩ (.slice none 0 0)).setCell ⟨p + 1, 1, none⟩ (.slice none 0 0)).heap[p + 1]? = some (.cells #[.slice none 0 0, .slice none 0 0, .slice none 0 0, .slice none 0 0, .int .i64 0, .int .i64 0, .int .i64 0, .int .i64 0, .int .i64 0, .int .i64 0, .int .i64 0] 29 (0, 0)) := bput B0 _ rfl
    have B2 : (((w1.setCell ⟨p + 1, 0, none⟩ (.slice none 0 0)).setCell ⟨p + 1, 1, none⟩ (.slice none 0 0)).setCell ⟨p + 1, 2, none⟩ (.slice none 0 0)).heap[p + 1]? = some (.cells #[.slice none 0 0, .slice none 0 0, .slice none 0 0, .slice none 0 0, .int .i64 0, .int .i64 0, .int .i64 0, .int .i64 0, .int .i64 0, .int .i64 0, .int .i64 0] 29 (0, 0)) := bput B1 _ rfl
    have B3 : ((((w1.setCell ⟨p + 1, 0, none⟩ (.slice none 0 0)).setCell ⟨p + 1, 1, none⟩ (.slice none 0 0)).setCell ⟨p + 1, 2, none⟩ (.slice none 0 0)).setCell ⟨p + 1, 3, none⟩ (.slice none 0 0)).heap[p + 1]? = some (.cells #[.slice none 0 0, .slice none 0 0, .slice none 0 0, .slice none 0 0, .int .i64 0, .int .i64 0, .int .i64 0, .int .i64 0, .int .i64 0, .int .i64 0, .int .i64 0] 29 (0, 0)) := bput B2 _ rfl
    have B4 : (((((w1.setCell ⟨p + 1, 0, none⟩ (.slice none 0 0)).setCell ⟨p + 1, 1, none⟩ (.slice none 0 0)).setCell ⟨p + 1, 2, none⟩ (.slice none 0 0)).setCell ⟨p + 1, 3, none⟩ (.slice none 0 0)).setCell ⟨p + 1, 4, none⟩ (.int .i64 0)).heap[p + 1]? = some (.cells #[.slice none 0 0, .slice none 0 0, .slice none 0 0, .slice none 0 0, .int .i64 0, .int .i64 0, .int .i64 0, .int .i64 0, .int .i64 0, .int .i64 0, .int .i64 0] 29 (0, 0)) := bput B3 _ rfl
    have B5 : ((((((w1.setCell ⟨p + 1, 0, none⟩ (.slice none 0 0)).setCell ⟨p + 1, 1, none⟩ (.slice none 0 0)).setCell ⟨p + 1, 2, none⟩ (.slice none 0 0)).setCell ⟨p + 1, 3, none⟩ (.slice none 0 0)).setCell ⟨p + 1, 4, none⟩ (.int .i64 0)).setCell ⟨p + 1, 5, none⟩ (.int .i64 0)).heap[p + 1]? = some (.cells #[.slice none 0 0, .slice none 0 0, .slice none 0 0, .slice none 0 0, .int .i64 0, .int .i64 0, .int .i64 0, .int .i64 0, .int .i64 0, .int .i64 0, .int .i64 0] 29 (0, 0)) := bput B4 _ rfl
    have B6 : (((((((w1.setCell ⟨p + 1, 0, none⟩ (.slice none 0 0)).setCell ⟨p + 1, 1, none⟩ (.slice none 0 0)).setCell ⟨p + 1, 2, none⟩ (.slice none 0 0)).setCell ⟨p + 1, 3, none⟩ (.slice none 0 0)).setCell ⟨p + 1, 4, none⟩ (.int .i64 0)).setCell ⟨p + 1, 5, none⟩ (.int .i64 0)).setCell ⟨p + 1, 6, none⟩ (.int .i64 0)).heap[p + 1]? = some (.cells #[.slice none 0 0, .slice none 0 0, .slice none 0 0, .slice none 0 0, .int .i64 0, .int .i64 0, .int .i64 0, .int .i64 0, .int .i64 0, .int .i64 0, .int .i64 0] 29 (0, 0)) := bput B5 _ rfl
    have B7 : ((((((((w1.setCell ⟨p + 1, 0, none⟩ (.slice none 0 0)).setCell ⟨p + 1, 1, none⟩ (.slice none 0 0)).setCell ⟨p + 1, 2, none⟩ (.slice none 0 0)).setCell ⟨p + 1, 3, none⟩ (.slice none 0 0)).setCell ⟨p + 1, 4, none⟩ (.int .i64 0)).setCell ⟨p + 1, 5, none⟩ (.int .i64 0)).setCell ⟨p + 1, 6, none⟩ (.int .i64 0)).setCell ⟨p + 1, 7, none⟩ (.int .i64 0)).heap[p + 1]? = some (.cells #[.slice none 0 0, .slice none 0 0, .slice none 0 0, .slice none 0 0, .int .i64 0, .int .i64 0, .int .i64 0, .int .i64 0, .int .i64 0, .int .i64 0, .int .i64 0] 29 (0, 0)) := bput B6 _ rfl
    have B8 : (((((((((w1.setCell ⟨p + 1, 0, none⟩ (.slice none 0 0)).setCell ⟨p + 1, 1, none⟩ (.slice none 0 0)).setCell ⟨p + 1, 2, none⟩ (.slice none 0 0)).setCell ⟨p + 1, 3, none⟩ (.slice none 0 0)).setCell ⟨p + 1, 4, none⟩ (.int .i64 0)).setCell ⟨p + 1, 5, none⟩ (.int .i64 0)).setCell ⟨p + 1, 6, none⟩ (.int .i64 0)).setCell ⟨p + 1, 7, none⟩ (.int .i64 0)).setCell ⟨p + 1, 8, none⟩ (.int .i64 0)).heap[p + 1]? = some (.cells #[.slice none 0 0, .slice none 0 0, .slice none 0 0, .slice none 0 0, .int .i64 0, .int .i64 0, .int .i64 0, .int .i64 0, .int .i64 0, .int .i64 0, .int .i64 0] 29 (0, 0)) := bput B7 _ rfl
    have B9 : ((((((((((w1.setCell ⟨p + 1, 0, none⟩ (.slice none 0 0)).setCell ⟨p + 1, 1, none⟩ (.slice none 0 0)).setCell ⟨p + 1, 2, none⟩ (.slice none 0 0)).setCell ⟨p + 1, 3, none⟩ (.slice none 0 0)).setCell ⟨p + 1, 4, none⟩ (.int .i64 0)).setCell ⟨p + 1, 5, none⟩ (.int .i64 0)).setCell ⟨p + 1, 6, none⟩ (.int .i64 0)).setCell ⟨p + 1, 7, none⟩ (.int .i64 0)).setCell ⟨p + 1, 8, none⟩ (.int .i64 0)).setCell ⟨p + 1, 9, none⟩ (.int .i64 0)).heap[p + 1]? = some (.cells #[.slice none 0 0, .slice none 0 0, .slice none 0 0, .slice none 0 0, .int .i64 0, .int .i64 0, .int .i64 0, .int .i64 0, .int .i64 0, .int .i64 0, .int .i64 0] 29 (0, 0)) := bput B8 _ rfl
    have B10 : (((((((((((w1.setCell ⟨p + 1, 0, none⟩ (.slice none 0 0)).setCell ⟨p + 1, 1, none⟩ (.slice none 0 0)).setCell ⟨p + 1, 2, none⟩ (.slice none 0 0)).setCell ⟨p + 1, 3, none⟩ (.slice none 0 0)).setCell ⟨p + 1, 4, none⟩ (.int .i64 0)).setCell ⟨p + 1, 5, none⟩ (.int .i64 0)).setCell ⟨p + 1, 6, none⟩ (.int .i64 0)).setCell ⟨p + 1, 7, none⟩ (.int .i64 0)).setCell ⟨p + 1, 8, none⟩ (.int .i64 0)).setCell ⟨p + 1, 9, none⟩ (.int .i64 0)).setCell ⟨p + 1, 10, none⟩ (.int .i64 0)).heap[p + 1]? = some (.cells #[.slice none 0 0, .slice none 0 0, .slice none 0 0, .slice none 0 0, .int .i64 0, .int .i64 0, .int .i64 0, .int .i64 0, .int .i64 0, .int .i64 0, .int .i64 0] 29 (0, 0)) := bput B9 _ rfl
    have hgr : w1.grownBy _ (some (p + 1)) := turned_setL (p + 1) [.slice none 0 0, .slice none 0 0, .slice none 0 0, .slice none 0 0, .int .i64 0, .int .i64 0, .int .i64 0, .int .i64 0, .int .i64 0, .int .i64 0, .int .i64 0] 0 w1
    have hbF := below_grownB hw1 hgr hw1.size (fun q hq => by cases hq; have := HP.out; omega)
    have d0 := (blkc B10).1 0
    have d1 := (blkc B10).1 1
    have d2 := (blkc B10).1 2
    have d3 := (blkc B10).1 3
    have d4 := (blkc B10).1 4
    have d5 := (blkc B10).1 5
    have d6 := (blkc B10).1 6
    have d7 := (blkc B10).1 7
    have d8 := (blkc B10).1 8
    have d9 := (blkc B10).1 9
    have d10 := (blkc B10).1 10
    refine bodyPost_ret (v := .tuple #[.agg #[.slice none 0 0, .slice none 0 0, .slice none 0 0, .slice none 0 0, .int .i64 0, .int .i64 0, .int .i64 0, .int .i64 0, .int .i64 0, .int .i64 0, .int .i64 0], .int .i64 1]) (by simp [results, Tryz.results10, go_sem, d0, d1, d2, d3, d4, d5, d6, d7, d8, d9, d10]) rfl ⟨none, 0, 0, none, 0, 0, none, 0, 0, none, 0, 0, rfl, rown_zero _ _, hbF⟩
end Go.Proofs.YtmodogmjfbcddaaGreat
