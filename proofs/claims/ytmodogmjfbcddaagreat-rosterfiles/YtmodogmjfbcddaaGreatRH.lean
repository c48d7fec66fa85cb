/- own of the program. -/
import Derived.Test.YtmodogmjfbcddaaGreatIG
namespace Go.Proofs.YtmodogmjfbcddaaGreat
open Go.RowKit

theorem off5 {w5 : World} {p q g k : Nat} {v0 v1 v2 v3 v4 a b0 b1 b2 b3 b4 : Value} (W : World) (hp : ¬ (p = g)) (hq : ¬ (g = q))
    (h : w5.cell? ⟨p, 2, none⟩ = some a ∧ w5.cell? ⟨q, 0, none⟩ = some b0 ∧ w5.cell? ⟨q, 1, none⟩ = some b1 ∧ w5.cell? ⟨q, 2, none⟩ = some b2 ∧ w5.cell? ⟨q, 3, none⟩ = some b3 ∧ w5.cell? ⟨q, 4, none⟩ = some b4)
    (hW : W = ((((w5.setCell ⟨g, k, none⟩ v0).setCell ⟨g, k + 1, none⟩ v1).setCell ⟨g, k + 2, none⟩ v2).setCell ⟨g, k + 3, none⟩ v3).setCell ⟨g, k + 4, none⟩ v4) :
    W.cell? ⟨p, 2, none⟩ = some a ∧ W.cell? ⟨q, 0, none⟩ = some b0 ∧ W.cell? ⟨q, 1, none⟩ = some b1 ∧ W.cell? ⟨q, 2, none⟩ = some b2 ∧ W.cell? ⟨q, 3, none⟩ = some b3 ∧ W.cell? ⟨q, 4, none⟩ = some b4 := by
  have o : ∀ (V : World) (i b j : Nat) (v : Value), ¬ (g = b) → (V.setCell ⟨g, i, none⟩ v).cell? ⟨b, j, none⟩ = V.cell? ⟨b, j, none⟩ := fun V i b j v h => World.cell?_setCell_other _ _ _ _ (fun e => h (Addr.mk.inj e).1)
  subst hW
  have hp' : ¬ (g = p) := fun e => hp e.symm
  refine ⟨?_, ?_, ?_, ?_, ?_, ?_⟩
  · rw [o _ _ _ _ _ hp', o _ _ _ _ _ hp', o _ _ _ _ _ hp', o _ _ _ _ _ hp', o _ _ _ _ _ hp']; exact h.1
  · rw [o _ _ _ _ _ hq, o _ _ _ _ _ hq, o _ _ _ _ _ hq, o _ _ _ _ _ hq, o _ _ _ _ _ hq]; exact h.2.1
  · rw [o _ _ _ _ _ hq, o _ _ _ _ _ hq, o _ _ _ _ _ hq, o _ _ _ _ _ hq, o _ _ _ _ _ hq]; exact h.2.2.1
  · rw [o _ _ _ _ _ hq, o _ _ _ _ _ hq, o _ _ _ _ _ hq, o _ _ _ _ _ hq, o _ _ _ _ _ hq]; exact h.2.2.2.1
  · rw [o _ _ _ _ _ hq, o _ _ _ _ _ hq, o _ _ _ _ _ hq, o _ _ _ _ _ hq, o _ _ _ _ _ hq]; exact h.2.2.2.2.1
  · rw [o _ _ _ _ _ hq, o _ _ _ _ _ hq, o _ _ _ _ _ hq, o _ _ _ _ _ hq, o _ _ _ _ _ hq]; exact h.2.2.2.2.2

def ROwnRes (r : Ro.R) (n1 n2 n3 n4 : Nat) (w : World) (e : Ending) (w' : World) : Prop :=
  ∃ A1 C1 A2 C2 A3 C3 A4 C4, e = .returned (.agg #[.slice A1 n1 C1, .slice A2 n2 C2, .slice A3 n3 C3, .slice A4 n4 C4, .int .i64 r.log, .int .i64 r.index, .int .i64 r.term, .int .i64 r.ht, .int .i64 r.hv, .int .i64 r.hc, .int .i64 r.mark]) ∧ ROwn w.heap.size w' A1 n1 C1 A2 n2 C2 A3 n3 C3 A4 n4 C4 r ∧ Below w.heap.size w w'

set_option maxRecDepth 100000 in
set_option maxHeartbeats 4000000 in
theorem rown_any (s : List Int) (ms : List (Int × Int)) (ts : List Lv.T) (ks : List (Int × Int × Int)) (a1 : Option Addr) (n1 c1 : Nat) (a2 : Option Addr) (n2 c2 : Nat) (a3 : Option Addr) (n3 c3 : Nat) (a4 : Option Addr) (n4 c4 : Nat) (i1 i2 i3 i4 i5 i6 i7 : Int) (w : World) (h : RIn w a1 n1 c1 a2 n2 c2 a3 n3 c3 a4 n4 c4 ⟨s, ms, ts, ks, i1, i2, i3, i4, i5, i6, i7⟩) :
    Calls Tryz.prog 24 #[.agg #[.slice a1 n1 c1, .slice a2 n2 c2, .slice a3 n3 c3, .slice a4 n4 c4, .int .i64 i1, .int .i64 i2, .int .i64 i3, .int .i64 i4, .int .i64 i5, .int .i64 i6, .int .i64 i7]] w (ROwnRes ⟨s, ms, ts, ks, i1, i2, i3, i4, i5, i6, i7⟩ n1 n2 n3 n4 w) := by
  obtain ⟨r1, r2, r3, r4, z1, z2, z3, z4, m1, m2, m3, m4, mc3, htx⟩ := h
  dsimp only at r1 r2 r3 r4 htx
  have k1 := fun W hW => rclone_z a1 n1 c1 s W (by omega) (r1.below hW (Nat.le_refl _)) z1
  have k2 := fun W hW => rclone_m a2 n2 c2 ms W (by omega) (r2.below hW (Nat.le_refl _)) z2
  have k3 := fun W hW => rclone_t a3 n3 c3 ts W (by omega) (r3.below hW (Nat.le_refl _)) z3
  have k4 := fun W hW => rclone_k a4 n4 c4 ks W (by omega) (r4.below hW (Nat.le_refl _)) z4
  unfold CRes at k1 k2 k3 k4
  have L1 := r1.1
  have L2 := r2.1
  have L3 := r3.1
  have L4 := r4.1
  rw [L1] at k1
  rw [L2] at k2
  rw [L3] at k3
  rw [L4] at k4
  have HL : Hid (ts.length = n3) := L3
  have HT : Hid (∀ t ∈ ts, t.first.size ≤ 1000 ∧ t.last.size ≤ 1000) := htx
  clear r1 r2 r3 r4 z1 z2 z3 z4 L1 L2 L3 L4 htx
  obtain ⟨W0, hW0⟩ : ∃ W0, W0 = (w.alloc (.cells #[.slice a1 n1 c1, .slice a2 n2 c2, .slice a3 n3 c3, .slice a4 n4 c4, .int .i64 i1, .int .i64 i2, .int .i64 i3, .int .i64 i4, .int .i64 i5, .int .i64 i6, .int .i64 i7] 29)).alloc (.cells #[.slice none 0 0, .slice none 0 0, .slice none 0 0, .slice none 0 0, .int .i64 0, .int .i64 0, .int .i64 0, .int .i64 0, .int .i64 0, .int .i64 0, .int .i64 0] 29) := ⟨_, rfl⟩
  have hb0 : Below w.heap.size w W0 := by rw [hW0]; exact below_two _ _ _
  obtain ⟨p, hp⟩ : ∃ p, p = w.heap.size := ⟨_, rfl⟩
  have e0 : W0.heap[p]? = some (.cells #[.slice a1 n1 c1, .slice a2 n2 c2, .slice a3 n3 c3, .slice a4 n4 c4, .int .i64 i1, .int .i64 i2, .int .i64 i3, .int .i64 i4, .int .i64 i5, .int .i64 i6, .int .i64 i7] 29 (0, 0)) := by
    rw [hW0, hp]; exact (Below.heap_alloc _ _ _ (by simp)).trans (heap_alloc_new _ _)
  have e1 : W0.heap[p + 1]? = some (.cells #[.slice none 0 0, .slice none 0 0, .slice none 0 0, .slice none 0 0, .int .i64 0, .int .i64 0, .int .i64 0, .int .i64 0, .int .i64 0, .int .i64 0, .int .i64 0] 29 (0, 0)) := by
    rw [hW0, hp]; have := heap_alloc_new (w.alloc (.cells #[.slice a1 n1 c1, .slice a2 n2 c2, .slice a3 n3 c3, .slice a4 n4 c4, .int .i64 i1, .int .i64 i2, .int .i64 i3, .int .i64 i4, .int .i64 i5, .int .i64 i6, .int .i64 i7] 29)) (.cells #[.slice none 0 0, .slice none 0 0, .slice none 0 0, .slice none 0 0, .int .i64 0, .int .i64 0, .int .i64 0, .int .i64 0, .int .i64 0, .int .i64 0, .int .i64 0] 29); rwa [World.size_alloc] at this
  have hpp : ¬ (p + 1 = p) := by omega
  have E0 : Hid (W0.heap[p]? = some (.cells #[.slice a1 n1 c1, .slice a2 n2 c2, .slice a3 n3 c3, .slice a4 n4 c4, .int .i64 i1, .int .i64 i2, .int .i64 i3, .int .i64 i4, .int .i64 i5, .int .i64 i6, .int .i64 i7] 29 (0, 0))) := e0
  have E1 : Hid (W0.heap[p + 1]? = some (.cells #[.slice none 0 0, .slice none 0 0, .slice none 0 0, .slice none 0 0, .int .i64 0, .int .i64 0, .int .i64 0, .int .i64 0, .int .i64 0, .int .i64 0, .int .i64 0] 29 (0, 0))) := e1
  obtain ⟨x0, x1⟩ := blkc e0
  have y00 := x0 0
  clear x0 x1 e0 e1
  go_enter Tryz.func24, Tryz.ntmps24
  go_wp2_with fail
  rw [← hp, ← hW0]
  have hpl : p < W0.heap.size := ob_ltB E0.out
  have hpB : w.heap.size ≤ p := by omega
  have HP : Hid (p = w.heap.size) := hp
  clear hW0 hp
  refine (k1 _ hb0).mono ?_
  rintro e w1 ⟨A1, C1, rfl, own1, b1⟩
  have hlt1 := hpl
  have F1 : w1.heap[p]? = some (.cells #[.slice a1 n1 c1, .slice a2 n2 c2, .slice a3 n3 c3, .slice a4 n4 c4, .int .i64 i1, .int .i64 i2, .int .i64 i3, .int .i64 i4, .int .i64 i5, .int .i64 i6, .int .i64 i7] 29 (0, 0)) := (b1.block _ (ob_ltB E0.out)).trans E0.out
  have R1 : w1.heap[p + 1]? = some (.cells #[.slice none 0 0, .slice none 0 0, .slice none 0 0, .slice none 0 0, .int .i64 0, .int .i64 0, .int .i64 0, .int .i64 0, .int .i64 0, .int .i64 0, .int .i64 0] 29 (0, 0)) := (b1.block _ (ob_ltB E1.out)).trans E1.out
  have G1 : Hid ((w1.setCell ⟨p, 0, none⟩ (.slice A1 n1 C1)).heap[p]? = some (.cells #[.slice A1 n1 C1, .slice a2 n2 c2, .slice a3 n3 c3, .slice a4 n4 c4, .int .i64 i1, .int .i64 i2, .int .i64 i3, .int .i64 i4, .int .i64 i5, .int .i64 i6, .int .i64 i7] 29 (0, 0))) := (bput F1 _ rfl : _ = _)
  have Q1 : Hid ((w1.setCell ⟨p, 0, none⟩ (.slice A1 n1 C1)).heap[p + 1]? = some (.cells #[.slice none 0 0, .slice none 0 0, .slice none 0 0, .slice none 0 0, .int .i64 0, .int .i64 0, .int .i64 0, .int .i64 0, .int .i64 0, .int .i64 0, .int .i64 0] 29 (0, 0))) := ((Below.heap_setCell _ _ _ _ (by simp)).trans R1 : _ = _)
  have s1 := (blkc F1).1 0
  have f1 := (blkc F1).2 0
  have t1 := (blkc G1.out).1 1
  have B1 := below_putB (hb0.trans (b1.mono hb0.size)) hpB 0 (.slice A1 n1 C1)
  have own1 := own1.kept (turned_set w1 p 0 (.slice A1 n1 C1)) (.inr (own_ne own1 hlt1).symm)
  clear F1 R1
  go_wp2_with fail
  refine (k2 _ B1).mono ?_
  rintro e w2 ⟨A2, C2, rfl, own2, b2⟩
  have hlt2 := ob_ltB G1.out
  have F2 : w2.heap[p]? = some (.cells #[.slice A1 n1 C1, .slice a2 n2 c2, .slice a3 n3 c3, .slice a4 n4 c4, .int .i64 i1, .int .i64 i2, .int .i64 i3, .int .i64 i4, .int .i64 i5, .int .i64 i6, .int .i64 i7] 29 (0, 0)) := (b2.block _ (ob_ltB G1.out)).trans G1.out
  have R2 : w2.heap[p + 1]? = some (.cells #[.slice none 0 0, .slice none 0 0, .slice none 0 0, .slice none 0 0, .int .i64 0, .int .i64 0, .int .i64 0, .int .i64 0, .int .i64 0, .int .i64 0, .int .i64 0] 29 (0, 0)) := (b2.block _ (ob_ltB Q1.out)).trans Q1.out
  have G2 : Hid ((w2.setCell ⟨p, 1, none⟩ (.slice A2 n2 C2)).heap[p]? = some (.cells #[.slice A1 n1 C1, .slice A2 n2 C2, .slice a3 n3 c3, .slice a4 n4 c4, .int .i64 i1, .int .i64 i2, .int .i64 i3, .int .i64 i4, .int .i64 i5, .int .i64 i6, .int .i64 i7] 29 (0, 0))) := (bput F2 _ rfl : _ = _)
  have Q2 : Hid ((w2.setCell ⟨p, 1, none⟩ (.slice A2 n2 C2)).heap[p + 1]? = some (.cells #[.slice none 0 0, .slice none 0 0, .slice none 0 0, .slice none 0 0, .int .i64 0, .int .i64 0, .int .i64 0, .int .i64 0, .int .i64 0, .int .i64 0, .int .i64 0] 29 (0, 0))) := ((Below.heap_setCell _ _ _ _ (by simp)).trans R2 : _ = _)
  have s2 := (blkc F2).1 1
  have f2 := (blkc F2).2 1
  have t2 := (blkc G2.out).1 3
  have B2 := below_putB (B1.trans (b2.mono B1.size)) hpB 1 (.slice A2 n2 C2)
  have own1 := own_keptB own1 b2
  have own1 := own1.kept (turned_set w2 p 1 (.slice A2 n2 C2)) (.inr (own_ne own1 hlt1).symm)
  have own2 := own2.kept (turned_set w2 p 1 (.slice A2 n2 C2)) (.inr (own_ne own2 hlt2).symm)
  clear F2 R2
  go_wp2_with fail
  refine (k4 _ B2).mono ?_
  rintro e w3 ⟨A4, C4, rfl, own4, b3⟩
  have hlt3 := ob_ltB G2.out
  have F3 : w3.heap[p]? = some (.cells #[.slice A1 n1 C1, .slice A2 n2 C2, .slice a3 n3 c3, .slice a4 n4 c4, .int .i64 i1, .int .i64 i2, .int .i64 i3, .int .i64 i4, .int .i64 i5, .int .i64 i6, .int .i64 i7] 29 (0, 0)) := (b3.block _ (ob_ltB G2.out)).trans G2.out
  have R3 : w3.heap[p + 1]? = some (.cells #[.slice none 0 0, .slice none 0 0, .slice none 0 0, .slice none 0 0, .int .i64 0, .int .i64 0, .int .i64 0, .int .i64 0, .int .i64 0, .int .i64 0, .int .i64 0] 29 (0, 0)) := (b3.block _ (ob_ltB Q2.out)).trans Q2.out
  have G3 : Hid ((w3.setCell ⟨p, 3, none⟩ (.slice A4 n4 C4)).heap[p]? = some (.cells #[.slice A1 n1 C1, .slice A2 n2 C2, .slice a3 n3 c3, .slice A4 n4 C4, .int .i64 i1, .int .i64 i2, .int .i64 i3, .int .i64 i4, .int .i64 i5, .int .i64 i6, .int .i64 i7] 29 (0, 0))) := (bput F3 _ rfl : _ = _)
  have Q3 : Hid ((w3.setCell ⟨p, 3, none⟩ (.slice A4 n4 C4)).heap[p + 1]? = some (.cells #[.slice none 0 0, .slice none 0 0, .slice none 0 0, .slice none 0 0, .int .i64 0, .int .i64 0, .int .i64 0, .int .i64 0, .int .i64 0, .int .i64 0, .int .i64 0] 29 (0, 0))) := ((Below.heap_setCell _ _ _ _ (by simp)).trans R3 : _ = _)
  have s3 := (blkc F3).1 3
  have f3 := (blkc F3).2 3
  have t3 := (blkc G3.out).1 2
  have B3 := below_putB (B2.trans (b3.mono B2.size)) hpB 3 (.slice A4 n4 C4)
  have own1 := own_keptB own1 b3
  have own2 := own_keptB own2 b3
  have own1 := own1.kept (turned_set w3 p 3 (.slice A4 n4 C4)) (.inr (own_ne own1 hlt1).symm)
  have own2 := own2.kept (turned_set w3 p 3 (.slice A4 n4 C4)) (.inr (own_ne own2 hlt2).symm)
  have own4 := own4.kept (turned_set w3 p 3 (.slice A4 n4 C4)) (.inr (own_ne own4 hlt3).symm)
  clear F3 R3
  go_wp2_with fail
  refine (k3 _ B3).mono ?_
  rintro e w4 ⟨A3, C3, rfl, own3, b4⟩
  have hlt4 := ob_ltB G3.out
  have F4 : w4.heap[p]? = some (.cells #[.slice A1 n1 C1, .slice A2 n2 C2, .slice a3 n3 c3, .slice A4 n4 C4, .int .i64 i1, .int .i64 i2, .int .i64 i3, .int .i64 i4, .int .i64 i5, .int .i64 i6, .int .i64 i7] 29 (0, 0)) := (b4.block _ (ob_ltB G3.out)).trans G3.out
  have R4 : w4.heap[p + 1]? = some (.cells #[.slice none 0 0, .slice none 0 0, .slice none 0 0, .slice none 0 0, .int .i64 0, .int .i64 0, .int .i64 0, .int .i64 0, .int .i64 0, .int .i64 0, .int .i64 0] 29 (0, 0)) := (b4.block _ (ob_ltB Q3.out)).trans Q3.out
  have G4 : Hid ((w4.setCell ⟨p, 2, none⟩ (.slice A3 n3 C3)).heap[p]? = some (.cells #[.slice A1 n1 C1, .slice A2 n2 C2, .slice A3 n3 C3, .slice A4 n4 C4, .int .i64 i1, .int .i64 i2, .int .i64 i3, .int .i64 i4, .int .i64 i5, .int .i64 i6, .int .i64 i7] 29 (0, 0))) := (bput F4 _ rfl : _ = _)
  have Q4 : Hid ((w4.setCell ⟨p, 2, none⟩ (.slice A3 n3 C3)).heap[p + 1]? = some (.cells #[.slice none 0 0, .slice none 0 0, .slice none 0 0, .slice none 0 0, .int .i64 0, .int .i64 0, .int .i64 0, .int .i64 0, .int .i64 0, .int .i64 0, .int .i64 0] 29 (0, 0))) := ((Below.heap_setCell _ _ _ _ (by simp)).trans R4 : _ = _)
  have s4 := (blkc F4).1 2
  have f4 := (blkc F4).2 2
  have t4 := (blkc G4.out).1 2
  have B4 := below_putB (B3.trans (b4.mono B3.size)) hpB 2 (.slice A3 n3 C3)
  have own1 := own_keptB own1 b4
  have own2 := own_keptB own2 b4
  have own4 := own_keptB own4 b4
  have own1 := own1.kept (turned_set w4 p 2 (.slice A3 n3 C3)) (.inr (own_ne own1 hlt1).symm)
  have own2 := own2.kept (turned_set w4 p 2 (.slice A3 n3 C3)) (.inr (own_ne own2 hlt2).symm)
  have own4 := own4.kept (turned_set w4 p 2 (.slice A3 n3 C3)) (.inr (own_ne own4 hlt3).symm)
  have own3 := own3.kept (turned_set w4 p 2 (.slice A3 n3 C3)) (.inr (own_ne own3 hlt4).symm)
  clear F4 R4
  go_wp2
  obtain ⟨V, hV⟩ : ∃ V, V = w4.setCell ⟨p, 2, none⟩ (.slice A3 n3 C3) := ⟨_, rfl⟩
  rw [← hV] at own1 own2 own3 own4 B4 G4 Q4 ⊢
  have hRO : ROwn w.heap.size V A1 n1 C1 A2 n2 C2 A3 n3 C3 A4 n4 C4 ⟨s, ms, ts, ks, i1, i2, i3, i4, i5, i6, i7⟩ := ⟨lowns_base own1 (by omega), lowns_base own2 (by omega), lowns_base own3 (by omega), lowns_base own4 (by omega)⟩
  clear own1 own2 own3 own4 B1 B2 B3 b1 b2 b3 b4 s1 s2 s3 s4 f1 f2 f3 f4 t1 t2 t3 t4 G1 G2 G3 Q1 Q2 Q3 k1 k2 k3 k4 hlt1 hlt2 hlt3 hlt4 hV E0 E1 y00 hb0 hpl
  go_loopw [24] (fun iv wr => ∃ k : Nat, k ≤ n3 ∧ iv = .int .i64 k ∧ ROwn w.heap.size wr A1 n1 C1 A2 n2 C2 A3 n3 C3 A4 n4 C4 ⟨s, ms, ts, ks, i1, i2, i3, i4, i5, i6, i7⟩ ∧ Hid (wr.heap[p]? = some (.cells #[.slice A1 n1 C1, .slice A2 n2 C2, .slice A3 n3 C3, .slice A4 n4 C4, .int .i64 i1, .int .i64 i2, .int .i64 i3, .int .i64 i4, .int .i64 i5, .int .i64 i6, .int .i64 i7] 29 (0, 0))) ∧ Hid (wr.heap[p + 1]? = some (.cells #[.slice none 0 0, .slice none 0 0, .slice none 0 0, .slice none 0 0, .int .i64 0, .int .i64 0, .int .i64 0, .int .i64 0, .int .i64 0, .int .i64 0, .int .i64 0] 29 (0, 0))) ∧ Below w.heap.size w wr) (fun iv _ => n3 - (intOf iv).toNat)
  case atStart => exact ⟨0, by omega, rfl, hRO, G4, Q4, B4⟩
  case round =>
    obtain ⟨k, hk, rfl, hro, HG, HQ, hbel⟩ := hrel
    clear hRO G4 Q4 B4
    by_cases hlt : k < n3
    · obtain ⟨g, rfl⟩ := town_g hro.o3 (by omega)
      have hk' : k < ts.length := by rw [HL.out]; exact hlt
      obtain ⟨x1, x2, x3, x4, x5, hx, u0, u1, u2, u3, u4⟩ := town5 hk'
      have hmem : ts.getD k Lv.zero ∈ ts := by simp [hk']
      rw [hx.out] at hmem
      obtain ⟨hx4, hx5⟩ := HT.out _ hmem
      dsimp only at hx4 hx5
      obtain ⟨g0, fr0⟩ := own_cells hro.o3 u0
      obtain ⟨g1, fr1⟩ := own_cells hro.o3 u1
      obtain ⟨g2, fr2⟩ := own_cells hro.o3 u2
      obtain ⟨g3, fr3⟩ := own_cells hro.o3 u3
      obtain ⟨g4, fr4⟩ := own_cells hro.o3 u4
      have hot := fun W => rowntab_any x1 x2 x3 x4 x5 (by omega) (by omega) W
      have hgp : ¬ (p = g) := fun e => obr_apart HG.out hro.o3 (by decide) (by rw [e]; rfl)
      have hpg : ¬ (g = p) := fun e => hgp e.symm
      have hgq : ¬ (g = wr.heap.size) := by have := (own_lt hro.o3).1; omega
      have hpq : ¬ (p = wr.heap.size) := by have := ob_ltB HG.out; omega
      have i0 : (0 : Int) ≤ (k : Int) := by omega
      have j5 : (k : Int) < (n3 : Int) := by omega
      obtain ⟨U, hU⟩ : ∃ U, U = wr.alloc (.cells #[.int .i64 x1, .int .i64 x2, .int .i64 x3, .string x4, .string x5] 44) := ⟨_, rfl⟩
      have hbU : Below wr.heap.size wr U := by rw [hU]; exact below_alloc _ _
      have hq : U.heap[wr.heap.size]? = some (.cells #[.int .i64 x1, .int .i64 x2, .int .i64 x3, .string x4, .string x5] 44 (0, 0)) := by rw [hU]; exact heap_alloc_new _ _
      have HV : Hid (∀ W, Below U.heap.size U W → (W.cell? ⟨p, 2, none⟩ = some (.slice (some ⟨g, 0, none⟩) n3 C3) ∧ W.cell? ⟨wr.heap.size, 0, none⟩ = some (.int .i64 x1) ∧ W.cell? ⟨wr.heap.size, 1, none⟩ = some (.int .i64 x2) ∧ W.cell? ⟨wr.heap.size, 2, none⟩ = some (.int .i64 x3) ∧ W.cell? ⟨wr.heap.size, 3, none⟩ = some (.string x4) ∧ W.cell? ⟨wr.heap.size, 4, none⟩ = some (.string x5))) := (fun W h => by
        have a := (blkc ((h.block _ (ob_ltB hq)).trans hq)).1
        have hb := hbU.trans (h.mono hbU.size)
        have b := (blkc ((hb.block _ (ob_ltB HG.out)).trans HG.out)).1
        exact ⟨b 2, a 0, a 1, a 2, a 3, a 4⟩ : ∀ W, Below U.heap.size U W → _)
      obtain ⟨v2, l0, l1, l2, l3, l4⟩ := HV.out U (Below.refl _ _)
      have HU : Hid (Below wr.heap.size wr U) := hbU
      have hUe : wr.alloc (.cells #[.int .i64 x1, .int .i64 x2, .int .i64 x3, .string x4, .string x5] 44) = U := hU.symm
      clear hx hmem hx4 hx5 hq hU
      go_wp2_with fail
      clear hUe
      go_region_held3 (fun W => W.cell? ⟨p, 2, none⟩ = some (.slice (some ⟨g, 0, none⟩) n3 C3) ∧ W.cell? ⟨wr.heap.size, 0, none⟩ = some (.int .i64 x1) ∧ W.cell? ⟨wr.heap.size, 1, none⟩ = some (.int .i64 x2) ∧ W.cell? ⟨wr.heap.size, 2, none⟩ = some (.int .i64 x3) ∧ W.cell? ⟨wr.heap.size, 3, none⟩ = some (.string x4) ∧ W.cell? ⟨wr.heap.size, 4, none⟩ = some (.string x5)) (first | go_keep | (refine ⟨?_, ?_, ?_, ?_, ?_, ?_⟩ <;> assumption) | (exact off5 _ hgp hgq ⟨v2', l0', l1', l2', l3', l4'⟩ rfl))
        ((go_at_call 38; go_must (refine (hot _).mono ?_; rintro e w5 ⟨rfl, b5⟩; have hb5 := below_of_drew b5; obtain ⟨v2', l0', l1', l2', l3', l4'⟩ := HV.out w5 hb5; have hb6 := HU.out.trans (hb5.mono HU.out.size); have hro5 := hro.kept hb6; obtain ⟨g0', fr0'⟩ := own_cells hro5.o3 u0; obtain ⟨g1', fr1'⟩ := own_cells hro5.o3 u1; obtain ⟨g2', fr2'⟩ := own_cells hro5.o3 u2; obtain ⟨g3', fr3'⟩ := own_cells hro5.o3 u3; obtain ⟨g4', fr4'⟩ := own_cells hro5.o3 u4)))
      have hgr : w5.grownBy _ (some g) := turned_setL g [.int .i64 x1, .int .i64 x2, .int .i64 x3, .string x4, .string x5] (k * 5) w5
      have hs3 := own_set5 hro5.o3 u0 u1 u2 u3 u4
      obtain ⟨W6, hW6⟩ : ∃ W6, W6 = ((((w5.setCell ⟨g, k * 5, none⟩ (.int .i64 x1)).setCell ⟨g, k * 5 + 1, none⟩ (.int .i64 x2)).setCell ⟨g, k * 5 + 2, none⟩ (.int .i64 x3)).setCell ⟨g, k * 5 + 3, none⟩ (.string x4)).setCell ⟨g, k * 5 + 4, none⟩ (.string x5) := ⟨_, rfl⟩
      have hgr6 : w5.grownBy W6 (some g) := by rw [hW6]; exact hgr
      rw [← hW6] at hs3 ⊢
      have hro6 : ROwn w.heap.size W6 A1 n1 C1 A2 n2 C2 (some ⟨g, 0, none⟩) n3 C3 A4 n4 C4 ⟨s, ms, ts, ks, i1, i2, i3, i4, i5, i6, i7⟩ :=
        ⟨hro5.o1.kept hgr6 (own_apart hro5.o1 hro5.o3 (by decide)), hro5.o2.kept hgr6 (own_apart hro5.o2 hro5.o3 (by decide)), hs3, hro5.o4.kept hgr6 (own_apart hro5.o4 hro5.o3 (by decide))⟩
      have hG5 := (hb6.block _ (ob_ltB HG.out)).trans HG.out
      have hQ5 := (hb6.block _ (ob_ltB HQ.out)).trans HQ.out
      have hgq2 : ¬ (p + 1 = g) := fun e => obr_apart HQ.out hro.o3 (by decide) (by rw [e]; rfl)
      have hG6 : Hid (W6.heap[p]? = some (.cells #[.slice A1 n1 C1, .slice A2 n2 C2, .slice (some ⟨g, 0, none⟩) n3 C3, .slice A4 n4 C4, .int .i64 i1, .int .i64 i2, .int .i64 i3, .int .i64 i4, .int .i64 i5, .int .i64 i6, .int .i64 i7] 29 (0, 0))) := ((hgr6.block _ (ob_ltB hG5) (fun e => hgp (Option.some.inj e))).trans hG5 : _ = _)
      have hQ6 : Hid (W6.heap[p + 1]? = some (.cells #[.slice none 0 0, .slice none 0 0, .slice none 0 0, .slice none 0 0, .int .i64 0, .int .i64 0, .int .i64 0, .int .i64 0, .int .i64 0, .int .i64 0, .int .i64 0] 29 (0, 0))) := ((hgr6.block _ (ob_ltB hQ5) (fun e => hgq2 (Option.some.inj e))).trans hQ5 : _ = _)
      have hb7 : Below w.heap.size w W6 := below_grownB (hbel.trans (hb6.mono hbel.size)) hgr6 (hbel.trans (hb6.mono hbel.size)).size (fun q hq => by cases hq; exact (own_lt hro.o3).2)
      clear hW6 hgr hs3 hro5 hG5 hQ5 hb6 hb5 b5
      go_wp2
      go_roundw
      case rel => exact ⟨k + 1, by omega, by go_num, hro6, hG6, hQ6, hb7⟩
      case measure => simp [intOf]; omega
    · obtain rfl : k = n3 := by omega
      obtain ⟨x0, _⟩ := blkc HG.out
      obtain ⟨y0, z0⟩ := blkc HQ.out
      have x00 := x0 0
      have y00 := y0 0
      have x01 := x0 1
      have y01 := y0 1
      have x02 := x0 2
      have y02 := y0 2
      have x03 := x0 3
      have y03 := y0 3
      have x04 := x0 4
      have y04 := y0 4
      have x05 := x0 5
      have y05 := y0 5
      have x06 := x0 6
      have y06 := y0 6
      have x07 := x0 7
      have y07 := y0 7
      have x08 := x0 8
      have y08 := y0 8
      have x09 := x0 9
      have y09 := y0 9
      have x010 := x0 10
      have y010 := y0 10
      clear x0 y0
      go_wp2
      have B0 : (wr.setCell ⟨p + 1, 0, none⟩ (.slice A1 n1 C1)).heap[p + 1]? = some (.cells #[.slice A1 n1 C1, .slice none 0 0, .slice none 0 0, .slice none 0 0, .int .i64 0, .int .i64 0, .int .i64 0, .int .i64 0, .int .i64 0, .int .i64 0, .int .i64 0] 29 (0, 0)) := bput HQ.out _ rfl
      have B1 : ((wr.setCell ⟨p + 1, 0, none⟩ (.slice A1 n1 C1)).setCell ⟨p + 1, 1, none⟩ (.slice A2 n2 C2)).heap[p + 1]? = some (.cells #[.slice A1 n1 C1, .slice A2 n2 C2, .slice none 0 0, .slice none 0 0, .int .i64 0, .int .i64 0, .int .i64 0, .int .i64 0, .int .i64 0, .int .i64 0, .int .i64 0] 29 (0, 0)) := bput B0 _ rfl
      have B2 : (((wr.setCell ⟨p + 1, 0, none⟩ (.slice A1 n1 C1)).setCell ⟨p + 1, 1, none⟩ (.slice A2 n2 C2)).setCell ⟨p + 1, 2, none⟩ (.slice A3 k C3)).heap[p + 1]? = some (.cells #[.slice A1 n1 C1, .slice A2 n2 C2, .slice A3 k C3, .slice none 0 0, .int .i64 0, .int .i64 0, .int .i64 0, .int .i64 0, .int .i64 0, .int .i64 0, .int .i64 0] 29 (0, 0)) := bput B1 _ rfl
      have B3 : ((((wr.setCell ⟨p + 1, 0, none⟩ (.slice A1 n1 C1)).setCell ⟨p + 1, 1, none⟩ (.slice A2 n2 C2)).setCell ⟨p + 1, 2, none⟩ (.slice A3 k C3)).setCell ⟨p + 1, 3, none⟩ (.slice A4 n4 C4)).heap[p + 1]? = some (.cells #[.slice A1 n1 C1, .slice A2 n2 C2, .slice A3 k C3, .slice A4 n4 C4, .int .i64 0, .int .i64 0, .int .i64 0, .int .i64 0, .int .i64 0, .int .i64 0, .int .i64 0] 29 (0, 0)) := bput B2 _ rfl
      have B4 : (((((wr.setCell ⟨p + 1, 0, none⟩ (.slice A1 n1 C1)).setCell ⟨p + 1, 1, none⟩ (.slice A2 n2 C2)).setCell ⟨p + 1, 2, none⟩ (.slice A3 k C3)).setCell ⟨p + 1, 3, none⟩ (.slice A4 n4 C4)).setCell ⟨p + 1, 4, none⟩ (.int .i64 i1)).heap[p + 1]? = some (.cells #[.slice A1 n1 C1, .slice A2 n2 C2, .slice A3 k C3, .slice A4 n4 C4, .int .i64 i1, .int .i64 0, .int .i64 0, .int .i64 0, .int .i64 0, .int .i64 0, .int .i64 0] 29 (0, 0)) := bput B3 _ rfl
      have B5 : ((((((wr.setCell ⟨p + 1, 0, none⟩ (.slice A1 n1 C1)).setCell ⟨p + 1, 1, none⟩ (.slice A2 n2 C2)).setCell ⟨p + 1, 2, none⟩ (.slice A3 k C3)).setCell ⟨p + 1, 3, none⟩ (.slice A4 n4 C4)).setCell ⟨p + 1, 4, none⟩ (.int .i64 i1)).setCell ⟨p + 1, 5, none⟩ (.int .i64 i2)).heap[p + 1]? = some (.cells #[.slice A1 n1 C1, .slice A2 n2 C2, .slice A3 k C3, .slice A4 n4 C4, .int .i64 i1, .int .i64 i2, .int .i64 0, .int .i64 0, .int .i64 0, .int .i64 0, .int .i64 0] 29 (0, 0)) := bput B4 _ rfl
      have B6 : (((((((wr.setCell ⟨p + 1, 0, none⟩ (.slice A1 n1 C1)).setCell ⟨p + 1, 1, none⟩ (.slice A2 n2 C2)).setCell ⟨p + 1, 2, none⟩ (.slice A3 k C3)).setCell ⟨p + 1, 3, none⟩ (.slice A4 n4 C4)).setCell ⟨p + 1, 4, none⟩ (.int .i64 i1)).setCell ⟨p + 1, 5, none⟩ (.int .i64 i2)).setCell ⟨p + 1, 6, none⟩ (.int .i64 i3)).heap[p + 1]? = some (.cells #[.slice A1 n1 C1, .slice A2 n2 C2, .slice A3 k C3, .slice A4 n4 C4, .int .i64 i1, .int .i64 i2, .int .i64 i3, .int .i64 0, .int .i64 0, .int .i64 0, .int .i64 0] 29 (0, 0)) := bput B5 _ rfl
      have B7 : ((((((((wr.setCell ⟨p + 1, 0, none⟩ (.slice A1 n1 C1)).setCell ⟨p + 1, 1, none⟩ (.slice A2 n2 C2)).setCell ⟨p + 1, 2, none⟩ (.slice A3 k C3)).setCell ⟨p + 1, 3, none⟩ (.slice A4 n4 C4)).setCell ⟨p + 1, 4, none⟩ (.int .i64 i1)).setCell ⟨p + 1, 5, none⟩ (.int .i64 i2)).setCell ⟨p + 1, 6, none⟩ (.int .i64 i3)).setCell ⟨p + 1, 7, none⟩ (.int .i64 i4)).heap[p + 1]? = some (.cells #[.slice A1 n1 C1, .slice A2 n2 C2, .slice A3 k C3, .slice A4 n4 C4, .int .i64 i1, .int .i64 i2, .int .i64 i3, .int .i64 i4, .int .i64 0, .int .i64 0, .int .i64 0] 29 (0, 0)) := bput B6 _ rfl
      have B8 : (((((((((wr.setCell ⟨p + 1, 0, none⟩ (.slice A1 n1 C1)).setCell ⟨p + 1, 1, none⟩ (.slice A2 n2 C2)).setCell ⟨p + 1, 2, none⟩ (.slice A3 k C3)).setCell ⟨p + 1, 3, none⟩ (.slice A4 n4 C4)).setCell ⟨p + 1, 4, none⟩ (.int .i64 i1)).setCell ⟨p + 1, 5, none⟩ (.int .i64 i2)).setCell ⟨p + 1, 6, none⟩ (.int .i64 i3)).setCell ⟨p + 1, 7, none⟩ (.int .i64 i4)).setCell ⟨p + 1, 8, none⟩ (.int .i64 i5)).heap[p + 1]? = some (.cells #[.slice A1 n1 C1, .slice A2 n2 C2, .slice A3 k C3, .slice A4 n4 C4, .int .i64 i1, .int .i64 i2, .int .i64 i3, .int .i64 i4, .int .i64 i5, .int .i64 0, .int .i64 0] 29 (0, 0)) := bput B7 _ rfl
      have B9 : ((((((((((wr.setCell ⟨p + 1, 0, none⟩ (.slice A1 n1 C1)).setCell ⟨p + 1, 1, none⟩ (.slice A2 n2 C2)).setCell ⟨p + 1, 2, none⟩ (.slice A3 k C3)).setCell ⟨p + 1, 3, none⟩ (.slice A4 n4 C4)).setCell ⟨p + 1, 4, none⟩ (.int .i64 i1)).setCell ⟨p + 1, 5, none⟩ (.int .i64 i2)).setCell ⟨p + 1, 6, none⟩ (.int .i64 i3)).setCell ⟨p + 1, 7, none⟩ (.int .i64 i4)).setCell ⟨p + 1, 8, none⟩ (.int .i64 i5)).setCell ⟨p + 1, 9, none⟩ (.int .i64 i6)).heap[p + 1]? = some (.cells #[.slice A1 n1 C1, .slice A2 n2 C2, .slice A3 k C3, .slice A4 n4 C4, .int .i64 i1, .int .i64 i2, .int .i64 i3, .int .i64 i4, .int .i64 i5, .int .i64 i6, .int .i64 0] 29 (0, 0)) := bput B8 _ rfl
      have B10 : (((((((((((wr.setCell ⟨p + 1, 0, none⟩ (.slice A1 n1 C1)).setCell ⟨p + 1, 1, none⟩ (.slice A2 n2 C2)).setCell ⟨p + 1, 2, none⟩ (.slice A3 k C3)).setCell ⟨p + 1, 3, none⟩ (.slice A4 n4 C4)).setCell ⟨p + 1, 4, none⟩ (.int .i64 i1)).setCell ⟨p + 1, 5, none⟩ (.int .i64 i2)).setCell ⟨p + 1, 6, none⟩ (.int .i64 i3)).setCell ⟨p + 1, 7, none⟩ (.int .i64 i4)).setCell ⟨p + 1, 8, none⟩ (.int .i64 i5)).setCell ⟨p + 1, 9, none⟩ (.int .i64 i6)).setCell ⟨p + 1, 10, none⟩ (.int .i64 i7)).heap[p + 1]? = some (.cells #[.slice A1 n1 C1, .slice A2 n2 C2, .slice A3 k C3, .slice A4 n4 C4, .int .i64 i1, .int .i64 i2, .int .i64 i3, .int .i64 i4, .int .i64 i5, .int .i64 i6, .int .i64 i7] 29 (0, 0)) := bput B9 _ rfl
      have hgr : wr.grownBy _ (some (p + 1)) := turned_setL (p + 1) [.slice A1 n1 C1, .slice A2 n2 C2, .slice A3 k C3, .slice A4 n4 C4, .int .i64 i1, .int .i64 i2, .int .i64 i3, .int .i64 i4, .int .i64 i5, .int .i64 i6, .int .i64 i7] 0 wr
      have hroF := hro.other HQ.out hgr
      have hbF := below_grownB hbel hgr hbel.size (fun q hq => by cases hq; have := HP.out; omega)
      have cF := (blkc B10).1
      have d0 := cF 0
      have d1 := cF 1
      have d2 := cF 2
      have d3 := cF 3
      have d4 := cF 4
      have d5 := cF 5
      have d6 := cF 6
      have d7 := cF 7
      have d8 := cF 8
      have d9 := cF 9
      have d10 := cF 10
      refine bodyPost_ret (v := .agg #[.slice A1 n1 C1, .slice A2 n2 C2, .slice A3 k C3, .slice A4 n4 C4, .int .i64 i1, .int .i64 i2, .int .i64 i3, .int .i64 i4, .int .i64 i5, .int .i64 i6, .int .i64 i7]) (by simp [results, Tryz.results24, go_sem, d0, d1, d2, d3, d4, d5, d6, d7, d8, d9, d10]) rfl ⟨A1, C1, A2, C2, A3, C3, A4, C4, rfl, hroF, hbF⟩
end Go.Proofs.YtmodogmjfbcddaaGreat
