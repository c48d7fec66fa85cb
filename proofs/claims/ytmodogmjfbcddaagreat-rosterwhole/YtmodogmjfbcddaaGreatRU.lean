/- RosterWhole: edits done together are done as one behind the other. -/
import Derived.Test.YtmodogmjfbcddaaGreatRT
namespace Go.Proofs.YtmodogmjfbcddaaGreat
open Go.RowKit

namespace Ro
theorem steps_snoc : ∀ (l : List Ed.E) (r : R) (e : Ed.E), steps r (l ++ [e]) = (steps r l).bind fun x => if (apply x [e]).2 = 0 then some (apply x [e]).1 else none
  | [], r, e => by
    show (if (apply r [e]).2 = 0 then steps (apply r [e]).1 [] else none) = _
    simp only [steps, Option.bind_some]
  | a :: l, r, e => by
    rw [List.cons_append, steps, steps]
    split
    · exact steps_snoc l _ e
    · rfl
end Ro
/-- rows that stay what they are, whatever becomes of a box -/
def RIx (p : Nat) (W : World) (a1 : Option Addr) (n1 c1 : Nat) (a2 : Option Addr) (n2 c2 : Nat) (a3 : Option Addr) (n3 c3 : Nat) (a4 : Option Addr) (n4 c4 : Nat) (x : Ro.R) : Prop := ∀ W', W.grownBy W' (some p) → RIn W' a1 n1 c1 a2 n2 c2 a3 n3 c3 a4 n4 c4 x
theorem rix_args {p : Nat} {w W : World} {a1 : Option Addr} {n1 c1 : Nat} {a2 : Option Addr} {n2 c2 : Nat} {a3 : Option Addr} {n3 c3 : Nat} {a4 : Option Addr} {n4 c4 : Nat} {x : Ro.R} (h : RIn w a1 n1 c1 a2 n2 c2 a3 n3 c3 a4 n4 c4 x) (hb : Below w.heap.size w W) (hp : w.heap.size ≤ p) : RIx p W a1 n1 c1 a2 n2 c2 a3 n3 c3 a4 n4 c4 x := fun W' hg => h.below (hb.grown hg hb.size (fun k hk => by cases hk; exact hp))
theorem RIx.go {p : Nat} {W W1 : World} {a1 : Option Addr} {n1 c1 : Nat} {a2 : Option Addr} {n2 c2 : Nat} {a3 : Option Addr} {n3 c3 : Nat} {a4 : Option Addr} {n4 c4 : Nat} {x : Ro.R} (h : RIx p W a1 n1 c1 a2 n2 c2 a3 n3 c3 a4 n4 c4 x) (hg : W.grownBy W1 (some p)) : RIx p W1 a1 n1 c1 a2 n2 c2 a3 n3 c3 a4 n4 c4 x := fun W' hg' => h W' (hg.trans hg')
theorem rix_own {p B : Nat} {W : World} {a1 : Option Addr} {n1 c1 : Nat} {a2 : Option Addr} {n2 c2 : Nat} {a3 : Option Addr} {n3 c3 : Nat} {a4 : Option Addr} {n4 c4 : Nat} {x : Ro.R} (h : ROwn B W a1 n1 c1 a2 n2 c2 a3 n3 c3 a4 n4 c4 x) (hp : p < B) (hc : Ro.check x = true) : RIx p W a1 n1 c1 a2 n2 c2 a3 n3 c3 a4 n4 c4 x := fun W' hg => by
  have hI := Ro.check_inv hc
  have b1 := hI.l1; have b2 := hI.l2; have b3 := hI.l3; have b4 := hI.l4
  obtain ⟨l1, l2, l3, l4⟩ := h.len
  have h2 : ROwn B W' a1 n1 c1 a2 n2 c2 a3 n3 c3 a4 n4 c4 x := ⟨h.o1.kept hg (.inr (own_ne h.o1 hp).symm), h.o2.kept hg (.inr (own_ne h.o2 hp).symm), h.o3.kept hg (.inr (own_ne h.o3 hp).symm), h.o4.kept hg (.inr (own_ne h.o4 hp).symm)⟩
  refine h2.rin (by omega) (by omega) (by omega) (by omega) (fun t ht => ?_)
  have ho := (Ro.may_of_check hc).tabs.one t ht
  have hf := ho.f
  have hg := ho.g
  simp only [Lv.key, Bool.and_eq_true, decide_eq_true_eq] at hf hg
  omega

set_option maxRecDepth 100000 in
set_option maxHeartbeats 8000000 in
theorem rwhole_any (s : List Int) (ms : List (Int × Int)) (ts : List Lv.T) (ks : List (Int × Int × Int)) (a1 : Option Addr) (n1 c1 : Nat) (a2 : Option Addr) (n2 c2 : Nat) (a3 : Option Addr) (n3 c3 : Nat) (a4 : Option Addr) (n4 c4 : Nat) (i1 i2 i3 i4 i5 i6 i7 : Int) (ad : Option Addr) (len cap : Nat) (l : List Ed.E) (w : World) (h0 : IsRos w a1 n1 c1 a2 n2 c2 a3 n3 c3 a4 n4 c4 ⟨s, ms, ts, ks, i1, i2, i3, i4, i5, i6, i7⟩) (hl0 : IsEdits w ad len cap l) (hlg : rlgt ⟨s, ms, ts, ks, i1, i2, i3, i4, i5, i6, i7⟩ = true) (heg : elgt l = true) :
    Calls Tryz.prog 6 #[.agg #[.slice a1 n1 c1, .slice a2 n2 c2, .slice a3 n3 c3, .slice a4 n4 c4, .int .i64 i1, .int .i64 i2, .int .i64 i3, .int .i64 i4, .int .i64 i5, .int .i64 i6, .int .i64 i7], .slice ad len cap] w fun e w' => e = .returned (.bool true) ∧ Below w.heap.size w w' := by
  have hlen : len ≤ 40 := by have := elgt_len heg; rw [hl0.1.1] at this; exact this
  have h : RIn w a1 n1 c1 a2 n2 c2 a3 n3 c3 a4 n4 c4 ⟨s, ms, ts, ks, i1, i2, i3, i4, i5, i6, i7⟩ := h0.rin hlg
  have hl : ERow w ad len l := hl0.1
  have hll : Hid (l.length = len) := hl.1
  have HL : Hid (ERow w ad len l) := hl
  have HI : Hid (RIn w a1 n1 c1 a2 n2 c2 a3 n3 c3 a4 n4 c4 ⟨s, ms, ts, ks, i1, i2, i3, i4, i5, i6, i7⟩) := h
  have hwa := fun W => rawake_any W
  have hli := fun W (hb : Below w.heap.size w W) => rlight_any s ms ts ks a1 n1 c1 a2 n2 c2 a3 n3 c3 a4 n4 c4 i1 i2 i3 i4 i5 i6 i7 W ⟨h0.r1.below hb (Nat.le_refl _), h0.r2.below hb (Nat.le_refl _), h0.r3.below hb (Nat.le_refl _), h0.r4.below hb (Nat.le_refl _), h0.z1, h0.z2, h0.z3, h0.z4, h0.c3, h0.s1, h0.s2, h0.s3, h0.s4⟩ true hlg.symm
  have hle := fun W (hb : Below w.heap.size w W) => elight_any ad len cap l W (hl.below hb (Nat.le_refl _)) hl0.2.2.2
  rw [heg] at hle
  obtain ⟨U, hU⟩ : ∃ U, U = w.alloc (.cells #[.slice a1 n1 c1, .slice a2 n2 c2, .slice a3 n3 c3, .slice a4 n4 c4, .int .i64 i1, .int .i64 i2, .int .i64 i3, .int .i64 i4, .int .i64 i5, .int .i64 i6, .int .i64 i7] 29) := ⟨_, rfl⟩
  have hbU : Below w.heap.size w U := by rw [hU]; exact below_alloc _ _
  have e0 : U.heap[w.heap.size]? = some (.cells #[.slice a1 n1 c1, .slice a2 n2 c2, .slice a3 n3 c3, .slice a4 n4 c4, .int .i64 i1, .int .i64 i2, .int .i64 i3, .int .i64 i4, .int .i64 i5, .int .i64 i6, .int .i64 i7] 29 (0, 0)) := by rw [hU]; exact heap_alloc_new _ _
  have x0 := (blkc e0).1 0
  have x1 := (blkc e0).1 1
  have x2 := (blkc e0).1 2
  have x3 := (blkc e0).1 3
  have x4 := (blkc e0).1 4
  have x5 := (blkc e0).1 5
  have x6 := (blkc e0).1 6
  have x7 := (blkc e0).1 7
  have x8 := (blkc e0).1 8
  have x9 := (blkc e0).1 9
  have x10 := (blkc e0).1 10
  have HU : Hid (Below w.heap.size w U) := hbU
  have E0 : Hid (U.heap[w.heap.size]? = some (.cells #[.slice a1 n1 c1, .slice a2 n2 c2, .slice a3 n3 c3, .slice a4 n4 c4, .int .i64 i1, .int .i64 i2, .int .i64 i3, .int .i64 i4, .int .i64 i5, .int .i64 i6, .int .i64 i7] 29 (0, 0))) := e0
  have HSZ : Hid (U.heap.size = w.heap.size + 1) := (by rw [hU]; simp : _ = _)
  have hUe : w.alloc (.cells #[.slice a1 n1 c1, .slice a2 n2 c2, .slice a3 n3 c3, .slice a4 n4 c4, .int .i64 i1, .int .i64 i2, .int .i64 i3, .int .i64 i4, .int .i64 i5, .int .i64 i6, .int .i64 i7] 29) = U := hU.symm
  clear h h0 hl0 hl hlg heg e0 hbU hU
  go_enter Tryz.func6, Tryz.ntmps6
  go_wp2_with fail
  clear hUe
  refine (hli _ HU.out).mono ?_
  rintro e w1 ⟨rfl, hb1⟩
  have hw1 := HU.out.trans (hb1.mono HU.out.size)
  have hG1 := (hb1.block _ (ob_ltB E0.out)).trans E0.out
  clear x0 x1 x2 x3 x4 x5 x6 x7 x8 x9 x10
  have x0 := (blkc hG1).1 0
  have x1 := (blkc hG1).1 1
  have x2 := (blkc hG1).1 2
  have x3 := (blkc hG1).1 3
  have x4 := (blkc hG1).1 4
  have x5 := (blkc hG1).1 5
  have x6 := (blkc hG1).1 6
  have x7 := (blkc hG1).1 7
  have x8 := (blkc hG1).1 8
  have x9 := (blkc hG1).1 9
  have x10 := (blkc hG1).1 10
  go_wp2_with (go_at_call 8; go_must (refine (hle _ hw1).mono ?_; rintro e w2 ⟨rfl, hw2⟩; obtain rfl : w1 = w2 := hw2.symm))
  have hbA := below_alloc w1 (.cells #[.slice a1 n1 c1, .slice a2 n2 c2, .slice a3 n3 c3, .slice a4 n4 c4, .int .i64 i1, .int .i64 i2, .int .i64 i3, .int .i64 i4, .int .i64 i5, .int .i64 i6, .int .i64 i7] 29)
  have hPA : (w1.alloc (.cells #[.slice a1 n1 c1, .slice a2 n2 c2, .slice a3 n3 c3, .slice a4 n4 c4, .int .i64 i1, .int .i64 i2, .int .i64 i3, .int .i64 i4, .int .i64 i5, .int .i64 i6, .int .i64 i7] 29)).heap[w1.heap.size]? = some (.cells #[.slice a1 n1 c1, .slice a2 n2 c2, .slice a3 n3 c3, .slice a4 n4 c4, .int .i64 i1, .int .i64 i2, .int .i64 i3, .int .i64 i4, .int .i64 i5, .int .i64 i6, .int .i64 i7] 29 (0, 0)) := heap_alloc_new _ _
  have hGA := (hbA.block _ (ob_ltB hG1)).trans hG1
  have hbW := hw1.trans (hbA.mono hw1.size)
  have hP01 : w.heap.size < w1.heap.size := ob_ltB hG1
  clear x0 x1 x2 x3 x4 x5 x6 x7 x8 x9 x10 hG1 hb1 hli hle
  generalize w1.alloc (.cells #[.slice a1 n1 c1, .slice a2 n2 c2, .slice a3 n3 c3, .slice a4 n4 c4, .int .i64 i1, .int .i64 i2, .int .i64 i3, .int .i64 i4, .int .i64 i5, .int .i64 i6, .int .i64 i7] 29) = V0 at *
  generalize w1.heap.size = P1 at *
  have H0V : Hid (V0.heap[w.heap.size]? = some (.cells #[.slice a1 n1 c1, .slice a2 n2 c2, .slice a3 n3 c3, .slice a4 n4 c4, .int .i64 i1, .int .i64 i2, .int .i64 i3, .int .i64 i4, .int .i64 i5, .int .i64 i6, .int .i64 i7] 29 (0, 0))) := hGA
  have H1V : Hid (V0.heap[P1]? = some (.cells #[.slice a1 n1 c1, .slice a2 n2 c2, .slice a3 n3 c3, .slice a4 n4 c4, .int .i64 i1, .int .i64 i2, .int .i64 i3, .int .i64 i4, .int .i64 i5, .int .i64 i6, .int .i64 i7] 29 (0, 0))) := hPA
  have HXV : Hid (RIx P1 V0 a1 n1 c1 a2 n2 c2 a3 n3 c3 a4 n4 c4 ⟨s, ms, ts, ks, i1, i2, i3, i4, i5, i6, i7⟩) := rix_args HI.out hbW (by omega)
  have HBV : Hid (Below w.heap.size w V0) := hbW
  clear hGA hPA hbW hw1 hbA HSZ HU E0
  go_loopw [6, 7, 8] (fun iv _ _ wr => ∃ (k : Nat) (xs : List Int) (xm : List (Int × Int)) (xt : List Lv.T) (xk : List (Int × Int × Int)) (A1 : Option Addr) (N1 C1 : Nat) (A2 : Option Addr) (N2 C2 : Nat) (A3 : Option Addr) (N3 C3 : Nat) (A4 : Option Addr) (N4 C4 : Nat) (y1 y2 y3 y4 y5 y6 y7 : Int), k ≤ len ∧ iv = .int .i64 k ∧ Hid (Ro.steps ⟨s, ms, ts, ks, i1, i2, i3, i4, i5, i6, i7⟩ (l.take k) = some ⟨xs, xm, xt, xk, y1, y2, y3, y4, y5, y6, y7⟩) ∧ Hid (wr.heap[w.heap.size]? = some (.cells #[.slice a1 n1 c1, .slice a2 n2 c2, .slice a3 n3 c3, .slice a4 n4 c4, .int .i64 i1, .int .i64 i2, .int .i64 i3, .int .i64 i4, .int .i64 i5, .int .i64 i6, .int .i64 i7] 29 (0, 0))) ∧ Hid (wr.heap[P1]? = some (.cells #[.slice A1 N1 C1, .slice A2 N2 C2, .slice A3 N3 C3, .slice A4 N4 C4, .int .i64 y1, .int .i64 y2, .int .i64 y3, .int .i64 y4, .int .i64 y5, .int .i64 y6, .int .i64 y7] 29 (0, 0))) ∧ Hid (RIx (P1) wr A1 N1 C1 A2 N2 C2 A3 N3 C3 A4 N4 C4 ⟨xs, xm, xt, xk, y1, y2, y3, y4, y5, y6, y7⟩) ∧ Hid (Below w.heap.size w wr)) (fun iv _ _ _ => len - (intOf iv).toNat)
  case atStart => exact ⟨0, s, ms, ts, ks, a1, n1, c1, a2, n2, c2, a3, n3, c3, a4, n4, c4, i1, i2, i3, i4, i5, i6, i7, by omega, rfl, (rfl : _ = _), H0V, H1V, HXV, HBV⟩
  case round =>
    obtain ⟨k, xs, xm, xt, xk, A1, N1, C1, A2, N2, C2, A3, N3, C3, A4, N4, C4, y1, y2, y3, y4, y5, y6, y7, hk, rfl, HST, H0, H1, HX, HB⟩ := hrel
    clear H0V H1V HXV HBV
    by_cases hlt : k < len
    · obtain ⟨Bk, O, k9, n9, i9, t9, a9, b9, c9, p9, q9, r9, f9, g9, rfl, hx, m0, m1, m2, m3, m4, m5, m6, m7, m8, m9, m10, m11⟩ := eget HL.out HB.out hlt
      have hk' : k < l.length := by rw [hll.out]; exact hlt
      obtain ⟨X, ERR, hXE⟩ : ∃ X ERR, (X, ERR) = Ro.apply ⟨xs, xm, xt, xk, y1, y2, y3, y4, y5, y6, y7⟩ [⟨k9, n9, i9, t9, a9, b9, c9, ⟨p9, q9, r9, f9, g9⟩⟩] := ⟨_, _, rfl⟩
      have HSN : Hid (ERR = 0 → Ro.steps ⟨s, ms, ts, ks, i1, i2, i3, i4, i5, i6, i7⟩ (l.take (k + 1)) = some X) := (fun he => by
        rw [etake hk', Ro.steps_snoc, HST.out, Option.bind_some, hx.out, ← hXE]
        simp [he] : _ → _)
      have HCX : Hid (ERR = 0 → Ro.check X = true) := (fun he => by
        have := (Ro.apply_one (r := ⟨xs, xm, xt, xk, y1, y2, y3, y4, y5, y6, y7⟩) (e := ⟨k9, n9, i9, t9, a9, b9, c9, ⟨p9, q9, r9, f9, g9⟩⟩) (by rw [← hXE]; exact he)).2.2.2
        rwa [← hXE] at this : _ → _)
      have hap := fun W (g : Nat) (hr : RIn W A1 N1 C1 A2 N2 C2 A3 N3 C3 A4 N4 C4 ⟨xs, xm, xt, xk, y1, y2, y3, y4, y5, y6, y7⟩) (he : ERow W (some ⟨g, 0, none⟩) 1 [⟨k9, n9, i9, t9, a9, b9, c9, ⟨p9, q9, r9, f9, g9⟩⟩]) => rapply_any xs xm xt xk A1 N1 C1 A2 N2 C2 A3 N3 C3 A4 N4 C4 y1 y2 y3 y4 y5 y6 y7 (some ⟨g, 0, none⟩) 1 1 [⟨k9, n9, i9, t9, a9, b9, c9, ⟨p9, q9, r9, f9, g9⟩⟩] W hr he (by omega)
      rw [← hXE] at hap
      unfold ApRes at hap
      dsimp only at hap
      have hi0 : (0 : Int) ≤ (k : Int) := by omega
      have hi1 : (k : Int) < (len : Int) := by omega
      have hEl := fun W : World => lit_edit W k9 n9 i9 t9 a9 b9 c9 p9 q9 r9 f9 g9 (o := W.heap.size) rfl
      have HV : Hid (∀ W, Below wr.heap.size wr W → (W.cell? ⟨P1, 0, none⟩ = some (.slice A1 N1 C1) ∧ W.cell? ⟨P1, 1, none⟩ = some (.slice A2 N2 C2) ∧ W.cell? ⟨P1, 2, none⟩ = some (.slice A3 N3 C3) ∧ W.cell? ⟨P1, 3, none⟩ = some (.slice A4 N4 C4) ∧ W.cell? ⟨P1, 4, none⟩ = some (.int .i64 y1) ∧ W.cell? ⟨P1, 5, none⟩ = some (.int .i64 y2) ∧ W.cell? ⟨P1, 6, none⟩ = some (.int .i64 y3) ∧ W.cell? ⟨P1, 7, none⟩ = some (.int .i64 y4) ∧ W.cell? ⟨P1, 8, none⟩ = some (.int .i64 y5) ∧ W.cell? ⟨P1, 9, none⟩ = some (.int .i64 y6) ∧ W.cell? ⟨P1, 10, none⟩ = some (.int .i64 y7) ∧ W.cell? ⟨Bk, O + k * 12, none⟩ = some (.int .i64 k9) ∧ W.cell? ⟨Bk, O + k * 12 + 1, none⟩ = some (.int .i64 n9) ∧ W.cell? ⟨Bk, O + k * 12 + 2, none⟩ = some (.int .i64 i9) ∧ W.cell? ⟨Bk, O + k * 12 + 3, none⟩ = some (.int .i64 t9) ∧ W.cell? ⟨Bk, O + k * 12 + 4, none⟩ = some (.int .i64 a9) ∧ W.cell? ⟨Bk, O + k * 12 + 5, none⟩ = some (.int .i64 b9) ∧ W.cell? ⟨Bk, O + k * 12 + 6, none⟩ = some (.int .i64 c9) ∧ W.cell? ⟨Bk, O + k * 12 + 7, none⟩ = some (.int .i64 p9) ∧ W.cell? ⟨Bk, O + k * 12 + 8, none⟩ = some (.int .i64 q9) ∧ W.cell? ⟨Bk, O + k * 12 + 9, none⟩ = some (.int .i64 r9) ∧ W.cell? ⟨Bk, O + k * 12 + 10, none⟩ = some (.string f9) ∧ W.cell? ⟨Bk, O + k * 12 + 11, none⟩ = some (.string g9))) := (fun W hb => by
        have a := (blkc ((hb.block _ (ob_ltB H1.out)).trans H1.out)).1
        exact ⟨a 0, a 1, a 2, a 3, a 4, a 5, a 6, a 7, a 8, a 9, a 10, (hb.cell (p := ⟨Bk, O + k * 12, none⟩) (cell_lt m0)).trans m0, (hb.cell (p := ⟨Bk, O + k * 12 + 1, none⟩) (cell_lt m1)).trans m1, (hb.cell (p := ⟨Bk, O + k * 12 + 2, none⟩) (cell_lt m2)).trans m2, (hb.cell (p := ⟨Bk, O + k * 12 + 3, none⟩) (cell_lt m3)).trans m3, (hb.cell (p := ⟨Bk, O + k * 12 + 4, none⟩) (cell_lt m4)).trans m4, (hb.cell (p := ⟨Bk, O + k * 12 + 5, none⟩) (cell_lt m5)).trans m5, (hb.cell (p := ⟨Bk, O + k * 12 + 6, none⟩) (cell_lt m6)).trans m6, (hb.cell (p := ⟨Bk, O + k * 12 + 7, none⟩) (cell_lt m7)).trans m7, (hb.cell (p := ⟨Bk, O + k * 12 + 8, none⟩) (cell_lt m8)).trans m8, (hb.cell (p := ⟨Bk, O + k * 12 + 9, none⟩) (cell_lt m9)).trans m9, (hb.cell (p := ⟨Bk, O + k * 12 + 10, none⟩) (cell_lt m10)).trans m10, (hb.cell (p := ⟨Bk, O + k * 12 + 11, none⟩) (cell_lt m11)).trans m11⟩ : ∀ W, _ → _)
      obtain ⟨ca0, ca1, ca2, ca3, ca4, ca5, ca6, ca7, ca8, ca9, ca10, _, _, _, _, _, _, _, _, _, _, _, _⟩ := HV.out wr (Below.refl _ _)
      have bA : Below wr.heap.size wr (wr.alloc (oed k9 n9 i9 t9 a9 b9 c9 p9 q9 r9 f9 g9)).drew := (below_alloc _ _).drew
      have bB : Below wr.heap.size wr ((wr.alloc (.cells #[.slice none 0 0, .slice none 0 0, .slice none 0 0, .slice none 0 0, .int .i64 0, .int .i64 0, .int .i64 0, .int .i64 0, .int .i64 0, .int .i64 0, .int .i64 0] 29)).alloc (oed k9 n9 i9 t9 a9 b9 c9 p9 q9 r9 f9 g9)).drew := (below_two _ _ _).drew
      have bC : Below wr.heap.size wr ((wr.alloc (oed k9 n9 i9 t9 a9 b9 c9 p9 q9 r9 f9 g9)).alloc (.cells #[.slice none 0 0, .slice none 0 0, .slice none 0 0, .slice none 0 0, .int .i64 0, .int .i64 0, .int .i64 0, .int .i64 0, .int .i64 0, .int .i64 0, .int .i64 0] 29)).drew := (below_two _ _ _).drew
      have eA0 := hEl wr
      have eA := eA0.below (Below.refl _ _).drew (Nat.le_refl _)
      have eB := (hEl (wr.alloc (.cells #[.slice none 0 0, .slice none 0 0, .slice none 0 0, .slice none 0 0, .int .i64 0, .int .i64 0, .int .i64 0, .int .i64 0, .int .i64 0, .int .i64 0, .int .i64 0] 29))).below (Below.refl _ _).drew (Nat.le_refl _)
      have eC := eA0.below ((below_alloc (wr.alloc (oed k9 n9 i9 t9 a9 b9 c9 p9 q9 r9 f9 g9)) (.cells #[.slice none 0 0, .slice none 0 0, .slice none 0 0, .slice none 0 0, .int .i64 0, .int .i64 0, .int .i64 0, .int .i64 0, .int .i64 0, .int .i64 0, .int .i64 0] 29)).drew) (Nat.le_refl _)
      have cA := hap _ _ (HX.out _ (grown_any bA _)) eA
      have cB := hap _ _ (HX.out _ (grown_any bB _)) eB
      have cC := hap _ _ (HX.out _ (grown_any bC _)) eC
      rw [World.size_alloc] at cB
      have zB : ((wr.alloc (.cells #[.slice none 0 0, .slice none 0 0, .slice none 0 0, .slice none 0 0, .int .i64 0, .int .i64 0, .int .i64 0, .int .i64 0, .int .i64 0, .int .i64 0, .int .i64 0] 29)).alloc (oed k9 n9 i9 t9 a9 b9 c9 p9 q9 r9 f9 g9)).drew.heap[wr.heap.size]? = some (.cells #[.slice none 0 0, .slice none 0 0, .slice none 0 0, .slice none 0 0, .int .i64 0, .int .i64 0, .int .i64 0, .int .i64 0, .int .i64 0, .int .i64 0, .int .i64 0] 29 (0, 0)) := (Below.heap_alloc _ _ _ (by simp)).trans (heap_alloc_new _ _)
      have zC : ((wr.alloc (oed k9 n9 i9 t9 a9 b9 c9 p9 q9 r9 f9 g9)).alloc (.cells #[.slice none 0 0, .slice none 0 0, .slice none 0 0, .slice none 0 0, .int .i64 0, .int .i64 0, .int .i64 0, .int .i64 0, .int .i64 0, .int .i64 0, .int .i64 0] 29)).drew.heap[wr.heap.size + 1]? = some (.cells #[.slice none 0 0, .slice none 0 0, .slice none 0 0, .slice none 0 0, .int .i64 0, .int .i64 0, .int .i64 0, .int .i64 0, .int .i64 0, .int .i64 0, .int .i64 0] 29 (0, 0)) := by have := heap_alloc_new (wr.alloc (oed k9 n9 i9 t9 a9 b9 c9 p9 q9 r9 f9 g9)) (.cells #[.slice none 0 0, .slice none 0 0, .slice none 0 0, .slice none 0 0, .int .i64 0, .int .i64 0, .int .i64 0, .int .i64 0, .int .i64 0, .int .i64 0, .int .i64 0] 29); rwa [World.size_alloc] at this
      clear hx hk' hXE hap hEl eA eB eC eA0
      go_wp2_with fail
      refine wp_region_held_drew (S := (fun W => W.cell? ⟨P1, 0, none⟩ = some (.slice A1 N1 C1) ∧ W.cell? ⟨P1, 1, none⟩ = some (.slice A2 N2 C2) ∧ W.cell? ⟨P1, 2, none⟩ = some (.slice A3 N3 C3) ∧ W.cell? ⟨P1, 3, none⟩ = some (.slice A4 N4 C4) ∧ W.cell? ⟨P1, 4, none⟩ = some (.int .i64 y1) ∧ W.cell? ⟨P1, 5, none⟩ = some (.int .i64 y2) ∧ W.cell? ⟨P1, 6, none⟩ = some (.int .i64 y3) ∧ W.cell? ⟨P1, 7, none⟩ = some (.int .i64 y4) ∧ W.cell? ⟨P1, 8, none⟩ = some (.int .i64 y5) ∧ W.cell? ⟨P1, 9, none⟩ = some (.int .i64 y6) ∧ W.cell? ⟨P1, 10, none⟩ = some (.int .i64 y7) ∧ W.cell? ⟨Bk, O + k * 12, none⟩ = some (.int .i64 k9) ∧ W.cell? ⟨Bk, O + k * 12 + 1, none⟩ = some (.int .i64 n9) ∧ W.cell? ⟨Bk, O + k * 12 + 2, none⟩ = some (.int .i64 i9) ∧ W.cell? ⟨Bk, O + k * 12 + 3, none⟩ = some (.int .i64 t9) ∧ W.cell? ⟨Bk, O + k * 12 + 4, none⟩ = some (.int .i64 a9) ∧ W.cell? ⟨Bk, O + k * 12 + 5, none⟩ = some (.int .i64 b9) ∧ W.cell? ⟨Bk, O + k * 12 + 6, none⟩ = some (.int .i64 c9) ∧ W.cell? ⟨Bk, O + k * 12 + 7, none⟩ = some (.int .i64 p9) ∧ W.cell? ⟨Bk, O + k * 12 + 8, none⟩ = some (.int .i64 q9) ∧ W.cell? ⟨Bk, O + k * 12 + 9, none⟩ = some (.int .i64 r9) ∧ W.cell? ⟨Bk, O + k * 12 + 10, none⟩ = some (.string f9) ∧ W.cell? ⟨Bk, O + k * 12 + 11, none⟩ = some (.string g9))) (by kernel_rfl) (HV.out _ (Below.refl _ _).drew) (fun hHeld => ?_)
      refine wpAnyH_take (i := 0) (oi := ⟨some 28, _, _, _, _, _⟩) (v := ?_) rfl (by kernel_rfl) (by kernel_rfl) (by kernel_rfl) (fun _ _ _ h => h) (Or.inl ⟨by rfl, ?_⟩) (by assumption) ?_
      rotate_left
      · intro w hSw; (try dsimp only at hSw); go_simp <;> (try with_reducible rfl)
      go_frame
      refine wpAnyH_take (i := 1) (oi := ⟨some 29, _, _, _, _, _⟩) (v := ?_) rfl (by kernel_rfl) (by kernel_rfl) (by kernel_rfl) (fun _ _ _ h => h) (Or.inl ⟨by rfl, ?_⟩) (by assumption) ?_
      rotate_left
      · intro w hSw; (try dsimp only at hSw); go_simp <;> (try with_reducible rfl)
      go_frame
      refine wpAnyH_take (i := 2) (oi := ⟨some 30, _, _, _, _, _⟩) (v := ?_) rfl (by kernel_rfl) (by kernel_rfl) (by kernel_rfl) (fun _ _ _ h => h) (Or.inl ⟨by rfl, ?_⟩) (by assumption) ?_
      rotate_left
      · intro w hSw; (try dsimp only at hSw); go_simp <;> (try with_reducible rfl)
      go_frame
      refine wpAnyH_take (i := 3) (oi := ⟨some 31, _, _, _, _, _⟩) (v := ?_) rfl (by kernel_rfl) (by kernel_rfl) (by kernel_rfl) (fun _ _ _ h => h) (Or.inl ⟨by rfl, ?_⟩) (by assumption) ?_
      rotate_left
      · intro w hSw; (try dsimp only at hSw); go_simp <;> (try with_reducible rfl)
      go_frame
      refine wpAnyH_take (i := 4) (oi := ⟨some 32, _, _, _, _, _⟩) (v := ?_) rfl (by kernel_rfl) (by kernel_rfl) (by kernel_rfl) (fun _ _ _ h => h) (Or.inl ⟨by rfl, ?_⟩) (by assumption) ?_
      rotate_left
      · intro w hSw; (try dsimp only at hSw); go_simp <;> (try with_reducible rfl)
      go_frame
      refine wpAnyH_ready (rs := [5, 10]) (by kernel_rfl) (by simp) ?_
      refine AllReadyH.cons rfl (fun K hK => ?_) (AllReadyH.cons rfl (fun K hK => ?_) AllReadyH.nil)
      · skip
        go_simp
        refine hK.out _ _ (HV.out _ bA) (fun hHeld => ?_)
        clear hK K
        refine wpAnyH_ready (rs := [6, 10]) (by kernel_rfl) (by simp) ?_
        refine AllReadyH.cons rfl (fun K hK => ?_) (AllReadyH.cons rfl (fun K hK => ?_) AllReadyH.nil)
        · skip
          go_simp; go_at_call 10; refine cA.mono ?_; rintro e w5 ⟨D1, M1, G1, D2, M2, G2, D3, M3, G3, D4, M4, G4, rfl, hro, b5⟩; have hb5 := bA.trans (b5.mono bA.size); have hlo5 := bA.size
          refine hK.out _ _ (HV.out _ hb5) (fun hHeld => ?_)
          clear hK K
          try go_frame
          refine wpAnyH_take (i := 7) (oi := ⟨some 27, _, _, _, _, _⟩) (v := ?_) rfl (by kernel_rfl) (by kernel_rfl) (by kernel_rfl) (fun _ _ _ h => h) (Or.inl ⟨by rfl, ?_⟩) (by assumption) ?_
          rotate_left
          · intro w hSw; (try dsimp only at hSw); go_simp <;> (try with_reducible rfl)
          go_frame
          refine wpAnyH_take (i := 8) (oi := ⟨some 35, _, _, _, _, _⟩) (v := ?_) rfl (by kernel_rfl) (by kernel_rfl) (by kernel_rfl) (fun _ _ _ h => h) (Or.inl ⟨by rfl, ?_⟩) (by assumption) ?_
          rotate_left
          · intro w hSw; (try dsimp only at hSw); go_simp <;> (try with_reducible rfl)
          go_frame
          refine wpAnyH_take (i := 9) (oi := ⟨some 36, _, _, _, _, _⟩) (v := ?_) rfl (by kernel_rfl) (by kernel_rfl) (by kernel_rfl) (fun _ _ _ h => h) (Or.inl ⟨by rfl, ?_⟩) (by assumption) ?_
          rotate_left
          · intro w hSw; (try dsimp only at hSw); go_simp <;> (try with_reducible rfl)
          go_frame
          refine wpAnyH_ready (rs := [10]) (by kernel_rfl) (by simp) ?_
          refine AllReadyH.cons rfl (fun K hK => ?_) AllReadyH.nil
          go_simp
          refine hK.out _ _ (HV.out _ (hb5.alloc hb5.size _)) (fun hHeld => ?_)
          clear hK K
          refine wpAnyH_ready (rs := [11]) (by kernel_rfl) (by simp) ?_
          refine AllReadyH.cons rfl (fun K hK => ?_) AllReadyH.nil
          go_simp
          refine hK.out _ _ (HV.out _ (hb5.alloc hb5.size _)) (fun hHeld => ?_)
          clear hK K
          refine wpAnyH_take (i := 12) (oi := ⟨some 8, _, _, _, _, _⟩) (v := ?_) rfl (by kernel_rfl) (by kernel_rfl) (by kernel_rfl) (fun _ _ _ h => h) (Or.inl ⟨by rfl, ?_⟩) (by assumption) ?_
          rotate_left
          · intro w hSw; (try dsimp only at hSw); go_simp <;> (try with_reducible rfl)
          go_frame
          refine wpAnyH_done (by kernel_rfl) ?_ _
          obtain ⟨V, hV⟩ : ∃ V, V = w5.alloc (.cells #[.slice D1 M1 G1, .slice D2 M2 G2, .slice D3 M3 G3, .slice D4 M4 G4, .int .i64 X.log, .int .i64 X.index, .int .i64 X.term, .int .i64 X.ht, .int .i64 X.hv, .int .i64 X.hc, .int .i64 X.mark] 29) := ⟨_, rfl⟩
          rw [← hV]
          have hY : V.heap[w5.heap.size]? = some (.cells #[.slice D1 M1 G1, .slice D2 M2 G2, .slice D3 M3 G3, .slice D4 M4 G4, .int .i64 X.log, .int .i64 X.index, .int .i64 X.term, .int .i64 X.ht, .int .i64 X.hv, .int .i64 X.hc, .int .i64 X.mark] 29 (0, 0)) := by rw [hV]; exact heap_alloc_new _ _
          have hbV : Hid (Below wr.heap.size wr V) := (by rw [hV]; exact hb5.alloc hb5.size _ : Below _ _ _)
          have hRY : ROwn _ V D1 M1 G1 D2 M2 G2 D3 M3 G3 D4 M4 G4 X := hro.kept (by rw [hV]; exact below_alloc _ _)
          have hlow : P1 < (wr.alloc (oed k9 n9 i9 t9 a9 b9 c9 p9 q9 r9 f9 g9)).drew.heap.size := Nat.lt_of_lt_of_le (ob_ltB H1.out) hlo5
          clear hV
          have hP0 := (hbV.out.block _ (ob_ltB H0.out)).trans H0.out
          have hP1 := (hbV.out.block _ (ob_ltB H1.out)).trans H1.out
          clear ca0 ca1 ca2 ca3 ca4 ca5 ca6 ca7 ca8 ca9 ca10 m0 m1 m2 m3 m4 m5 m6 m7 m8 m9 m10 m11
          cases hz : decide (ERR = 0) with
          | false =>
            have hE : ¬ (ERR = 0) := of_decide_eq_false hz
            have hE2 : (ERR == 0) = false := by simpa using hE
            clear hz hE
            go_wp2_with (go_at_call 9; go_must (refine (hwa _).mono ?_; rintro e w7 ⟨rfl, hb7⟩))
            go_ret
            have hbF := hbV.out.trans (hb7.mono hbV.out.size)
            exact ⟨rfl, HB.out.trans (hbF.mono HB.out.size)⟩
          | true =>
            obtain rfl : ERR = 0 := of_decide_eq_true hz
            clear hz
            have hsn : Ro.steps ⟨s, ms, ts, ks, i1, i2, i3, i4, i5, i6, i7⟩ (l.take (k + 1)) = some X := HSN.out rfl
            have hcx : Ro.check X = true := HCX.out rfl
            have d0 := (blkc hY).1 0
            have d1 := (blkc hY).1 1
            have d2 := (blkc hY).1 2
            have d3 := (blkc hY).1 3
            have d4 := (blkc hY).1 4
            have d5 := (blkc hY).1 5
            have d6 := (blkc hY).1 6
            have d7 := (blkc hY).1 7
            have d8 := (blkc hY).1 8
            have d9 := (blkc hY).1 9
            have d10 := (blkc hY).1 10
            have e0 := (blkc hP1).1 0
            have e1 := (blkc hP1).1 1
            have e2 := (blkc hP1).1 2
            have e3 := (blkc hP1).1 3
            have e4 := (blkc hP1).1 4
            have e5 := (blkc hP1).1 5
            have e6 := (blkc hP1).1 6
            have e7 := (blkc hP1).1 7
            have e8 := (blkc hP1).1 8
            have e9 := (blkc hP1).1 9
            have e10 := (blkc hP1).1 10
            have fz0 := (blkc hP1).2 0
            have fz1 := (blkc hP1).2 1
            have fz2 := (blkc hP1).2 2
            have fz3 := (blkc hP1).2 3
            have fz4 := (blkc hP1).2 4
            have fz5 := (blkc hP1).2 5
            have fz6 := (blkc hP1).2 6
            have fz7 := (blkc hP1).2 7
            have fz8 := (blkc hP1).2 8
            have fz9 := (blkc hP1).2 9
            have fz10 := (blkc hP1).2 10
            have HPY : Hid (V.heap[_]? = _) := hP1
            go_wp2
            have QQ0 : (V.setCell ⟨P1, 0, none⟩ (.slice D1 M1 G1)).heap[P1]? = some (.cells #[.slice D1 M1 G1, .slice A2 N2 C2, .slice A3 N3 C3, .slice A4 N4 C4, .int .i64 y1, .int .i64 y2, .int .i64 y3, .int .i64 y4, .int .i64 y5, .int .i64 y6, .int .i64 y7] 29 (0, 0)) := bput hP1 _ rfl
            have QQ1 : ((V.setCell ⟨P1, 0, none⟩ (.slice D1 M1 G1)).setCell ⟨P1, 1, none⟩ (.slice D2 M2 G2)).heap[P1]? = some (.cells #[.slice D1 M1 G1, .slice D2 M2 G2, .slice A3 N3 C3, .slice A4 N4 C4, .int .i64 y1, .int .i64 y2, .int .i64 y3, .int .i64 y4, .int .i64 y5, .int .i64 y6, .int .i64 y7] 29 (0, 0)) := bput QQ0 _ rfl
            have QQ2 : (((V.setCell ⟨P1, 0, none⟩ (.slice D1 M1 G1)).setCell ⟨P1, 1, none⟩ (.slice D2 M2 G2)).setCell ⟨P1, 2, none⟩ (.slice D3 M3 G3)).heap[P1]? = some (.cells #[.slice D1 M1 G1, .slice D2 M2 G2, .slice D3 M3 G3, .slice A4 N4 C4, .int .i64 y1, .int .i64 y2, .int .i64 y3, .int .i64 y4, .int .i64 y5, .int .i64 y6, .int .i64 y7] 29 (0, 0)) := bput QQ1 _ rfl
            have QQ3 : ((((V.setCell ⟨P1, 0, none⟩ (.slice D1 M1 G1)).setCell ⟨P1, 1, none⟩ (.slice D2 M2 G2)).setCell ⟨P1, 2, none⟩ (.slice D3 M3 G3)).setCell ⟨P1, 3, none⟩ (.slice D4 M4 G4)).heap[P1]? = some (.cells #[.slice D1 M1 G1, .slice D2 M2 G2, .slice D3 M3 G3, .slice D4 M4 G4, .int .i64 y1, .int .i64 y2, .int .i64 y3, .int .i64 y4, .int .i64 y5, .int .i64 y6, .int .i64 y7] 29 (0, 0)) := bput QQ2 _ rfl
            have QQ4 : (((((V.setCell ⟨P1, 0, none⟩ (.slice D1 M1 G1)).setCell ⟨P1, 1, none⟩ (.slice D2 M2 G2)).setCell ⟨P1, 2, none⟩ (.slice D3 M3 G3)).setCell ⟨P1, 3, none⟩ (.slice D4 M4 G4)).setCell ⟨P1, 4, none⟩ (.int .i64 X.log)).heap[P1]? = some (.cells #[.slice D1 M1 G1, .slice D2 M2 G2, .slice D3 M3 G3, .slice D4 M4 G4, .int .i64 X.log, .int .i64 y2, .int .i64 y3, .int .i64 y4, .int .i64 y5, .int .i64 y6, .int .i64 y7] 29 (0, 0)) := bput QQ3 _ rfl
            have QQ5 : ((((((V.setCell ⟨P1, 0, none⟩ (.slice D1 M1 G1)).setCell ⟨P1, 1, none⟩ (.slice D2 M2 G2)).setCell ⟨P1, 2, none⟩ (.slice D3 M3 G3)).setCell ⟨P1, 3, none⟩ (.slice D4 M4 G4)).setCell ⟨P1, 4, none⟩ (.int .i64 X.log)).setCell ⟨P1, 5, none⟩ (.int .i64 X.index)).heap[P1]? = some (.cells #[.slice D1 M1 G1, .slice D2 M2 G2, .slice D3 M3 G3, .slice D4 M4 G4, .int .i64 X.log, .int .i64 X.index, .int .i64 y3, .int .i64 y4, .int .i64 y5, .int .i64 y6, .int .i64 y7] 29 (0, 0)) := bput QQ4 _ rfl
            have QQ6 : (((((((V.setCell ⟨P1, 0, none⟩ (.slice D1 M1 G1)).setCell ⟨P1, 1, none⟩ (.slice D2 M2 G2)).setCell ⟨P1, 2, none⟩ (.slice D3 M3 G3)).setCell ⟨P1, 3, none⟩ (.slice D4 M4 G4)).setCell ⟨P1, 4, none⟩ (.int .i64 X.log)).setCell ⟨P1, 5, none⟩ (.int .i64 X.index)).setCell ⟨P1, 6, none⟩ (.int .i64 X.term)).heap[P1]? = some (.cells #[.slice D1 M1 G1, .slice D2 M2 G2, .slice D3 M3 G3, .slice D4 M4 G4, .int .i64 X.log, .int .i64 X.index, .int .i64 X.term, .int .i64 y4, .int .i64 y5, .int .i64 y6, .int .i64 y7] 29 (0, 0)) := bput QQ5 _ rfl
            have QQ7 : ((((((((V.setCell ⟨P1, 0, none⟩ (.slice D1 M1 G1)).setCell ⟨P1, 1, none⟩ (.slice D2 M2 G2)).setCell ⟨P1, 2, none⟩ (.slice D3 M3 G3)).setCell ⟨P1, 3, none⟩ (.slice D4 M4 G4)).setCell ⟨P1, 4, none⟩ (.int .i64 X.log)).setCell ⟨P1, 5, none⟩ (.int .i64 X.index)).setCell ⟨P1, 6, none⟩ (.int .i64 X.term)).setCell ⟨P1, 7, none⟩ (.int .i64 X.ht)).heap[P1]? = some (.cells #[.slice D1 M1 G1, .slice D2 M2 G2, .slice D3 M3 G3, .slice D4 M4 G4, .int .i64 X.log, .int .i64 X.index, .int .i64 X.term, .int .i64 X.ht, .int .i64 y5, .int .i64 y6, .int .i64 y7] 29 (0, 0)) := bput QQ6 _ rfl
            have QQ8 : (((((((((V.setCell ⟨P1, 0, none⟩ (.slice D1 M1 G1)).setCell ⟨P1, 1, none⟩ (.slice D2 M2 G2)).setCell ⟨P1, 2, none⟩ (.slice D3 M3 G3)).setCell ⟨P1, 3, none⟩ (.slice D4 M4 G4)).setCell ⟨P1, 4, none⟩ (.int .i64 X.log)).setCell ⟨P1, 5, none⟩ (.int .i64 X.index)).setCell ⟨P1, 6, none⟩ (.int .i64 X.term)).setCell ⟨P1, 7, none⟩ (.int .i64 X.ht)).setCell ⟨P1, 8, none⟩ (.int .i64 X.hv)).heap[P1]? = some (.cells #[.slice D1 M1 G1, .slice D2 M2 G2, .slice D3 M3 G3, .slice D4 M4 G4, .int .i64 X.log, .int .i64 X.index, .int .i64 X.term, .int .i64 X.ht, .int .i64 X.hv, .int .i64 y6, .int .i64 y7] 29 (0, 0)) := bput QQ7 _ rfl
            have QQ9 : ((((((((((V.setCell ⟨P1, 0, none⟩ (.slice D1 M1 G1)).setCell ⟨P1, 1, none⟩ (.slice D2 M2 G2)).setCell ⟨P1, 2, none⟩ (.slice D3 M3 G3)).setCell ⟨P1, 3, none⟩ (.slice D4 M4 G4)).setCell ⟨P1, 4, none⟩ (.int .i64 X.log)).setCell ⟨P1, 5, none⟩ (.int .i64 X.index)).setCell ⟨P1, 6, none⟩ (.int .i64 X.term)).setCell ⟨P1, 7, none⟩ (.int .i64 X.ht)).setCell ⟨P1, 8, none⟩ (.int .i64 X.hv)).setCell ⟨P1, 9, none⟩ (.int .i64 X.hc)).heap[P1]? = some (.cells #[.slice D1 M1 G1, .slice D2 M2 G2, .slice D3 M3 G3, .slice D4 M4 G4, .int .i64 X.log, .int .i64 X.index, .int .i64 X.term, .int .i64 X.ht, .int .i64 X.hv, .int .i64 X.hc, .int .i64 y7] 29 (0, 0)) := bput QQ8 _ rfl
            have QQ10 : (((((((((((V.setCell ⟨P1, 0, none⟩ (.slice D1 M1 G1)).setCell ⟨P1, 1, none⟩ (.slice D2 M2 G2)).setCell ⟨P1, 2, none⟩ (.slice D3 M3 G3)).setCell ⟨P1, 3, none⟩ (.slice D4 M4 G4)).setCell ⟨P1, 4, none⟩ (.int .i64 X.log)).setCell ⟨P1, 5, none⟩ (.int .i64 X.index)).setCell ⟨P1, 6, none⟩ (.int .i64 X.term)).setCell ⟨P1, 7, none⟩ (.int .i64 X.ht)).setCell ⟨P1, 8, none⟩ (.int .i64 X.hv)).setCell ⟨P1, 9, none⟩ (.int .i64 X.hc)).setCell ⟨P1, 10, none⟩ (.int .i64 X.mark)).heap[P1]? = some (.cells #[.slice D1 M1 G1, .slice D2 M2 G2, .slice D3 M3 G3, .slice D4 M4 G4, .int .i64 X.log, .int .i64 X.index, .int .i64 X.term, .int .i64 X.ht, .int .i64 X.hv, .int .i64 X.hc, .int .i64 X.mark] 29 (0, 0)) := bput QQ9 _ rfl
            have hgr : V.grownBy (((((((((((V.setCell ⟨P1, 0, none⟩ (.slice D1 M1 G1)).setCell ⟨P1, 1, none⟩ (.slice D2 M2 G2)).setCell ⟨P1, 2, none⟩ (.slice D3 M3 G3)).setCell ⟨P1, 3, none⟩ (.slice D4 M4 G4)).setCell ⟨P1, 4, none⟩ (.int .i64 X.log)).setCell ⟨P1, 5, none⟩ (.int .i64 X.index)).setCell ⟨P1, 6, none⟩ (.int .i64 X.term)).setCell ⟨P1, 7, none⟩ (.int .i64 X.ht)).setCell ⟨P1, 8, none⟩ (.int .i64 X.hv)).setCell ⟨P1, 9, none⟩ (.int .i64 X.hc)).setCell ⟨P1, 10, none⟩ (.int .i64 X.mark)) (some (P1)) := turned_setL (P1) [.slice D1 M1 G1, .slice D2 M2 G2, .slice D3 M3 G3, .slice D4 M4 G4, .int .i64 X.log, .int .i64 X.index, .int .i64 X.term, .int .i64 X.ht, .int .i64 X.hv, .int .i64 X.hc, .int .i64 X.mark] 0 V
            have hgrw : wr.grownBy (((((((((((V.setCell ⟨P1, 0, none⟩ (.slice D1 M1 G1)).setCell ⟨P1, 1, none⟩ (.slice D2 M2 G2)).setCell ⟨P1, 2, none⟩ (.slice D3 M3 G3)).setCell ⟨P1, 3, none⟩ (.slice D4 M4 G4)).setCell ⟨P1, 4, none⟩ (.int .i64 X.log)).setCell ⟨P1, 5, none⟩ (.int .i64 X.index)).setCell ⟨P1, 6, none⟩ (.int .i64 X.term)).setCell ⟨P1, 7, none⟩ (.int .i64 X.ht)).setCell ⟨P1, 8, none⟩ (.int .i64 X.hv)).setCell ⟨P1, 9, none⟩ (.int .i64 X.hc)).setCell ⟨P1, 10, none⟩ (.int .i64 X.mark)) (some (P1)) := (grown_any hbV.out _).trans hgr
            have hP0' : Hid ((((((((((((V.setCell ⟨P1, 0, none⟩ (.slice D1 M1 G1)).setCell ⟨P1, 1, none⟩ (.slice D2 M2 G2)).setCell ⟨P1, 2, none⟩ (.slice D3 M3 G3)).setCell ⟨P1, 3, none⟩ (.slice D4 M4 G4)).setCell ⟨P1, 4, none⟩ (.int .i64 X.log)).setCell ⟨P1, 5, none⟩ (.int .i64 X.index)).setCell ⟨P1, 6, none⟩ (.int .i64 X.term)).setCell ⟨P1, 7, none⟩ (.int .i64 X.ht)).setCell ⟨P1, 8, none⟩ (.int .i64 X.hv)).setCell ⟨P1, 9, none⟩ (.int .i64 X.hc)).setCell ⟨P1, 10, none⟩ (.int .i64 X.mark)).heap[w.heap.size]? = some (.cells #[.slice a1 n1 c1, .slice a2 n2 c2, .slice a3 n3 c3, .slice a4 n4 c4, .int .i64 i1, .int .i64 i2, .int .i64 i3, .int .i64 i4, .int .i64 i5, .int .i64 i6, .int .i64 i7] 29 (0, 0))) := ((hgr.block _ (ob_ltB hP0) (fun e => absurd (Option.some.inj e) (Nat.ne_of_lt hP01))).trans hP0 : _ = _)
            have hix : RIx (P1) V D1 M1 G1 D2 M2 G2 D3 M3 G3 D4 M4 G4 X := rix_own hRY hlow hcx
            have hix2 : Hid (RIx (P1) (((((((((((V.setCell ⟨P1, 0, none⟩ (.slice D1 M1 G1)).setCell ⟨P1, 1, none⟩ (.slice D2 M2 G2)).setCell ⟨P1, 2, none⟩ (.slice D3 M3 G3)).setCell ⟨P1, 3, none⟩ (.slice D4 M4 G4)).setCell ⟨P1, 4, none⟩ (.int .i64 X.log)).setCell ⟨P1, 5, none⟩ (.int .i64 X.index)).setCell ⟨P1, 6, none⟩ (.int .i64 X.term)).setCell ⟨P1, 7, none⟩ (.int .i64 X.ht)).setCell ⟨P1, 8, none⟩ (.int .i64 X.hv)).setCell ⟨P1, 9, none⟩ (.int .i64 X.hc)).setCell ⟨P1, 10, none⟩ (.int .i64 X.mark)) D1 M1 G1 D2 M2 G2 D3 M3 G3 D4 M4 G4 X) := (hix.go hgr : RIx _ _ D1 M1 G1 D2 M2 G2 D3 M3 G3 D4 M4 G4 X)
            have hbF : Hid (Below w.heap.size w (((((((((((V.setCell ⟨P1, 0, none⟩ (.slice D1 M1 G1)).setCell ⟨P1, 1, none⟩ (.slice D2 M2 G2)).setCell ⟨P1, 2, none⟩ (.slice D3 M3 G3)).setCell ⟨P1, 3, none⟩ (.slice D4 M4 G4)).setCell ⟨P1, 4, none⟩ (.int .i64 X.log)).setCell ⟨P1, 5, none⟩ (.int .i64 X.index)).setCell ⟨P1, 6, none⟩ (.int .i64 X.term)).setCell ⟨P1, 7, none⟩ (.int .i64 X.ht)).setCell ⟨P1, 8, none⟩ (.int .i64 X.hv)).setCell ⟨P1, 9, none⟩ (.int .i64 X.hc)).setCell ⟨P1, 10, none⟩ (.int .i64 X.mark))) := (below_grownB (HB.out.trans (hbV.out.mono HB.out.size)) hgr (HB.out.trans (hbV.out.mono HB.out.size)).size (fun q hq => by cases hq; exact Nat.le_of_lt hP01) : Below _ _ _)
            have G10' : Hid ((((((((((((V.setCell ⟨P1, 0, none⟩ (.slice D1 M1 G1)).setCell ⟨P1, 1, none⟩ (.slice D2 M2 G2)).setCell ⟨P1, 2, none⟩ (.slice D3 M3 G3)).setCell ⟨P1, 3, none⟩ (.slice D4 M4 G4)).setCell ⟨P1, 4, none⟩ (.int .i64 X.log)).setCell ⟨P1, 5, none⟩ (.int .i64 X.index)).setCell ⟨P1, 6, none⟩ (.int .i64 X.term)).setCell ⟨P1, 7, none⟩ (.int .i64 X.ht)).setCell ⟨P1, 8, none⟩ (.int .i64 X.hv)).setCell ⟨P1, 9, none⟩ (.int .i64 X.hc)).setCell ⟨P1, 10, none⟩ (.int .i64 X.mark)).heap[P1]? = some (.cells #[.slice D1 M1 G1, .slice D2 M2 G2, .slice D3 M3 G3, .slice D4 M4 G4, .int .i64 X.log, .int .i64 X.index, .int .i64 X.term, .int .i64 X.ht, .int .i64 X.hv, .int .i64 X.hc, .int .i64 X.mark] 29 (0, 0))) := QQ10
            clear hgr hgrw hix d0 e0 fz0 QQ0 d1 e1 fz1 QQ1 d2 e2 fz2 QQ2 d3 e3 fz3 QQ3 d4 e4 fz4 QQ4 d5 e5 fz5 QQ5 d6 e6 fz6 QQ6 d7 e7 fz7 QQ7 d8 e8 fz8 QQ8 d9 e9 fz9 QQ9 d10 e10 fz10 QQ10 hP1 hP0 hY HPY
            obtain ⟨X1, X2, X3, X4, Z1, Z2, Z3, Z4, Z5, Z6, Z7⟩ := X
            dsimp only at hP0' G10' hix2 hbF hsn ⊢
            exact ⟨⟨k + 1, X1, X2, X3, X4, D1, M1, G1, D2, M2, G2, D3, M3, G3, D4, M4, G4, Z1, Z2, Z3, Z4, Z5, Z6, Z7, by omega, by go_num, hsn, hP0', G10', hix2, hbF⟩, by simp [intOf]; omega⟩
          
        · skip
          go_simp
          refine hK.out _ _ (HV.out _ bC) (fun hHeld => ?_)
          clear hK K
          refine wpAnyH_ready (rs := [6]) (by kernel_rfl) (by simp) ?_
          refine AllReadyH.cons rfl (fun K hK => ?_) AllReadyH.nil
          go_simp; go_at_call 10; refine cC.mono ?_; rintro e w5 ⟨D1, M1, G1, D2, M2, G2, D3, M3, G3, D4, M4, G4, rfl, hro, b5⟩; have hb5 := bC.trans (b5.mono bC.size); have hlo5 := bC.size; have zz5 := (b5.block _ (ob_ltB zC)).trans zC; have zc0 := (blkc zz5).1 0; have zf0 := (blkc zz5).2 0; have zc1 := (blkc zz5).1 1; have zf1 := (blkc zz5).2 1; have zc2 := (blkc zz5).1 2; have zf2 := (blkc zz5).2 2; have zc3 := (blkc zz5).1 3; have zf3 := (blkc zz5).2 3; have zc4 := (blkc zz5).1 4; have zf4 := (blkc zz5).2 4; have zc5 := (blkc zz5).1 5; have zf5 := (blkc zz5).2 5; have zc6 := (blkc zz5).1 6; have zf6 := (blkc zz5).2 6; have zc7 := (blkc zz5).1 7; have zf7 := (blkc zz5).2 7; have zc8 := (blkc zz5).1 8; have zf8 := (blkc zz5).2 8; have zc9 := (blkc zz5).1 9; have zf9 := (blkc zz5).2 9; have zc10 := (blkc zz5).1 10; have zf10 := (blkc zz5).2 10
          refine hK.out _ _ (HV.out _ hb5) (fun hHeld => ?_)
          clear hK K
          try go_frame
          refine wpAnyH_take (i := 7) (oi := ⟨some 27, _, _, _, _, _⟩) (v := ?_) rfl (by kernel_rfl) (by kernel_rfl) (by kernel_rfl) (fun _ _ _ h => h) (Or.inl ⟨by rfl, ?_⟩) (by assumption) ?_
          rotate_left
          · intro w hSw; (try dsimp only at hSw); go_simp <;> (try with_reducible rfl)
          go_frame
          refine wpAnyH_take (i := 8) (oi := ⟨some 35, _, _, _, _, _⟩) (v := ?_) rfl (by kernel_rfl) (by kernel_rfl) (by kernel_rfl) (fun _ _ _ h => h) (Or.inl ⟨by rfl, ?_⟩) (by assumption) ?_
          rotate_left
          · intro w hSw; (try dsimp only at hSw); go_simp <;> (try with_reducible rfl)
          go_frame
          refine wpAnyH_take (i := 9) (oi := ⟨some 36, _, _, _, _, _⟩) (v := ?_) rfl (by kernel_rfl) (by kernel_rfl) (by kernel_rfl) (fun _ _ _ h => h) (Or.inl ⟨by rfl, ?_⟩) (by assumption) ?_
          rotate_left
          · intro w hSw; (try dsimp only at hSw); go_simp <;> (try with_reducible rfl)
          go_frame
          refine wpAnyH_ready (rs := [11]) (by kernel_rfl) (by simp) ?_
          refine AllReadyH.cons rfl (fun K hK => ?_) AllReadyH.nil
          go_simp
          refine hK.out _ _ (HV.out _ (below_grownB hb5 (turned_setL (wr.heap.size + 1) [.slice D1 M1 G1, .slice D2 M2 G2, .slice D3 M3 G3, .slice D4 M4 G4, .int .i64 X.log, .int .i64 X.index, .int .i64 X.term, .int .i64 X.ht, .int .i64 X.hv, .int .i64 X.hc, .int .i64 X.mark] 0 w5) hb5.size (fun q hq => by cases hq; omega))) (fun hHeld => ?_)
          clear hK K
          refine wpAnyH_take (i := 12) (oi := ⟨some 8, _, _, _, _, _⟩) (v := ?_) rfl (by kernel_rfl) (by kernel_rfl) (by kernel_rfl) (fun _ _ _ h => h) (Or.inl ⟨by rfl, ?_⟩) (by assumption) ?_
          rotate_left
          · intro w hSw; (try dsimp only at hSw); go_simp <;> (try with_reducible rfl)
          go_frame
          refine wpAnyH_done (by kernel_rfl) ?_ _
          have Y0 : (w5.setCell ⟨wr.heap.size + 1, 0, none⟩ (.slice D1 M1 G1)).heap[wr.heap.size + 1]? = some (.cells #[.slice D1 M1 G1, .slice none 0 0, .slice none 0 0, .slice none 0 0, .int .i64 0, .int .i64 0, .int .i64 0, .int .i64 0, .int .i64 0, .int .i64 0, .int .i64 0] 29 (0, 0)) := bput zz5 _ rfl
          have Y1 : ((w5.setCell ⟨wr.heap.size + 1, 0, none⟩ (.slice D1 M1 G1)).setCell ⟨wr.heap.size + 1, 1, none⟩ (.slice D2 M2 G2)).heap[wr.heap.size + 1]? = some (.cells #[.slice D1 M1 G1, .slice D2 M2 G2, .slice none 0 0, .slice none 0 0, .int .i64 0, .int .i64 0, .int .i64 0, .int .i64 0, .int .i64 0, .int .i64 0, .int .i64 0] 29 (0, 0)) := bput Y0 _ rfl
          have Y2 : (((w5.setCell ⟨wr.heap.size + 1, 0, none⟩ (.slice D1 M1 G1)).setCell ⟨wr.heap.size + 1, 1, none⟩ (.slice D2 M2 G2)).setCell ⟨wr.heap.size + 1, 2, none⟩ (.slice D3 M3 G3)).heap[wr.heap.size + 1]? = some (.cells #[.slice D1 M1 G1, .slice D2 M2 G2, .slice D3 M3 G3, .slice none 0 0, .int .i64 0, .int .i64 0, .int .i64 0, .int .i64 0, .int .i64 0, .int .i64 0, .int .i64 0] 29 (0, 0)) := bput Y1 _ rfl
          have Y3 : ((((w5.setCell ⟨wr.heap.size + 1, 0, none⟩ (.slice D1 M1 G1)).setCell ⟨wr.heap.size + 1, 1, none⟩ (.slice D2 M2 G2)).setCell ⟨wr.heap.size + 1, 2, none⟩ (.slice D3 M3 G3)).setCell ⟨wr.heap.size + 1, 3, none⟩ (.slice D4 M4 G4)).heap[wr.heap.size + 1]? = some (.cells #[.slice D1 M1 G1, .slice D2 M2 G2, .slice D3 M3 G3, .slice D4 M4 G4, .int .i64 0, .int .i64 0, .int .i64 0, .int .i64 0, .int .i64 0, .int .i64 0, .int .i64 0] 29 (0, 0)) := bput Y2 _ rfl
          have Y4 : (((((w5.setCell ⟨wr.heap.size + 1, 0, none⟩ (.slice D1 M1 G1)).setCell ⟨wr.heap.size + 1, 1, none⟩ (.slice D2 M2 G2)).setCell ⟨wr.heap.size + 1, 2, none⟩ (.slice D3 M3 G3)).setCell ⟨wr.heap.size + 1, 3, none⟩ (.slice D4 M4 G4)).setCell ⟨wr.heap.size + 1, 4, none⟩ (.int .i64 X.log)).heap[wr.heap.size + 1]? = some (.cells #[.slice D1 M1 G1, .slice D2 M2 G2, .slice D3 M3 G3, .slice D4 M4 G4, .int .i64 X.log, .int .i64 0, .int .i64 0, .int .i64 0, .int .i64 0, .int .i64 0, .int .i64 0] 29 (0, 0)) := bput Y3 _ rfl
          have Y5 : ((((((w5.setCell ⟨wr.heap.size + 1, 0, none⟩ (.slice D1 M1 G1)).setCell ⟨wr.heap.size + 1, 1, none⟩ (.slice D2 M2 G2)).setCell ⟨wr.heap.size + 1, 2, none⟩ (.slice D3 M3 G3)).setCell ⟨wr.heap.size + 1, 3, none⟩ (.slice D4 M4 G4)).setCell ⟨wr.heap.size + 1, 4, none⟩ (.int .i64 X.log)).setCell ⟨wr.heap.size + 1, 5, none⟩ (.int .i64 X.index)).heap[wr.heap.size + 1]? = some (.cells #[.slice D1 M1 G1, .slice D2 M2 G2, .slice D3 M3 G3, .slice D4 M4 G4, .int .i64 X.log, .int .i64 X.index, .int .i64 0, .int .i64 0, .int .i64 0, .int .i64 0, .int .i64 0] 29 (0, 0)) := bput Y4 _ rfl
          have Y6 : (((((((w5.setCell ⟨wr.heap.size + 1, 0, none⟩ (.slice D1 M1 G1)).setCell ⟨wr.heap.size + 1, 1, none⟩ (.slice D2 M2 G2)).setCell ⟨wr.heap.size + 1, 2, none⟩ (.slice D3 M3 G3)).setCell ⟨wr.heap.size + 1, 3, none⟩ (.slice D4 M4 G4)).setCell ⟨wr.heap.size + 1, 4, none⟩ (.int .i64 X.log)).setCell ⟨wr.heap.size + 1, 5, none⟩ (.int .i64 X.index)).setCell ⟨wr.heap.size + 1, 6, none⟩ (.int .i64 X.term)).heap[wr.heap.size + 1]? = some (.cells #[.slice D1 M1 G1, .slice D2 M2 G2, .slice D3 M3 G3, .slice D4 M4 G4, .int .i64 X.log, .int .i64 X.index, .int .i64 X.term, .int .i64 0, .int .i64 0, .int .i64 0, .int .i64 0] 29 (0, 0)) := bput Y5 _ rfl
          have Y7 : ((((((((w5.setCell ⟨wr.heap.size + 1, 0, none⟩ (.slice D1 M1 G1)).setCell ⟨wr.heap.size + 1, 1, none⟩ (.slice D2 M2 G2)).setCell ⟨wr.heap.size + 1, 2, none⟩ (.slice D3 M3 G3)).setCell ⟨wr.heap.size + 1, 3, none⟩ (.slice D4 M4 G4)).setCell ⟨wr.heap.size + 1, 4, none⟩ (.int .i64 X.log)).setCell ⟨wr.heap.size + 1, 5, none⟩ (.int .i64 X.index)).setCell ⟨wr.heap.size + 1, 6, none⟩ (.int .i64 X.term)).setCell ⟨wr.heap.size + 1, 7, none⟩ (.int .i64 X.ht)).heap[wr.heap.size + 1]? = some (.cells #[.slice D1 M1 G1, .slice D2 M2 G2, .slice D3 M3 G3, .slice D4 M4 G4, .int .i64 X.log, .int .i64 X.index, .int .i64 X.term, .int .i64 X.ht, .int .i64 0, .int .i64 0, .int .i64 0] 29 (0, 0)) := bput Y6 _ rfl
          have Y8 : (((((((((w5.setCell ⟨wr.heap.size + 1, 0, none⟩ (.slice D1 M1 G1)).setCell ⟨wr.heap.size + 1, 1, none⟩ (.slice D2 M2 G2)).setCell ⟨wr.heap.size + 1, 2, none⟩ (.slice D3 M3 G3)).setCell ⟨wr.heap.size + 1, 3, none⟩ (.slice D4 M4 G4)).setCell ⟨wr.heap.size + 1, 4, none⟩ (.int .i64 X.log)).setCell ⟨wr.heap.size + 1, 5, none⟩ (.int .i64 X.index)).setCell ⟨wr.heap.size + 1, 6, none⟩ (.int .i64 X.term)).setCell ⟨wr.heap.size + 1, 7, none⟩ (.int .i64 X.ht)).setCell ⟨wr.heap.size + 1, 8, none⟩ (.int .i64 X.hv)).heap[wr.heap.size + 1]? = some (.cells #[.slice D1 M1 G1, .slice D2 M2 G2, .slice D3 M3 G3, .slice D4 M4 G4, .int .i64 X.log, .int .i64 X.index, .int .i64 X.term, .int .i64 X.ht, .int .i64 X.hv, .int .i64 0, .int .i64 0] 29 (0, 0)) := bput Y7 _ rfl
          have Y9 : ((((((((((w5.setCell ⟨wr.heap.size + 1, 0, none⟩ (.slice D1 M1 G1)).setCell ⟨wr.heap.size + 1, 1, none⟩ (.slice D2 M2 G2)).setCell ⟨wr.heap.size + 1, 2, none⟩ (.slice D3 M3 G3)).setCell ⟨wr.heap.size + 1, 3, none⟩ (.slice D4 M4 G4)).setCell ⟨wr.heap.size + 1, 4, none⟩ (.int .i64 X.log)).setCell ⟨wr.heap.size + 1, 5, none⟩ (.int .i64 X.index)).setCell ⟨wr.heap.size + 1, 6, none⟩ (.int .i64 X.term)).setCell ⟨wr.heap.size + 1, 7, none⟩ (.int .i64 X.ht)).setCell ⟨wr.heap.size + 1, 8, none⟩ (.int .i64 X.hv)).setCell ⟨wr.heap.size + 1, 9, none⟩ (.int .i64 X.hc)).heap[wr.heap.size + 1]? = some (.cells #[.slice D1 M1 G1, .slice D2 M2 G2, .slice D3 M3 G3, .slice D4 M4 G4, .int .i64 X.log, .int .i64 X.index, .int .i64 X.term, .int .i64 X.ht, .int .i64 X.hv, .int .i64 X.hc, .int .i64 0] 29 (0, 0)) := bput Y8 _ rfl
          have Y10 : (((((((((((w5.setCell ⟨wr.heap.size + 1, 0, none⟩ (.slice D1 M1 G1)).setCell ⟨wr.heap.size + 1, 1, none⟩ (.slice D2 M2 G2)).setCell ⟨wr.heap.size + 1, 2, none⟩ (.slice D3 M3 G3)).setCell ⟨wr.heap.size + 1, 3, none⟩ (.slice D4 M4 G4)).setCell ⟨wr.heap.size + 1, 4, none⟩ (.int .i64 X.log)).setCell ⟨wr.heap.size + 1, 5, none⟩ (.int .i64 X.index)).setCell ⟨wr.heap.size + 1, 6, none⟩ (.int .i64 X.term)).setCell ⟨wr.heap.size + 1, 7, none⟩ (.int .i64 X.ht)).setCell ⟨wr.heap.size + 1, 8, none⟩ (.int .i64 X.hv)).setCell ⟨wr.heap.size + 1, 9, none⟩ (.int .i64 X.hc)).setCell ⟨wr.heap.size + 1, 10, none⟩ (.int .i64 X.mark)).heap[wr.heap.size + 1]? = some (.cells #[.slice D1 M1 G1, .slice D2 M2 G2, .slice D3 M3 G3, .slice D4 M4 G4, .int .i64 X.log, .int .i64 X.index, .int .i64 X.term, .int .i64 X.ht, .int .i64 X.hv, .int .i64 X.hc, .int .i64 X.mark] 29 (0, 0)) := bput Y9 _ rfl
          have hgz : w5.grownBy (((((((((((w5.setCell ⟨wr.heap.size + 1, 0, none⟩ (.slice D1 M1 G1)).setCell ⟨wr.heap.size + 1, 1, none⟩ (.slice D2 M2 G2)).setCell ⟨wr.heap.size + 1, 2, none⟩ (.slice D3 M3 G3)).setCell ⟨wr.heap.size + 1, 3, none⟩ (.slice D4 M4 G4)).setCell ⟨wr.heap.size + 1, 4, none⟩ (.int .i64 X.log)).setCell ⟨wr.heap.size + 1, 5, none⟩ (.int .i64 X.index)).setCell ⟨wr.heap.size + 1, 6, none⟩ (.int .i64 X.term)).setCell ⟨wr.heap.size + 1, 7, none⟩ (.int .i64 X.ht)).setCell ⟨wr.heap.size + 1, 8, none⟩ (.int .i64 X.hv)).setCell ⟨wr.heap.size + 1, 9, none⟩ (.int .i64 X.hc)).setCell ⟨wr.heap.size + 1, 10, none⟩ (.int .i64 X.mark)) (some (wr.heap.size + 1)) := turned_setL (wr.heap.size + 1) [.slice D1 M1 G1, .slice D2 M2 G2, .slice D3 M3 G3, .slice D4 M4 G4, .int .i64 X.log, .int .i64 X.index, .int .i64 X.term, .int .i64 X.ht, .int .i64 X.hv, .int .i64 X.hc, .int .i64 X.mark] 0 w5
          have hbV0 : Below wr.heap.size wr (((((((((((w5.setCell ⟨wr.heap.size + 1, 0, none⟩ (.slice D1 M1 G1)).setCell ⟨wr.heap.size + 1, 1, none⟩ (.slice D2 M2 G2)).setCell ⟨wr.heap.size + 1, 2, none⟩ (.slice D3 M3 G3)).setCell ⟨wr.heap.size + 1, 3, none⟩ (.slice D4 M4 G4)).setCell ⟨wr.heap.size + 1, 4, none⟩ (.int .i64 X.log)).setCell ⟨wr.heap.size + 1, 5, none⟩ (.int .i64 X.index)).setCell ⟨wr.heap.size + 1, 6, none⟩ (.int .i64 X.term)).setCell ⟨wr.heap.size + 1, 7, none⟩ (.int .i64 X.ht)).setCell ⟨wr.heap.size + 1, 8, none⟩ (.int .i64 X.hv)).setCell ⟨wr.heap.size + 1, 9, none⟩ (.int .i64 X.hc)).setCell ⟨wr.heap.size + 1, 10, none⟩ (.int .i64 X.mark)) := below_grownB hb5 hgz hb5.size (fun q hq => by cases hq; omega)
          have hRY0 := hro.other zz5 hgz
          obtain ⟨V, hV⟩ : ∃ V, V = (((((((((((w5.setCell ⟨wr.heap.size + 1, 0, none⟩ (.slice D1 M1 G1)).setCell ⟨wr.heap.size + 1, 1, none⟩ (.slice D2 M2 G2)).setCell ⟨wr.heap.size + 1, 2, none⟩ (.slice D3 M3 G3)).setCell ⟨wr.heap.size + 1, 3, none⟩ (.slice D4 M4 G4)).setCell ⟨wr.heap.size + 1, 4, none⟩ (.int .i64 X.log)).setCell ⟨wr.heap.size + 1, 5, none⟩ (.int .i64 X.index)).setCell ⟨wr.heap.size + 1, 6, none⟩ (.int .i64 X.term)).setCell ⟨wr.heap.size + 1, 7, none⟩ (.int .i64 X.ht)).setCell ⟨wr.heap.size + 1, 8, none⟩ (.int .i64 X.hv)).setCell ⟨wr.heap.size + 1, 9, none⟩ (.int .i64 X.hc)).setCell ⟨wr.heap.size + 1, 10, none⟩ (.int .i64 X.mark)) := ⟨_, rfl⟩
          rw [← hV]
          rw [← hV] at hbV0 hRY0 Y10
          have hY : V.heap[wr.heap.size + 1]? = some (.cells #[.slice D1 M1 G1, .slice D2 M2 G2, .slice D3 M3 G3, .slice D4 M4 G4, .int .i64 X.log, .int .i64 X.index, .int .i64 X.term, .int .i64 X.ht, .int .i64 X.hv, .int .i64 X.hc, .int .i64 X.mark] 29 (0, 0)) := Y10
          have hbV : Hid (Below wr.heap.size wr V) := hbV0
          have hRY : ROwn _ V D1 M1 G1 D2 M2 G2 D3 M3 G3 D4 M4 G4 X := hRY0
          have hlow : P1 < ((wr.alloc (oed k9 n9 i9 t9 a9 b9 c9 p9 q9 r9 f9 g9)).alloc (.cells #[.slice none 0 0, .slice none 0 0, .slice none 0 0, .slice none 0 0, .int .i64 0, .int .i64 0, .int .i64 0, .int .i64 0, .int .i64 0, .int .i64 0, .int .i64 0] 29)).drew.heap.size := Nat.lt_of_lt_of_le (ob_ltB H1.out) hlo5
          clear hV hgz hbV0 hRY0 Y0 Y1 Y2 Y3 Y4 Y5 Y6 Y7 Y8 Y9 Y10 zc0 zf0 zc1 zf1 zc2 zf2 zc3 zf3 zc4 zf4 zc5 zf5 zc6 zf6 zc7 zf7 zc8 zf8 zc9 zf9 zc10 zf10 zz5
          have hP0 := (hbV.out.block _ (ob_ltB H0.out)).trans H0.out
          have hP1 := (hbV.out.block _ (ob_ltB H1.out)).trans H1.out
          clear ca0 ca1 ca2 ca3 ca4 ca5 ca6 ca7 ca8 ca9 ca10 m0 m1 m2 m3 m4 m5 m6 m7 m8 m9 m10 m11
          cases hz : decide (ERR = 0) with
          | false =>
            have hE : ¬ (ERR = 0) := of_decide_eq_false hz
            have hE2 : (ERR == 0) = false := by simpa using hE
            clear hz hE
            go_wp2_with (go_at_call 9; go_must (refine (hwa _).mono ?_; rintro e w7 ⟨rfl, hb7⟩))
            go_ret
            have hbF := hbV.out.trans (hb7.mono hbV.out.size)
            exact ⟨rfl, HB.out.trans (hbF.mono HB.out.size)⟩
          | true =>
            obtain rfl : ERR = 0 := of_decide_eq_true hz
            clear hz
            have hsn : Ro.steps ⟨s, ms, ts, ks, i1, i2, i3, i4, i5, i6, i7⟩ (l.take (k + 1)) = some X := HSN.out rfl
            have hcx : Ro.check X = true := HCX.out rfl
            have d0 := (blkc hY).1 0
            have d1 := (blkc hY).1 1
            have d2 := (blkc hY).1 2
            have d3 := (blkc hY).1 3
            have d4 := (blkc hY).1 4
            have d5 := (blkc hY).1 5
            have d6 := (blkc hY).1 6
            have d7 := (blkc hY).1 7
            have d8 := (blkc hY).1 8
            have d9 := (blkc hY).1 9
            have d10 := (blkc hY).1 10
            have e0 := (blkc hP1).1 0
            have e1 := (blkc hP1).1 1
            have e2 := (blkc hP1).1 2
            have e3 := (blkc hP1).1 3
            have e4 := (blkc hP1).1 4
            have e5 := (blkc hP1).1 5
            have e6 := (blkc hP1).1 6
            have e7 := (blkc hP1).1 7
            have e8 := (blkc hP1).1 8
            have e9 := (blkc hP1).1 9
            have e10 := (blkc hP1).1 10
            have fz0 := (blkc hP1).2 0
            have fz1 := (blkc hP1).2 1
            have fz2 := (blkc hP1).2 2
            have fz3 := (blkc hP1).2 3
            have fz4 := (blkc hP1).2 4
            have fz5 := (blkc hP1).2 5
            have fz6 := (blkc hP1).2 6
            have fz7 := (blkc hP1).2 7
            have fz8 := (blkc hP1).2 8
            have fz9 := (blkc hP1).2 9
            have fz10 := (blkc hP1).2 10
            have HPY : Hid (V.heap[_]? = _) := hP1
            go_wp2
            have QQ0 : (V.setCell ⟨P1, 0, none⟩ (.slice D1 M1 G1)).heap[P1]? = some (.cells #[.slice D1 M1 G1, .slice A2 N2 C2, .slice A3 N3 C3, .slice A4 N4 C4, .int .i64 y1, .int .i64 y2, .int .i64 y3, .int .i64 y4, .int .i64 y5, .int .i64 y6, .int .i64 y7] 29 (0, 0)) := bput hP1 _ rfl
            have QQ1 : ((V.setCell ⟨P1, 0, none⟩ (.slice D1 M1 G1)).setCell ⟨P1, 1, none⟩ (.slice D2 M2 G2)).heap[P1]? = some (.cells #[.slice D1 M1 G1, .slice D2 M2 G2, .slice A3 N3 C3, .slice A4 N4 C4, .int .i64 y1, .int .i64 y2, .int .i64 y3, .int .i64 y4, .int .i64 y5, .int .i64 y6, .int .i64 y7] 29 (0, 0)) := bput QQ0 _ rfl
            have QQ2 : (((V.setCell ⟨P1, 0, none⟩ (.slice D1 M1 G1)).setCell ⟨P1, 1, none⟩ (.slice D2 M2 G2)).setCell ⟨P1, 2, none⟩ (.slice D3 M3 G3)).heap[P1]? = some (.cells #[.slice D1 M1 G1, .slice D2 M2 G2, .slice D3 M3 G3, .slice A4 N4 C4, .int .i64 y1, .int .i64 y2, .int .i64 y3, .int .i64 y4, .int .i64 y5, .int .i64 y6, .int .i64 y7] 29 (0, 0)) := bput QQ1 _ rfl
            have QQ3 : ((((V.setCell ⟨P1, 0, none⟩ (.slice D1 M1 G1)).setCell ⟨P1, 1, none⟩ (.slice D2 M2 G2)).setCell ⟨P1, 2, none⟩ (.slice D3 M3 G3)).setCell ⟨P1, 3, none⟩ (.slice D4 M4 G4)).heap[P1]? = some (.cells #[.slice D1 M1 G1, .slice D2 M2 G2, .slice D3 M3 G3, .slice D4 M4 G4, .int .i64 y1, .int .i64 y2, .int .i64 y3, .int .i64 y4, .int .i64 y5, .int .i64 y6, .int .i64 y7] 29 (0, 0)) := bput QQ2 _ rfl
            have QQ4 : (((((V.setCell ⟨P1, 0, none⟩ (.slice D1 M1 G1)).setCell ⟨P1, 1, none⟩ (.slice D2 M2 G2)).setCell ⟨P1, 2, none⟩ (.slice D3 M3 G3)).setCell ⟨P1, 3, none⟩ (.slice D4 M4 G4)).setCell ⟨P1, 4, none⟩ (.int .i64 X.log)).heap[P1]? = some (.cells #[.slice D1 M1 G1, .slice D2 M2 G2, .slice D3 M3 G3, .slice D4 M4 G4, .int .i64 X.log, .int .i64 y2, .int .i64 y3, .int .i64 y4, .int .i64 y5, .int .i64 y6, .int .i64 y7] 29 (0, 0)) := bput QQ3 _ rfl
            have QQ5 : ((((((V.setCell ⟨P1, 0, none⟩ (.slice D1 M1 G1)).setCell ⟨P1, 1, none⟩ (.slice D2 M2 G2)).setCell ⟨P1, 2, none⟩ (.slice D3 M3 G3)).setCell ⟨P1, 3, none⟩ (.slice D4 M4 G4)).setCell ⟨P1, 4, none⟩ (.int .i64 X.log)).setCell ⟨P1, 5, none⟩ (.int .i64 X.index)).heap[P1]? = some (.cells #[.slice D1 M1 G1, .slice D2 M2 G2, .slice D3 M3 G3, .slice D4 M4 G4, .int .i64 X.log, .int .i64 X.index, .int .i64 y3, .int .i64 y4, .int .i64 y5, .int .i64 y6, .int .i64 y7] 29 (0, 0)) := bput QQ4 _ rfl
            have QQ6 : (((((((V.setCell ⟨P1, 0, none⟩ (.slice D1 M1 G1)).setCell ⟨P1, 1, none⟩ (.slice D2 M2 G2)).setCell ⟨P1, 2, none⟩ (.slice D3 M3 G3)).setCell ⟨P1, 3, none⟩ (.slice D4 M4 G4)).setCell ⟨P1, 4, none⟩ (.int .i64 X.log)).setCell ⟨P1, 5, none⟩ (.int .i64 X.index)).setCell ⟨P1, 6, none⟩ (.int .i64 X.term)).heap[P1]? = some (.cells #[.slice D1 M1 G1, .slice D2 M2 G2, .slice D3 M3 G3, .slice D4 M4 G4, .int .i64 X.log, .int .i64 X.index, .int .i64 X.term, .int .i64 y4, .int .i64 y5, .int .i64 y6, .int .i64 y7] 29 (0, 0)) := bput QQ5 _ rfl
            have QQ7 : ((((((((V.setCell ⟨P1, 0, none⟩ (.slice D1 M1 G1)).setCell ⟨P1, 1, none⟩ (.slice D2 M2 G2)).setCell ⟨P1, 2, none⟩ (.slice D3 M3 G3)).setCell ⟨P1, 3, none⟩ (.slice D4 M4 G4)).setCell ⟨P1, 4, none⟩ (.int .i64 X.log)).setCell ⟨P1, 5, none⟩ (.int .i64 X.index)).setCell ⟨P1, 6, none⟩ (.int .i64 X.term)).setCell ⟨P1, 7, none⟩ (.int .i64 X.ht)).heap[P1]? = some (.cells #[.slice D1 M1 G1, .slice D2 M2 G2, .slice D3 M3 G3, .slice D4 M4 G4, .int .i64 X.log, .int .i64 X.index, .int .i64 X.term, .int .i64 X.ht, .int .i64 y5, .int .i64 y6, .int .i64 y7] 29 (0, 0)) := bput QQ6 _ rfl
            have QQ8 : (((((((((V.setCell ⟨P1, 0, none⟩ (.slice D1 M1 G1)).setCell ⟨P1, 1, none⟩ (.slice D2 M2 G2)).setCell ⟨P1, 2, none⟩ (.slice D3 M3 G3)).setCell ⟨P1, 3, none⟩ (.slice D4 M4 G4)).setCell ⟨P1, 4, none⟩ (.int .i64 X.log)).setCell ⟨P1, 5, none⟩ (.int .i64 X.index)).setCell ⟨P1, 6, none⟩ (.int .i64 X.term)).setCell ⟨P1, 7, none⟩ (.int .i64 X.ht)).setCell ⟨P1, 8, none⟩ (.int .i64 X.hv)).heap[P1]? = some (.cells #[.slice D1 M1 G1, .slice D2 M2 G2, .slice D3 M3 G3, .slice D4 M4 G4, .int .i64 X.log, .int .i64 X.index, .int .i64 X.term, .int .i64 X.ht, .int .i64 X.hv, .int .i64 y6, .int .i64 y7] 29 (0, 0)) := bput QQ7 _ rfl
            have QQ9 : ((((((((((V.setCell ⟨P1, 0, none⟩ (.slice D1 M1 G1)).setCell ⟨P1, 1, none⟩ (.slice D2 M2 G2)).setCell ⟨P1, 2, none⟩ (.slice D3 M3 G3)).setCell ⟨P1, 3, none⟩ (.slice D4 M4 G4)).setCell ⟨P1, 4, none⟩ (.int .i64 X.log)).setCell ⟨P1, 5, none⟩ (.int .i64 X.index)).setCell ⟨P1, 6, none⟩ (.int .i64 X.term)).setCell ⟨P1, 7, none⟩ (.int .i64 X.ht)).setCell ⟨P1, 8, none⟩ (.int .i64 X.hv)).setCell ⟨P1, 9, none⟩ (.int .i64 X.hc)).heap[P1]? = some (.cells #[.slice D1 M1 G1, .slice D2 M2 G2, .slice D3 M3 G3, .slice D4 M4 G4, .int .i64 X.log, .int .i64 X.index, .int .i64 X.term, .int .i64 X.ht, .int .i64 X.hv, .int .i64 X.hc, .int .i64 y7] 29 (0, 0)) := bput QQ8 _ rfl
            have QQ10 : (((((((((((V.setCell ⟨P1, 0, none⟩ (.slice D1 M1 G1)).setCell ⟨P1, 1, none⟩ (.slice D2 M2 G2)).setCell ⟨P1, 2, none⟩ (.slice D3 M3 G3)).setCell ⟨P1, 3, none⟩ (.slice D4 M4 G4)).setCell ⟨P1, 4, none⟩ (.int .i64 X.log)).setCell ⟨P1, 5, none⟩ (.int .i64 X.index)).setCell ⟨P1, 6, none⟩ (.int .i64 X.term)).setCell ⟨P1, 7, none⟩ (.int .i64 X.ht)).setCell ⟨P1, 8, none⟩ (.int .i64 X.hv)).setCell ⟨P1, 9, none⟩ (.int .i64 X.hc)).setCell ⟨P1, 10, none⟩ (.int .i64 X.mark)).heap[P1]? = some (.cells #[.slice D1 M1 G1, .slice D2 M2 G2, .slice D3 M3 G3, .slice D4 M4 G4, .int .i64 X.log, .int .i64 X.index, .int .i64 X.term, .int .i64 X.ht, .int .i64 X.hv, .int .i64 X.hc, .int .i64 X.mark] 29 (0, 0)) := bput QQ9 _ rfl
            have hgr : V.grownBy (((((((((((V.setCell ⟨P1, 0, none⟩ (.slice D1 M1 G1)).setCell ⟨P1, 1, none⟩ (.slice D2 M2 G2)).setCell ⟨P1, 2, none⟩ (.slice D3 M3 G3)).setCell ⟨P1, 3, none⟩ (.slice D4 M4 G4)).setCell ⟨P1, 4, none⟩ (.int .i64 X.log)).setCell ⟨P1, 5, none⟩ (.int .i64 X.index)).setCell ⟨P1, 6, none⟩ (.int .i64 X.term)).setCell ⟨P1, 7, none⟩ (.int .i64 X.ht)).setCell ⟨P1, 8, none⟩ (.int .i64 X.hv)).setCell ⟨P1, 9, none⟩ (.int .i64 X.hc)).setCell ⟨P1, 10, none⟩ (.int .i64 X.mark)) (some (P1)) := turned_setL (P1) [.slice D1 M1 G1, .slice D2 M2 G2, .slice D3 M3 G3, .slice D4 M4 G4, .int .i64 X.log, .int .i64 X.index, .int .i64 X.term, .int .i64 X.ht, .int .i64 X.hv, .int .i64 X.hc, .int .i64 X.mark] 0 V
            have hgrw : wr.grownBy (((((((((((V.setCell ⟨P1, 0, none⟩ (.slice D1 M1 G1)).setCell ⟨P1, 1, none⟩ (.slice D2 M2 G2)).setCell ⟨P1, 2, none⟩ (.slice D3 M3 G3)).setCell ⟨P1, 3, none⟩ (.slice D4 M4 G4)).setCell ⟨P1, 4, none⟩ (.int .i64 X.log)).setCell ⟨P1, 5, none⟩ (.int .i64 X.index)).setCell ⟨P1, 6, none⟩ (.int .i64 X.term)).setCell ⟨P1, 7, none⟩ (.int .i64 X.ht)).setCell ⟨P1, 8, none⟩ (.int .i64 X.hv)).setCell ⟨P1, 9, none⟩ (.int .i64 X.hc)).setCell ⟨P1, 10, none⟩ (.int .i64 X.mark)) (some (P1)) := (grown_any hbV.out _).trans hgr
            have hP0' : Hid ((((((((((((V.setCell ⟨P1, 0, none⟩ (.slice D1 M1 G1)).setCell ⟨P1, 1, none⟩ (.slice D2 M2 G2)).setCell ⟨P1, 2, none⟩ (.slice D3 M3 G3)).setCell ⟨P1, 3, none⟩ (.slice D4 M4 G4)).setCell ⟨P1, 4, none⟩ (.int .i64 X.log)).setCell ⟨P1, 5, none⟩ (.int .i64 X.index)).setCell ⟨P1, 6, none⟩ (.int .i64 X.term)).setCell ⟨P1, 7, none⟩ (.int .i64 X.ht)).setCell ⟨P1, 8, none⟩ (.int .i64 X.hv)).setCell ⟨P1, 9, none⟩ (.int .i64 X.hc)).setCell ⟨P1, 10, none⟩ (.int .i64 X.mark)).heap[w.heap.size]? = some (.cells #[.slice a1 n1 c1, .slice a2 n2 c2, .slice a3 n3 c3, .slice a4 n4 c4, .int .i64 i1, .int .i64 i2, .int .i64 i3, .int .i64 i4, .int .i64 i5, .int .i64 i6, .int .i64 i7] 29 (0, 0))) := ((hgr.block _ (ob_ltB hP0) (fun e => absurd (Option.some.inj e) (Nat.ne_of_lt hP01))).trans hP0 : _ = _)
            have hix : RIx (P1) V D1 M1 G1 D2 M2 G2 D3 M3 G3 D4 M4 G4 X := rix_own hRY hlow hcx
            have hix2 : Hid (RIx (P1) (((((((((((V.setCell ⟨P1, 0, none⟩ (.slice D1 M1 G1)).setCell ⟨P1, 1, none⟩ (.slice D2 M2 G2)).setCell ⟨P1, 2, none⟩ (.slice D3 M3 G3)).setCell ⟨P1, 3, none⟩ (.slice D4 M4 G4)).setCell ⟨P1, 4, none⟩ (.int .i64 X.log)).setCell ⟨P1, 5, none⟩ (.int .i64 X.index)).setCell ⟨P1, 6, none⟩ (.int .i64 X.term)).setCell ⟨P1, 7, none⟩ (.int .i64 X.ht)).setCell ⟨P1, 8, none⟩ (.int .i64 X.hv)).setCell ⟨P1, 9, none⟩ (.int .i64 X.hc)).setCell ⟨P1, 10, none⟩ (.int .i64 X.mark)) D1 M1 G1 D2 M2 G2 D3 M3 G3 D4 M4 G4 X) := (hix.go hgr : RIx _ _ D1 M1 G1 D2 M2 G2 D3 M3 G3 D4 M4 G4 X)
            have hbF : Hid (Below w.heap.size w (((((((((((V.setCell ⟨P1, 0, none⟩ (.slice D1 M1 G1)).setCell ⟨P1, 1, none⟩ (.slice D2 M2 G2)).setCell ⟨P1, 2, none⟩ (.slice D3 M3 G3)).setCell ⟨P1, 3, none⟩ (.slice D4 M4 G4)).setCell ⟨P1, 4, none⟩ (.int .i64 X.log)).setCell ⟨P1, 5, none⟩ (.int .i64 X.index)).setCell ⟨P1, 6, none⟩ (.int .i64 X.term)).setCell ⟨P1, 7, none⟩ (.int .i64 X.ht)).setCell ⟨P1, 8, none⟩ (.int .i64 X.hv)).setCell ⟨P1, 9, none⟩ (.int .i64 X.hc)).setCell ⟨P1, 10, none⟩ (.int .i64 X.mark))) := (below_grownB (HB.out.trans (hbV.out.mono HB.out.size)) hgr (HB.out.trans (hbV.out.mono HB.out.size)).size (fun q hq => by cases hq; exact Nat.le_of_lt hP01) : Below _ _ _)
            have G10' : Hid ((((((((((((V.setCell ⟨P1, 0, none⟩ (.slice D1 M1 G1)).setCell ⟨P1, 1, none⟩ (.slice D2 M2 G2)).setCell ⟨P1, 2, none⟩ (.slice D3 M3 G3)).setCell ⟨P1, 3, none⟩ (.slice D4 M4 G4)).setCell ⟨P1, 4, none⟩ (.int .i64 X.log)).setCell ⟨P1, 5, none⟩ (.int .i64 X.index)).setCell ⟨P1, 6, none⟩ (.int .i64 X.term)).setCell ⟨P1, 7, none⟩ (.int .i64 X.ht)).setCell ⟨P1, 8, none⟩ (.int .i64 X.hv)).setCell ⟨P1, 9, none⟩ (.int .i64 X.hc)).setCell ⟨P1, 10, none⟩ (.int .i64 X.mark)).heap[P1]? = some (.cells #[.slice D1 M1 G1, .slice D2 M2 G2, .slice D3 M3 G3, .slice D4 M4 G4, .int .i64 X.log, .int .i64 X.index, .int .i64 X.term, .int .i64 X.ht, .int .i64 X.hv, .int .i64 X.hc, .int .i64 X.mark] 29 (0, 0))) := QQ10
            clear hgr hgrw hix d0 e0 fz0 QQ0 d1 e1 fz1 QQ1 d2 e2 fz2 QQ2 d3 e3 fz3 QQ3 d4 e4 fz4 QQ4 d5 e5 fz5 QQ5 d6 e6 fz6 QQ6 d7 e7 fz7 QQ7 d8 e8 fz8 QQ8 d9 e9 fz9 QQ9 d10 e10 fz10 QQ10 hP1 hP0 hY HPY
            obtain ⟨X1, X2, X3, X4, Z1, Z2, Z3, Z4, Z5, Z6, Z7⟩ := X
            dsimp only at hP0' G10' hix2 hbF hsn ⊢
            exact ⟨⟨k + 1, X1, X2, X3, X4, D1, M1, G1, D2, M2, G2, D3, M3, G3, D4, M4, G4, Z1, Z2, Z3, Z4, Z5, Z6, Z7, by omega, by go_num, hsn, hP0', G10', hix2, hbF⟩, by simp [intOf]; omega⟩
          
      · skip
        go_simp
        refine hK.out _ _ (HV.out _ (below_alloc _ _).drew) (fun hHeld => ?_)
        clear hK K
        refine wpAnyH_ready (rs := [5]) (by kernel_rfl) (by simp) ?_
        refine AllReadyH.cons rfl (fun K hK => ?_) AllReadyH.nil
        go_simp
        refine hK.out _ _ (HV.out _ bB) (fun hHeld => ?_)
        clear hK K
        refine wpAnyH_ready (rs := [6]) (by kernel_rfl) (by simp) ?_
        refine AllReadyH.cons rfl (fun K hK => ?_) AllReadyH.nil
        go_simp; go_at_call 10; refine cB.mono ?_; rintro e w5 ⟨D1, M1, G1, D2, M2, G2, D3, M3, G3, D4, M4, G4, rfl, hro, b5⟩; have hb5 := bB.trans (b5.mono bB.size); have hlo5 := bB.size; have zz5 := (b5.block _ (ob_ltB zB)).trans zB; have zc0 := (blkc zz5).1 0; have zf0 := (blkc zz5).2 0; have zc1 := (blkc zz5).1 1; have zf1 := (blkc zz5).2 1; have zc2 := (blkc zz5).1 2; have zf2 := (blkc zz5).2 2; have zc3 := (blkc zz5).1 3; have zf3 := (blkc zz5).2 3; have zc4 := (blkc zz5).1 4; have zf4 := (blkc zz5).2 4; have zc5 := (blkc zz5).1 5; have zf5 := (blkc zz5).2 5; have zc6 := (blkc zz5).1 6; have zf6 := (blkc zz5).2 6; have zc7 := (blkc zz5).1 7; have zf7 := (blkc zz5).2 7; have zc8 := (blkc zz5).1 8; have zf8 := (blkc zz5).2 8; have zc9 := (blkc zz5).1 9; have zf9 := (blkc zz5).2 9; have zc10 := (blkc zz5).1 10; have zf10 := (blkc zz5).2 10
        refine hK.out _ _ (HV.out _ hb5) (fun hHeld => ?_)
        clear hK K
        try go_frame
        refine wpAnyH_take (i := 7) (oi := ⟨some 27, _, _, _, _, _⟩) (v := ?_) rfl (by kernel_rfl) (by kernel_rfl) (by kernel_rfl) (fun _ _ _ h => h) (Or.inl ⟨by rfl, ?_⟩) (by assumption) ?_
        rotate_left
        · intro w hSw; (try dsimp only at hSw); go_simp <;> (try with_reducible rfl)
        go_frame
        refine wpAnyH_take (i := 8) (oi := ⟨some 35, _, _, _, _, _⟩) (v := ?_) rfl (by kernel_rfl) (by kernel_rfl) (by kernel_rfl) (fun _ _ _ h => h) (Or.inl ⟨by rfl, ?_⟩) (by assumption) ?_
        rotate_left
        · intro w hSw; (try dsimp only at hSw); go_simp <;> (try with_reducible rfl)
        go_frame
        refine wpAnyH_take (i := 9) (oi := ⟨some 36, _, _, _, _, _⟩) (v := ?_) rfl (by kernel_rfl) (by kernel_rfl) (by kernel_rfl) (fun _ _ _ h => h) (Or.inl ⟨by rfl, ?_⟩) (by assumption) ?_
        rotate_left
        · intro w hSw; (try dsimp only at hSw); go_simp <;> (try with_reducible rfl)
        go_frame
        refine wpAnyH_ready (rs := [11]) (by kernel_rfl) (by simp) ?_
        refine AllReadyH.cons rfl (fun K hK => ?_) AllReadyH.nil
        go_simp
        refine hK.out _ _ (HV.out _ (below_grownB hb5 (turned_setL wr.heap.size [.slice D1 M1 G1, .slice D2 M2 G2, .slice D3 M3 G3, .slice D4 M4 G4, .int .i64 X.log, .int .i64 X.index, .int .i64 X.term, .int .i64 X.ht, .int .i64 X.hv, .int .i64 X.hc, .int .i64 X.mark] 0 w5) hb5.size (fun q hq => by cases hq; omega))) (fun hHeld => ?_)
        clear hK K
        refine wpAnyH_take (i := 12) (oi := ⟨some 8, _, _, _, _, _⟩) (v := ?_) rfl (by kernel_rfl) (by kernel_rfl) (by kernel_rfl) (fun _ _ _ h => h) (Or.inl ⟨by rfl, ?_⟩) (by assumption) ?_
        rotate_left
        · intro w hSw; (try dsimp only at hSw); go_simp <;> (try with_reducible rfl)
        go_frame
        refine wpAnyH_done (by kernel_rfl) ?_ _
        have Y0 : (w5.setCell ⟨wr.heap.size, 0, none⟩ (.slice D1 M1 G1)).heap[wr.heap.size]? = some (.cells #[.slice D1 M1 G1, .slice none 0 0, .slice none 0 0, .slice none 0 0, .int .i64 0, .int .i64 0, .int .i64 0, .int .i64 0, .int .i64 0, .int .i64 0, .int .i64 0] 29 (0, 0)) := bput zz5 _ rfl
        have Y1 : ((w5.setCell ⟨wr.heap.size, 0, none⟩ (.slice D1 M1 G1)).setCell ⟨wr.heap.size, 1, none⟩ (.slice D2 M2 G2)).heap[wr.heap.size]? = some (.cells #[.slice D1 M1 G1, .slice D2 M2 G2, .slice none 0 0, .slice none 0 0, .int .i64 0, .int .i64 0, .int .i64 0, .int .i64 0, .int .i64 0, .int .i64 0, .int .i64 0] 29 (0, 0)) := bput Y0 _ rfl
        have Y2 : (((w5.setCell ⟨wr.heap.size, 0, none⟩ (.slice D1 M1 G1)).setCell ⟨wr.heap.size, 1, none⟩ (.slice D2 M2 G2)).setCell ⟨wr.heap.size, 2, none⟩ (.slice D3 M3 G3)).heap[wr.heap.size]? = some (.cells #[.slice D1 M1 G1, .slice D2 M2 G2, .slice D3 M3 G3, .slice none 0 0, .int .i64 0, .int .i64 0, .int .i64 0, .int .i64 0, .int .i64 0, .int .i64 0, .int .i64 0] 29 (0, 0)) := bput Y1 _ rfl
        have Y3 : ((((w5.setCell ⟨wr.heap.size, 0, none⟩ (.slice D1 M1 G1)).setCell ⟨wr.heap.size, 1, none⟩ (.slice D2 M2 G2)).setCell ⟨wr.heap.size, 2, none⟩ (.slice D3 M3 G3)).setCell ⟨wr.heap.size, 3, none⟩ (.slice D4 M4 G4)).heap[wr.heap.size]? = some (.cells #[.slice D1 M1 G1, .slice D2 M2 G2, .slice D3 M3 G3, .slice D4 M4 G4, .int .i64 0, .int .i64 0, .int .i64 0, .int .i64 0, .int .i64 0, .int .i64 0, .int .i64 0] 29 (0, 0)) := bput Y2 _ rfl
        have Y4 : (((((w5.setCell ⟨wr.heap.size, 0, none⟩ (.slice D1 M1 G1)).setCell ⟨wr.heap.size, 1, none⟩ (.slice D2 M2 G2)).setCell ⟨wr.heap.size, 2, none⟩ (.slice D3 M3 G3)).setCell ⟨wr.heap.size, 3, none⟩ (.slice D4 M4 G4)).setCell ⟨wr.heap.size, 4, none⟩ (.int .i64 X.log)).heap[wr.heap.size]? = some (.cells #[.slice D1 M1 G1, .slice D2 M2 G2, .slice D3 M3 G3, .slice D4 M4 G4, .int .i64 X.log, .int .i64 0, .int .i64 0, .int .i64 0, .int .i64 0, .int .i64 0, .int .i64 0] 29 (0, 0)) := bput Y3 _ rfl
        have Y5 : ((((((w5.setCell ⟨wr.heap.size, 0, none⟩ (.slice D1 M1 G1)).setCell ⟨wr.heap.size, 1, none⟩ (.slice D2 M2 G2)).setCell ⟨wr.heap.size, 2, none⟩ (.slice D3 M3 G3)).setCell ⟨wr.heap.size, 3, none⟩ (.slice D4 M4 G4)).setCell ⟨wr.heap.size, 4, none⟩ (.int .i64 X.log)).setCell ⟨wr.heap.size, 5, none⟩ (.int .i64 X.index)).heap[wr.heap.size]? = some (.cells #[.slice D1 M1 G1, .slice D2 M2 G2, .slice D3 M3 G3, .slice D4 M4 G4, .int .i64 X.log, .int .i64 X.index, .int .i64 0, .int .i64 0, .int .i64 0, .int .i64 0, .int .i64 0] 29 (0, 0)) := bput Y4 _ rfl
        have Y6 : (((((((w5.setCell ⟨wr.heap.size, 0, none⟩ (.slice D1 M1 G1)).setCell ⟨wr.heap.size, 1, none⟩ (.slice D2 M2 G2)).setCell ⟨wr.heap.size, 2, none⟩ (.slice D3 M3 G3)).setCell ⟨wr.heap.size, 3, none⟩ (.slice D4 M4 G4)).setCell ⟨wr.heap.size, 4, none⟩ (.int .i64 X.log)).setCell ⟨wr.heap.size, 5, none⟩ (.int .i64 X.index)).setCell ⟨wr.heap.size, 6, none⟩ (.int .i64 X.term)).heap[wr.heap.size]? = some (.cells #[.slice D1 M1 G1, .slice D2 M2 G2, .slice D3 M3 G3, .slice D4 M4 G4, .int .i64 X.log, .int .i64 X.index, .int .i64 X.term, .int .i64 0, .int .i64 0, .int .i64 0, .int .i64 0] 29 (0, 0)) := bput Y5 _ rfl
        have Y7 : ((((((((w5.setCell ⟨wr.heap.size, 0, none⟩ (.slice D1 M1 G1)).setCell ⟨wr.heap.size, 1, none⟩ (.slice D2 M2 G2)).setCell ⟨wr.heap.size, 2, none⟩ (.slice D3 M3 G3)).setCell ⟨wr.heap.size, 3, none⟩ (.slice D4 M4 G4)).setCell ⟨wr.heap.size, 4, none⟩ (.int .i64 X.log)).setCell ⟨wr.heap.size, 5, none⟩ (.int .i64 X.index)).setCell ⟨wr.heap.size, 6, none⟩ (.int .i64 X.term)).setCell ⟨wr.heap.size, 7, none⟩ (.int .i64 X.ht)).heap[wr.heap.size]? = some (.cells #[.slice D1 M1 G1, .slice D2 M2 G2, .slice D3 M3 G3, .slice D4 M4 G4, .int .i64 X.log, .int .i64 X.index, .int .i64 X.term, .int .i64 X.ht, .int .i64 0, .int .i64 0, .int .i64 0] 29 (0, 0)) := bput Y6 _ rfl
        have Y8 : (((((((((w5.setCell ⟨wr.heap.size, 0, none⟩ (.slice D1 M1 G1)).setCell ⟨wr.heap.size, 1, none⟩ (.slice D2 M2 G2)).setCell ⟨wr.heap.size, 2, none⟩ (.slice D3 M3 G3)).setCell ⟨wr.heap.size, 3, none⟩ (.slice D4 M4 G4)).setCell ⟨wr.heap.size, 4, none⟩ (.int .i64 X.log)).setCell ⟨wr.heap.size, 5, none⟩ (.int .i64 X.index)).setCell ⟨wr.heap.size, 6, none⟩ (.int .i64 X.term)).setCell ⟨wr.heap.size, 7, none⟩ (.int .i64 X.ht)).setCell ⟨wr.heap.size, 8, none⟩ (.int .i64 X.hv)).heap[wr.heap.size]? = some (.cells #[.slice D1 M1 G1, .slice D2 M2 G2, .slice D3 M3 G3, .slice D4 M4 G4, .int .i64 X.log, .int .i64 X.index, .int .i64 X.term, .int .i64 X.ht, .int .i64 X.hv, .int .i64 0, .int .i64 0] 29 (0, 0)) := bput Y7 _ rfl
        have Y9 : ((((((((((w5.setCell ⟨wr.heap.size, 0, none⟩ (.slice D1 M1 G1)).setCell ⟨wr.heap.size, 1, none⟩ (.slice D2 M2 G2)).setCell ⟨wr.heap.size, 2, none⟩ (.slice D3 M3 G3)).setCell ⟨wr.heap.size, 3, none⟩ (.slice D4 M4 G4)).setCell ⟨wr.heap.size, 4, none⟩ (.int .i64 X.log)).setCell ⟨wr.heap.size, 5, none⟩ (.int .i64 X.index)).setCell ⟨wr.heap.size, 6, none⟩ (.int .i64 X.term)).setCell ⟨wr.heap.size, 7, none⟩ (.int .i64 X.ht)).setCell ⟨wr.heap.size, 8, none⟩ (.int .i64 X.hv)).setCell ⟨wr.heap.size, 9, none⟩ (.int .i64 X.hc)).heap[wr.heap.size]? = some (.cells #[.slice D1 M1 G1, .slice D2 M2 G2, .slice D3 M3 G3, .slice D4 M4 G4, .int .i64 X.log, .int .i64 X.index, .int .i64 X.term, .int .i64 X.ht, .int .i64 X.hv, .int .i64 X.hc, .int .i64 0] 29 (0, 0)) := bput Y8 _ rfl
        have Y10 : (((((((((((w5.setCell ⟨wr.heap.size, 0, none⟩ (.slice D1 M1 G1)).setCell ⟨wr.heap.size, 1, none⟩ (.slice D2 M2 G2)).setCell ⟨wr.heap.size, 2, none⟩ (.slice D3 M3 G3)).setCell ⟨wr.heap.size, 3, none⟩ (.slice D4 M4 G4)).setCell ⟨wr.heap.size, 4, none⟩ (.int .i64 X.log)).setCell ⟨wr.heap.size, 5, none⟩ (.int .i64 X.index)).setCell ⟨wr.heap.size, 6, none⟩ (.int .i64 X.term)).setCell ⟨wr.heap.size, 7, none⟩ (.int .i64 X.ht)).setCell ⟨wr.heap.size, 8, none⟩ (.int .i64 X.hv)).setCell ⟨wr.heap.size, 9, none⟩ (.int .i64 X.hc)).setCell ⟨wr.heap.size, 10, none⟩ (.int .i64 X.mark)).heap[wr.heap.size]? = some (.cells #[.slice D1 M1 G1, .slice D2 M2 G2, .slice D3 M3 G3, .slice D4 M4 G4, .int .i64 X.log, .int .i64 X.index, .int .i64 X.term, .int .i64 X.ht, .int .i64 X.hv, .int .i64 X.hc, .int .i64 X.mark] 29 (0, 0)) := bput Y9 _ rfl
        have hgz : w5.grownBy (((((((((((w5.setCell ⟨wr.heap.size, 0, none⟩ (.slice D1 M1 G1)).setCell ⟨wr.heap.size, 1, none⟩ (.slice D2 M2 G2)).setCell ⟨wr.heap.size, 2, none⟩ (.slice D3 M3 G3)).setCell ⟨wr.heap.size, 3, none⟩ (.slice D4 M4 G4)).setCell ⟨wr.heap.size, 4, none⟩ (.int .i64 X.log)).setCell ⟨wr.heap.size, 5, none⟩ (.int .i64 X.index)).setCell ⟨wr.heap.size, 6, none⟩ (.int .i64 X.term)).setCell ⟨wr.heap.size, 7, none⟩ (.int .i64 X.ht)).setCell ⟨wr.heap.size, 8, none⟩ (.int .i64 X.hv)).setCell ⟨wr.heap.size, 9, none⟩ (.int .i64 X.hc)).setCell ⟨wr.heap.size, 10, none⟩ (.int .i64 X.mark)) (some (wr.heap.size)) := turned_setL (wr.heap.size) [.slice D1 M1 G1, .slice D2 M2 G2, .slice D3 M3 G3, .slice D4 M4 G4, .int .i64 X.log, .int .i64 X.index, .int .i64 X.term, .int .i64 X.ht, .int .i64 X.hv, .int .i64 X.hc, .int .i64 X.mark] 0 w5
        have hbV0 : Below wr.heap.size wr (((((((((((w5.setCell ⟨wr.heap.size, 0, none⟩ (.slice D1 M1 G1)).setCell ⟨wr.heap.size, 1, none⟩ (.slice D2 M2 G2)).setCell ⟨wr.heap.size, 2, none⟩ (.slice D3 M3 G3)).setCell ⟨wr.heap.size, 3, none⟩ (.slice D4 M4 G4)).setCell ⟨wr.heap.size, 4, none⟩ (.int .i64 X.log)).setCell ⟨wr.heap.size, 5, none⟩ (.int .i64 X.index)).setCell ⟨wr.heap.size, 6, none⟩ (.int .i64 X.term)).setCell ⟨wr.heap.size, 7, none⟩ (.int .i64 X.ht)).setCell ⟨wr.heap.size, 8, none⟩ (.int .i64 X.hv)).setCell ⟨wr.heap.size, 9, none⟩ (.int .i64 X.hc)).setCell ⟨wr.heap.size, 10, none⟩ (.int .i64 X.mark)) := below_grownB hb5 hgz hb5.size (fun q hq => by cases hq; omega)
        have hRY0 := hro.other zz5 hgz
        obtain ⟨V, hV⟩ : ∃ V, V = (((((((((((w5.setCell ⟨wr.heap.size, 0, none⟩ (.slice D1 M1 G1)).setCell ⟨wr.heap.size, 1, none⟩ (.slice D2 M2 G2)).setCell ⟨wr.heap.size, 2, none⟩ (.slice D3 M3 G3)).setCell ⟨wr.heap.size, 3, none⟩ (.slice D4 M4 G4)).setCell ⟨wr.heap.size, 4, none⟩ (.int .i64 X.log)).setCell ⟨wr.heap.size, 5, none⟩ (.int .i64 X.index)).setCell ⟨wr.heap.size, 6, none⟩ (.int .i64 X.term)).setCell ⟨wr.heap.size, 7, none⟩ (.int .i64 X.ht)).setCell ⟨wr.heap.size, 8, none⟩ (.int .i64 X.hv)).setCell ⟨wr.heap.size, 9, none⟩ (.int .i64 X.hc)).setCell ⟨wr.heap.size, 10, none⟩ (.int .i64 X.mark)) := ⟨_, rfl⟩
        rw [← hV]
        rw [← hV] at hbV0 hRY0 Y10
        have hY : V.heap[wr.heap.size]? = some (.cells #[.slice D1 M1 G1, .slice D2 M2 G2, .slice D3 M3 G3, .slice D4 M4 G4, .int .i64 X.log, .int .i64 X.index, .int .i64 X.term, .int .i64 X.ht, .int .i64 X.hv, .int .i64 X.hc, .int .i64 X.mark] 29 (0, 0)) := Y10
        have hbV : Hid (Below wr.heap.size wr V) := hbV0
        have hRY : ROwn _ V D1 M1 G1 D2 M2 G2 D3 M3 G3 D4 M4 G4 X := hRY0
        have hlow : P1 < ((wr.alloc (.cells #[.slice none 0 0, .slice none 0 0, .slice none 0 0, .slice none 0 0, .int .i64 0, .int .i64 0, .int .i64 0, .int .i64 0, .int .i64 0, .int .i64 0, .int .i64 0] 29)).alloc (oed k9 n9 i9 t9 a9 b9 c9 p9 q9 r9 f9 g9)).drew.heap.size := Nat.lt_of_lt_of_le (ob_ltB H1.out) hlo5
        clear hV hgz hbV0 hRY0 Y0 Y1 Y2 Y3 Y4 Y5 Y6 Y7 Y8 Y9 Y10 zc0 zf0 zc1 zf1 zc2 zf2 zc3 zf3 zc4 zf4 zc5 zf5 zc6 zf6 zc7 zf7 zc8 zf8 zc9 zf9 zc10 zf10 zz5
        have hP0 := (hbV.out.block _ (ob_ltB H0.out)).trans H0.out
        have hP1 := (hbV.out.block _ (ob_ltB H1.out)).trans H1.out
        clear ca0 ca1 ca2 ca3 ca4 ca5 ca6 ca7 ca8 ca9 ca10 m0 m1 m2 m3 m4 m5 m6 m7 m8 m9 m10 m11
        cases hz : decide (ERR = 0) with
        | false =>
          have hE : ¬ (ERR = 0) := of_decide_eq_false hz
          have hE2 : (ERR == 0) = false := by simpa using hE
          clear hz hE
          go_wp2_with (go_at_call 9; go_must (refine (hwa _).mono ?_; rintro e w7 ⟨rfl, hb7⟩))
          go_ret
          have hbF := hbV.out.trans (hb7.mono hbV.out.size)
          exact ⟨rfl, HB.out.trans (hbF.mono HB.out.size)⟩
        | true =>
          obtain rfl : ERR = 0 := of_decide_eq_true hz
          clear hz
          have hsn : Ro.steps ⟨s, ms, ts, ks, i1, i2, i3, i4, i5, i6, i7⟩ (l.take (k + 1)) = some X := HSN.out rfl
          have hcx : Ro.check X = true := HCX.out rfl
          have d0 := (blkc hY).1 0
          have d1 := (blkc hY).1 1
          have d2 := (blkc hY).1 2
          have d3 := (blkc hY).1 3
          have d4 := (blkc hY).1 4
          have d5 := (blkc hY).1 5
          have d6 := (blkc hY).1 6
          have d7 := (blkc hY).1 7
          have d8 := (blkc hY).1 8
          have d9 := (blkc hY).1 9
          have d10 := (blkc hY).1 10
          have e0 := (blkc hP1).1 0
          have e1 := (blkc hP1).1 1
          have e2 := (blkc hP1).1 2
          have e3 := (blkc hP1).1 3
          have e4 := (blkc hP1).1 4
          have e5 := (blkc hP1).1 5
          have e6 := (blkc hP1).1 6
          have e7 := (blkc hP1).1 7
          have e8 := (blkc hP1).1 8
          have e9 := (blkc hP1).1 9
          have e10 := (blkc hP1).1 10
          have fz0 := (blkc hP1).2 0
          have fz1 := (blkc hP1).2 1
          have fz2 := (blkc hP1).2 2
          have fz3 := (blkc hP1).2 3
          have fz4 := (blkc hP1).2 4
          have fz5 := (blkc hP1).2 5
          have fz6 := (blkc hP1).2 6
          have fz7 := (blkc hP1).2 7
          have fz8 := (blkc hP1).2 8
          have fz9 := (blkc hP1).2 9
          have fz10 := (blkc hP1).2 10
          have HPY : Hid (V.heap[_]? = _) := hP1
          go_wp2
          have QQ0 : (V.setCell ⟨P1, 0, none⟩ (.slice D1 M1 G1)).heap[P1]? = some (.cells #[.slice D1 M1 G1, .slice A2 N2 C2, .slice A3 N3 C3, .slice A4 N4 C4, .int .i64 y1, .int .i64 y2, .int .i64 y3, .int .i64 y4, .int .i64 y5, .int .i64 y6, .int .i64 y7] 29 (0, 0)) := bput hP1 _ rfl
          have QQ1 : ((V.setCell ⟨P1, 0, none⟩ (.slice D1 M1 G1)).setCell ⟨P1, 1, none⟩ (.slice D2 M2 G2)).heap[P1]? = some (.cells #[.slice D1 M1 G1, .slice D2 M2 G2, .slice A3 N3 C3, .slice A4 N4 C4, .int .i64 y1, .int .i64 y2, .int .i64 y3, .int .i64 y4, .int .i64 y5, .int .i64 y6, .int .i64 y7] 29 (0, 0)) := bput QQ0 _ rfl
          have QQ2 : (((V.setCell ⟨P1, 0, none⟩ (.slice D1 M1 G1)).setCell ⟨P1, 1, none⟩ (.slice D2 M2 G2)).setCell ⟨P1, 2, none⟩ (.slice D3 M3 G3)).heap[P1]? = some (.cells #[.slice D1 M1 G1, .slice D2 M2 G2, .slice D3 M3 G3, .slice A4 N4 C4, .int .i64 y1, .int .i64 y2, .int .i64 y3, .int .i64 y4, .int .i64 y5, .int .i64 y6, .int .i64 y7] 29 (0, 0)) := bput QQ1 _ rfl
          have QQ3 : ((((V.setCell ⟨P1, 0, none⟩ (.slice D1 M1 G1)).setCell ⟨P1, 1, none⟩ (.slice D2 M2 G2)).setCell ⟨P1, 2, none⟩ (.slice D3 M3 G3)).setCell ⟨P1, 3, none⟩ (.slice D4 M4 G4)).heap[P1]? = some (.cells #[.slice D1 M1 G1, .slice D2 M2 G2, .slice D3 M3 G3, .slice D4 M4 G4, .int .i64 y1, .int .i64 y2, .int .i64 y3, .int .i64 y4, .int .i64 y5, .int .i64 y6, .int .i64 y7] 29 (0, 0)) := bput QQ2 _ rfl
          have QQ4 : (((((V.setCell ⟨P1, 0, none⟩ (.slice D1 M1 G1)).setCell ⟨P1, 1, none⟩ (.slice D2 M2 G2)).setCell ⟨P1, 2, none⟩ (.slice D3 M3 G3)).setCell ⟨P1, 3, none⟩ (.slice D4 M4 G4)).setCell ⟨P1, 4, none⟩ (.int .i64 X.log)).heap[P1]? = some (.cells #[.slice D1 M1 G1, .slice D2 M2 G2, .slice D3 M3 G3, .slice D4 M4 G4, .int .i64 X.log, .int .i64 y2, .int .i64 y3, .int .i64 y4, .int .i64 y5, .int .i64 y6, .int .i64 y7] 29 (0, 0)) := bput QQ3 _ rfl
          have QQ5 : ((((((V.setCell ⟨P1, 0, none⟩ (.slice D1 M1 G1)).setCell ⟨P1, 1, none⟩ (.slice D2 M2 G2)).setCell ⟨P1, 2, none⟩ (.slice D3 M3 G3)).setCell ⟨P1, 3, none⟩ (.slice D4 M4 G4)).setCell ⟨P1, 4, none⟩ (.int .i64 X.log)).setCell ⟨P1, 5, none⟩ (.int .i64 X.index)).heap[P1]? = some (.cells #[.slice D1 M1 G1, .slice D2 M2 G2, .slice D3 M3 G3, .slice D4 M4 G4, .int .i64 X.log, .int .i64 X.index, .int .i64 y3, .int .i64 y4, .int .i64 y5, .int .i64 y6, .int .i64 y7] 29 (0, 0)) := bput QQ4 _ rfl
          have QQ6 : (((((((V.setCell ⟨P1, 0, none⟩ (.slice D1 M1 G1)).setCell ⟨P1, 1, none⟩ (.slice D2 M2 G2)).setCell ⟨P1, 2, none⟩ (.slice D3 M3 G3)).setCell ⟨P1, 3, none⟩ (.slice D4 M4 G4)).setCell ⟨P1, 4, none⟩ (.int .i64 X.log)).setCell ⟨P1, 5, none⟩ (.int .i64 X.index)).setCell ⟨P1, 6, none⟩ (.int .i64 X.term)).heap[P1]? = some (.cells #[.slice D1 M1 G1, .slice D2 M2 G2, .slice D3 M3 G3, .slice D4 M4 G4, .int .i64 X.log, .int .i64 X.index, .int .i64 X.term, .int .i64 y4, .int .i64 y5, .int .i64 y6, .int .i64 y7] 29 (0, 0)) := bput QQ5 _ rfl
          have QQ7 : ((((((((V.setCell ⟨P1, 0, none⟩ (.slice D1 M1 G1)).setCell ⟨P1, 1, none⟩ (.slice D2 M2 G2)).setCell ⟨P1, 2, none⟩ (.slice D3 M3 G3)).setCell ⟨P1, 3, none⟩ (.slice D4 M4 G4)).setCell ⟨P1, 4, none⟩ (.int .i64 X.log)).setCell ⟨P1, 5, none⟩ (.int .i64 X.index)).setCell ⟨P1, 6, none⟩ (.int .i64 X.term)).setCell ⟨P1, 7, none⟩ (.int .i64 X.ht)).heap[P1]? = some (.cells #[.slice D1 M1 G1, .slice D2 M2 G2, .slice D3 M3 G3, .slice D4 M4 G4, .int .i64 X.log, .int .i64 X.index, .int .i64 X.term, .int .i64 X.ht, .int .i64 y5, .int .i64 y6, .int .i64 y7] 29 (0, 0)) := bput QQ6 _ rfl
          have QQ8 : (((((((((V.setCell ⟨P1, 0, none⟩ (.slice D1 M1 G1)).setCell ⟨P1, 1, none⟩ (.slice D2 M2 G2)).setCell ⟨P1, 2, none⟩ (.slice D3 M3 G3)).setCell ⟨P1, 3, none⟩ (.slice D4 M4 G4)).setCell ⟨P1, 4, none⟩ (.int .i64 X.log)).setCell ⟨P1, 5, none⟩ (.int .i64 X.index)).setCell ⟨P1, 6, none⟩ (.int .i64 X.term)).setCell ⟨P1, 7, none⟩ (.int .i64 X.ht)).setCell ⟨P1, 8, none⟩ (.int .i64 X.hv)).heap[P1]? = some (.cells #[.slice D1 M1 G1, .slice D2 M2 G2, .slice D3 M3 G3, .slice D4 M4 G4, .int .i64 X.log, .int .i64 X.index, .int .i64 X.term, .int .i64 X.ht, .int .i64 X.hv, .int .i64 y6, .int .i64 y7] 29 (0, 0)) := bput QQ7 _ rfl
          have QQ9 : ((((((((((V.setCell ⟨P1, 0, none⟩ (.slice D1 M1 G1)).setCell ⟨P1, 1, none⟩ (.slice D2 M2 G2)).setCell ⟨P1, 2, none⟩ (.slice D3 M3 G3)).setCell ⟨P1, 3, none⟩ (.slice D4 M4 G4)).setCell ⟨P1, 4, none⟩ (.int .i64 X.log)).setCell ⟨P1, 5, none⟩ (.int .i64 X.index)).setCell ⟨P1, 6, none⟩ (.int .i64 X.term)).setCell ⟨P1, 7, none⟩ (.int .i64 X.ht)).setCell ⟨P1, 8, none⟩ (.int .i64 X.hv)).setCell ⟨P1, 9, none⟩ (.int .i64 X.hc)).heap[P1]? = some (.cells #[.slice D1 M1 G1, .slice D2 M2 G2, .slice D3 M3 G3, .slice D4 M4 G4, .int .i64 X.log, .int .i64 X.index, .int .i64 X.term, .int .i64 X.ht, .int .i64 X.hv, .int .i64 X.hc, .int .i64 y7] 29 (0, 0)) := bput QQ8 _ rfl
          have QQ10 : (((((((((((V.setCell ⟨P1, 0, none⟩ (.slice D1 M1 G1)).setCell ⟨P1, 1, none⟩ (.slice D2 M2 G2)).setCell ⟨P1, 2, none⟩ (.slice D3 M3 G3)).setCell ⟨P1, 3, none⟩ (.slice D4 M4 G4)).setCell ⟨P1, 4, none⟩ (.int .i64 X.log)).setCell ⟨P1, 5, none⟩ (.int .i64 X.index)).setCell ⟨P1, 6, none⟩ (.int .i64 X.term)).setCell ⟨P1, 7, none⟩ (.int .i64 X.ht)).setCell ⟨P1, 8, none⟩ (.int .i64 X.hv)).setCell ⟨P1, 9, none⟩ (.int .i64 X.hc)).setCell ⟨P1, 10, none⟩ (.int .i64 X.mark)).heap[P1]? = some (.cells #[.slice D1 M1 G1, .slice D2 M2 G2, .slice D3 M3 G3, .slice D4 M4 G4, .int .i64 X.log, .int .i64 X.index, .int .i64 X.term, .int .i64 X.ht, .int .i64 X.hv, .int .i64 X.hc, .int .i64 X.mark] 29 (0, 0)) := bput QQ9 _ rfl
          have hgr : V.grownBy (((((((((((V.setCell ⟨P1, 0, none⟩ (.slice D1 M1 G1)).setCell ⟨P1, 1, none⟩ (.slice D2 M2 G2)).setCell ⟨P1, 2, none⟩ (.slice D3 M3 G3)).setCell ⟨P1, 3, none⟩ (.slice D4 M4 G4)).setCell ⟨P1, 4, none⟩ (.int .i64 X.log)).setCell ⟨P1, 5, none⟩ (.int .i64 X.index)).setCell ⟨P1, 6, none⟩ (.int .i64 X.term)).setCell ⟨P1, 7, none⟩ (.int .i64 X.ht)).setCell ⟨P1, 8, none⟩ (.int .i64 X.hv)).setCell ⟨P1, 9, none⟩ (.int .i64 X.hc)).setCell ⟨P1, 10, none⟩ (.int .i64 X.mark)) (some (P1)) := turned_setL (P1) [.slice D1 M1 G1, .slice D2 M2 G2, .slice D3 M3 G3, .slice D4 M4 G4, .int .i64 X.log, .int .i64 X.index, .int .i64 X.term, .int .i64 X.ht, .int .i64 X.hv, .int .i64 X.hc, .int .i64 X.mark] 0 V
          have hgrw : wr.grownBy (((((((((((V.setCell ⟨P1, 0, none⟩ (.slice D1 M1 G1)).setCell ⟨P1, 1, none⟩ (.slice D2 M2 G2)).setCell ⟨P1, 2, none⟩ (.slice D3 M3 G3)).setCell ⟨P1, 3, none⟩ (.slice D4 M4 G4)).setCell ⟨P1, 4, none⟩ (.int .i64 X.log)).setCell ⟨P1, 5, none⟩ (.int .i64 X.index)).setCell ⟨P1, 6, none⟩ (.int .i64 X.term)).setCell ⟨P1, 7, none⟩ (.int .i64 X.ht)).setCell ⟨P1, 8, none⟩ (.int .i64 X.hv)).setCell ⟨P1, 9, none⟩ (.int .i64 X.hc)).setCell ⟨P1, 10, none⟩ (.int .i64 X.mark)) (some (P1)) := (grown_any hbV.out _).trans hgr
          have hP0' : Hid ((((((((((((V.setCell ⟨P1, 0, none⟩ (.slice D1 M1 G1)).setCell ⟨P1, 1, none⟩ (.slice D2 M2 G2)).setCell ⟨P1, 2, none⟩ (.slice D3 M3 G3)).setCell ⟨P1, 3, none⟩ (.slice D4 M4 G4)).setCell ⟨P1, 4, none⟩ (.int .i64 X.log)).setCell ⟨P1, 5, none⟩ (.int .i64 X.index)).setCell ⟨P1, 6, none⟩ (.int .i64 X.term)).setCell ⟨P1, 7, none⟩ (.int .i64 X.ht)).setCell ⟨P1, 8, none⟩ (.int .i64 X.hv)).setCell ⟨P1, 9, none⟩ (.int .i64 X.hc)).setCell ⟨P1, 10, none⟩ (.int .i64 X.mark)).heap[w.heap.size]? = some (.cells #[.slice a1 n1 c1, .slice a2 n2 c2, .slice a3 n3 c3, .slice a4 n4 c4, .int .i64 i1, .int .i64 i2, .int .i64 i3, .int .i64 i4, .int .i64 i5, .int .i64 i6, .int .i64 i7] 29 (0, 0))) := ((hgr.block _ (ob_ltB hP0) (fun e => absurd (Option.some.inj e) (Nat.ne_of_lt hP01))).trans hP0 : _ = _)
          have hix : RIx (P1) V D1 M1 G1 D2 M2 G2 D3 M3 G3 D4 M4 G4 X := rix_own hRY hlow hcx
          have hix2 : Hid (RIx (P1) (((((((((((V.setCell ⟨P1, 0, none⟩ (.slice D1 M1 G1)).setCell ⟨P1, 1, none⟩ (.slice D2 M2 G2)).setCell ⟨P1, 2, none⟩ (.slice D3 M3 G3)).setCell ⟨P1, 3, none⟩ (.slice D4 M4 G4)).setCell ⟨P1, 4, none⟩ (.int .i64 X.log)).setCell ⟨P1, 5, none⟩ (.int .i64 X.index)).setCell ⟨P1, 6, none⟩ (.int .i64 X.term)).setCell ⟨P1, 7, none⟩ (.int .i64 X.ht)).setCell ⟨P1, 8, none⟩ (.int .i64 X.hv)).setCell ⟨P1, 9, none⟩ (.int .i64 X.hc)).setCell ⟨P1, 10, none⟩ (.int .i64 X.mark)) D1 M1 G1 D2 M2 G2 D3 M3 G3 D4 M4 G4 X) := (hix.go hgr : RIx _ _ D1 M1 G1 D2 M2 G2 D3 M3 G3 D4 M4 G4 X)
          have hbF : Hid (Below w.heap.size w (((((((((((V.setCell ⟨P1, 0, none⟩ (.slice D1 M1 G1)).setCell ⟨P1, 1, none⟩ (.slice D2 M2 G2)).setCell ⟨P1, 2, none⟩ (.slice D3 M3 G3)).setCell ⟨P1, 3, none⟩ (.slice D4 M4 G4)).setCell ⟨P1, 4, none⟩ (.int .i64 X.log)).setCell ⟨P1, 5, none⟩ (.int .i64 X.index)).setCell ⟨P1, 6, none⟩ (.int .i64 X.term)).setCell ⟨P1, 7, none⟩ (.int .i64 X.ht)).setCell ⟨P1, 8, none⟩ (.int .i64 X.hv)).setCell ⟨P1, 9, none⟩ (.int .i64 X.hc)).setCell ⟨P1, 10, none⟩ (.int .i64 X.mark))) := (below_grownB (HB.out.trans (hbV.out.mono HB.out.size)) hgr (HB.out.trans (hbV.out.mono HB.out.size)).size (fun q hq => by cases hq; exact Nat.le_of_lt hP01) : Below _ _ _)
          have G10' : Hid ((((((((((((V.setCell ⟨P1, 0, none⟩ (.slice D1 M1 G1)).setCell ⟨P1, 1, none⟩ (.slice D2 M2 G2)).setCell ⟨P1, 2, none⟩ (.slice D3 M3 G3)).setCell ⟨P1, 3, none⟩ (.slice D4 M4 G4)).setCell ⟨P1, 4, none⟩ (.int .i64 X.log)).setCell ⟨P1, 5, none⟩ (.int .i64 X.index)).setCell ⟨P1, 6, none⟩ (.int .i64 X.term)).setCell ⟨P1, 7, none⟩ (.int .i64 X.ht)).setCell ⟨P1, 8, none⟩ (.int .i64 X.hv)).setCell ⟨P1, 9, none⟩ (.int .i64 X.hc)).setCell ⟨P1, 10, none⟩ (.int .i64 X.mark)).heap[P1]? = some (.cells #[.slice D1 M1 G1, .slice D2 M2 G2, .slice D3 M3 G3, .slice D4 M4 G4, .int .i64 X.log, .int .i64 X.index, .int .i64 X.term, .int .i64 X.ht, .int .i64 X.hv, .int .i64 X.hc, .int .i64 X.mark] 29 (0, 0))) := QQ10
          clear hgr hgrw hix d0 e0 fz0 QQ0 d1 e1 fz1 QQ1 d2 e2 fz2 QQ2 d3 e3 fz3 QQ3 d4 e4 fz4 QQ4 d5 e5 fz5 QQ5 d6 e6 fz6 QQ6 d7 e7 fz7 QQ7 d8 e8 fz8 QQ8 d9 e9 fz9 QQ9 d10 e10 fz10 QQ10 hP1 hP0 hY HPY
          obtain ⟨X1, X2, X3, X4, Z1, Z2, Z3, Z4, Z5, Z6, Z7⟩ := X
          dsimp only at hP0' G10' hix2 hbF hsn ⊢
          exact ⟨⟨k + 1, X1, X2, X3, X4, D1, M1, G1, D2, M2, G2, D3, M3, G3, D4, M4, G4, Z1, Z2, Z3, Z4, Z5, Z6, Z7, by omega, by go_num, hsn, hP0', G10', hix2, hbF⟩, by simp [intOf]; omega⟩
        
    · obtain rfl : k = len := by omega
      have HTE : Hid (Ro.steps ⟨s, ms, ts, ks, i1, i2, i3, i4, i5, i6, i7⟩ l = some ⟨xs, xm, xt, xk, y1, y2, y3, y4, y5, y6, y7⟩) := (by have := HST.out; rwa [List.take_of_length_le (by rw [hll.out]; exact Nat.le_refl _)] at this : _ = _)
      have hapz := rapply_any s ms ts ks a1 n1 c1 a2 n2 c2 a3 n3 c3 a4 n4 c4 i1 i2 i3 i4 i5 i6 i7 ad k cap l wr (HI.out.below HB.out) (HL.out.below HB.out (Nat.le_refl _)) (by omega)
      unfold ApRes at hapz
      have x0 := (blkc H0.out).1 0
      have x1 := (blkc H0.out).1 1
      have x2 := (blkc H0.out).1 2
      have x3 := (blkc H0.out).1 3
      have x4 := (blkc H0.out).1 4
      have x5 := (blkc H0.out).1 5
      have x6 := (blkc H0.out).1 6
      have x7 := (blkc H0.out).1 7
      have x8 := (blkc H0.out).1 8
      have x9 := (blkc H0.out).1 9
      have x10 := (blkc H0.out).1 10
      clear HST
      by_cases hk0 : k = 0
      · subst hk0
        generalize (Ro.apply ⟨s, ms, ts, ks, i1, i2, i3, i4, i5, i6, i7⟩ l).1 = X at *
        generalize (Ro.apply ⟨s, ms, ts, ks, i1, i2, i3, i4, i5, i6, i7⟩ l).2 = ERR at *
        clear HTE
        go_wp2_with (first
          | (go_at_call 10; go_must (refine hapz.mono ?_; rintro e w5 ⟨D1, M1, G1, D2, M2, G2, D3, M3, G3, D4, M4, G4, rfl, hro, b5⟩; have b6 := b5.alloc b5.size))
          | (go_at_call 9; go_must (refine (hwa _).mono ?_; rintro e w7 ⟨rfl, hb7⟩)))
        go_ret
        have hbF := (b6 _).trans (hb7.mono (b6 _).size)
        exact ⟨rfl, HB.out.trans (hbF.mono HB.out.size)⟩
      · have hne : l ≠ [] := fun e => hk0 (by rw [← hll.out, e]; rfl)
        have hwh := Ro.whole HTE.out hne
        have hcx : Ro.check ⟨xs, xm, xt, xk, y1, y2, y3, y4, y5, y6, y7⟩ = true := (Ro.steps_whole l _ _ HTE.out hne).2.2.2
        rw [hwh] at hapz
        dsimp only at hapz
        have hkb : ((k : Int) == 0) = false := by simp; omega
        have hP1l : P1 < wr.heap.size := ob_ltB H1.out
        have hcp := (blkc H1.out).1
        have p0 := hcp 0
        have p1 := hcp 1
        have p2 := hcp 2
        have p3 := hcp 3
        have p4 := hcp 4
        have p5 := hcp 5
        have p6 := hcp 6
        have p7 := hcp 7
        have p8 := hcp 8
        have p9 := hcp 9
        have p10 := hcp 10
        have hRX := HX.out wr (grown_any (Below.refl _ _) _)
        obtain ⟨q1, q2, q3, q4⟩ : xs.length = N1 ∧ xm.length = N2 ∧ xt.length = N3 ∧ xk.length = N4 := ⟨hRX.r1.1, hRX.r2.1, hRX.r3.1, hRX.r4.1⟩
        have HQ : Hid (xs.length = N1 ∧ xm.length = N2 ∧ xt.length = N3 ∧ xk.length = N4) := ⟨q1, q2, q3, q4⟩
        have HCX : Hid (Ro.check ⟨xs, xm, xt, xk, y1, y2, y3, y4, y5, y6, y7⟩ = true) := hcx
        clear HTE hwh hcx hne hcp hRX q1 q2 q3 q4
        go_wp2_with (first
          | (go_at_call 10; go_must (refine hapz.mono ?_; rintro e w5 ⟨D1, M1, G1, D2, M2, G2, D3, M3, G3, D4, M4, G4, rfl, hro, b5⟩; have b6 := fun o => b5.alloc b5.size o; have pp0 := fun o => (cell_past w5 o ⟨P1, 0, none⟩ (Nat.lt_of_lt_of_le hP1l b5.size)).trans ((b5.cell (p := ⟨P1, 0, none⟩) hP1l).trans p0); have pp1 := fun o => (cell_past w5 o ⟨P1, 1, none⟩ (Nat.lt_of_lt_of_le hP1l b5.size)).trans ((b5.cell (p := ⟨P1, 1, none⟩) hP1l).trans p1); have pp2 := fun o => (cell_past w5 o ⟨P1, 2, none⟩ (Nat.lt_of_lt_of_le hP1l b5.size)).trans ((b5.cell (p := ⟨P1, 2, none⟩) hP1l).trans p2); have pp3 := fun o => (cell_past w5 o ⟨P1, 3, none⟩ (Nat.lt_of_lt_of_le hP1l b5.size)).trans ((b5.cell (p := ⟨P1, 3, none⟩) hP1l).trans p3); have pp4 := fun o => (cell_past w5 o ⟨P1, 4, none⟩ (Nat.lt_of_lt_of_le hP1l b5.size)).trans ((b5.cell (p := ⟨P1, 4, none⟩) hP1l).trans p4); have pp5 := fun o => (cell_past w5 o ⟨P1, 5, none⟩ (Nat.lt_of_lt_of_le hP1l b5.size)).trans ((b5.cell (p := ⟨P1, 5, none⟩) hP1l).trans p5); have pp6 := fun o => (cell_past w5 o ⟨P1, 6, none⟩ (Nat.lt_of_lt_of_le hP1l b5.size)).trans ((b5.cell (p := ⟨P1, 6, none⟩) hP1l).trans p6); have pp7 := fun o => (cell_past w5 o ⟨P1, 7, none⟩ (Nat.lt_of_lt_of_le hP1l b5.size)).trans ((b5.cell (p := ⟨P1, 7, none⟩) hP1l).trans p7); have pp8 := fun o => (cell_past w5 o ⟨P1, 8, none⟩ (Nat.lt_of_lt_of_le hP1l b5.size)).trans ((b5.cell (p := ⟨P1, 8, none⟩) hP1l).trans p8); have pp9 := fun o => (cell_past w5 o ⟨P1, 9, none⟩ (Nat.lt_of_lt_of_le hP1l b5.size)).trans ((b5.cell (p := ⟨P1, 9, none⟩) hP1l).trans p9); have pp10 := fun o => (cell_past w5 o ⟨P1, 10, none⟩ (Nat.lt_of_lt_of_le hP1l b5.size)).trans ((b5.cell (p := ⟨P1, 10, none⟩) hP1l).trans p10); have hlen5 := hro.len; obtain ⟨z1, z2, z3, z4⟩ := hlen5; dsimp only at z1 z2 z3 z4; obtain ⟨q1, q2, q3, q4⟩ := HQ.out; obtain rfl : N1 = M1 := q1.symm.trans z1; obtain rfl : N2 = M2 := q2.symm.trans z2; obtain rfl : N3 = M3 := q3.symm.trans z3; obtain rfl : N4 = M4 := q4.symm.trans z4; clear z1 z2 z3 z4 q1 q2 q3 q4; have HO : Hid (ROwn wr.heap.size w5 D1 N1 G1 D2 N2 G2 D3 N3 G3 D4 N4 G4 ⟨xs, xm, xt, xk, y1, y2, y3, y4, y5, y6, y7⟩) := hro; have HB5 : Hid (Below wr.heap.size wr w5) := b5; clear hro p0 p1 p2 p3 p4 p5 p6 p7 p8 p9 p10))
          | (go_at_call 14; go_must (refine (rsame_eq xs xm xt xk D1 N1 G1 D2 N2 G2 D3 N3 G3 D4 N4 G4 y1 y2 y3 y4 y5 y6 y7 A1 C1 A2 C2 A3 C3 A4 C4 _ ((rix_own HO.out hP1l HCX.out) _ (grown_any (below_alloc _ _) _)) (HX.out _ (grown_any (b6 _) _))).mono ?_; rintro e w6 ⟨rfl, hb6⟩; have b7 := (b6 _).trans (hb6.mono (b6 _).size)))
          | (go_at_call 9; go_must (refine (hwa _).mono ?_; rintro e w7 ⟨rfl, hb7⟩)))
        go_ret
        have hbF := b7.trans (hb7.mono b7.size)
        exact ⟨rfl, HB.out.trans (hbF.mono HB.out.size)⟩

set_option maxRecDepth 100000 in
set_option maxHeartbeats 2000000 in
theorem rwhole_dark (s : List Int) (ms : List (Int × Int)) (ts : List Lv.T) (ks : List (Int × Int × Int)) (a1 : Option Addr) (n1 c1 : Nat) (a2 : Option Addr) (n2 c2 : Nat) (a3 : Option Addr) (n3 c3 : Nat) (a4 : Option Addr) (n4 c4 : Nat) (i1 i2 i3 i4 i5 i6 i7 : Int) (ad : Option Addr) (len cap : Nat) (l : List Ed.E) (w : World) (h0 : IsRos w a1 n1 c1 a2 n2 c2 a3 n3 c3 a4 n4 c4 ⟨s, ms, ts, ks, i1, i2, i3, i4, i5, i6, i7⟩) (hl0 : IsEdits w ad len cap l) (hd : (rlgt ⟨s, ms, ts, ks, i1, i2, i3, i4, i5, i6, i7⟩ && elgt l) = false) :
    Calls Tryz.prog 6 #[.agg #[.slice a1 n1 c1, .slice a2 n2 c2, .slice a3 n3 c3, .slice a4 n4 c4, .int .i64 i1, .int .i64 i2, .int .i64 i3, .int .i64 i4, .int .i64 i5, .int .i64 i6, .int .i64 i7], .slice ad len cap] w fun e w' => e = .returned (.bool true) ∧ Below w.heap.size w w' := by
  have hwa := fun W => rawake_any W
  have hli := fun R hR W (hb : Below w.heap.size w W) => rlight_any s ms ts ks a1 n1 c1 a2 n2 c2 a3 n3 c3 a4 n4 c4 i1 i2 i3 i4 i5 i6 i7 W ⟨h0.r1.below hb (Nat.le_refl _), h0.r2.below hb (Nat.le_refl _), h0.r3.below hb (Nat.le_refl _), h0.r4.below hb (Nat.le_refl _), h0.z1, h0.z2, h0.z3, h0.z4, h0.c3, h0.s1, h0.s2, h0.s3, h0.s4⟩ R hR
  have hle := fun W (hb : Below w.heap.size w W) => elight_any ad len cap l W (hl0.1.below hb (Nat.le_refl _)) hl0.2.2.2
  obtain ⟨U, hU⟩ : ∃ U, U = w.alloc (.cells #[.slice a1 n1 c1, .slice a2 n2 c2, .slice a3 n3 c3, .slice a4 n4 c4, .int .i64 i1, .int .i64 i2, .int .i64 i3, .int .i64 i4, .int .i64 i5, .int .i64 i6, .int .i64 i7] 29) := ⟨_, rfl⟩
  have hbU : Below w.heap.size w U := by rw [hU]; exact below_alloc _ _
  have e0 : U.heap[w.heap.size]? = some (.cells #[.slice a1 n1 c1, .slice a2 n2 c2, .slice a3 n3 c3, .slice a4 n4 c4, .int .i64 i1, .int .i64 i2, .int .i64 i3, .int .i64 i4, .int .i64 i5, .int .i64 i6, .int .i64 i7] 29 (0, 0)) := by rw [hU]; exact heap_alloc_new _ _
  have x0 := (blkc e0).1 0
  have x1 := (blkc e0).1 1
  have x2 := (blkc e0).1 2
  have x3 := (blkc e0).1 3
  have x4 := (blkc e0).1 4
  have x5 := (blkc e0).1 5
  have x6 := (blkc e0).1 6
  have x7 := (blkc e0).1 7
  have x8 := (blkc e0).1 8
  have x9 := (blkc e0).1 9
  have x10 := (blkc e0).1 10
  have hUe : w.alloc (.cells #[.slice a1 n1 c1, .slice a2 n2 c2, .slice a3 n3 c3, .slice a4 n4 c4, .int .i64 i1, .int .i64 i2, .int .i64 i3, .int .i64 i4, .int .i64 i5, .int .i64 i6, .int .i64 i7] 29) = U := hU.symm
  have HU : Hid (Below w.heap.size w U) := hbU
  clear hU e0 hbU
  cases hr : rlgt ⟨s, ms, ts, ks, i1, i2, i3, i4, i5, i6, i7⟩ with
  | false =>
    have hl1 := fun W hb => hli false hr.symm W hb
    clear hli hle hd hr h0 hl0
    go_enter Tryz.func6, Tryz.ntmps6
    go_wp2_with (first
      | (go_at_call 7; go_must (refine (hl1 _ HU.out).mono ?_; rintro e w1 ⟨rfl, hb1⟩; have hw1 := HU.out.trans (hb1.mono HU.out.size)))
      | (go_at_call 9; go_must (refine (hwa _).mono ?_; rintro e w7 ⟨rfl, hb7⟩)))
    go_ret
    exact ⟨rfl, hw1.trans (hb7.mono hw1.size)⟩
  | true =>
    have hl1 := fun W hb => hli true hr.symm W hb
    have he : elgt l = false := by rw [hr, Bool.true_and] at hd; exact hd
    rw [he] at hle
    clear hli hd hr h0 hl0 he
    go_enter Tryz.func6, Tryz.ntmps6
    go_wp2_with (first
      | (go_at_call 7; go_must (refine (hl1 _ HU.out).mono ?_; rintro e w1 ⟨rfl, hb1⟩; have hw1 := HU.out.trans (hb1.mono HU.out.size)))
      | (go_at_call 8; go_must (refine (hle _ hw1).mono ?_; rintro e w2 ⟨rfl, hw2⟩; obtain rfl : w1 = w2 := hw2.symm))
      | (go_at_call 9; go_must (refine (hwa _).mono ?_; rintro e w7 ⟨rfl, hb7⟩)))
    go_ret
    exact ⟨rfl, hw1.trans (hb7.mono hw1.size)⟩
theorem rwhole_all (s : List Int) (ms : List (Int × Int)) (ts : List Lv.T) (ks : List (Int × Int × Int)) (a1 : Option Addr) (n1 c1 : Nat) (a2 : Option Addr) (n2 c2 : Nat) (a3 : Option Addr) (n3 c3 : Nat) (a4 : Option Addr) (n4 c4 : Nat) (i1 i2 i3 i4 i5 i6 i7 : Int) (ad : Option Addr) (len cap : Nat) (l : List Ed.E) (w : World) (h0 : IsRos w a1 n1 c1 a2 n2 c2 a3 n3 c3 a4 n4 c4 ⟨s, ms, ts, ks, i1, i2, i3, i4, i5, i6, i7⟩) (hl0 : IsEdits w ad len cap l) :
    Calls Tryz.prog 6 #[.agg #[.slice a1 n1 c1, .slice a2 n2 c2, .slice a3 n3 c3, .slice a4 n4 c4, .int .i64 i1, .int .i64 i2, .int .i64 i3, .int .i64 i4, .int .i64 i5, .int .i64 i6, .int .i64 i7], .slice ad len cap] w fun e w' => e = .returned (.bool true) ∧ Below w.heap.size w w' := by
  cases hd : (rlgt ⟨s, ms, ts, ks, i1, i2, i3, i4, i5, i6, i7⟩ && elgt l) with
  | false => exact rwhole_dark s ms ts ks a1 n1 c1 a2 n2 c2 a3 n3 c3 a4 n4 c4 i1 i2 i3 i4 i5 i6 i7 ad len cap l w h0 hl0 hd
  | true =>
    rw [Bool.and_eq_true] at hd
    exact rwhole_any s ms ts ks a1 n1 c1 a2 n2 c2 a3 n3 c3 a4 n4 c4 i1 i2 i3 i4 i5 i6 i7 ad len cap l w h0 hl0 hd.1 hd.2
end Go.Proofs.YtmodogmjfbcddaaGreat
