/- What is done in the law's world: Add and Drop. -/
import Derived.Test.YtnoknmnbfkdccaaGreatDoorVXv
namespace Go.Proofs.YtnoknmnbfkdccaaGreatDoor
open Go.RowKit Go.Shelf

theorem own_low' {w : World} {B e s n k : Nat} {v : Value} {xs : List Value} (h : w.ownsRow B e s v n xs) (hk : v.ownBlock = some k) : B ≤ k := by
  rcases h.2 with ⟨e, _⟩ | ⟨g, cap, cur, e, hg, _⟩
  · rw [e] at hk; cases hk
  · rw [e] at hk; simp [Value.ownBlock] at hk; omega
theorem own_hi {w : World} {B e s n k : Nat} {v : Value} {xs : List Value} (h : w.ownsRow B e s v n xs) (hk : v.ownBlock = some k) : k < w.heap.size := by
  obtain ⟨cur, hc⟩ := own_blk h hk
  exact heap_lt hc
theorem Wx.wide {B m n c : Nat} {a : Option Addr} {w w' : World} (h : Wx B m (.slice none 0 0) w w') : Wx B m (.slice a n c) w w' := OnlyIn.mono h fun k _ hk => by
  rcases hk with hk | hk | hk
  · exact .inl hk
  · exact .inr (.inl hk)
  · cases hk
section
variable {B : Nat} {w : World} {x b z : Nat} {S : WS}
theorem wdo_add (h : WI B w x S b z) (y : LH) (bs : List Nat) (hI : IsL w y bs) (hbz : b + 1 ≤ 40 ∧ z + y.b.n + 10 ≤ 21000) (hd : y.d = 4) :
    Calls Tryz.prog 10 #[.pointer (some ⟨x, 0, none⟩), actv y] w (DoR B w x b z y) := by
  have hn := h.n'
  cases hm : Vl.may (S.segs ++ [y.n]) with
  | true =>
    obtain ⟨D', hs1, hs2, _⟩ := h.ac.sync h.vd.ok
    obtain ⟨hs3, hs4⟩ := hs2.add y.n hm
    refine wdo_add4 h y bs hI hbz 0 (S.n + 1) (S.segs ++ [y.n]) (S.vals ++ [[]]) (fun W hW => ?_) (fun W hL hD => ?_) hd
    · refine (vrefadd_any (h.keep hW).rl (h.keep hW).B' (by omega) y.n hm).mono ?_
      rintro e w' ⟨A, C, V, VC, rfl, hR, hb, hA⟩
      exact ⟨A, C, V, VC, rfl, hR, hb, (fun k o e _ hk => by
        have h1 := hA k o e
        have h2 := own_hi h.lg.own hk
        have := hW.size
        omega : ∀ k o, A = some ⟨k, o, none⟩ → 0 < S.n + 1 → (Value.slice S.a S.n S.c).ownBlock ≠ some k)⟩
    · have hme : Vl.mend (Vl.synced S.D S.segs).1 y.n = (D', 0) := by rw [hs1]; exact Vl.mend_none hs4
      refine (vadd_any hL hD y.n hm (by rw [hs1]) D' hme (by rw [hs1, hs4]; simp) (by rw [hs1]; exact hs2.live.dead)).mono ?_
      rintro e w' ⟨A, C, rfl, hL2, ho, hD2, hW2⟩
      exact ⟨rfl, A, C, D', hL2, hD2, hs3.mono (Nat.le_succ b) (by omega), hW2.wide, fun k hk => .inr (own_low' ho hk)⟩
  | false =>
    refine wdo_add4 h y bs hI hbz 1 S.n S.segs S.vals (fun W hW => ?_) (fun W hL hD => ?_) hd
    · refine (vrefadd_bad (h.keep hW).rl (by omega) y.n hm).mono ?_
      rintro e w' ⟨rfl, hb⟩
      exact ⟨S.sa, S.sc, S.va, S.vc, rfl, (h.keep hW).rl.keep (h.keep hW).B' hb, hb, (h.apart : Hid _)⟩
    · refine (vadd_bad hL y.n hm).mono ?_
      rintro e w' ⟨rfl, hb⟩
      exact ⟨rfl, S.a, S.c, S.D, hL.keep hb, hD.keep hb, h.ac.mono (Nat.le_succ b) (by omega), (Wk.of_below hb).x, fun k hk => .inl hk⟩
theorem wdo_drop (h : WI B w x S b z) (y : LH) (bs : List Nat) (hI : IsL w y bs) (hbz : b + 1 ≤ 40 ∧ z + y.b.n + 10 ≤ 21000) (hd : y.d = 5) :
    Calls Tryz.prog 10 #[.pointer (some ⟨x, 0, none⟩), actv y] w (DoR B w x b z y) := by
  have hn := h.n'
  have hbb := h.bb
  obtain ⟨R, hR⟩ := Vl.at_ex S.segs y.n
  have hbad : ∀ W (_ : Below w.heap.size w W) (E : Int) (_ : E = if R < 0 then 3 else 1) (_ : R < 0 ∨ R = IntKind.i64.wrap ((S.n : Int) - 1)), Calls Tryz.prog 32 #[.agg #[.slice S.sa S.n S.sc, .slice S.va S.n S.vc], .int .i64 y.n] W fun e w' => ∃ A C V VC, e = .returned (.tuple #[.agg #[.slice A S.n C, .slice V S.n VC], .int .i64 E]) ∧ RL B w' A S.n C V VC S.segs S.vals ∧ Below W.heap.size W w' ∧ Hid (∀ k o, A = some ⟨k, o, none⟩ → 0 < S.n → (Value.slice S.a S.n S.c).ownBlock ≠ some k) := fun W hW E hE hl => by
    refine (vrefdrop_bad (h.keep hW).rl (by omega) y.n R hR E hE hl).mono ?_
    rintro e w' ⟨rfl, hb⟩
    exact ⟨S.sa, S.sc, S.va, S.vc, rfl, (h.keep hW).rl.keep (h.keep hW).B' hb, hb, (h.apart : Hid _)⟩
  have hR' := hR
  rcases hR with ⟨hR1, hR2⟩ | ⟨i, hi, hR1, hi2, hi3⟩
  · have hc : S.segs.contains y.n = false := by
      cases hc : S.segs.contains y.n with
      | false => rfl
      | true =>
        obtain ⟨j, hj, e⟩ := List.getElem_of_mem (show y.n ∈ S.segs by simpa using hc)
        exact absurd (by simp [hj, e]) (hR2 j hj)
    refine wdo_drop5 h y bs hI hbz 3 S.n S.segs S.vals (fun W hW => hbad W hW 3 (by rw [hR1]; rfl) (.inl (by omega))) (fun W hL hD => ?_) hd
    refine (vdrop_none hL y.n hc).mono ?_
    rintro e w' ⟨rfl, rfl⟩
    exact ⟨rfl, S.a, S.c, S.D, hL, hD, h.ac.mono (Nat.le_succ b) (by omega), (Wk.refl _ _).x, fun k hk => .inl hk⟩
  · have hmem : y.n ∈ S.segs := by rw [← hi2]; exact Vl.getD_mem' 0 hi
    have hc : S.segs.contains y.n = true := List.contains_iff_mem.2 hmem
    have hm := h.lg.may
    by_cases hl : i = S.n - 1
    · have hl2 : y.n = Vl.last S.segs := by rw [← hi2, hl, ← hn.1]; rfl
      refine wdo_drop5 h y bs hI hbz 1 S.n S.segs S.vals (fun W hW => hbad W hW 1 (by rw [hR1, if_neg (by omega)]) (.inr (by rw [hR1, IntKind.wrap_i64]; omega))) (fun W hL hD => ?_) hd
      refine (vdrop_last hL y.n hc hl2).mono ?_
      rintro e w' ⟨rfl, hb⟩
      exact ⟨rfl, S.a, S.c, S.D, hL.keep hb, hD.keep hb, h.ac.mono (Nat.le_succ b) (by omega), (Wk.of_below hb).x, fun k hk => .inl hk⟩
    · have hl2 : S.segs.getD i 0 ≠ Vl.last S.segs := fun e => hl (by
        have h1 : S.segs.length - 1 < S.segs.length := by omega
        have := Vl.may_inj hm hi h1 (by rw [e]; rfl)
        omega)
      obtain ⟨D', hs1, hs2⟩ := h.ac.drop h.vd.ok hm i hi hl2
      refine wdo_drop5 h y bs hI hbz 0 (S.n - 1) (S.segs.take i ++ S.segs.drop (i + 1)) (S.vals.take i ++ S.vals.drop (i + 1)) (fun W hW => ?_) (fun W hL hD => ?_) hd
      · refine (vrefdrop_any (i := i) (k := S.n - 1) (r := S.n - 1 - i) (by omega) (by omega) (by omega) (h.keep hW).rl (h.keep hW).B' (by omega) y.n hi2 hi3).mono ?_
        rintro e w' ⟨A, C, V, VC, rfl, hR, hb, hA⟩
        exact ⟨A, C, V, VC, rfl, hR, hb, (fun k o e _ hk => by
          have h1 := hA k o e
          have h2 := own_hi h.lg.own hk
          have := hW.size
          omega : ∀ k o, A = some ⟨k, o, none⟩ → 0 < S.n - 1 → (Value.slice S.a S.n S.c).ownBlock ≠ some k)⟩
      · refine (vdrop_any hL hD h.ac.few (by omega) y.n i hi hi2 (by rw [← hi2]; exact hl2) (D', 0) (by rw [← hi2]; exact hs1.symm) rfl).mono ?_
        rintro e w' ⟨rfl, hL2, hD2, hW2⟩
        exact ⟨rfl, S.a, S.c, D', hL2, hD2, hs2.mono (Nat.le_refl _) (by omega), hW2, fun k hk => .inl (by generalize S.a = a at hk ⊢; cases a <;> exact hk)⟩
end
end Go.Proofs.YtnoknmnbfkdccaaGreatDoor

/- What is done in the law's world: opened again. -/
namespace Go.Proofs.YtnoknmnbfkdccaaGreatDoor
open Go.RowKit Go.Shelf

section
variable {B : Nat} {w : World} {x b z : Nat} {S : WS}
/-- another log on the same disk -/
theorem wi_open {w2 : World} {m2 c2 Z : Nat} {A2 : Option Addr} (h : WI B w x S b z) (hW : Wk B w w2) (hL : LgAt Z w2 m2 S.p A2 S.n c2 S.segs) (hZ : w.heap.size ≤ Z) (hD : VD B w2 S.p S.D) :
    ∃ S', WI B (w2.setCell ⟨x, 1, none⟩ (.pointer (some ⟨m2, 0, none⟩))) x S' b z := by
  have hx := hW.blk h.blk (by decide) (by decide) (by decide) (by decide)
  have hR := h.rl.wy (P := fun _ => False) (Wy.of_wk h.B' hW) (fun _ _ _ _ => id)
  have ht := hW.own h.told (by decide) (by decide) (by decide) (by decide)
  have hx2 := Go.Joins.block_setCell hx (.pointer (some ⟨m2, 0, none⟩)) (i := 1)
  refine ⟨{ S with m := m2, a := A2, c := c2 }, hx2, h.le, lg_box (hL.lower (Nat.le_trans h.B' hZ)) hx 1 _, vd_box hD hx h.le 1 _, rl_box hR hx h.le 1 _, own_box ht hx (by decide) 1 _, h.fits, fun k o e hn hk => ?_, h.ac, h.bb, h.cnt⟩
  obtain ⟨k', o', e', hlt, _⟩ := h.rl.sp hn
  simp only at e
  rw [e] at e'
  simp only [Option.some.injEq, Addr.mk.injEq, and_true] at e'
  have := own_low' hL.own hk
  omega
set_option maxRecDepth 100000 in
set_option maxHeartbeats 2000000 in
theorem wdo_open (h : WI B w x S b z) (y : LH) (bs : List Nat) (hI : IsL w y bs) (hbz : b + 1 ≤ 40 ∧ z + y.b.n + 10 ≤ 21000) (hd : y.d = 6) :
    Calls Tryz.prog 10 #[.pointer (some ⟨x, 0, none⟩), actv y] w (DoR B w x b z y) := by
  obtain ⟨W0, hW0⟩ : ∃ W0, W0 = w.alloc (acto y) := ⟨_, rfl⟩
  obtain ⟨z0, B0, ha⟩ := act_w0 hW0
  have HA : Hid (∀ W, Below W0.heap.size W0 W → W.heap[w.heap.size]? = some (.cells #[.int .i64 y.d, .int .i64 y.n, .slice y.b.a y.b.n y.b.c, .int .i64 y.q.1, .int .i64 y.q.2.1, .int .i64 y.q.2.2.1, .int .u32 (y.q.2.2.2 : Nat)] 44 (0, 0))) := ha
  have HR : Hid (∀ W, Below w.heap.size w W → DoR B w x b z y (.returned (.bool true)) W) := (fun W hW => DoR.same h hbz hW : ∀ W, Below w.heap.size w W → _)
  have HW : Hid (WI B w x S b z) := h
  have HI : Hid (IsL w y bs) := hI
  have hblk : Hid (∀ W, Below w.heap.size w W → W.heap[x]? = some (.cells #[.pointer (some ⟨S.p, 0, none⟩), .pointer (some ⟨S.m, 0, none⟩), .slice S.sa S.n S.sc, .slice S.va S.n S.vc, .slice S.ta S.tn S.tc] 37 (0, 0))) := (fun W hW => (h.keep hW).blk : ∀ W, Below w.heap.size w W → _)
  have bW : Hid (∀ W, Below W0.heap.size W0 W → Below w.heap.size w W) := (fun W hW => B0.trans (hW.mono B0.size) : ∀ W, Below W0.heap.size W0 W → _)
  obtain ⟨k0, k1, k2, k3, k4, k5, k6⟩ := act_cells (ha W0 (Below.refl _ _))
  obtain ⟨x0, x1, x2, x3, x4, xf⟩ := world_cells (hblk.out W0 B0)
  have hE0 : Hid (W0 = w.alloc (acto y)) := hW0
  have hn := h.n'
  have hs := fun W (hW : Below w.heap.size w W) => vsegs_any (h.keep hW).lg
  have hmd := h.ac.mend
  have ho := fun W A C (hW : Below w.heap.size w W) (hr : ZRow W A S.n S.segs) => vopen_any (c := C) (h.keep hW).vd hr h.lg.may (h.bylen _) h.ac.live.dead (by rw [hmd])
  rw [hmd] at ho
  unfold ZRes at hs
  rw [hn.1] at hs
  have HF : Hid (∀ W W2 m2 A2 c2, Below w.heap.size w W → Wk B W W2 → LgAt W.heap.size W2 m2 S.p A2 S.n c2 S.segs → VD B W2 S.p S.D → DoR B w x b z y (.returned (.bool true)) (W2.setCell ⟨x, 1, none⟩ (.pointer (some ⟨m2, 0, none⟩)))) := (fun W W2 m2 A2 c2 hW hk hL hD => by
    have hk2 : Wk B w W2 := (Wk.of_below hW).trans hk
    obtain ⟨S', hS'⟩ := wi_open h hk2 hL hW.size hD
    exact ⟨rfl, (hk2.below h.B').setCell (p := ⟨x, 1, none⟩) h.le _, S', hS'.more (Nat.le_succ b) (by omega) hbz⟩ : ∀ W W2 m2 A2 c2, Below w.heap.size w W → _)
  have hnl : Hid (S.n ≤ 64) := hn.2
  have HX : Hid (∀ W W2, Below w.heap.size w W → Wk B W W2 → W2.heap[x]? = some (.cells #[.pointer (some ⟨S.p, 0, none⟩), .pointer (some ⟨S.m, 0, none⟩), .slice S.sa S.n S.sc, .slice S.va S.n S.vc, .slice S.ta S.tn S.tc] 37 (0, 0))) := (fun W W2 hW hk => hk.blk (h.keep hW).blk (by decide) (by decide) (by decide) (by decide) : ∀ W W2, Below w.heap.size w W → _)
  obtain ⟨p, m, a, n, c, sa, sc, va, vc, ta, tn, tc, segs, vals, told, D⟩ := S
  obtain ⟨d, yn, ⟨ba, bn, bc⟩, ⟨q0, q1, q2, q3⟩⟩ := y
  simp only [acto] at hW0 hE0 k0 k1 k2 k3 k4 k5 k6 x0 x1 x2 x3 x4 hd HA hblk ⊢
  simp only [actv]
  rw [hW0] at k0 k1 k2 k3 k4 k5 k6 x0 x1 x2 x3 x4
  subst hd
  simp only at hs ho HF hnl HX
  clear hmd hn z0
  clear h hI ha hW0 hbz
  go_enter Tryz.func10, Tryz.ntmps10
  go_upto_region 24 with fail
  rw [← hE0.out]
  rw [← hE0.out] at k0 k1 k2 k3 k4 k5 k6 x0 x1 x2 x3 x4
  clear k0 k1 k2 k3 k4 k5 k6 x2 x3 x4 xf
  go_region_held3 (fun W => W.cell? ⟨x, 0, none⟩ = some (.pointer (some ⟨p, 0, none⟩)) ∧ W.cell? ⟨x, 1, none⟩ = some (.pointer (some ⟨m, 0, none⟩))) (first | go_keep | (refine ⟨?_, ?_⟩ <;> assumption))
    (first
      | (go_at_call 12; (with_reducible refine vworld W0.drew ?_); refine (hs W0.drew (bW.out _ vd1)).mono ?_; rintro e w1 ⟨A1, C1, rfl, ho1, hb1'⟩; have hb1 : Below W0.heap.size W0 w1 := below_of_drew hb1'; obtain ⟨y0, y1, y2, y3, y4, _⟩ := world_cells (hblk.out w1 (bW.out _ hb1)))
      | (go_at_call 19; (with_reducible refine vworld w1 ?_); refine (ho w1 A1 C1 (bW.out _ hb1) (trow_of_owns zeE ho1 (by omega) (by have := hnl.out; omega))).mono ?_; rintro e w2 ⟨m2, A2, C2, rfl, hL2, hD2, hW2⟩; obtain ⟨v0, v1, v2, v3, v4, vf⟩ := world_cells (HX.out w1 w2 (bW.out _ hb1) hW2)))
  have vf1 := vf 1
  go_wp2_with fail
  go_ret
  exact HF.out w1 w2 m2 A2 C2 (bW.out _ hb1) hW2 hL2 hD2
end
end Go.Proofs.YtnoknmnbfkdccaaGreatDoor
