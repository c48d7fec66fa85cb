/- A value is put and got (layer 20's awake); a log that Open did not give; the law of nobody's log. -/
import Derived.Test.YtnoknmnbfkdccaaGreatDoorVLf
namespace Go.Proofs.YtnoknmnbfkdccaaGreatDoor
open Go.RowKit Go.Shelf

theorem Vl.mend_none {D : Dk.D} {s : Int} (h : Vl.by' D (vname s) = []) : Vl.mend D s = (D, 0) := by
  have : Vl.right D s = 0 := by
    unfold Vl.right
    split
    · have := Sg.walk_le (Vl.by' D (vname s)); rw [h] at this ⊢; simpa using this
    · rfl
  unfold Vl.mend
  rw [this, h]; rfl
theorem Sg.value78 : Sg.value (Sg.put [[7, 8]]) (Sg.pt 1 0 [7, 8]) = ([7, 8], 0) := by decide +kernel
theorem Sg.pt78 : Po.Fits (Sg.pt 1 0 [7, 8]) ∧ Po.may (Sg.pt 1 0 [7, 8]) = true ∧ (Sg.pt 1 0 [7, 8]).1 = 1 := by
  refine ⟨⟨by decide +kernel, by decide +kernel, by decide +kernel, by decide +kernel⟩, by decide +kernel, rfl⟩
theorem Sg.put78 : (Sg.put [[7, 8]]).length = 8 := by decide +kernel
theorem vmay1 : Vl.may [1] = true := by decide

set_option maxRecDepth 100000 in
set_option maxHeartbeats 2000000 in
theorem vawake_any (w : World) (hT : Tab w) : Calls Tryz.prog 7 #[] w fun e w' => e = .returned (.bool true) ∧ Below w.heap.size w w' := by
  have hnew := vd_new 1000 w (by decide) (TB.of hT) (Nat.le_refl _)
  have hO : ∀ {W : World} {p : Nat} {D : Dk.D}, VD w.heap.size W p D → Dk.Ok D := fun h => h.ok
  obtain ⟨hL0, hb0⟩ := Vl.new 1000
  have hopen : ∀ (W : World) (p : Nat) (_ : VD w.heap.size W p (Dk.new 1000)), Calls Tryz.prog 19 #[.pointer (some ⟨p, 0, none⟩), .slice (some ⟨W.heap.size, 0, none⟩) 1 1] (W.alloc (.cells #[.int .i64 1] 3)) fun e w' => ∃ m A C, e = .returned (.tuple #[.pointer (some ⟨m, 0, none⟩), .int .i64 0]) ∧ LgAt w.heap.size w' m p A 1 C [1] ∧ VD w.heap.size w' p (Dk.new 1000) ∧ Wk w.heap.size W w' := fun W p hD => by
    have hmn : Vl.mend (Dk.new 1000) (Vl.last [1]) = (Dk.new 1000, 0) := Vl.mend_none (by unfold Vl.by'; rw [hb0]; rfl)
    have hD1 := hD.keep (below_alloc W (.cells #[.int .i64 1] 3))
    have := vopen_any (c := 1) hD1 (lit_z W 1 rfl) vmay1 (by unfold Vl.by'; rw [hb0]; simp) rfl (by rw [hmn])
    rw [hmn] at this
    refine this.mono ?_
    rintro e w' ⟨m, A, C, rfl, h1, h2, h3⟩
    exact ⟨m, A, C, rfl, h1.lower hD1.le, h2, (Wk.of_below (below_alloc W _)).trans h3⟩
  obtain ⟨D', hap, hLv, hbs, _, _⟩ := Vl.append (D := Dk.new 1000) ⟨by decide, by decide, by decide, by decide, by decide, by decide, by decide, by decide, by decide, by decide, by decide, by decide, by decide, by decide⟩ hL0 (vname 1) (Sg.put [[7, 8]]) (vname_is (by decide)) (by decide) (by rw [Sg.put78]; decide)
  have hb1 : Vl.by' D' (vname 1) = Sg.put [[7, 8]] := by unfold Vl.by'; rw [hbs, if_pos rfl]; simp [Vl.by', hb0]
  have hput : ∀ (W : World) (m p : Nat) (A : Option Addr) (C : Nat) (_ : LgAt w.heap.size W m p A 1 C [1]) (_ : VD w.heap.size W p (Dk.new 1000)), Calls Tryz.prog 14 #[.pointer (some ⟨m, 0, none⟩), .slice (some ⟨W.heap.size, 0, none⟩) 2 2] (W.alloc (.cells #[.int .u8 7, .int .u8 8] 5)) fun e w' => e = .returned (.tuple #[pv (Sg.pt 1 0 [7, 8]), .int .i64 0]) ∧ LgAt w.heap.size w' m p A 1 C [1] ∧ VD w.heap.size w' p D' ∧ Wk w.heap.size W w' := fun W m p A C hL hD => by
    have hba := below_alloc W (.cells #[.int .u8 7, .int .u8 8] 5)
    have hrow : Row .u8 (W.alloc (.cells #[.int .u8 7, .int .u8 8] 5)) (some ⟨W.heap.size, 0, none⟩) 2 [7, 8] := row_lit .u8 W 5 _ [7, 8] 2 rfl rfl (by intro x hx; simp at hx; show x < 256; omega) (by omega)
    refine (vput_any (b := 100) (hL.keep hba) (hD.keep hba) (by simp) ⟨some ⟨W.heap.size, 0, none⟩, 2, 2⟩ [7, 8] ⟨hrow, (fun h => by cases h), Nat.le_refl _, .inr ⟨_, _, rfl, Nat.le_refl _⟩⟩ (by show 2 ≤ 4096; omega) ⟨by decide, by decide, by decide⟩ (by decide) (by unfold Vl.by'; rw [hb0]; simp) (D', 0) hap.symm (Sg.pt 1 0 [7, 8]) (by rw [if_pos rfl]; unfold Vl.by'; rw [hb0]; rfl)).mono ?_
    rintro e w' ⟨rfl, h1, h2⟩
    exact ⟨rfl, (hL.keep hba).wk h2, h1, (Wk.of_below hba).trans h2⟩
  have hget : ∀ (W : World) (m p : Nat) (A : Option Addr) (C : Nat) (_ : LgAt w.heap.size W m p A 1 C [1]) (_ : VD w.heap.size W p D'), Calls Tryz.prog 20 #[.pointer (some ⟨m, 0, none⟩), pv (Sg.pt 1 0 [7, 8])] W fun e w' => ∃ a c, e = .returned (.tuple #[.slice a 2 c, .int .i64 0]) ∧ w'.ownsRow W.heap.size 5 1 (.slice a 2 c) 2 (kcells .u8 [7, 8]) ∧ Below W.heap.size W w' := fun W m p A C hL hD => by
    have := vget_any hL hD (Sg.pt 1 0 [7, 8]) Sg.pt78.1 hLv.dead (by rw [Sg.pt78.2.2, hb1, Sg.put78]; decide)
    have hv : Vl.get D' [1] (Sg.pt 1 0 [7, 8]) = ([7, 8], 0) := by
      unfold Vl.get
      rw [if_pos Sg.pt78.2.1, Sg.pt78.2.2, if_pos (by decide), hb1, Sg.value78]
    rw [hv] at this
    exact this
  have hpt1 : (Sg.pt 1 0 [7, 8]).1 = 1 := Sg.pt78.2.2
  clear hap hLv hbs hb1 hL0 hb0
  generalize Sg.pt 1 0 [7, 8] = P at *
  obtain ⟨P0, P1, P2, P3⟩ := P
  simp only at hpt1
  subst hpt1
  simp only [pv] at hput hget
  have hlow : Hid (∀ W, Wk w.heap.size w W → Below w.heap.size w W) := (fun W h => h.below (Nat.le_refl _) : ∀ W, Wk w.heap.size w W → Below w.heap.size w W)
  go_enter Tryz.func7, Tryz.ntmps7
  go_wp2_with (first
    | (go_at_call 26; go_must (refine hnew.mono ?_; rintro e w1 ⟨p, rfl, hD1, hb1⟩))
    | (go_at_call 19; go_must (refine (hopen _ p hD1).mono ?_; rintro e w2 ⟨m, A, C, rfl, hL2, hD2, hW2⟩))
    | (go_at_call 14; go_must (refine (hput _ m p A C hL2 hD2).mono ?_; rintro e w3 ⟨rfl, hL3, hD3, hW3⟩; have hba := below_alloc w3 (.cells #[.int .i64 1, .int .i64 P1, .int .i64 P2, .int .u32 (P3 : Nat)] 42); have hq3 := heap_alloc_new w3 (.cells #[.int .i64 1, .int .i64 P1, .int .i64 P2, .int .u32 (P3 : Nat)] 42)))
    | (go_at_call 20; go_must (refine (hget _ m p A C (hL3.keep hba) (hD3.keep hba)).mono ?_; rintro e w4 ⟨a4, c4, rfl, ho4, hb4⟩; obtain ⟨r0, _⟩ := pbox_cells (q := ((1 : Int), P1, P2, P3)) ((hb4.block _ (by simp)).trans hq3); simp only at r0; have hrow4 := (row_of_owns ho4 (by intro x hx; simp at hx; show x < 256; omega) (by omega)).1))
    | (go_at_call 21; go_must (refine (bytes_any _ _ _ [7, 8] _ _ _ [7, 8] _ (hrow4.below (below_alloc _ _) (Nat.le_refl _)) (row_lit .u8 w4 5 _ [7, 8] 2 rfl rfl (by intro x hx; simp at hx; show x < 256; omega) (by omega))).mono ?_; rintro e w5 ⟨rfl, q5, rfl⟩)))
  go_ret
  have hW := ((((Wk.of_below hb1).trans hW2).trans hW3).trans (Wk.of_below hba)).trans (Wk.of_below hb4)
  exact ⟨rfl, bdr (bal (hlow.out _ hW) _) _⟩

/-! nobody's log -/
section
variable {w : World} {g : Value}
theorem vget_no (q : Po.P) (hm : ∀ W, Below w.heap.size w W → Calls Tryz.prog 33 #[g] W fun e w' => e = .returned (.bool false) ∧ w' = W) :
    Calls Tryz.prog 20 #[g, pv q] w fun e w' => e = .returned (.tuple #[.slice none 0 0, .int .i64 11]) ∧ Below w.heap.size w w' := by
  obtain ⟨s, y, l, mm⟩ := q
  have b0 := below_alloc w (.cells #[.int .i64 s, .int .i64 y, .int .i64 l, .int .u32 (mm : Nat)] 42)
  go_enter Tryz.func20, Tryz.ntmps20
  go_wp2_with (go_at_call 33; go_must (refine (hm _ b0).mono ?_; rintro e w1 ⟨rfl, hw⟩; rw [hw]; clear hw w1))
  go_ret2
  exact ⟨rfl, b0⟩
theorem vwalk_no (z : Int) (hm : ∀ W, Below w.heap.size w W → Calls Tryz.prog 33 #[g] W fun e w' => e = .returned (.bool false) ∧ w' = W) :
    Calls Tryz.prog 22 #[g, .int .i64 z] w fun e w' => e = .returned (.tuple #[.slice none 0 0, .int .i64 11]) ∧ w' = w := by
  have h := hm _ (Below.refl _ w)
  go_enter Tryz.func22, Tryz.ntmps22
  go_wp2_with (go_at_call 33; go_must (refine h.mono ?_; rintro e w1 ⟨rfl, hw⟩; subst hw))
  go_ret2
  exact ⟨rfl, rfl⟩
theorem vsync_no (hm : ∀ W, Below w.heap.size w W → Calls Tryz.prog 33 #[g] W fun e w' => e = .returned (.bool false) ∧ w' = W) :
    Calls Tryz.prog 15 #[g] w fun e w' => e = .returned (.int .i64 11) ∧ w' = w := by
  have h := hm _ (Below.refl _ w)
  go_enter Tryz.func15, Tryz.ntmps15
  go_wp2_with (go_at_call 33; go_must (refine h.mono ?_; rintro e w1 ⟨rfl, hw⟩; subst hw))
  go_ret
  exact ⟨rfl, rfl⟩
theorem vadd_no (z : Int) (hm : ∀ W, Below w.heap.size w W → Calls Tryz.prog 33 #[g] W fun e w' => e = .returned (.bool false) ∧ w' = W) :
    Calls Tryz.prog 23 #[g, .int .i64 z] w fun e w' => e = .returned (.int .i64 11) ∧ w' = w := by
  have h := hm _ (Below.refl _ w)
  go_enter Tryz.func23, Tryz.ntmps23
  go_wp2_with (go_at_call 33; go_must (refine h.mono ?_; rintro e w1 ⟨rfl, hw⟩; subst hw))
  go_ret
  exact ⟨rfl, rfl⟩
theorem vdrop_no (z : Int) (hm : ∀ W, Below w.heap.size w W → Calls Tryz.prog 33 #[g] W fun e w' => e = .returned (.bool false) ∧ w' = W) :
    Calls Tryz.prog 24 #[g, .int .i64 z] w fun e w' => e = .returned (.int .i64 11) ∧ w' = w := by
  have h := hm _ (Below.refl _ w)
  go_enter Tryz.func24, Tryz.ntmps24
  go_wp2_with (go_at_call 33; go_must (refine h.mono ?_; rintro e w1 ⟨rfl, hw⟩; subst hw))
  go_ret
  exact ⟨rfl, rfl⟩
theorem vsegs_no (hm : ∀ W, Below w.heap.size w W → Calls Tryz.prog 33 #[g] W fun e w' => e = .returned (.bool false) ∧ w' = W) :
    Calls Tryz.prog 12 #[g] w fun e w' => e = .returned (.slice none 0 0) ∧ w' = w := by
  have h := hm _ (Below.refl _ w)
  go_enter Tryz.func12, Tryz.ntmps12
  go_wp2_with (go_at_call 33; go_must (refine h.mono ?_; rintro e w1 ⟨rfl, hw⟩; subst hw))
  go_ret
  exact ⟨rfl, rfl⟩
end
end Go.Proofs.YtnoknmnbfkdccaaGreatDoor

/- The law of nobody's log. -/
namespace Go.Proofs.YtnoknmnbfkdccaaGreatDoor
open Go.RowKit Go.Shelf

theorem vput_no2 {w : World} {g : Value} (hm : ∀ W, Below w.heap.size w W → Calls Tryz.prog 33 #[g] W fun e w' => e = .returned (.bool false) ∧ w' = W) :
    Calls Tryz.prog 14 #[g, .slice none 0 0] w fun e w' => e = .returned (.tuple #[.agg #[.int .i64 0, .int .i64 0, .int .i64 0, .int .u32 0], .int .i64 11]) ∧ Below w.heap.size w w' := vput_no none 0 0 hm
set_option maxRecDepth 100000 in
set_option maxHeartbeats 2000000 in
theorem vnobody_any (q : Po.P) (z : Int) (w : World) (hT : Tab w) : Calls Tryz.prog 5 #[pv q, .int .i64 z] w fun e w' => e = .returned (.bool true) ∧ Below w.heap.size w w' := by
  obtain ⟨s, y, l, mm⟩ := q
  have b0 := below_alloc w (.cells #[.int .i64 s, .int .i64 y, .int .i64 l, .int .u32 (mm : Nat)] 42)
  have hq0 := heap_alloc_new w (.cells #[.int .i64 s, .int .i64 y, .int .i64 l, .int .u32 (mm : Nat)] 42)
  generalize hW0 : w.alloc (.cells #[.int .i64 s, .int .i64 y, .int .i64 l, .int .u32 (mm : Nat)] 42) = W0 at *
  have hQ : Hid (∀ W, Below W0.heap.size W0 W → W.cell? ⟨w.heap.size, 0, none⟩ = some (.int .i64 s) ∧ W.cell? ⟨w.heap.size, 1, none⟩ = some (.int .i64 y) ∧ W.cell? ⟨w.heap.size, 2, none⟩ = some (.int .i64 l) ∧ W.cell? ⟨w.heap.size, 3, none⟩ = some (.int .u32 (mm : Nat)) ∧ ∀ i, W.frozen? ⟨w.heap.size, i, none⟩ = false) := (fun W hb => pbox_cells (q := (s, y, l, mm)) ((hb.block _ (heap_lt hq0)).trans hq0) : ∀ W, Below W0.heap.size W0 W → W.cell? ⟨w.heap.size, 0, none⟩ = some (.int .i64 s) ∧ W.cell? ⟨w.heap.size, 1, none⟩ = some (.int .i64 y) ∧ W.cell? ⟨w.heap.size, 2, none⟩ = some (.int .i64 l) ∧ W.cell? ⟨w.heap.size, 3, none⟩ = some (.int .u32 (mm : Nat)) ∧ ∀ i, W.frozen? ⟨w.heap.size, i, none⟩ = false)
  have hT0 : Hid (TB w.heap.size W0) := ((TB.of hT).keep b0 : TB w.heap.size W0)
  go_enter Tryz.func5, Tryz.ntmps5
  go_wp2
  clear hW0 hT hq0
  go_loopw [5] (fun k wr => ∃ j : Nat, j ≤ 2 ∧ k = .int .i64 j ∧ Below W0.heap.size W0 wr) (fun k _ => 2 - (RowKit.intOf k).toNat)
  case atStart => exact ⟨0, by omega, rfl, Below.refl _ _⟩
  case round =>
    obtain ⟨j, hj, rfl, hbel⟩ := hrel
    have hj2 : j = 0 ∨ j = 1 ∨ j = 2 := by omega
    rcases hj2 with rfl | rfl | rfl
    · have hm0 : ∀ W, Below wr.heap.size wr W → ∀ W', Below W.heap.size W W' → Calls Tryz.prog 33 #[.pointer none] W' fun e w' => e = .returned (.bool false) ∧ w' = W' := fun W _ W' _ => vmade_nil W'
      go_wp2_with (first
        | (go_at_call 14; go_must (refine (vput_no2 (hm0 _ (Below.refl wr.heap.size wr))).mono ?_; rintro e w2 ⟨rfl, hb2⟩; have hbw2 := (Below.refl wr.heap.size wr).trans (hb2.mono (Below.refl wr.heap.size wr).size); have hbw2a := hbw2.alloc hbw2.size (.cells #[.int .i64 0, .int .i64 0, .int .i64 0, .int .u32 0] 42); obtain ⟨r0, r1, r2, r3, rf⟩ := hQ.out _ (hbel.trans (hbw2a.mono hbel.size))))
        | (go_at_call 20; go_must (refine (vget_no (s, y, l, mm) (hm0 _ hbw2a)).mono ?_; rintro e w3 ⟨rfl, hb3⟩; have hbw3 := hbw2a.trans (hb3.mono hbw2a.size)))
        | (go_at_call 22; go_must (refine (vwalk_no z (hm0 _ hbw3)).mono ?_; rintro e w4 ⟨rfl, hw⟩; rw [hw]; clear hw w4))
        | (go_at_call 15; go_must (refine (vsync_no (hm0 _ hbw3)).mono ?_; rintro e w4 ⟨rfl, hw⟩; rw [hw]; clear hw w4))
        | (go_at_call 23; go_must (refine (vadd_no z (hm0 _ hbw3)).mono ?_; rintro e w4 ⟨rfl, hw⟩; rw [hw]; clear hw w4))
        | (go_at_call 24; go_must (refine (vdrop_no z (hm0 _ hbw3)).mono ?_; rintro e w4 ⟨rfl, hw⟩; rw [hw]; clear hw w4))
        | (go_at_call 12; go_must (refine (vsegs_no (hm0 _ hbw3)).mono ?_; rintro e w4 ⟨rfl, hw⟩; rw [hw]; clear hw w4))
        | (go_at_call 25; go_must (refine (vsize_no z (hm0 _ hbw3 _ (Below.refl _ _))).mono ?_; rintro e w4 ⟨rfl, hw⟩; rw [hw]; clear hw w4)))
      go_roundw
      case rel => exact ⟨1, by omega, by first | rfl | go_num, hbel.trans (hbw3.mono hbel.size)⟩
      case measure => simp [RowKit.intOf]
    · have hA := below_alloc wr (.cells #[.pointer none, .slice none 0 0] 67)
      have hB0 := heap_alloc_new wr (.cells #[.pointer none, .slice none 0 0] 67)
      have hm0 : ∀ W, Below (wr.alloc (.cells #[.pointer none, .slice none 0 0] 67)).heap.size (wr.alloc (.cells #[.pointer none, .slice none 0 0] 67)) W → ∀ W', Below W.heap.size W W' → Calls Tryz.prog 33 #[.pointer (some ⟨wr.heap.size, 0, none⟩)] W' fun e w' => e = .returned (.bool false) ∧ w' = W' := fun W hb W' hb' => vmade_zero ((Go.Joins.cell_of_block (((hb.trans (hb'.mono hb.size)).block _ (heap_lt hB0)).trans hB0) _).trans rfl)
      have hbel := hbel.trans (hA.mono hbel.size)
      generalize hW1 : wr.alloc (.cells #[.pointer none, .slice none 0 0] 67) = W1 at *
      generalize hg1 : wr.heap.size = g1 at *
      go_wp2_with (first
        | (go_at_call 14; go_must (refine (vput_no2 (hm0 _ (Below.refl W1.heap.size W1))).mono ?_; rintro e w2 ⟨rfl, hb2⟩; have hbw2 := (Below.refl W1.heap.size W1).trans (hb2.mono (Below.refl W1.heap.size W1).size); have hbw2a := hbw2.alloc hbw2.size (.cells #[.int .i64 0, .int .i64 0, .int .i64 0, .int .u32 0] 42); obtain ⟨r0, r1, r2, r3, rf⟩ := hQ.out _ (hbel.trans (hbw2a.mono hbel.size))))
        | (go_at_call 20; go_must (refine (vget_no (s, y, l, mm) (hm0 _ hbw2a)).mono ?_; rintro e w3 ⟨rfl, hb3⟩; have hbw3 := hbw2a.trans (hb3.mono hbw2a.size)))
        | (go_at_call 22; go_must (refine (vwalk_no z (hm0 _ hbw3)).mono ?_; rintro e w4 ⟨rfl, hw⟩; rw [hw]; clear hw w4))
        | (go_at_call 15; go_must (refine (vsync_no (hm0 _ hbw3)).mono ?_; rintro e w4 ⟨rfl, hw⟩; rw [hw]; clear hw w4))
        | (go_at_call 23; go_must (refine (vadd_no z (hm0 _ hbw3)).mono ?_; rintro e w4 ⟨rfl, hw⟩; rw [hw]; clear hw w4))
        | (go_at_call 24; go_must (refine (vdrop_no z (hm0 _ hbw3)).mono ?_; rintro e w4 ⟨rfl, hw⟩; rw [hw]; clear hw w4))
        | (go_at_call 12; go_must (refine (vsegs_no (hm0 _ hbw3)).mono ?_; rintro e w4 ⟨rfl, hw⟩; rw [hw]; clear hw w4))
        | (go_at_call 25; go_must (refine (vsize_no z (hm0 _ hbw3 _ (Below.refl _ _))).mono ?_; rintro e w4 ⟨rfl, hw⟩; rw [hw]; clear hw w4)))
      go_roundw
      case rel => exact ⟨2, by omega, by first | rfl | go_num, hbel.trans (hbw3.mono hbel.size)⟩
      case measure => simp [RowKit.intOf]
    · have tk1 : Hid (0 = 0) := (rfl : 0 = 0)
      have tk2 : Hid (0 = 0) := (rfl : 0 = 0)
      have ho1 : ∀ (W : World) (g : Nat), W.heap.size = g → Calls Tryz.prog 19 #[.pointer (some ⟨g, 0, none⟩), .slice (some ⟨g + 1, 0, none⟩) 1 1] ((W.alloc (.cells #[.int .i64 0, .map none, .int .i64 0, .int .i64 0, .map none, .map none, .slice none 0 0, .int .i64 0, .int .i64 0, .bool false] 76)).alloc (.cells #[.int .i64 1] 3)) fun e w' => e = .returned (.tuple #[.pointer none, .int .i64 9]) ∧ w' = ((W.alloc (.cells #[.int .i64 0, .map none, .int .i64 0, .int .i64 0, .map none, .map none, .slice none 0 0, .int .i64 0, .int .i64 0, .bool false] 76)).alloc (.cells #[.int .i64 1] 3)) := fun W g hg => by
        subst hg
        exact vopen_zero (segs := [1]) ((Go.Joins.cell_of_block ((heap_alloc_old _ _ (by simp)).trans (heap_alloc_new W _)) _).trans rfl) (lit_z _ 1 (by simp)) (by omega) vmay1
      have ho2 : ∀ (W : World) (g : Nat), W.heap.size = g → Calls Tryz.prog 19 #[.pointer (some ⟨g, 0, none⟩), .slice none 0 0] (W.alloc (.cells #[.int .i64 0, .map none, .int .i64 0, .int .i64 0, .map none, .map none, .slice none 0 0, .int .i64 0, .int .i64 0, .bool false] 76)) fun e w' => e = .returned (.tuple #[.pointer none, .int .i64 9]) ∧ w' = (W.alloc (.cells #[.int .i64 0, .map none, .int .i64 0, .int .i64 0, .map none, .map none, .slice none 0 0, .int .i64 0, .int .i64 0, .bool false] 76)) := fun W g hg => by
        subst hg
        exact vopen_zero (segs := []) ((Go.Joins.cell_of_block (heap_alloc_new W _) _).trans rfl) (TRow.nil _ _) (by omega) (by decide)
      have hb := b0.trans (hbel.mono b0.size)
      have haw : ∀ W, Below wr.heap.size wr W → Calls Tryz.prog 7 #[] W fun e w' => e = .returned (.bool true) ∧ Below w.heap.size w w' := fun W h => by
        refine (vawake_any W ((hT0.out.keep (hbel.mono b0.size)).keep (h.mono hb.size)).tab).mono ?_
        rintro e w' ⟨rfl, h'⟩
        exact ⟨rfl, (hb.trans (h.mono hb.size)).trans (h'.mono (Nat.le_trans hb.size h.size))⟩
      go_wp2_with (first
        | (go_at_call 19; have := tk1; go_must (clear tk1 this; refine (vopen_nil _ _ _ _).mono ?_; rintro e w2 ⟨rfl, hw⟩; rw [hw]; clear hw w2))
        | (go_at_call 19; have := tk2; go_must (clear tk2 this; refine (ho1 _ _ (by simp)).mono ?_; rintro e w2 ⟨rfl, hw⟩; rw [hw]; clear hw w2))
        | (go_at_call 19; go_must (refine (ho2 _ _ (by simp)).mono ?_; rintro e w2 ⟨rfl, hw⟩; rw [hw]; clear hw w2))
        | (go_at_call 7; go_must (refine (haw _ (bal (bal (bal (bal (Below.refl _ wr) _) _) _) _)).mono ?_; rintro e w2 ⟨rfl, hb2⟩)))
      go_ret
      exact ⟨rfl, hb2⟩
end Go.Proofs.YtnoknmnbfkdccaaGreatDoor
