/- A value is put and got (layer 20's awake); a log that Open did not give; the law of nobody's log. -/
import Derived.Test.YtnoknmnbfkdccaaGreatDoorVLf
namespace Go.Proofs.YtnoknmnbfkdccaaGreatDoor
open Go.RowKit Go.Shelf

theorem Vl.mend_none {D : Dk.D} {s : Int} (h : Vl.by' D (vname s) = []) : Vl.mend D s = (D, 0) := by
  have : Vl.right D s = 0 := by
    unfold Vl.right
    split
    · have := Sg.walk_le (Vl.by' D (vname s)); rw [h] at this ⊢; simpa using this
    · rfl
  unfold Vl.mend
  rw [this, h]; rfl
theorem Sg.value78 : Sg.value (Sg.put [[7, 8]]) (Sg.pt 1 0 [7, 8]) = ([7, 8], 0) := by decide +kernel
theorem Sg.pt78 : Po.Fits (Sg.pt 1 0 [7, 8]) ∧ Po.may (Sg.pt 1 0 [7, 8]) = true ∧ (Sg.pt 1 0 [7, 8]).1 = 1 := by
  refine ⟨⟨by decide +kernel, by decide +kernel, by decide +kernel, by decide +kernel⟩, by decide +kernel, rfl⟩
theorem Sg.put78 : (Sg.put [[7, 8]]).length = 8 := by decide +kernel
theorem vmay1 : Vl.may [1] = true := by decide

set_option maxRecDepth 100000 in
set_option maxHeartbeats 2000000 in
theorem vawake_any (w : World) (hT : Tab w) : Calls Tryz.prog 7 #[] w fun e w' => e = .returned (.bool true) ∧ Below w.heap.size w w' := by
  have hnew := vd_new 1000 w (by decide) (TB.of hT) (Nat.le_refl _)
  have hO : ∀ {W : World} {p : Nat} {D : Dk.D}, VD w.heap.size W p D → Dk.Ok D := fun h => h.ok
  obtain ⟨hL0, hb0⟩ := Vl.new 1000
  have hopen : ∀ (W : World) (p : Nat) (_ : VD w.heap.size W p (Dk.new 1000)), Calls Tryz.prog 19 #[.pointer (some ⟨p, 0, none⟩), .slice (some ⟨W.heap.size, 0, none⟩) 1 1] (W.alloc (.cells #[.int .i64 1] 3)) fun e w' => ∃ m A C, e = .returned (.tuple #[.pointer (some ⟨m, 0, none⟩), .int .i64 0]) ∧ LgAt w.heap.size w' m p A 1 C [1] ∧ VD w.heap.size w' p (Dk.new 1000) ∧ Wk w.heap.size W w' := fun W p hD => by
    have hmn : Vl.mend (Dk.new 1000) (Vl.last [1]) = (Dk.new 1000, 0) := Vl.mend_none (by unfold Vl.by'; rw [hb0]; rfl)
    have hD1 := hD.keep (below_alloc W (.cells #[.int .i64 1] 3))
    have := vopen_any (c := 1) hD1 (lit_z W 1 rfl) vmay1 (by unfold Vl.by'; rw [hb0]; simp) rfl (by rw [hmn])
    rw [hmn] at this
    refine this.mono ?_
    rintro e w' ⟨m, A, C, rfl, h1, h2, h3⟩
    exact ⟨m, A, C, rfl, h1.lower hD1.le, h2, (Wk.of_below (below_alloc W _)).trans h3⟩
  obtain ⟨D', hap, hLv, hbs, _, _⟩ := Vl.append (D := Dk.new 1000) ⟨by decide, by decide, by decide, by decide, by decide, by decide, by decide, by decide, by decide, by decide, by decide, by decide, by decide, by decide⟩ hL0 (vname 1) (Sg.put [[7, 8]]) (vname_is (by decide)) (by decide) (by rw [Sg.put78]; decide)
  have hb1 : Vl.by' D' (vname 1) = Sg.put [[7, 8]] := by unfold Vl.by'; rw [hbs, if_pos rfl]; simp [Vl.by', hb0]
  have hput : ∀ (W : World) (m p : Nat) (A : Option Addr) (C : Nat) (_ : LgAt w.heap.size W m p A 1 C [1]) (_ : VD w.heap.size W p (Dk.new 1000)), Calls Tryz.prog 14 #[.pointer (some ⟨m, 0, none⟩), .slice (some ⟨W.heap.size, 0, none⟩) 2 2] (W.alloc (.cells #[.int .u8 7, .int .u8 8] 5)) fun e w' => e = .returned (.tuple #[pv (Sg.pt 1 0 [7, 8]), .int .i64 0]) ∧ LgAt w.heap.size w' m p A 1 C [1] ∧ VD w.heap.size w' p D' ∧ Wk w.heap.size W w' := fun W m p A C hL hD => by
    have hba := below_alloc W (.cells #[.int .u8 7, .int .u8 8] 5)
    have hrow : Row .u8 (W.alloc (.cells #[.int .u8 7, .int .u8 8] 5)) (some ⟨W.heap.size, 0, none⟩) 2 [7, 8] := row_lit .u8 W 5 _ [7, 8] 2 rfl rfl (by intro x hx; simp at hx; show x < 256; omega) (by omega)
    refine (vput_any (b := 100) (hL.keep hba) (hD.keep hba) (by simp) ⟨some ⟨W.heap.size, 0, none⟩, 2, 2⟩ [7, 8] ⟨hrow, (fun h => by cases h), Nat.le_refl _, .inr ⟨_, _, rfl, Nat.le_refl _⟩⟩ (by show 2 ≤ 4096; omega) ⟨by decide, by decide, by decide⟩ (by decide) (by unfold Vl.by'; rw [hb0]; simp) (D', 0) hap.symm (Sg.pt 1 0 [7, 8]) (by rw [if_pos rfl]; unfold Vl.by'; rw [hb0]; rfl)).mono ?_
    rintro e w' ⟨rfl, h1, h2⟩
    exact ⟨rfl, (hL.keep hba).wk h2, h1, (Wk.of_below hba).trans h2⟩
  have hget : ∀ (W : World) (m p : Nat) (A : Option Addr) (C : Nat) (_ : LgAt w.heap.size W m p A 1 C [1]) (_ : VD w.heap.size W p D'), Calls Tryz.prog 20 #[.pointer (some ⟨m, 0, none⟩), pv (Sg.pt 1 0 [7, 8])] W fun e w' => ∃ a c, e = .returned (.tuple #[.slice a 2 c, .int .i64 0]) ∧ w'.ownsRow W.heap.size 5 1 (.slice a 2 c) 2 (kcells .u8 [7, 8]) ∧ Below W.heap.size W w' := fun W m p A C hL hD => by
    have := vget_any hL hD (Sg.pt 1 0 [7, 8]) Sg.pt78.1 hLv.dead (by rw [Sg.pt78.2.2, hb1, Sg.put78]; decide)
    have hv : Vl.get D' [1] (Sg.pt 1 0 [7, 8]) = ([7, 8], 0) := by
      unfold Vl.get
      rw [if_pos Sg.pt78.2.1, Sg.pt78.2.2, if_pos (by decide), hb1, Sg.value78]
    rw [hv] at this
    exact this
  have hpt1 : (Sg.pt 1 0 [7, 8]).1 = 1 := Sg.pt78.2.2
  clear hap hLv hbs hb1 hL0 hb0
  generalize Sg.pt 1 0 [7, 8] = P at *
  obtain ⟨P0, P1, P2, P3⟩ := P
  simp only at hpt1
  subst hpt1
  simp only [pv] at hput hget
  have hlow : Hid (∀ W, Wk w.heap.size w W → Below w.heap.size w W) := (fun W h => h.below (Nat.le_refl _) : ∀ W, Wk w.heap.size w W → Below w.heap.size w W)
  go_enter Tryz.func7, Tryz.ntmps7
  go_wp2_with (first
    | (go_at_call 26; go_must (refine hnew.mono ?_; rintro e w1 ⟨p, rfl, hD1, hb1⟩))
    | (go_at_call 19; go_must (refine (hopen _ p hD1).mono ?_; rintro e w2 ⟨m, A, C, rfl, hL2, hD2, hW2⟩))
    | (go_at_call 14; go_must (refine (hput _ m p A C hL2 hD2).mono ?_; rintro e w3 ⟨rfl, hL3, hD3, hW3⟩; have hba := below_alloc w3 (.cells #[.int .i64 1, .int .i64 P1, .int .i64 P2, .int .u32 (P3 : Nat)] 42); have hq3 := heap_alloc_new w3 (.cells #[.int .i64 1, .int .i64 P1, .int .i64 P2, .int .u32 (P3 : Nat)] 42)))
    | (go_at_call 20; go_must (refine (hget _ m p A C (hL3.keep hba) (hD3.keep hba)).mono ?_; rintro e w4 ⟨a4, c4, rfl, ho4, hb4⟩; obtain ⟨r0, _⟩ := pbox_cells (q := ((1 : Int), P1, P2, P3)) ((hb4.block _ (by simp)).trans hq3); simp only at r0; have hrow4 := (row_of_owns ho4 (by intro x hx; simp at hx; show x < 256; omega) (by omega)).1))
    | (go_at_call 21; go_must (refine (bytes_any _ _ _ [7, 8] _ _ _ [7, 8] _ (hrow4.below (below_alloc _ _) (Nat.le_refl _)) (row_lit .u8 w4 5 _ [7, 8] 2 rfl rfl (by intro x hx; simp at hx; show x < 256; omega) (by omega))).mono ?_; rintro e w5 ⟨rfl, q5, rfl⟩)))
  go_ret
  have hW := ((((Wk.of_below hb1).trans hW2).trans hW3).trans (Wk.of_below hba)).trans (Wk.of_below hb4)
  exact ⟨rfl, bdr (bal (hlow.out _ hW) _) _⟩

/-! nobody's log -/
section
variable {w : World} {g : Value}
end
end Go.Proofs.YtnoknmnbfkdccaaGreatDoor
