/- The law of the edits that may be, and their bytes. -/
import Derived.Test.YtkbnojjjfonniaaEW
import Derived.Deep.RegionHeld3
namespace Go.Proofs.Ytkbnojjjfonniaa
open Go.RowKit

theorem ecells_at {w W : World} {B O j len : Nat} {l : List Ed.E} {k n i t a b c p q r : Int} {f g : ByteArray} (h : ERow w (some ⟨B, O, none⟩) len l) (hb : Below w.heap.size w W) (hj : j < len) (hx : l.getD j Ed.zero = ⟨k, n, i, t, a, b, c, ⟨p, q, r, f, g⟩⟩) : W.cell? ⟨B, O + j * 12, none⟩ = some (.int .i64 k) ∧ W.cell? ⟨B, O + j * 12 + 1, none⟩ = some (.int .i64 n) ∧ W.cell? ⟨B, O + j * 12 + 2, none⟩ = some (.int .i64 i) ∧ W.cell? ⟨B, O + j * 12 + 3, none⟩ = some (.int .i64 t) ∧ W.cell? ⟨B, O + j * 12 + 4, none⟩ = some (.int .i64 a) ∧ W.cell? ⟨B, O + j * 12 + 5, none⟩ = some (.int .i64 b) ∧ W.cell? ⟨B, O + j * 12 + 6, none⟩ = some (.int .i64 c) ∧ W.cell? ⟨B, O + j * 12 + 7, none⟩ = some (.int .i64 p) ∧ W.cell? ⟨B, O + j * 12 + 8, none⟩ = some (.int .i64 q) ∧ W.cell? ⟨B, O + j * 12 + 9, none⟩ = some (.int .i64 r) ∧ W.cell? ⟨B, O + j * 12 + 10, none⟩ = some (.string f) ∧ W.cell? ⟨B, O + j * 12 + 11, none⟩ = some (.string g) := by
  obtain ⟨B', O', k', n', i', t', a', b', c', p', q', r', f', g', e, hy, q0, q1, q2, q3, q4, q5, q6, q7, q8, q9, q10, q11⟩ := eget h hb hj
  rw [hx] at hy
  have hy := hy.out
  simp only [Ed.E.mk.injEq, Lv.T.mk.injEq] at hy
  obtain ⟨rfl, rfl, rfl, rfl, rfl, rfl, rfl, rfl, rfl, rfl, rfl, rfl⟩ := hy
  simp only [Option.some.injEq, Addr.mk.injEq] at e
  obtain ⟨rfl, rfl, _⟩ := e
  exact ⟨q0, q1, q2, q3, q4, q5, q6, q7, q8, q9, q10, q11⟩
set_option maxRecDepth 100000 in
set_option maxHeartbeats 8000000 in
theorem editputs_any (a0 : Option Addr) (len0 cap0 : Nat) (l0 : List Ed.E) (a1 : Option Addr) (len1 cap1 : Nat) (l1 : List Ed.E) (w : World) (h0 : IsEdits w a0 len0 cap0 l0) (h1 : IsEdits w a1 len1 cap1 l1) :
    Calls Try.prog 3 #[.slice a0 len0 cap0, .slice a1 len1 cap1] w fun e w' => e = .returned (.bool true) ∧ Below w.heap.size w w' := by
  obtain ⟨hr0, _, _, hl0⟩ := h0
  obtain ⟨hr1, _, _, hl1⟩ := h1
  have hlt0 := fun W h => elight_any a0 len0 cap0 l0 W h hl0
  have hlt1 := fun W h => elight_any a1 len1 cap1 l1 W h hl1
  have haw := fun W => eawake_any W
  have tok : Hid (0 = 0) := (rfl : 0 = 0)
  cases hg0 : elgt l0 with
  | false =>
    rw [hg0] at hlt0
    clear hg0
    go_enter Try.func3, Try.ntmps3
    go_wp2_with (first
      | (go_at_call 6; go_must (refine (hlt0 _ hr0).mono ?_; rintro e w2 ⟨rfl, rfl⟩))
      | (go_at_call 7; go_must (refine (haw _).mono ?_; rintro e w3 ⟨rfl, hb3⟩)))
    go_ret
    exact ⟨rfl, hb3⟩
  | true =>
    cases hg1 : elgt l1 with
    | false =>
      rw [hg0] at hlt0
      rw [hg1] at hlt1
      clear hg0 hg1
      go_enter Try.func3, Try.ntmps3
      go_wp2_with (first
        | (go_at_call 6; clear tok; go_must (refine (hlt0 _ hr0).mono ?_; rintro e w2 ⟨rfl, hw⟩; obtain rfl : w = w2 := hw.symm; clear hw))
        | (go_at_call 6; go_must (refine (hlt1 _ hr1).mono ?_; rintro e w2 ⟨rfl, hw⟩; obtain rfl : w = w2 := hw.symm; clear hw))
        | (go_at_call 7; go_must (refine (haw _).mono ?_; rintro e w3 ⟨rfl, hb3⟩)))
      go_ret
      exact ⟨rfl, hb3⟩
    | true =>
      have h40 := elgt_len hg0
      rw [hg0] at hlt0
      rw [hg1] at hlt1
      clear hg0 hg1
      have hll : Hid (l0.length = len0) := hr0.1
      rw [hll.out] at h40
      have hck := fun k n i t a b c p q r f g W R h => echeck_any k n i t a b c p q r f g W R h
      have hmy := fun k n i t a b c p q r f g W => rmay16_any k n i t a b c p q r f g W
      obtain ⟨z0, hz0⟩ : ∃ z, decide (0 < len0) = z := ⟨_, rfl⟩
      go_enter Try.func3, Try.ntmps3
      go_wp2_with (first
        | (go_at_call 6; clear tok; go_must (refine (hlt0 _ hr0).mono ?_; rintro e w2 ⟨rfl, hw⟩; obtain rfl : w = w2 := hw.symm; clear hw))
        | (go_at_call 6; go_must (refine (hlt1 _ hr1).mono ?_; rintro e w2 ⟨rfl, hw⟩; obtain rfl : w = w2 := hw.symm; clear hw)))
      have HZ : Hid (z0 = decide (0 < len0)) := (hz0.symm : z0 = _)
      clear hlt0 hlt1
      go_loopw [5, 6] (fun mv iv wr => ∃ (j : Nat) (mb : Bool), j ≤ len0 ∧ iv = .int .i64 j ∧ mv = .bool mb ∧ Hid (mb = (decide (0 < len0) && (l0.take j).all Ed.may)) ∧ Below w.heap.size w wr) (fun _ iv _ => len0 - (intOf iv).toNat)
      case atStart => exact ⟨0, z0, by omega, rfl, by first | rfl | rw [hz0], (by rw [HZ.out]; simp : z0 = _), Below.refl _ _⟩
      case round =>
        obtain ⟨j, mb, hj, rfl, rfl, HM, hbel⟩ := hrel
        clear hz0
        by_cases hlt : j < len0
        · obtain ⟨B, O, k, n, i, t, a, b, c, p, q, r, f, g, rfl, hx, q0, q1, q2, q3, q4, q5, q6, q7, q8, q9, q10, q11⟩ := eget hr0 hbel hlt
          have hj' : j < l0.length := by rw [hll.out]; exact hlt
          have i2 : (0 : Int) ≤ (j : Int) := by omega
          have i3 : (j : Int) < (len0 : Int) := by omega
          have HT : Hid ((l0.take (j + 1)).all Ed.may = ((l0.take j).all Ed.may && Ed.may ⟨k, n, i, t, a, b, c, ⟨p, q, r, f, g⟩⟩)) := (by rw [etake hj', hx.out]; simp : _ = _)
          have hCx : Hid (∀ W, Below w.heap.size w W → W.cell? ⟨B, O + j * 12, none⟩ = some (.int .i64 k) ∧ W.cell? ⟨B, O + j * 12 + 1, none⟩ = some (.int .i64 n) ∧ W.cell? ⟨B, O + j * 12 + 2, none⟩ = some (.int .i64 i) ∧ W.cell? ⟨B, O + j * 12 + 3, none⟩ = some (.int .i64 t) ∧ W.cell? ⟨B, O + j * 12 + 4, none⟩ = some (.int .i64 a) ∧ W.cell? ⟨B, O + j * 12 + 5, none⟩ = some (.int .i64 b) ∧ W.cell? ⟨B, O + j * 12 + 6, none⟩ = some (.int .i64 c) ∧ W.cell? ⟨B, O + j * 12 + 7, none⟩ = some (.int .i64 p) ∧ W.cell? ⟨B, O + j * 12 + 8, none⟩ = some (.int .i64 q) ∧ W.cell? ⟨B, O + j * 12 + 9, none⟩ = some (.int .i64 r) ∧ W.cell? ⟨B, O + j * 12 + 10, none⟩ = some (.string f) ∧ W.cell? ⟨B, O + j * 12 + 11, none⟩ = some (.string g)) := (fun W hW => ecells_at hr0 hW hlt hx.out : ∀ W, _)
          have hmy1 := fun W => hmy k n i t a b c p q r f g W
          clear hx
          cases hm : Ed.may ⟨k, n, i, t, a, b, c, ⟨p, q, r, f, g⟩⟩ with
          | true =>
            have hck1 := fun W => hck k n i t a b c p q r f g W 0 (by rw [hm]; rfl)
            cases mb with
            | true =>
              have HM2 : Hid (true = (decide (0 < len0) && (l0.take (j + 1)).all Ed.may)) := (by
                have := HM.out
                simp only [Bool.and_eq_true, eq_comm (a := true)] at this
                rw [HT.out, hm, this.1, this.2]; rfl : _ = _)
              clear HM HT
              go_wp2_with fail
              go_region_held3 (fun w' => w'.cell? ⟨B, O + j * 12, none⟩ = some (.int .i64 k) ∧ w'.cell? ⟨B, O + j * 12 + 1, none⟩ = some (.int .i64 n) ∧ w'.cell? ⟨B, O + j * 12 + 2, none⟩ = some (.int .i64 i) ∧ w'.cell? ⟨B, O + j * 12 + 3, none⟩ = some (.int .i64 t) ∧ w'.cell? ⟨B, O + j * 12 + 4, none⟩ = some (.int .i64 a) ∧ w'.cell? ⟨B, O + j * 12 + 5, none⟩ = some (.int .i64 b) ∧ w'.cell? ⟨B, O + j * 12 + 6, none⟩ = some (.int .i64 c) ∧ w'.cell? ⟨B, O + j * 12 + 7, none⟩ = some (.int .i64 p) ∧ w'.cell? ⟨B, O + j * 12 + 8, none⟩ = some (.int .i64 q) ∧ w'.cell? ⟨B, O + j * 12 + 9, none⟩ = some (.int .i64 r) ∧ w'.cell? ⟨B, O + j * 12 + 10, none⟩ = some (.string f) ∧ w'.cell? ⟨B, O + j * 12 + 11, none⟩ = some (.string g)) (first | go_keep | (refine ⟨?_, ?_, ?_, ?_, ?_, ?_, ?_, ?_, ?_, ?_, ?_, ?_⟩ <;> assumption))
                ((first
                  | (go_at_call 8; refine (hck1 _).mono ?_; rintro e w5 ⟨rfl, hb5⟩; have hb5d := below_of_drew hb5; have hB5 := hbel.trans (hb5d.mono hbel.size); obtain ⟨u0, u1, u2, u3, u4, u5, u6, u7, u8, u9, u10, u11⟩ := hCx.out _ hB5)
                  | (go_at_call 9; refine (hmy1 _).mono ?_; rw [hm]; rintro e w6 ⟨rfl, hb6⟩; have hB6 := hB5.trans (hb6.mono hB5.size); obtain ⟨v0, v1, v2, v3, v4, v5, v6, v7, v8, v9, v10, v11⟩ := hCx.out _ hB6)))
              go_wp2_with (go_at_call 9; go_must (refine (hmy1 _).mono ?_; rw [hm]; rintro e w7 ⟨rfl, hb7⟩; have hB7 := hB6.trans (hb7.mono hB6.size)))
              go_roundw
              case rel => exact ⟨j + 1, true, by omega, by go_num, rfl, HM2, hB7⟩
              case measure => simp [intOf]; omega
            | false =>
              have HM2 : Hid (false = (decide (0 < len0) && (l0.take (j + 1)).all Ed.may)) := (by
                rw [HT.out, ← Bool.and_assoc, ← HM.out, Bool.false_and] : _ = _)
              clear HM HT
              go_wp2_with fail
              go_region_held3 (fun w' => w'.cell? ⟨B, O + j * 12, none⟩ = some (.int .i64 k) ∧ w'.cell? ⟨B, O + j * 12 + 1, none⟩ = some (.int .i64 n) ∧ w'.cell? ⟨B, O + j * 12 + 2, none⟩ = some (.int .i64 i) ∧ w'.cell? ⟨B, O + j * 12 + 3, none⟩ = some (.int .i64 t) ∧ w'.cell? ⟨B, O + j * 12 + 4, none⟩ = some (.int .i64 a) ∧ w'.cell? ⟨B, O + j * 12 + 5, none⟩ = some (.int .i64 b) ∧ w'.cell? ⟨B, O + j * 12 + 6, none⟩ = some (.int .i64 c) ∧ w'.cell? ⟨B, O + j * 12 + 7, none⟩ = some (.int .i64 p) ∧ w'.cell? ⟨B, O + j * 12 + 8, none⟩ = some (.int .i64 q) ∧ w'.cell? ⟨B, O + j * 12 + 9, none⟩ = some (.int .i64 r) ∧ w'.cell? ⟨B, O + j * 12 + 10, none⟩ = some (.string f) ∧ w'.cell? ⟨B, O + j * 12 + 11, none⟩ = some (.string g)) (first | go_keep | (refine ⟨?_, ?_, ?_, ?_, ?_, ?_, ?_, ?_, ?_, ?_, ?_, ?_⟩ <;> assumption))
                ((first
                  | (go_at_call 8; refine (hck1 _).mono ?_; rintro e w5 ⟨rfl, hb5⟩; have hb5d := below_of_drew hb5; have hB5 := hbel.trans (hb5d.mono hbel.size); obtain ⟨u0, u1, u2, u3, u4, u5, u6, u7, u8, u9, u10, u11⟩ := hCx.out _ hB5)
                  | (go_at_call 9; refine (hmy1 _).mono ?_; rw [hm]; rintro e w6 ⟨rfl, hb6⟩; have hB6 := hB5.trans (hb6.mono hB5.size); obtain ⟨v0, v1, v2, v3, v4, v5, v6, v7, v8, v9, v10, v11⟩ := hCx.out _ hB6)))
              go_wp2
              go_roundw
              case rel => exact ⟨j + 1, false, by omega, by go_num, rfl, HM2, hB6⟩
              case measure => simp [intOf]; omega
          | false =>
            have hck1 := fun W => hck k n i t a b c p q r f g W 1 (by rw [hm]; rfl)
            cases mb with
            | true =>
              have HM2 : Hid (false = (decide (0 < len0) && (l0.take (j + 1)).all Ed.may)) := (by
                have := HM.out
                simp only [Bool.and_eq_true, eq_comm (a := true)] at this
                rw [HT.out, hm, this.1, this.2]; rfl : _ = _)
              clear HM HT
              go_wp2_with fail
              go_region_held3 (fun w' => w'.cell? ⟨B, O + j * 12, none⟩ = some (.int .i64 k) ∧ w'.cell? ⟨B, O + j * 12 + 1, none⟩ = some (.int .i64 n) ∧ w'.cell? ⟨B, O + j * 12 + 2, none⟩ = some (.int .i64 i) ∧ w'.cell? ⟨B, O + j * 12 + 3, none⟩ = some (.int .i64 t) ∧ w'.cell? ⟨B, O + j * 12 + 4, none⟩ = some (.int .i64 a) ∧ w'.cell? ⟨B, O + j * 12 + 5, none⟩ = some (.int .i64 b) ∧ w'.cell? ⟨B, O + j * 12 + 6, none⟩ = some (.int .i64 c) ∧ w'.cell? ⟨B, O + j * 12 + 7, none⟩ = some (.int .i64 p) ∧ w'.cell? ⟨B, O + j * 12 + 8, none⟩ = some (.int .i64 q) ∧ w'.cell? ⟨B, O + j * 12 + 9, none⟩ = some (.int .i64 r) ∧ w'.cell? ⟨B, O + j * 12 + 10, none⟩ = some (.string f) ∧ w'.cell? ⟨B, O + j * 12 + 11, none⟩ = some (.string g)) (first | go_keep | (refine ⟨?_, ?_, ?_, ?_, ?_, ?_, ?_, ?_, ?_, ?_, ?_, ?_⟩ <;> assumption))
                ((first
                  | (go_at_call 8; refine (hck1 _).mono ?_; rintro e w5 ⟨rfl, hb5⟩; have hb5d := below_of_drew hb5; have hB5 := hbel.trans (hb5d.mono hbel.size); obtain ⟨u0, u1, u2, u3, u4, u5, u6, u7, u8, u9, u10, u11⟩ := hCx.out _ hB5)
                  | (go_at_call 9; refine (hmy1 _).mono ?_; rw [hm]; rintro e w6 ⟨rfl, hb6⟩; have hB6 := hB5.trans (hb6.mono hB5.size); obtain ⟨v0, v1, v2, v3, v4, v5, v6, v7, v8, v9, v10, v11⟩ := hCx.out _ hB6)))
              go_wp2_with (go_at_call 9; go_must (refine (hmy1 _).mono ?_; rw [hm]; rintro e w7 ⟨rfl, hb7⟩; have hB7 := hB6.trans (hb7.mono hB6.size)))
              go_roundw
              case rel => exact ⟨j + 1, false, by omega, by go_num, rfl, HM2, hB7⟩
              case measure => simp [intOf]; omega
            | false =>
              have HM2 : Hid (false = (decide (0 < len0) && (l0.take (j + 1)).all Ed.may)) := (by
                rw [HT.out, ← Bool.and_assoc, ← HM.out, Bool.false_and] : _ = _)
              clear HM HT
              go_wp2_with fail
              go_region_held3 (fun w' => w'.cell? ⟨B, O + j * 12, none⟩ = some (.int .i64 k) ∧ w'.cell? ⟨B, O + j * 12 + 1, none⟩ = some (.int .i64 n) ∧ w'.cell? ⟨B, O + j * 12 + 2, none⟩ = some (.int .i64 i) ∧ w'.cell? ⟨B, O + j * 12 + 3, none⟩ = some (.int .i64 t) ∧ w'.cell? ⟨B, O + j * 12 + 4, none⟩ = some (.int .i64 a) ∧ w'.cell? ⟨B, O + j * 12 + 5, none⟩ = some (.int .i64 b) ∧ w'.cell? ⟨B, O + j * 12 + 6, none⟩ = some (.int .i64 c) ∧ w'.cell? ⟨B, O + j * 12 + 7, none⟩ = some (.int .i64 p) ∧ w'.cell? ⟨B, O + j * 12 + 8, none⟩ = some (.int .i64 q) ∧ w'.cell? ⟨B, O + j * 12 + 9, none⟩ = some (.int .i64 r) ∧ w'.cell? ⟨B, O + j * 12 + 10, none⟩ = some (.string f) ∧ w'.cell? ⟨B, O + j * 12 + 11, none⟩ = some (.string g)) (first | go_keep | (refine ⟨?_, ?_, ?_, ?_, ?_, ?_, ?_, ?_, ?_, ?_, ?_, ?_⟩ <;> assumption))
                ((first
                  | (go_at_call 8; refine (hck1 _).mono ?_; rintro e w5 ⟨rfl, hb5⟩; have hb5d := below_of_drew hb5; have hB5 := hbel.trans (hb5d.mono hbel.size); obtain ⟨u0, u1, u2, u3, u4, u5, u6, u7, u8, u9, u10, u11⟩ := hCx.out _ hB5)
                  | (go_at_call 9; refine (hmy1 _).mono ?_; rw [hm]; rintro e w6 ⟨rfl, hb6⟩; have hB6 := hB5.trans (hb6.mono hB5.size); obtain ⟨v0, v1, v2, v3, v4, v5, v6, v7, v8, v9, v10, v11⟩ := hCx.out _ hB6)))
              go_wp2
              go_roundw
              case rel => exact ⟨j + 1, false, by omega, by go_num, rfl, HM2, hB6⟩
              case measure => simp [intOf]; omega
        · obtain rfl : j = len0 := by omega
          have HA : Hid (l0.take j = l0) := (List.take_of_length_le (by rw [hll.out]; exact Nat.le_refl _) : _ = _)
          have HG : Hid (mb = true ↔ Good l0) := (by
            rw [HM.out, HA.out]
            simp only [Bool.and_eq_true, decide_eq_true_eq, List.all_eq_true]
            constructor
            · rintro ⟨g1, g2⟩; exact ⟨by rw [hll.out]; omega, by rw [hll.out]; omega, g2⟩
            · rintro ⟨g1, g2, g3⟩; exact ⟨by rw [hll.out] at g1; omega, g3⟩ : mb = true ↔ Good l0)
          have hsame : ∃ R : Bool, (R = true ↔ l0 = l1) := by
            by_cases h : l0 = l1
            · exact ⟨true, by simp [h]⟩
            · exact ⟨false, by simp [h]⟩
          obtain ⟨R, hR⟩ := hsame
          have hs1 := fun W g1 g2 => epsame_any a0 j cap0 l0 a1 len1 cap1 l1 W R hR g1 g2
          have hs2 := fun W g1 g2 => ersame_any a0 j cap0 l0 a1 len1 cap1 l1 W R hR g1 g2
          clear hR HM
          have hsz := hbel.size
          cases mb with
          | false =>
            have hnp := fun W h => eput_no (ad := a0) (len := j) (cap := cap0) (l := l0) (w := W) h (fun g => by have := HG.out.mpr g; cases this)
            clear HG HA
            go_wp2_with (first
              | (go_at_call 10; go_must (refine (hnp _ (hr0.below hbel (Nat.le_refl _))).mono ?_; rintro e w3 ⟨rfl, hb3⟩; have hB3 := hbel.trans (hb3.mono hsz)))
              | (go_at_call 11; go_must (refine (hs1 _ (hr0.below hB3 (Nat.le_refl _)) (hr1.below hB3 (Nat.le_refl _))).mono ?_; rintro e w4 ⟨rfl, hb4⟩; have hB4 := hB3.trans (hb4.mono hB3.size)))
              | (go_at_call 12; go_must (refine (hs2 _ (hr0.below hB4 (Nat.le_refl _)) (hr1.below hB4 (Nat.le_refl _))).mono ?_; rintro e w5 ⟨rfl, hb5⟩; have hB5 := hB4.trans (hb5.mono hB4.size)))
              | (go_at_call 7; go_must (refine (haw _).mono ?_; rintro e w6 ⟨rfl, hb6⟩; have hB6 := hB5.trans (hb6.mono hB5.size))))
            go_ret
            exact ⟨rfl, hB6⟩
          | true =>
            have hgood := HG.out.mp rfl
            have hyp := fun W h => eput_yes (ad := a0) (len := j) (cap := cap0) (l := l0) (w := W) h hgood
            have hrp := fun W h => rput16_any a0 j cap0 l0 W (by omega) h hgood.2.2
            have hsmall : ∀ x ∈ Ed.put l0, x < 256 := by
              intro x hx
              rcases List.mem_append.mp hx with hx | hx
              · exact Va.one_small _ x hx
              · exact Ed.may_small hgood.2.2 x hx
            have hpl : (Ed.put l0).length ≤ 1000000 := by
              have : (l0.flatMap Ed.one).length ≤ 250 * l0.length := by
                have : ∀ (m : List Ed.E), (∀ e ∈ m, Ed.may e = true) → (m.flatMap Ed.one).length ≤ 250 * m.length := by
                  intro m
                  induction m with
                  | nil => simp
                  | cons e m ih =>
                    intro he
                    have h1 := eone_len (he e (by simp))
                    have h2 := ih (fun x hx => he x (by simp [hx]))
                    simp only [List.flatMap_cons, List.length_append, List.length_cons]; omega
                exact this l0 hgood.2.2
              have h10 := Va.one_len10 (u := l0.length) (by rw [hll.out]; omega)
              rw [Ed.put, List.length_append]; rw [hll.out] at this h10 ⊢; omega
            generalize Ed.put l0 = PB at *
            clear HG HA
            go_wp2_with (first
              | (go_at_call 10; go_must (refine (hyp _ (hr0.below hbel (Nat.le_refl _))).mono ?_; rintro e w3 ⟨a3, c3, rfl, hown3, hb3⟩; have hB3 := hbel.trans (hb3.mono hsz); have hp3 := (row_of_owns hown3 hsmall (by omega)).1))
              | (go_at_call 11; go_must (refine (hs1 _ (hr0.below hB3 (Nat.le_refl _)) (hr1.below hB3 (Nat.le_refl _))).mono ?_; rintro e w4 ⟨rfl, hb4⟩; have hB4 := hB3.trans (hb4.mono hB3.size)))
              | (go_at_call 12; go_must (refine (hs2 _ (hr0.below hB4 (Nat.le_refl _)) (hr1.below hB4 (Nat.le_refl _))).mono ?_; rintro e w5 ⟨rfl, hb5⟩; have hB5 := hB4.trans (hb5.mono hB4.size)))
              | (go_at_call 14; go_must (refine (hrp _ (hr0.below hB5 (Nat.le_refl _))).mono ?_; rintro e w6 ⟨a6, c6, rfl, hown6, hb6⟩; have hB6 := hB5.trans (hb6.mono hB5.size); have hp6 := (row_of_owns hown6 hsmall (by omega)).1; have hp3' := ((hp3.below hb4 (Nat.le_refl _)).below hb5 (Nat.le_refl _)).below hb6 (Nat.le_refl _)))
              | (go_at_call 13; go_must (refine (bytes_any _ _ _ _ _ _ _ _ _ hp3' hp6).mono ?_; rintro e w7 ⟨rfl, n7, rfl⟩; rw [decide_eq_true (rfl : PB = PB)]; have hB7 := hB6.trans (below_drewN _ w6 n7)))
              | (go_at_call 7; go_must (refine (haw _).mono ?_; rintro e w8 ⟨rfl, hb8⟩; have hB8 := hB7.trans (hb8.mono hB7.size))))
            go_ret
            exact ⟨rfl, hB8⟩
end Go.Proofs.Ytkbnojjjfonniaa
