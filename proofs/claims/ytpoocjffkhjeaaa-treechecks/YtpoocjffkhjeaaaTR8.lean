/- The law TreeScans, given what is asked of the program. -/
import Derived.Test.YtpoocjffkhjeaaaTR7
import Derived.Deep.RegionHeld3
namespace Go.Proofs.Ytpoocjffkhjeaaa
open Go.RowKit

theorem It.scan_len (l : List It.I) (lo hi : List Nat) (most : Int) : (It.scan l lo hi most).length ≤ l.length := by
  unfold It.scan
  rw [List.length_take]
  exact Nat.le_trans (Nat.min_le_right _ _) (List.length_filter_le _ _)

set_option maxRecDepth 100000 in
set_option maxHeartbeats 4000000 in
theorem trscans_any {T : World → Addr → List It.I → (Nat → Prop) → Prop} (hC : TreeC T) (a : Option Addr) (n c : Nat) (gs : List IH) (xs : List It.I) (lo hi : ByteArray) (most : Int) (w : World) (hii : InI w a n c gs xs) (hlo : lo.size ≤ maxLen) (hhi : hi.size ≤ maxLen) (hmost : -9223372036854775808 ≤ most ∧ most ≤ 9223372036854775807) :
    Calls Try.prog 4 #[.slice a n c, .agg #[.string lo, .string hi, .int .i64 most]] w fun e w' => e = .returned (.bool true) ∧ Below w.heap.size w w' := by
  unfold maxLen at hlo hhi
  have hA := fun W => trawake hC W
  obtain ⟨wb, hwb⟩ : ∃ wb, wb = w.alloc (.cells #[.string lo, .string hi, .int .i64 most] 47) := ⟨_, rfl⟩
  have hbb : Below w.heap.size w wb := by rw [hwb]; exact below_alloc _ _
  have hbox : Hid (∀ W, Below wb.heap.size wb W → W.cell? ⟨w.heap.size, 0, none⟩ = some (.string lo) ∧ W.cell? ⟨w.heap.size, 1, none⟩ = some (.string hi) ∧ W.cell? ⟨w.heap.size, 2, none⟩ = some (.int .i64 most)) := (fun W hW => by
    rw [hwb] at hW
    have hl : w.heap.size < (w.alloc (.cells #[.string lo, .string hi, .int .i64 most] 47)).heap.size := by simp
    have k : ∀ i, W.cell? ⟨w.heap.size, i, none⟩ = #[Value.string lo, Value.string hi, Value.int .i64 most][i]? := fun i => (hW.cell (p := ⟨w.heap.size, i, none⟩) hl).trans (cell_new w _ _ i)
    exact ⟨k 0, k 1, k 2⟩ : ∀ W, Below wb.heap.size wb W → W.cell? ⟨w.heap.size, 0, none⟩ = some (.string lo) ∧ W.cell? ⟨w.heap.size, 1, none⟩ = some (.string hi) ∧ W.cell? ⟨w.heap.size, 2, none⟩ = some (.int .i64 most))
  have hi2 := hii.below hbb (Nat.le_refl _)
  obtain ⟨x0, x1, x2⟩ := hbox.out wb (Below.refl _ _)
  clear hii
  by_cases hl : Fine gs n
  · have hL := trlightT a n c gs xs wb hi2.1 hl
    have hmade := fun W (h : Below wb.heap.size wb W) => made_any hC a n c gs xs W hl.1 (hi2.below h (Nat.le_refl _))
    have hLl : (It.all xs).length ≤ 1000 := Nat.le_trans (It.all_length xs) (by have := (hl.all hi2.1).2; omega)
    have hall := fun W (h : Below wb.heap.size wb W) => iall_any wb a n c gs xs W (by have := hl.1; omega) (hi2.1.1.below h (Nat.le_refl _)) hi2.1.2 h
    by_cases hk : lo.size ≤ 200
    · have d1 : decide ((200 : Int) < (lo.size : Int)) = false := by simp; omega
      by_cases hk2 : hi.size ≤ 200
      · have d2 : decide ((200 : Int) < (hi.size : Int)) = false := by simp; omega
        have hts := fun (p : Addr) (S : Nat → Prop) W (h : T W p (It.all xs) S) => hC.scan p (It.all xs) S lo hi most W h hLl (by omega) (by omega) hmost
        have hrs := fun (a' : Option Addr) (k : Nat) (hs : List IH) W (h1 : TRow 8 ih ihz W a' (It.all xs).length hs) (h2 : ItAll wb hs (It.all xs)) => iscan_any wb a' (It.all xs).length k hs (It.all xs) lo hi most W hLl h1 h2
        generalize It.all xs = L at *
        have hsame := fun (w0 : World) (a1 a2 : Option Addr) (k1 k2 : Nat) (h1 h2 : List IH) W r1 i1 r2 i2 b1 b2 => isame_any w0 wb a1 (It.scan L (kb lo) (kb hi) most).length k1 h1 (It.scan L (kb lo) (kb hi) most) a2 (It.scan L (kb lo) (kb hi) most).length k2 h2 (It.scan L (kb lo) (kb hi) most) W r1 i1 r2 i2 b1 b2
        simp only [same_self] at hsame
        generalize It.scan L (kb lo) (kb hi) most = Z at *
        clear hl
        go_enter Try.func4, Try.ntmps4
        go_wp2_with fail
        rw [← hwb]
        clear hwb
        go_wp2_with (first
          | (go_at_call 10; have := c0_1; go_must (refine (hmade _ c0_1).mono ?_; rintro e w2 ⟨p, S, rfl, hT2, _, hb2⟩; have c0_2 := c0_1.trans (hb2.mono c0_1.size); have c1_2 := hb2; obtain ⟨v0, v1, v2⟩ := hbox.out w2 c0_2))
          | (go_at_call 8; go_must (refine (hL).mono ?_; rintro e w1 ⟨rfl, hb1⟩; have c0_1 := hb1; obtain ⟨u0, u1, u2⟩ := hbox.out w1 hb1)))
        go_region_held3 (fun w' => w'.cell? ⟨w.heap.size, 0, none⟩ = some (.string lo) ∧ w'.cell? ⟨w.heap.size, 1, none⟩ = some (.string hi) ∧ w'.cell? ⟨w.heap.size, 2, none⟩ = some (.int .i64 most)) (first | go_keep | (refine ⟨?_, ?_, ?_⟩ <;> assumption))
          (first
            | ((go_at_call 20; refine (hts _ _ _ (hC.on hT2 (Below.refl _ _).drew)).mono ?_; rintro e w3 ⟨a3, k3, hs3, rfl, hi3, hb3'⟩; have hb3 := below_of_drew hb3'; have c0_3 := c0_2.trans (hb3.mono c0_2.size); obtain ⟨q0, q1, q2⟩ := hbox.out w3 c0_3))
            | ((go_at_call 11; refine (hall _ c0_3).mono ?_; rintro e w4 ⟨a4, k4, hs4, rfl, _, _, hr4, hI4, hb4⟩; have c0_4 := c0_3.trans (hb4.mono c0_3.size); obtain ⟨r0, r1, r2⟩ := hbox.out w4 c0_4))
            | ((go_at_call 21; refine (hrs _ _ _ _ hr4 hI4).mono ?_; rintro e w5 ⟨a5, k5, hs5, rfl, _, _, hr5, hI5, hb5⟩; have c0_5 := c0_4.trans (hb5.mono c0_4.size); have c3_5 := hb4.trans (hb5.mono hb4.size); obtain ⟨s0, s1, s2⟩ := hbox.out w5 c0_5))
            | ((go_at_call 12; refine (hsame w3 _ _ _ _ _ _ _ (hi3.1.1.below c3_5 (Nat.le_refl _)) hi3.1.2 hr5 hI5 c3_5 c0_5).mono ?_; rintro e w6 ⟨rfl, hb6⟩; have c0_6 := c0_5.trans (hb6.mono c0_5.size); obtain ⟨t0, t1, t2⟩ := hbox.out w6 c0_6))
            | ((go_at_call 9; refine (hA _).mono ?_; rintro e w7 ⟨rfl, hb7⟩; have c0_7 := c0_6.trans (hb7.mono c0_6.size); obtain ⟨m0, m1, m2⟩ := hbox.out w7 c0_7)))
        all_goals
          go_wp2
          go_ret
          exact ⟨by simp, hbb.trans (c0_7.mono hbb.size)⟩
      · have d2 : decide ((200 : Int) < (hi.size : Int)) = true := by simp; omega
        go_enter Try.func4, Try.ntmps4
        go_wp2_with fail
        rw [← hwb]
        clear hwb
        go_wp2_with (first
          | (go_at_call 9; have := c0_1; go_must (refine (hA _).mono ?_; rintro e w2 ⟨rfl, hb2⟩; have c0_2 := c0_1.trans (hb2.mono c0_1.size); have c1_2 := hb2))
          | (go_at_call 8; go_must (refine (hL).mono ?_; rintro e w1 ⟨rfl, hb1⟩; have c0_1 := hb1; obtain ⟨u0, u1, u2⟩ := hbox.out w1 hb1)))
        go_ret
        exact ⟨rfl, hbb.trans (c0_2.mono hbb.size)⟩
    · have d1 : decide ((200 : Int) < (lo.size : Int)) = true := by simp; omega
      go_enter Try.func4, Try.ntmps4
      go_wp2_with fail
      rw [← hwb]
      clear hwb
      go_wp2_with (first
        | (go_at_call 9; have := c0_1; go_must (refine (hA _).mono ?_; rintro e w2 ⟨rfl, hb2⟩; have c0_2 := c0_1.trans (hb2.mono c0_1.size); have c1_2 := hb2))
        | (go_at_call 8; go_must (refine (hL).mono ?_; rintro e w1 ⟨rfl, hb1⟩; have c0_1 := hb1; obtain ⟨u0, u1, u2⟩ := hbox.out w1 hb1)))
      go_ret
      exact ⟨rfl, hbb.trans (c0_2.mono hbb.size)⟩
  · have hL := trlightF a n c gs xs wb hi2.1 hl
    go_enter Try.func4, Try.ntmps4
    go_wp2_with fail
    rw [← hwb]
    clear hwb
    go_wp2_with (first
      | (go_at_call 9; have := c0_1; go_must (refine (hA _).mono ?_; rintro e w2 ⟨rfl, hb2⟩; have c0_2 := c0_1.trans (hb2.mono c0_1.size); have c1_2 := hb2))
      | (go_at_call 8; go_must (refine (hL).mono ?_; rintro e w1 ⟨rfl, hb1⟩; have c0_1 := hb1; obtain ⟨u0, u1, u2⟩ := hbox.out w1 hb1)))
    go_ret
    exact ⟨rfl, hbb.trans (c0_2.mono hbb.size)⟩
end Go.Proofs.Ytpoocjffkhjeaaa
