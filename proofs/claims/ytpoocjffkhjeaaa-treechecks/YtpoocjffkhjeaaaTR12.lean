/- The law TreeChecks, given what is asked of the program. -/
import Derived.Test.YtpoocjffkhjeaaaTR8
import Derived.Test.YtpoocjffkhjeaaaTR11
namespace Go.Proofs.Ytpoocjffkhjeaaa
open Go.RowKit

set_option maxRecDepth 100000 in
set_option maxHeartbeats 4000000 in
theorem trchecks_any {T : World → Addr → List It.I → (Nat → Prop) → Prop} (hC : TreeC T) (a : Option Addr) (n c : Nat) (gs : List IH) (xs : List It.I) (b : Option Addr) (m d : Nat) (hs : List IH) (ys : List It.I) (w : World) (hx : InI w a n c gs xs) (hy : InI w b m d hs ys) :
    Calls Try.prog 6 #[.slice a n c, .slice b m d] w fun e w' => e = .returned (.bool true) ∧ Below w.heap.size w w' := by
  have hA := fun W => trawake hC W
  by_cases hl : Fine gs n
  · have hL := trlightT a n c gs xs w hx.1 hl
    by_cases hl2 : Fine hs m
    · have hL2 := fun W (h : Below w.heap.size w W) => trlightT b m d hs ys W (hy.1.below h (Nat.le_refl _)) hl2
      have hn := hl.1
      have hm := hl2.1
      have hsrt := fun W (h : Below w.heap.size w W) => hC.sorted a n c gs xs W (by omega) (hx.below h (Nat.le_refl _))
      have hsrt2 := fun W (h : Below w.heap.size w W) => isorted_any a n c gs xs W (by omega) (hx.1.below h (Nat.le_refl _))
      have hsm := fun W (h : Below w.heap.size w W) => hC.same a n c gs xs b m d hs ys W (by omega) (by omega) (hx.below h (Nat.le_refl _)) (hy.below h (Nat.le_refl _))
      have hsm1 := fun W (h : Below w.heap.size w W) => hC.same a n c gs xs a n c gs xs W (by omega) (by omega) (hx.below h (Nat.le_refl _)) (hx.below h (Nat.le_refl _))
      have hsm2 := fun W (h : Below w.heap.size w W) => isame_any w w a n c gs xs b m d hs ys W (hx.1.1.below h (Nat.le_refl _)) hx.1.2 (hy.1.1.below h (Nat.le_refl _)) hy.1.2 h h
      simp only [same_self] at hsm1
      have Hx : Hid (InI w a n c gs xs) := hx
      clear hl hl2 hx hy
      go_enter Try.func6, Try.ntmps6
      go_wp2_with (first
        | (go_at_call 8; have := c0_1; go_must (refine (hL2 _ c0_1).mono ?_; rintro e w2 ⟨rfl, hb2⟩; have c0_2 := c0_1.trans (hb2.mono c0_1.size); have c1_2 := hb2))
        | (go_at_call 8; go_must (refine (hL).mono ?_; rintro e w1 ⟨rfl, hb1⟩; have c0_1 := hb1)))
      clear hL hL2
      go_loopw [5] (fun i wr => ∃ k : Nat, k ≤ n ∧ i = .int .i64 k ∧ Below w.heap.size w wr) (fun i _ => n - (intOf i).toNat)
      case atStart => exact ⟨0, by omega, rfl, c0_2⟩
      case round =>
        obtain ⟨k, hk, rfl, hbel⟩ := hrel
        by_cases hlt : k < n
        · obtain ⟨bb, off, rfl, hc⟩ := Hx.out.1.1.items (by omega)
          have hck := hc k hlt
          have C0 : Hid (∀ W, Below w.heap.size w W → ICells W bb (off + k * 8) (gs.getD k ihz)) := (fun W hW => hck.below hW (Nat.le_refl _) : ∀ W, Below w.heap.size w W → ICells W bb (off + k * 8) (gs.getD k ihz))
          have Hy := Hx.out.1.item hlt
          have hmay := fun W (hW : Below w.heap.size w W) => imay_any _ _ W (Hy.below hW (Nat.le_refl _))
          have hchk := fun W (hW : Below w.heap.size w W) => hC.check _ _ W (Hy.below hW (Nat.le_refl _))
          generalize gs.getD k ihz = q at *
          generalize xs.getD k It.zero = y at *
          obtain ⟨key, dead, far, qa, qn, qc, ⟨p1, p2, p3, p4⟩⟩ := q
          obtain ⟨y0, y1, y2, y3, y4, y5, y6, y7⟩ := C0.out wr hbel
          simp only at y0 y1 y2 y3 y4 y5 y6 y7 hmay hchk
          have i0 : (0 : Int) ≤ (k : Int) := by omega
          have i1 : (k : Int) < (n : Int) := by omega
          clear hck Hy hc hsrt hsrt2 hsm hsm1 hsm2
          cases hq : It.may y with
          | false =>
            rw [hq] at hmay hchk
            simp only [Bool.false_eq_true, if_false] at hchk
            clear hq
            go_wp2_with fail
            go_region_held3 (fun w' => w'.cell? ⟨bb, off + k * 8, none⟩ = some (.string key) ∧ w'.cell? ⟨bb, off + k * 8 + 1, none⟩ = some (.bool dead) ∧ w'.cell? ⟨bb, off + k * 8 + 2, none⟩ = some (.bool far) ∧ w'.cell? ⟨bb, off + k * 8 + 3, none⟩ = some (.slice qa qn qc) ∧ w'.cell? ⟨bb, off + k * 8 + 4, none⟩ = some (.int .i64 p1) ∧ w'.cell? ⟨bb, off + k * 8 + 5, none⟩ = some (.int .i64 p2) ∧ w'.cell? ⟨bb, off + k * 8 + 6, none⟩ = some (.int .i64 p3) ∧ w'.cell? ⟨bb, off + k * 8 + 7, none⟩ = some (.int .u32 (p4 : Nat))) (first | go_keep | (refine ⟨?_, ?_, ?_, ?_, ?_, ?_, ?_, ?_⟩ <;> assumption))
              (first
                | ((go_at_call 24; refine (hchk _ hbel.drew).mono ?_; rintro e w5 ⟨rfl, hb5d⟩; have hb5 := below_of_drew hb5d; have hw5 := hbel.trans (hb5.mono hbel.size); obtain ⟨u0, u1, u2, u3, u4, u5, u6, u7⟩ := C0.out w5 hw5; simp only at u0 u1 u2 u3 u4 u5 u6 u7))
                | ((go_at_call 25; refine (hmay _ hw5).mono ?_; rintro e w6 ⟨rfl, hb6⟩; have hw6 := hw5.trans (hb6.mono hw5.size); obtain ⟨t0, t1, t2, t3, t4, t5, t6, t7⟩ := C0.out w6 hw6; simp only at t0 t1 t2 t3 t4 t5 t6 t7)))
            all_goals
              go_wp2
              go_roundw
              case rel => exact ⟨k + 1, by omega, by go_num, hw6⟩
              case measure => simp [intOf]; omega
          | true =>
            rw [hq] at hmay hchk
            simp only [if_true] at hchk
            clear hq
            go_wp2_with fail
            go_region_held3 (fun w' => w'.cell? ⟨bb, off + k * 8, none⟩ = some (.string key) ∧ w'.cell? ⟨bb, off + k * 8 + 1, none⟩ = some (.bool dead) ∧ w'.cell? ⟨bb, off + k * 8 + 2, none⟩ = some (.bool far) ∧ w'.cell? ⟨bb, off + k * 8 + 3, none⟩ = some (.slice qa qn qc) ∧ w'.cell? ⟨bb, off + k * 8 + 4, none⟩ = some (.int .i64 p1) ∧ w'.cell? ⟨bb, off + k * 8 + 5, none⟩ = some (.int .i64 p2) ∧ w'.cell? ⟨bb, off + k * 8 + 6, none⟩ = some (.int .i64 p3) ∧ w'.cell? ⟨bb, off + k * 8 + 7, none⟩ = some (.int .u32 (p4 : Nat))) (first | go_keep | (refine ⟨?_, ?_, ?_, ?_, ?_, ?_, ?_, ?_⟩ <;> assumption))
              (first
                | ((go_at_call 24; refine (hchk _ hbel.drew).mono ?_; rintro e w5 ⟨rfl, hb5d⟩; have hb5 := below_of_drew hb5d; have hw5 := hbel.trans (hb5.mono hbel.size); obtain ⟨u0, u1, u2, u3, u4, u5, u6, u7⟩ := C0.out w5 hw5; simp only at u0 u1 u2 u3 u4 u5 u6 u7))
                | ((go_at_call 25; refine (hmay _ hw5).mono ?_; rintro e w6 ⟨rfl, hb6⟩; have hw6 := hw5.trans (hb6.mono hw5.size); obtain ⟨t0, t1, t2, t3, t4, t5, t6, t7⟩ := C0.out w6 hw6; simp only at t0 t1 t2 t3 t4 t5 t6 t7)))
            all_goals
              go_wp2
              go_roundw
              case rel => exact ⟨k + 1, by omega, by go_num, hw6⟩
              case measure => simp [intOf]; omega
        · obtain rfl : k = n := by omega
          generalize It.sorted xs = B1 at *
          generalize It.sameGo xs ys = B2 at *
          go_wp2_with (first
            | (go_at_call 9; have := hb7; go_must (refine (hA _).mono ?_; rintro e w8 ⟨rfl, hb8⟩; have e8 := e7.trans (hb8.mono e7.size)))
            | (go_at_call 28; have := hb6; go_must (refine (hsm1 _ e6).mono ?_; rintro e w7 ⟨rfl, hb7⟩; have e7 := e6.trans (hb7.mono e6.size)))
            | (go_at_call 12; have := hb5; go_must (refine (hsm2 _ e5).mono ?_; rintro e w6 ⟨rfl, hb6⟩; have e6 := e5.trans (hb6.mono e5.size)))
            | (go_at_call 28; have := hb4; go_must (refine (hsm _ e4).mono ?_; rintro e w5 ⟨rfl, hb5⟩; have e5 := e4.trans (hb5.mono e4.size)))
            | (go_at_call 27; have := hb3; go_must (refine (hsrt2 _ e3).mono ?_; rintro e w4 ⟨rfl, hb4⟩; have e4 := e3.trans (hb4.mono e3.size)))
            | (go_at_call 26; go_must (refine (hsrt _ hbel).mono ?_; rintro e w3 ⟨rfl, hb3⟩; have e3 := hbel.trans (hb3.mono hbel.size))))
          go_ret
          exact ⟨by simp, e8⟩
    · have hL2 := fun W (h : Below w.heap.size w W) => trlightF b m d hs ys W (hy.1.below h (Nat.le_refl _)) hl2
      go_enter Try.func6, Try.ntmps6
      go_wp2_with (first
        | (go_at_call 9; have := c0_2; go_must (refine (hA _).mono ?_; rintro e w3 ⟨rfl, hb3⟩; have c0_3 := c0_2.trans (hb3.mono c0_2.size); have c1_3 := c1_2.trans (hb3.mono c1_2.size); have c2_3 := hb3))
        | (go_at_call 8; have := c0_1; go_must (refine (hL2 _ c0_1).mono ?_; rintro e w2 ⟨rfl, hb2⟩; have c0_2 := c0_1.trans (hb2.mono c0_1.size); have c1_2 := hb2))
        | (go_at_call 8; go_must (refine (hL).mono ?_; rintro e w1 ⟨rfl, hb1⟩; have c0_1 := hb1)))
      go_ret
      exact ⟨rfl, c0_3⟩
  · have hL := trlightF a n c gs xs w hx.1 hl
    go_enter Try.func6, Try.ntmps6
    go_wp2_with (first
      | (go_at_call 9; have := c0_1; go_must (refine (hA _).mono ?_; rintro e w2 ⟨rfl, hb2⟩; have c0_2 := c0_1.trans (hb2.mono c0_1.size); have c1_2 := hb2))
      | (go_at_call 8; go_must (refine (hL).mono ?_; rintro e w1 ⟨rfl, hb1⟩; have c0_1 := hb1)))
    go_ret
    exact ⟨rfl, c0_2⟩
end Go.Proofs.Ytpoocjffkhjeaaa
