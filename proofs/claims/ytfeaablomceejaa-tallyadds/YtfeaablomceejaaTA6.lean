/- The laws TallyAdds and TallySubs, given what is asked of the program. -/
import Derived.Test.YtfeaablomceejaaTA5
namespace Go.Proofs.Ytfeaablomceejaa
open Go.RowKit

theorem talightB (a : Option Addr) (n c : Nat) (a' : Option Addr) (n' c' : Nat) (w : World) (r : Bool) (hr : r = decide (n ≤ 100 ∧ n' ≤ 60)) (h1 : n ≤ 140737488355328) (h2 : n' ≤ 140737488355328) : Calls Try.prog 7 #[.slice a n c, .slice a' n' c'] w fun e w' => e = .returned (.bool r) ∧ Below w.heap.size w w' :=
  (talight a n c a' n' c' w r hr h1 h2).mono (fun e w' h => ⟨h.1, by rw [h.2]; exact Below.refl _ _⟩)
theorem tsameB (a1 : Option Addr) (l1 c1 : Nat) (a2 : Option Addr) (l2 c2 : Nat) (l : List Ta.S) (w : World) (hr1 : ShRow w a1 l1 l) (hr2 : ShRow w a2 l2 l) : Calls Try.prog 16 #[.slice a1 l1 c1, .slice a2 l2 c2] w fun e w' => e = .returned (.bool true) ∧ Below w.heap.size w w' :=
  (tsame_any a1 l1 c1 a2 l2 c2 l w hr1 hr2).mono (fun e w' h => ⟨h.1, by obtain ⟨n, rfl⟩ := h.2; exact below_drewN _ _ _⟩)
/-- what is asked of the program, together -/
structure TallyC : Prop where
  check : TCheckC
  get : TGetC
  add : TAddC
  sub : TSubC
  of : TOfC
  join : TJoinC

set_option maxRecDepth 100000 in
set_option maxHeartbeats 4000000 in
theorem taadds_any (hC : TallyC) (a : Option Addr) (n c : Nat) (l : List Ta.S) (a' : Option Addr) (n' c' : Nat) (ps : List Po.P) (s : Int) (w : World) (hi : InS w a n c l) (hp : InP w a' n' c' ps) (hn : n ≤ 140737488355328) (hn' : n' ≤ 140737488355328) (hs : -9223372036854775808 ≤ s ∧ s ≤ 9223372036854775807) :
    Calls Try.prog 3 #[.slice a n c, .slice a' n' c', .int .i64 s] w fun e w' => e = .returned (.bool true) ∧ Below w.heap.size w w' := by
  have hA := fun W => taawake hC.of hC.get W
  by_cases hl : n ≤ 100 ∧ n' ≤ 60
  · have hL := fun W => talightB a n c a' n' c' W true (by simp [hl]) hn hn'
    have hadd := fun W (h : Below w.heap.size w W) => hC.add a n c l a' n' c' ps W (by omega) (by omega) (hi.below h (Nat.le_refl _)) (hp.below h (Nat.le_refl _))
    have hmay := fun W (h : Below w.heap.size w W) => tmay_any a n c l W (hi.1.below h (Nat.le_refl _))
    have hpts := fun W (h : Below w.heap.size w W) => tpoints_any a' n' c' ps W (hp.1.below h (Nat.le_refl _))
    have hchk := fun W (h : Below w.heap.size w W) => hC.check a n c l W (by omega) (hi.below h (Nat.le_refl _))
    have hget := fun W (h : Below w.heap.size w W) => hC.get a n c l s W (by omega) (hi.below h (Nat.le_refl _)) hs
    have hrget := fun W (h : Below w.heap.size w W) => tget_any a n c l s W (hi.1.below h (Nat.le_refl _))
    unfold Ta.addR at hadd
    unfold Ta.getR at hget
    cases hm : Ta.may l with
    | false =>
      simp only [hm] at hadd hmay hchk hget
      simp only [if_true, true_or, Bool.false_eq_true, if_false] at hadd hchk hget
      clear hm
      go_enter Try.func3, Try.ntmps3
      go_wp2_with (first
        | (go_at_call 8; have := c0_6; go_must (refine (hA _).mono ?_; rintro e w7 ⟨rfl, hb7⟩; have c0_7 := c0_6.trans (hb7.mono c0_6.size); have c1_7 := c1_6.trans (hb7.mono c1_6.size); have c2_7 := c2_6.trans (hb7.mono c2_6.size); have c3_7 := c3_6.trans (hb7.mono c3_6.size); have c4_7 := c4_6.trans (hb7.mono c4_6.size); have c5_7 := c5_6.trans (hb7.mono c5_6.size); have c6_7 := hb7))
        | (go_at_call 13; have := c0_5; go_must (refine (hget _ c0_5).mono ?_; rintro e w6 ⟨rfl, hb6⟩; have c0_6 := c0_5.trans (hb6.mono c0_5.size); have c1_6 := c1_5.trans (hb6.mono c1_5.size); have c2_6 := c2_5.trans (hb6.mono c2_5.size); have c3_6 := c3_5.trans (hb6.mono c3_5.size); have c4_6 := c4_5.trans (hb6.mono c4_5.size); have c5_6 := hb6))
        | (go_at_call 12; have := c0_4; go_must (refine (hchk _ c0_4).mono ?_; rintro e w5 ⟨rfl, hb5⟩; have c0_5 := c0_4.trans (hb5.mono c0_4.size); have c1_5 := c1_4.trans (hb5.mono c1_4.size); have c2_5 := c2_4.trans (hb5.mono c2_4.size); have c3_5 := c3_4.trans (hb5.mono c3_4.size); have c4_5 := hb5))
        | (go_at_call 10; have := c0_3; go_must (refine (hmay _ c0_3).mono ?_; rintro e w4 ⟨rfl, hb4⟩; have c0_4 := c0_3.trans (hb4.mono c0_3.size); have c1_4 := c1_3.trans (hb4.mono c1_3.size); have c2_4 := c2_3.trans (hb4.mono c2_3.size); have c3_4 := hb4))
        | (go_at_call 10; have := c0_2; go_must (refine (hmay _ c0_2).mono ?_; rintro e w3 ⟨rfl, hb3⟩; have c0_3 := c0_2.trans (hb3.mono c0_2.size); have c1_3 := c1_2.trans (hb3.mono c1_2.size); have c2_3 := hb3))
        | (go_at_call 9; have := c0_1; go_must (refine (hadd _ c0_1).mono ?_; rintro e w2 ⟨a2, k2, rfl, hi2, hb2⟩; have c0_2 := c0_1.trans (hb2.mono c0_1.size); have c1_2 := hb2))
        | (go_at_call 7; go_must (refine (hL _).mono ?_; rintro e w1 ⟨rfl, hb1⟩; have c0_1 := hb1)))
      go_ret
      exact ⟨by simp, c0_7⟩
    | true =>
      cases hq : Ta.points ps with
      | false =>
        simp only [hm, hq] at hadd hmay hpts
        simp only [if_true, or_true] at hadd
        clear hm hq
        go_enter Try.func3, Try.ntmps3
        go_wp2_with (first
          | (go_at_call 8; have := c0_5; go_must (refine (hA _).mono ?_; rintro e w6 ⟨rfl, hb6⟩; have c0_6 := c0_5.trans (hb6.mono c0_5.size); have c1_6 := c1_5.trans (hb6.mono c1_5.size); have c2_6 := c2_5.trans (hb6.mono c2_5.size); have c3_6 := c3_5.trans (hb6.mono c3_5.size); have c4_6 := c4_5.trans (hb6.mono c4_5.size); have c5_6 := hb6))
          | (go_at_call 10; have := c0_4; go_must (refine (hmay _ c0_4).mono ?_; rintro e w5 ⟨rfl, hb5⟩; have c0_5 := c0_4.trans (hb5.mono c0_4.size); have c1_5 := c1_4.trans (hb5.mono c1_4.size); have c2_5 := c2_4.trans (hb5.mono c2_4.size); have c3_5 := c3_4.trans (hb5.mono c3_4.size); have c4_5 := hb5))
          | (go_at_call 11; have := c0_3; go_must (refine (hpts _ c0_3).mono ?_; rintro e w4 ⟨rfl, hb4⟩; have c0_4 := c0_3.trans (hb4.mono c0_3.size); have c1_4 := c1_3.trans (hb4.mono c1_3.size); have c2_4 := c2_3.trans (hb4.mono c2_3.size); have c3_4 := hb4))
          | (go_at_call 10; have := c0_2; go_must (refine (hmay _ c0_2).mono ?_; rintro e w3 ⟨rfl, hb3⟩; have c0_3 := c0_2.trans (hb3.mono c0_2.size); have c1_3 := c1_2.trans (hb3.mono c1_2.size); have c2_3 := hb3))
          | (go_at_call 9; have := c0_1; go_must (refine (hadd _ c0_1).mono ?_; rintro e w2 ⟨a2, k2, rfl, hi2, hb2⟩; have c0_2 := c0_1.trans (hb2.mono c0_1.size); have c1_2 := hb2))
          | (go_at_call 7; go_must (refine (hL _).mono ?_; rintro e w1 ⟨rfl, hb1⟩; have c0_1 := hb1)))
        go_ret
        exact ⟨by simp, c0_6⟩
      | true =>
        have hradd := fun W (h : Below w.heap.size w W) => tadd_any a n c l a' n' c' ps W (hi.1.below h (Nat.le_refl _)) (hp.1.below h (Nat.le_refl _)) (by omega) (by omega) hm hq
        have hal : (Ta.add l ps).length ≤ 1000 := by
          have := Ta.add_len ps l
          rw [hi.1.1, hp.1.1] at this
          omega
        have hof := fun W (h : Below w.heap.size w W) => hC.of a' n' c' ps W (by omega) (hp.below h (Nat.le_refl _))
        have hradd0 := fun W (h : Below w.heap.size w W) => tadd_any none 0 0 [] a' n' c' ps W (TRow.nil _ _) (hp.1.below h (Nat.le_refl _)) (by omega) (by omega) (by decide) hq
        have hm0 := Ta.may_add hq (by rw [hp.1.1]; omega)
        unfold Ta.addR at hof
        simp only [hq, hm0, show Ta.may [] = true by decide] at hof
        simp only [hm, hq] at hadd hmay hpts hchk hget
        simp only [Bool.true_eq_false, or_self, if_false, if_true] at hadd hof hget hchk
        have hmayw := fun (a0 : Option Addr) (k0 : Nat) W (h : ShRow W a0 (Ta.add l ps).length (Ta.add l ps)) => tmay_any a0 _ k0 _ W h
        clear hm hq hm0
        cases hw : Ta.may (Ta.add l ps) with
        | false =>
          simp only [hw] at hadd hmayw
          simp only [if_true] at hadd
          clear hw hof hradd0
          generalize Ta.add l ps = L at *
          go_enter Try.func3, Try.ntmps3
          go_wp2_with (first
            | (go_at_call 8; have := c0_6; go_must (refine (hA _).mono ?_; rintro e w7 ⟨rfl, hb7⟩; have c0_7 := c0_6.trans (hb7.mono c0_6.size); have c1_7 := c1_6.trans (hb7.mono c1_6.size); have c2_7 := c2_6.trans (hb7.mono c2_6.size); have c3_7 := c3_6.trans (hb7.mono c3_6.size); have c4_7 := c4_6.trans (hb7.mono c4_6.size); have c5_7 := c5_6.trans (hb7.mono c5_6.size); have c6_7 := hb7))
            | (go_at_call 10; have := c0_5; go_must (refine (hmayw _ _ _ hi5).mono ?_; rintro e w6 ⟨rfl, hb6⟩; have c0_6 := c0_5.trans (hb6.mono c0_5.size); have c1_6 := c1_5.trans (hb6.mono c1_5.size); have c2_6 := c2_5.trans (hb6.mono c2_5.size); have c3_6 := c3_5.trans (hb6.mono c3_5.size); have c4_6 := c4_5.trans (hb6.mono c4_5.size); have c5_6 := hb6))
            | (go_at_call 14; have := c0_4; go_must (refine (hradd _ c0_4).mono ?_; rintro e w5 ⟨a5, k5, rfl, hi5, hb5⟩; have c0_5 := c0_4.trans (hb5.mono c0_4.size); have c1_5 := c1_4.trans (hb5.mono c1_4.size); have c2_5 := c2_4.trans (hb5.mono c2_4.size); have c3_5 := c3_4.trans (hb5.mono c3_4.size); have c4_5 := hb5))
            | (go_at_call 11; have := c0_3; go_must (refine (hpts _ c0_3).mono ?_; rintro e w4 ⟨rfl, hb4⟩; have c0_4 := c0_3.trans (hb4.mono c0_3.size); have c1_4 := c1_3.trans (hb4.mono c1_3.size); have c2_4 := c2_3.trans (hb4.mono c2_3.size); have c3_4 := hb4))
            | (go_at_call 10; have := c0_2; go_must (refine (hmay _ c0_2).mono ?_; rintro e w3 ⟨rfl, hb3⟩; have c0_3 := c0_2.trans (hb3.mono c0_2.size); have c1_3 := c1_2.trans (hb3.mono c1_2.size); have c2_3 := hb3))
            | (go_at_call 9; have := c0_1; go_must (refine (hadd _ c0_1).mono ?_; rintro e w2 ⟨a2, k2, rfl, hi2, hb2⟩; have c0_2 := c0_1.trans (hb2.mono c0_1.size); have c1_2 := hb2))
            | (go_at_call 7; go_must (refine (hL _).mono ?_; rintro e w1 ⟨rfl, hb1⟩; have c0_1 := hb1)))
          go_ret
          exact ⟨by simp, c0_7⟩
        | true =>
          simp only [hw] at hadd hmayw
          simp only [Bool.true_eq_false, if_false] at hadd
          clear hw
          have hsame := fun (a1 a2 : Option Addr) (k1 k2 : Nat) W h1 h2 => tsameB a1 (Ta.add l ps).length k1 a2 (Ta.add l ps).length k2 (Ta.add l ps) W h1 h2
          have hsame0 := fun (a1 a2 : Option Addr) (k1 k2 : Nat) W h1 h2 => tsameB a1 (Ta.add [] ps).length k1 a2 (Ta.add [] ps).length k2 (Ta.add [] ps) W h1 h2
          generalize Ta.add l ps = L at *
          generalize Ta.add [] ps = L0 at *
          generalize Ta.get l s = G at *
          go_enter Try.func3, Try.ntmps3
          go_wp2_with (first
            | (go_at_call 8; have := c0_13; go_must (refine (hA _).mono ?_; rintro e w14 ⟨rfl, hb14⟩; have c0_14 := c0_13.trans (hb14.mono c0_13.size); have c1_14 := c1_13.trans (hb14.mono c1_13.size); have c2_14 := c2_13.trans (hb14.mono c2_13.size); have c3_14 := c3_13.trans (hb14.mono c3_13.size); have c4_14 := c4_13.trans (hb14.mono c4_13.size); have c5_14 := c5_13.trans (hb14.mono c5_13.size); have c6_14 := c6_13.trans (hb14.mono c6_13.size); have c7_14 := c7_13.trans (hb14.mono c7_13.size); have c8_14 := c8_13.trans (hb14.mono c8_13.size); have c9_14 := c9_13.trans (hb14.mono c9_13.size); have c10_14 := c10_13.trans (hb14.mono c10_13.size); have c11_14 := c11_13.trans (hb14.mono c11_13.size); have c12_14 := c12_13.trans (hb14.mono c12_13.size); have c13_14 := hb14))
            | (go_at_call 17; have := c0_12; go_must (refine (hrget _ c0_12).mono ?_; rintro e w13 ⟨rfl, hb13⟩; have c0_13 := c0_12.trans (hb13.mono c0_12.size); have c1_13 := c1_12.trans (hb13.mono c1_12.size); have c2_13 := c2_12.trans (hb13.mono c2_12.size); have c3_13 := c3_12.trans (hb13.mono c3_12.size); have c4_13 := c4_12.trans (hb13.mono c4_12.size); have c5_13 := c5_12.trans (hb13.mono c5_12.size); have c6_13 := c6_12.trans (hb13.mono c6_12.size); have c7_13 := c7_12.trans (hb13.mono c7_12.size); have c8_13 := c8_12.trans (hb13.mono c8_12.size); have c9_13 := c9_12.trans (hb13.mono c9_12.size); have c10_13 := c10_12.trans (hb13.mono c10_12.size); have c11_13 := c11_12.trans (hb13.mono c11_12.size); have c12_13 := hb13))
            | (go_at_call 13; have := c0_11; go_must (refine (hget _ c0_11).mono ?_; rintro e w12 ⟨rfl, hb12⟩; have c0_12 := c0_11.trans (hb12.mono c0_11.size); have c1_12 := c1_11.trans (hb12.mono c1_11.size); have c2_12 := c2_11.trans (hb12.mono c2_11.size); have c3_12 := c3_11.trans (hb12.mono c3_11.size); have c4_12 := c4_11.trans (hb12.mono c4_11.size); have c5_12 := c5_11.trans (hb12.mono c5_11.size); have c6_12 := c6_11.trans (hb12.mono c6_11.size); have c7_12 := c7_11.trans (hb12.mono c7_11.size); have c8_12 := c8_11.trans (hb12.mono c8_11.size); have c9_12 := c9_11.trans (hb12.mono c9_11.size); have c10_12 := c10_11.trans (hb12.mono c10_11.size); have c11_12 := hb12))
            | (go_at_call 12; have := c0_10; go_must (refine (hchk _ c0_10).mono ?_; rintro e w11 ⟨rfl, hb11⟩; have c0_11 := c0_10.trans (hb11.mono c0_10.size); have c1_11 := c1_10.trans (hb11.mono c1_10.size); have c2_11 := c2_10.trans (hb11.mono c2_10.size); have c3_11 := c3_10.trans (hb11.mono c3_10.size); have c4_11 := c4_10.trans (hb11.mono c4_10.size); have c5_11 := c5_10.trans (hb11.mono c5_10.size); have c6_11 := c6_10.trans (hb11.mono c6_10.size); have c7_11 := c7_10.trans (hb11.mono c7_10.size); have c8_11 := c8_10.trans (hb11.mono c8_10.size); have c9_11 := c9_10.trans (hb11.mono c9_10.size); have c10_11 := hb11))
            | (go_at_call 16; have := c0_9; go_must (refine (hsame0 _ _ _ _ _ (hi7.1.below c7_9 (Nat.le_refl _)) hi9).mono ?_; rintro e w10 ⟨rfl, hb10⟩; have c0_10 := c0_9.trans (hb10.mono c0_9.size); have c1_10 := c1_9.trans (hb10.mono c1_9.size); have c2_10 := c2_9.trans (hb10.mono c2_9.size); have c3_10 := c3_9.trans (hb10.mono c3_9.size); have c4_10 := c4_9.trans (hb10.mono c4_9.size); have c5_10 := c5_9.trans (hb10.mono c5_9.size); have c6_10 := c6_9.trans (hb10.mono c6_9.size); have c7_10 := c7_9.trans (hb10.mono c7_9.size); have c8_10 := c8_9.trans (hb10.mono c8_9.size); have c9_10 := hb10))
            | (go_at_call 14; have := c0_8; go_must (refine (hradd0 _ c0_8).mono ?_; rintro e w9 ⟨a9, k9, rfl, hi9, hb9⟩; have c0_9 := c0_8.trans (hb9.mono c0_8.size); have c1_9 := c1_8.trans (hb9.mono c1_8.size); have c2_9 := c2_8.trans (hb9.mono c2_8.size); have c3_9 := c3_8.trans (hb9.mono c3_8.size); have c4_9 := c4_8.trans (hb9.mono c4_8.size); have c5_9 := c5_8.trans (hb9.mono c5_8.size); have c6_9 := c6_8.trans (hb9.mono c6_8.size); have c7_9 := c7_8.trans (hb9.mono c7_8.size); have c8_9 := hb9))
            | (go_at_call 16; have := c0_7; go_must (refine (hsame _ _ _ _ _ (hi2.1.below c2_7 (Nat.le_refl _)) (hi5.below c5_7 (Nat.le_refl _))).mono ?_; rintro e w8 ⟨rfl, hb8⟩; have c0_8 := c0_7.trans (hb8.mono c0_7.size); have c1_8 := c1_7.trans (hb8.mono c1_7.size); have c2_8 := c2_7.trans (hb8.mono c2_7.size); have c3_8 := c3_7.trans (hb8.mono c3_7.size); have c4_8 := c4_7.trans (hb8.mono c4_7.size); have c5_8 := c5_7.trans (hb8.mono c5_7.size); have c6_8 := c6_7.trans (hb8.mono c6_7.size); have c7_8 := hb8))
            | (go_at_call 15; have := c0_6; go_must (refine (hof _ c0_6).mono ?_; rintro e w7 ⟨a7, k7, rfl, hi7, hb7⟩; have c0_7 := c0_6.trans (hb7.mono c0_6.size); have c1_7 := c1_6.trans (hb7.mono c1_6.size); have c2_7 := c2_6.trans (hb7.mono c2_6.size); have c3_7 := c3_6.trans (hb7.mono c3_6.size); have c4_7 := c4_6.trans (hb7.mono c4_6.size); have c5_7 := c5_6.trans (hb7.mono c5_6.size); have c6_7 := hb7))
            | (go_at_call 10; have := c0_5; go_must (refine (hmayw _ _ _ hi5).mono ?_; rintro e w6 ⟨rfl, hb6⟩; have c0_6 := c0_5.trans (hb6.mono c0_5.size); have c1_6 := c1_5.trans (hb6.mono c1_5.size); have c2_6 := c2_5.trans (hb6.mono c2_5.size); have c3_6 := c3_5.trans (hb6.mono c3_5.size); have c4_6 := c4_5.trans (hb6.mono c4_5.size); have c5_6 := hb6))
            | (go_at_call 14; have := c0_4; go_must (refine (hradd _ c0_4).mono ?_; rintro e w5 ⟨a5, k5, rfl, hi5, hb5⟩; have c0_5 := c0_4.trans (hb5.mono c0_4.size); have c1_5 := c1_4.trans (hb5.mono c1_4.size); have c2_5 := c2_4.trans (hb5.mono c2_4.size); have c3_5 := c3_4.trans (hb5.mono c3_4.size); have c4_5 := hb5))
            | (go_at_call 11; have := c0_3; go_must (refine (hpts _ c0_3).mono ?_; rintro e w4 ⟨rfl, hb4⟩; have c0_4 := c0_3.trans (hb4.mono c0_3.size); have c1_4 := c1_3.trans (hb4.mono c1_3.size); have c2_4 := c2_3.trans (hb4.mono c2_3.size); have c3_4 := hb4))
            | (go_at_call 10; have := c0_2; go_must (refine (hmay _ c0_2).mono ?_; rintro e w3 ⟨rfl, hb3⟩; have c0_3 := c0_2.trans (hb3.mono c0_2.size); have c1_3 := c1_2.trans (hb3.mono c1_2.size); have c2_3 := hb3))
            | (go_at_call 9; have := c0_1; go_must (refine (hadd _ c0_1).mono ?_; rintro e w2 ⟨a2, k2, rfl, hi2, hb2⟩; have c0_2 := c0_1.trans (hb2.mono c0_1.size); have c1_2 := hb2))
            | (go_at_call 7; go_must (refine (hL _).mono ?_; rintro e w1 ⟨rfl, hb1⟩; have c0_1 := hb1)))
          go_ret
          exact ⟨by simp, c0_14⟩
  · have hL := fun W => talightB a n c a' n' c' W false (by simp only [hl, decide_false]) hn hn'
    go_enter Try.func3, Try.ntmps3
    go_wp2_with (first
      | (go_at_call 8; have := c0_1; go_must (refine (hA _).mono ?_; rintro e w2 ⟨rfl, hb2⟩; have c0_2 := c0_1.trans (hb2.mono c0_1.size); have c1_2 := hb2))
      | (go_at_call 7; go_must (refine (hL _).mono ?_; rintro e w1 ⟨rfl, hb1⟩; have c0_1 := hb1)))
    go_ret
    exact ⟨rfl, c0_2⟩

set_option maxRecDepth 100000 in
set_option maxHeartbeats 4000000 in
theorem tasubs_any (hC : TallyC) (a : Option Addr) (n c : Nat) (l : List Ta.S) (a' : Option Addr) (n' c' : Nat) (ps : List Po.P) (w : World) (hi : InS w a n c l) (hp : InP w a' n' c' ps) (hn : n ≤ 140737488355328) (hn' : n' ≤ 140737488355328) :
    Calls Try.prog 4 #[.slice a n c, .slice a' n' c'] w fun e w' => e = .returned (.bool true) ∧ Below w.heap.size w w' := by
  have hA := fun W => taawake hC.of hC.get W
  by_cases hl : n ≤ 100 ∧ n' ≤ 60
  · have hL := fun W => talightB a n c a' n' c' W true (by simp [hl]) hn hn'
    have hsub := fun W (h : Below w.heap.size w W) => hC.sub a n c l a' n' c' ps W (by omega) (by omega) (hi.below h (Nat.le_refl _)) (hp.below h (Nat.le_refl _))
    have hmay := fun W (h : Below w.heap.size w W) => tmay_any a n c l W (hi.1.below h (Nat.le_refl _))
    have hpts := fun W (h : Below w.heap.size w W) => tpoints_any a' n' c' ps W (hp.1.below h (Nat.le_refl _))
    unfold Ta.subR at hsub
    cases hm : Ta.may l with
    | false =>
      simp only [hm] at hsub hmay
      simp only [if_true, true_or] at hsub
      clear hm
      go_enter Try.func4, Try.ntmps4
      go_wp2_with (first
        | (go_at_call 8; have := c0_3; go_must (refine (hA _).mono ?_; rintro e w4 ⟨rfl, hb4⟩; have c0_4 := c0_3.trans (hb4.mono c0_3.size); have c1_4 := c1_3.trans (hb4.mono c1_3.size); have c2_4 := c2_3.trans (hb4.mono c2_3.size); have c3_4 := hb4))
        | (go_at_call 10; have := c0_2; go_must (refine (hmay _ c0_2).mono ?_; rintro e w3 ⟨rfl, hb3⟩; have c0_3 := c0_2.trans (hb3.mono c0_2.size); have c1_3 := c1_2.trans (hb3.mono c1_2.size); have c2_3 := hb3))
        | (go_at_call 18; have := c0_1; go_must (refine (hsub _ c0_1).mono ?_; rintro e w2 ⟨a2, k2, rfl, hi2, hb2⟩; have c0_2 := c0_1.trans (hb2.mono c0_1.size); have c1_2 := hb2))
        | (go_at_call 7; go_must (refine (hL _).mono ?_; rintro e w1 ⟨rfl, hb1⟩; have c0_1 := hb1)))
      go_ret
      exact ⟨by simp, c0_4⟩
    | true =>
      cases hq : Ta.points ps with
      | false =>
        simp only [hm, hq] at hsub hmay hpts
        simp only [if_true, or_true] at hsub
        clear hm hq
        go_enter Try.func4, Try.ntmps4
        go_wp2_with (first
          | (go_at_call 8; have := c0_4; go_must (refine (hA _).mono ?_; rintro e w5 ⟨rfl, hb5⟩; have c0_5 := c0_4.trans (hb5.mono c0_4.size); have c1_5 := c1_4.trans (hb5.mono c1_4.size); have c2_5 := c2_4.trans (hb5.mono c2_4.size); have c3_5 := c3_4.trans (hb5.mono c3_4.size); have c4_5 := hb5))
          | (go_at_call 11; have := c0_3; go_must (refine (hpts _ c0_3).mono ?_; rintro e w4 ⟨rfl, hb4⟩; have c0_4 := c0_3.trans (hb4.mono c0_3.size); have c1_4 := c1_3.trans (hb4.mono c1_3.size); have c2_4 := c2_3.trans (hb4.mono c2_3.size); have c3_4 := hb4))
          | (go_at_call 10; have := c0_2; go_must (refine (hmay _ c0_2).mono ?_; rintro e w3 ⟨rfl, hb3⟩; have c0_3 := c0_2.trans (hb3.mono c0_2.size); have c1_3 := c1_2.trans (hb3.mono c1_2.size); have c2_3 := hb3))
          | (go_at_call 18; have := c0_1; go_must (refine (hsub _ c0_1).mono ?_; rintro e w2 ⟨a2, k2, rfl, hi2, hb2⟩; have c0_2 := c0_1.trans (hb2.mono c0_1.size); have c1_2 := hb2))
          | (go_at_call 7; go_must (refine (hL _).mono ?_; rintro e w1 ⟨rfl, hb1⟩; have c0_1 := hb1)))
        go_ret
        exact ⟨by simp, c0_5⟩
      | true =>
        have hrsub := fun W (h : Below w.heap.size w W) => tsub_any a n c l a' n' c' ps W (hi.1.below h (Nat.le_refl _)) (hp.1.below h (Nat.le_refl _)) (by omega) (by omega) hm hq
        simp only [hm, hq] at hsub hmay hpts
        simp only [Bool.true_eq_false, or_self, if_false] at hsub
        clear hm hq
        cases hw : Ta.sub l ps with
        | none =>
          simp only [hw] at hsub hrsub
          clear hw
          go_enter Try.func4, Try.ntmps4
          go_wp2_with (first
            | (go_at_call 8; have := c0_5; go_must (refine (hA _).mono ?_; rintro e w6 ⟨rfl, hb6⟩; have c0_6 := c0_5.trans (hb6.mono c0_5.size); have c1_6 := c1_5.trans (hb6.mono c1_5.size); have c2_6 := c2_5.trans (hb6.mono c2_5.size); have c3_6 := c3_5.trans (hb6.mono c3_5.size); have c4_6 := c4_5.trans (hb6.mono c4_5.size); have c5_6 := hb6))
            | (go_at_call 19; have := c0_4; go_must (refine (hrsub _ c0_4).mono ?_; rintro e w5 ⟨rfl, hb5⟩; have c0_5 := c0_4.trans (hb5.mono c0_4.size); have c1_5 := c1_4.trans (hb5.mono c1_4.size); have c2_5 := c2_4.trans (hb5.mono c2_4.size); have c3_5 := c3_4.trans (hb5.mono c3_4.size); have c4_5 := hb5))
            | (go_at_call 11; have := c0_3; go_must (refine (hpts _ c0_3).mono ?_; rintro e w4 ⟨rfl, hb4⟩; have c0_4 := c0_3.trans (hb4.mono c0_3.size); have c1_4 := c1_3.trans (hb4.mono c1_3.size); have c2_4 := c2_3.trans (hb4.mono c2_3.size); have c3_4 := hb4))
            | (go_at_call 10; have := c0_2; go_must (refine (hmay _ c0_2).mono ?_; rintro e w3 ⟨rfl, hb3⟩; have c0_3 := c0_2.trans (hb3.mono c0_2.size); have c1_3 := c1_2.trans (hb3.mono c1_2.size); have c2_3 := hb3))
            | (go_at_call 18; have := c0_1; go_must (refine (hsub _ c0_1).mono ?_; rintro e w2 ⟨a2, k2, rfl, hi2, hb2⟩; have c0_2 := c0_1.trans (hb2.mono c0_1.size); have c1_2 := hb2))
            | (go_at_call 7; go_must (refine (hL _).mono ?_; rintro e w1 ⟨rfl, hb1⟩; have c0_1 := hb1)))
          go_ret
          exact ⟨by simp, c0_6⟩
        | some L =>
          simp only [hw] at hsub hrsub
          clear hw
          have hsame := fun (a1 a2 : Option Addr) (k1 k2 : Nat) W h1 h2 => tsameB a1 L.length k1 a2 L.length k2 L W h1 h2
          go_enter Try.func4, Try.ntmps4
          go_wp2_with (first
            | (go_at_call 8; have := c0_6; go_must (refine (hA _).mono ?_; rintro e w7 ⟨rfl, hb7⟩; have c0_7 := c0_6.trans (hb7.mono c0_6.size); have c1_7 := c1_6.trans (hb7.mono c1_6.size); have c2_7 := c2_6.trans (hb7.mono c2_6.size); have c3_7 := c3_6.trans (hb7.mono c3_6.size); have c4_7 := c4_6.trans (hb7.mono c4_6.size); have c5_7 := c5_6.trans (hb7.mono c5_6.size); have c6_7 := hb7))
            | (go_at_call 16; have := c0_5; go_must (refine (hsame _ _ _ _ _ (hi2.1.below c2_5 (Nat.le_refl _)) hi5).mono ?_; rintro e w6 ⟨rfl, hb6⟩; have c0_6 := c0_5.trans (hb6.mono c0_5.size); have c1_6 := c1_5.trans (hb6.mono c1_5.size); have c2_6 := c2_5.trans (hb6.mono c2_5.size); have c3_6 := c3_5.trans (hb6.mono c3_5.size); have c4_6 := c4_5.trans (hb6.mono c4_5.size); have c5_6 := hb6))
            | (go_at_call 19; have := c0_4; go_must (refine (hrsub _ c0_4).mono ?_; rintro e w5 ⟨a5, k5, rfl, hi5, hb5⟩; have c0_5 := c0_4.trans (hb5.mono c0_4.size); have c1_5 := c1_4.trans (hb5.mono c1_4.size); have c2_5 := c2_4.trans (hb5.mono c2_4.size); have c3_5 := c3_4.trans (hb5.mono c3_4.size); have c4_5 := hb5))
            | (go_at_call 11; have := c0_3; go_must (refine (hpts _ c0_3).mono ?_; rintro e w4 ⟨rfl, hb4⟩; have c0_4 := c0_3.trans (hb4.mono c0_3.size); have c1_4 := c1_3.trans (hb4.mono c1_3.size); have c2_4 := c2_3.trans (hb4.mono c2_3.size); have c3_4 := hb4))
            | (go_at_call 10; have := c0_2; go_must (refine (hmay _ c0_2).mono ?_; rintro e w3 ⟨rfl, hb3⟩; have c0_3 := c0_2.trans (hb3.mono c0_2.size); have c1_3 := c1_2.trans (hb3.mono c1_2.size); have c2_3 := hb3))
            | (go_at_call 18; have := c0_1; go_must (refine (hsub _ c0_1).mono ?_; rintro e w2 ⟨a2, k2, rfl, hi2, hb2⟩; have c0_2 := c0_1.trans (hb2.mono c0_1.size); have c1_2 := hb2))
            | (go_at_call 7; go_must (refine (hL _).mono ?_; rintro e w1 ⟨rfl, hb1⟩; have c0_1 := hb1)))
          go_ret
          exact ⟨by simp, c0_7⟩
  · have hL := fun W => talightB a n c a' n' c' W false (by simp only [hl, decide_false]) hn hn'
    go_enter Try.func4, Try.ntmps4
    go_wp2_with (first
      | (go_at_call 8; have := c0_1; go_must (refine (hA _).mono ?_; rintro e w2 ⟨rfl, hb2⟩; have c0_2 := c0_1.trans (hb2.mono c0_1.size); have c1_2 := hb2))
      | (go_at_call 7; go_must (refine (hL _).mono ?_; rintro e w1 ⟨rfl, hb1⟩; have c0_1 := hb1)))
    go_ret
    exact ⟨rfl, c0_2⟩
end Go.Proofs.Ytfeaablomceejaa
