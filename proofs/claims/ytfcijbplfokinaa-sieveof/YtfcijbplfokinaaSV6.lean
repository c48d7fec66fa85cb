/- The laws SieveOf, SieveHas, SieveKeeps, given what is asked of the program. -/
import Derived.Test.YtfcijbplfokinaaSV5
namespace Go.Proofs.Ytfcijbplfokinaa
open Go.RowKit

set_option maxRecDepth 100000 in
set_option maxHeartbeats 2000000 in
theorem svof_any (hC : SieveC) (a : Option Addr) (m c : Nat) (ks : List ByteArray) (n : Int) (s : ByteArray) (w : World) (hi : InT w a m c ks) (hz : ∀ i, i < m → (ks.getD i ⟨#[]⟩).size ≤ maxLen) (hm : m ≤ 140737488355328) (hn : -9223372036854775808 ≤ n ∧ n ≤ 9223372036854775807) (hs : s.size ≤ maxLen) :
    Calls Try.prog 3 #[.slice a m c, .int .i64 n, .string s] w fun e w' => e = .returned (.bool true) ∧ Below w.heap.size w w' := by
  have hA := fun W => svawake hC W
  unfold maxLen at hs
  by_cases hl : m ≤ 30 ∧ ∀ i, i < m → (ks.getD i ⟨#[]⟩).size ≤ 200
  · have hL := fun (_ : Unit) => svlightT a m c ks w hi.1 hz hm hl
    by_cases hk : s.size ≤ 200
    · have d1 : decide ((200 : Int) < (s.size : Int)) = false := by simp; omega
      have hks := all_of_getD hi.1.1 hl.2
      have hof := fun W (h : Below w.heap.size w W) => hC.of a m c ks W (by omega) (fun x hx => by have := hks x hx; omega) (hi.below h (Nat.le_refl _))
      have hrof := fun W (h : Below w.heap.size w W) => vof_any a m c ks W (hi.1.below h (Nat.le_refl _)) (by omega) (fun x hx => by have := hks x hx; omega)
      have hbits := fun W => hC.bits n s W hn (by omega)
      have hby := fun (a1 a2 : Option Addr) (k1 k2 : Nat) W h1 h2 => bytesB a1 (Sv.of (ks.map kb)).length k1 a2 (Sv.of (ks.map kb)).length k2 (Sv.of (ks.map kb)) W h1 h2
      generalize Sv.of (ks.map kb) = S at *
      clear hks hl hz
      by_cases hr : 1 ≤ n ∧ n ≤ 1048576
      · obtain ⟨k, rfl⟩ : ∃ k : Nat, n = (k : Int) := ⟨n.toNat, by omega⟩
        have hrb := fun W => vbits_any k s W (by omega) (by omega)
        have e1 : Sv.bitsR (k : Int) (kb s) = Sv.bits k (kb s) := by unfold Sv.bitsR; rw [if_pos hr, Int.toNat_natCast]
        have hsm := bits_small (n := (k : Int)) (key := kb s)
        rw [e1] at hsm
        simp only [e1] at hbits
        have hin := fun (a1 a2 : Option Addr) (k1 k2 : Nat) W h1 h2 => intsB a1 (Sv.bits k (kb s)).length k1 a2 (Sv.bits k (kb s)).length k2 (Sv.bits k (kb s)) W h1 h2
        have hl6 : Hid ((Sv.bits k (kb s)).length = 6) := Sv.bits_len k (kb s)
        have d2 : decide ((k : Int) < 1) = false := by simp; omega
        have d3 : decide ((1048576 : Int) < (k : Int)) = false := by simp; omega
        have d4 : decide (k < 1) = false := by simp; omega
        have d5 : decide (1048576 < k) = false := by simp; omega
        generalize Sv.bits k (kb s) = L at *
        clear e1 hr
        go_enter Try.func3, Try.ntmps3
        go_wp2_with (first
          | (go_at_call 7; have := c0_7; go_must (refine (hA _).mono ?_; rintro e w8 ⟨rfl, hb8⟩; have c0_8 := c0_7.trans (hb8.mono c0_7.size); have c1_8 := c1_7.trans (hb8.mono c1_7.size); have c2_8 := c2_7.trans (hb8.mono c2_7.size); have c3_8 := c3_7.trans (hb8.mono c3_7.size); have c4_8 := c4_7.trans (hb8.mono c4_7.size); have c5_8 := c5_7.trans (hb8.mono c5_7.size); have c6_8 := c6_7.trans (hb8.mono c6_7.size); have c7_8 := hb8))
          | (go_at_call 11; have := c0_6; go_must (refine (hby _ _ _ _ _ (hr5.below c5_6 (Nat.le_refl _)) hr6).mono ?_; rintro e w7 ⟨rfl, hb7⟩; have c0_7 := c0_6.trans (hb7.mono c0_6.size); have c1_7 := c1_6.trans (hb7.mono c1_6.size); have c2_7 := c2_6.trans (hb7.mono c2_6.size); have c3_7 := c3_6.trans (hb7.mono c3_6.size); have c4_7 := c4_6.trans (hb7.mono c4_6.size); have c5_7 := c5_6.trans (hb7.mono c5_6.size); have c6_7 := hb7))
          | (go_at_call 13; have := c0_5; go_must (refine (hrof _ c0_5).mono ?_; rintro e w6 ⟨a6, k6, rfl, _, _, hr6, hb6⟩; have c0_6 := c0_5.trans (hb6.mono c0_5.size); have c1_6 := c1_5.trans (hb6.mono c1_5.size); have c2_6 := c2_5.trans (hb6.mono c2_5.size); have c3_6 := c3_5.trans (hb6.mono c3_5.size); have c4_6 := c4_5.trans (hb6.mono c4_5.size); have c5_6 := hb6))
          | (go_at_call 12; have := c0_4; go_must (refine (hof _ c0_4).mono ?_; rintro e w5 ⟨a5, k5, rfl, _, _, hr5, hb5⟩; have c0_5 := c0_4.trans (hb5.mono c0_4.size); have c1_5 := c1_4.trans (hb5.mono c1_4.size); have c2_5 := c2_4.trans (hb5.mono c2_4.size); have c3_5 := c3_4.trans (hb5.mono c3_4.size); have c4_5 := hb5))
          | (go_at_call 9; have := c0_3; go_must (refine (hin _ _ _ _ _ (IRow.row (hr2.below c2_3 (Nat.le_refl _)) hsm) (IRow.row (trow_of_owns ieE hown3 (by omega) (by have := hl6.out; omega)) hsm)).mono ?_; rintro e w4 ⟨rfl, hb4⟩; have c0_4 := c0_3.trans (hb4.mono c0_3.size); have c1_4 := c1_3.trans (hb4.mono c1_3.size); have c2_4 := c2_3.trans (hb4.mono c2_3.size); have c3_4 := hb4))
          | (go_at_call 10; have := c0_2; go_must (refine (hrb _).mono ?_; rintro e w3 ⟨a3, k3, rfl, _, _, hown3, hb3⟩; have c0_3 := c0_2.trans (hb3.mono c0_2.size); have c1_3 := c1_2.trans (hb3.mono c1_2.size); have c2_3 := hb3))
          | (go_at_call 8; have := c0_1; go_must (refine (hbits _).mono ?_; rintro e w2 ⟨a2, k2, rfl, hr2, hb2⟩; have c0_2 := c0_1.trans (hb2.mono c0_1.size); have c1_2 := hb2))
          | (go_at_call 6; go_must (refine (hL ()).mono ?_; rintro e w1 ⟨rfl, hb1⟩; have c0_1 := hb1)))
        go_ret
        exact ⟨by simp, c0_8⟩
      · have e1 : Sv.bitsR n (kb s) = [] := by unfold Sv.bitsR; rw [if_neg hr]
        simp only [e1] at hbits
        by_cases hn1 : n < 1
        · have d2 : decide (n < 1) = true := by simp [hn1]
          clear e1 hr
          go_enter Try.func3, Try.ntmps3
          go_wp2_with (first
            | (go_at_call 7; have := c0_5; go_must (refine (hA _).mono ?_; rintro e w6 ⟨rfl, hb6⟩; have c0_6 := c0_5.trans (hb6.mono c0_5.size); have c1_6 := c1_5.trans (hb6.mono c1_5.size); have c2_6 := c2_5.trans (hb6.mono c2_5.size); have c3_6 := c3_5.trans (hb6.mono c3_5.size); have c4_6 := c4_5.trans (hb6.mono c4_5.size); have c5_6 := hb6))
            | (go_at_call 11; have := c0_4; go_must (refine (hby _ _ _ _ _ (hr3.below c3_4 (Nat.le_refl _)) hr4).mono ?_; rintro e w5 ⟨rfl, hb5⟩; have c0_5 := c0_4.trans (hb5.mono c0_4.size); have c1_5 := c1_4.trans (hb5.mono c1_4.size); have c2_5 := c2_4.trans (hb5.mono c2_4.size); have c3_5 := c3_4.trans (hb5.mono c3_4.size); have c4_5 := hb5))
            | (go_at_call 13; have := c0_3; go_must (refine (hrof _ c0_3).mono ?_; rintro e w4 ⟨a4, k4, rfl, _, _, hr4, hb4⟩; have c0_4 := c0_3.trans (hb4.mono c0_3.size); have c1_4 := c1_3.trans (hb4.mono c1_3.size); have c2_4 := c2_3.trans (hb4.mono c2_3.size); have c3_4 := hb4))
            | (go_at_call 12; have := c0_2; go_must (refine (hof _ c0_2).mono ?_; rintro e w3 ⟨a3, k3, rfl, _, _, hr3, hb3⟩; have c0_3 := c0_2.trans (hb3.mono c0_2.size); have c1_3 := c1_2.trans (hb3.mono c1_2.size); have c2_3 := hb3))
            | (go_at_call 8; have := c0_1; go_must (refine (hbits _).mono ?_; rintro e w2 ⟨a2, k2, rfl, hr2, hb2⟩; have c0_2 := c0_1.trans (hb2.mono c0_1.size); have c1_2 := hb2))
            | (go_at_call 6; go_must (refine (hL ()).mono ?_; rintro e w1 ⟨rfl, hb1⟩; have c0_1 := hb1)))
          go_ret
          exact ⟨by simp, c0_6⟩
        · have d2 : decide (n < 1) = false := by simp; omega
          have d3 : decide ((1048576 : Int) < n) = true := by simp; omega
          clear e1 hr
          go_enter Try.func3, Try.ntmps3
          go_wp2_with (first
            | (go_at_call 7; have := c0_5; go_must (refine (hA _).mono ?_; rintro e w6 ⟨rfl, hb6⟩; have c0_6 := c0_5.trans (hb6.mono c0_5.size); have c1_6 := c1_5.trans (hb6.mono c1_5.size); have c2_6 := c2_5.trans (hb6.mono c2_5.size); have c3_6 := c3_5.trans (hb6.mono c3_5.size); have c4_6 := c4_5.trans (hb6.mono c4_5.size); have c5_6 := hb6))
            | (go_at_call 11; have := c0_4; go_must (refine (hby _ _ _ _ _ (hr3.below c3_4 (Nat.le_refl _)) hr4).mono ?_; rintro e w5 ⟨rfl, hb5⟩; have c0_5 := c0_4.trans (hb5.mono c0_4.size); have c1_5 := c1_4.trans (hb5.mono c1_4.size); have c2_5 := c2_4.trans (hb5.mono c2_4.size); have c3_5 := c3_4.trans (hb5.mono c3_4.size); have c4_5 := hb5))
            | (go_at_call 13; have := c0_3; go_must (refine (hrof _ c0_3).mono ?_; rintro e w4 ⟨a4, k4, rfl, _, _, hr4, hb4⟩; have c0_4 := c0_3.trans (hb4.mono c0_3.size); have c1_4 := c1_3.trans (hb4.mono c1_3.size); have c2_4 := c2_3.trans (hb4.mono c2_3.size); have c3_4 := hb4))
            | (go_at_call 12; have := c0_2; go_must (refine (hof _ c0_2).mono ?_; rintro e w3 ⟨a3, k3, rfl, _, _, hr3, hb3⟩; have c0_3 := c0_2.trans (hb3.mono c0_2.size); have c1_3 := c1_2.trans (hb3.mono c1_2.size); have c2_3 := hb3))
            | (go_at_call 8; have := c0_1; go_must (refine (hbits _).mono ?_; rintro e w2 ⟨a2, k2, rfl, hr2, hb2⟩; have c0_2 := c0_1.trans (hb2.mono c0_1.size); have c1_2 := hb2))
            | (go_at_call 6; go_must (refine (hL ()).mono ?_; rintro e w1 ⟨rfl, hb1⟩; have c0_1 := hb1)))
          go_ret
          exact ⟨by simp, c0_6⟩
    · have d1 : decide ((200 : Int) < (s.size : Int)) = true := by simp; omega
      go_enter Try.func3, Try.ntmps3
      go_wp2_with (first
        | (go_at_call 7; have := c0_1; go_must (refine (hA _).mono ?_; rintro e w2 ⟨rfl, hb2⟩; have c0_2 := c0_1.trans (hb2.mono c0_1.size); have c1_2 := hb2))
        | (go_at_call 6; go_must (refine (hL ()).mono ?_; rintro e w1 ⟨rfl, hb1⟩; have c0_1 := hb1)))
      go_ret
      exact ⟨rfl, c0_2⟩
  · have hL := svlightF a m c ks w hi.1 hz hm hl
    go_enter Try.func3, Try.ntmps3
    go_wp2_with (first
      | (go_at_call 7; have := c0_1; go_must (refine (hA _).mono ?_; rintro e w2 ⟨rfl, hb2⟩; have c0_2 := c0_1.trans (hb2.mono c0_1.size); have c1_2 := hb2))
      | (go_at_call 6; go_must (refine (hL).mono ?_; rintro e w1 ⟨rfl, hb1⟩; have c0_1 := hb1)))
    go_ret
    exact ⟨rfl, c0_2⟩

set_option maxRecDepth 100000 in
set_option maxHeartbeats 2000000 in
theorem svhas_any (hC : SieveC) (a : Option Addr) (m c : Nat) (bs : List Nat) (s : ByteArray) (w : World) (hr : Row .u8 w a m bs) (hnil : a = none → m = 0 ∧ c = 0) (hmc : m ≤ c) (hs : s.size ≤ maxLen) :
    Calls Try.prog 4 #[.slice a m c, .string s] w fun e w' => e = .returned (.bool true) ∧ Below w.heap.size w w' := by
  have hA := fun W => svawake hC W
  have hlb := hr.2.1
  unfold maxLen at hs
  by_cases h1 : m ≤ 2000
  · have d1 : decide ((2000 : Int) < (m : Int)) = false := by simp; omega
    by_cases h2 : s.size ≤ 200
    · have d2 : decide ((200 : Int) < (s.size : Int)) = false := by simp; omega
      have hh := fun W (h : Below w.heap.size w W) => hC.has a m c bs s W (by omega) (by omega) (hr.below h (Nat.le_refl _)) hnil hmc
      have hrh := fun W (h : Below w.heap.size w W) => vhas_any a m c bs s W (hr.below h (Nat.le_refl _)) (by omega)
      generalize Sv.has bs (kb s) = R at *
      have e0 : (R == R) = true := by simp
      go_enter Try.func4, Try.ntmps4
      go_wp2_with (first
        | (go_at_call 7; have := c0_2; go_must (refine (hA _).mono ?_; rintro e w3 ⟨rfl, hb3⟩; have c0_3 := c0_2.trans (hb3.mono c0_2.size); have c1_3 := c1_2.trans (hb3.mono c1_2.size); have c2_3 := hb3))
        | (go_at_call 15; have := c0_1; go_must (refine (hrh _ c0_1).mono ?_; rintro e w2 ⟨rfl, hb2⟩; have c0_2 := c0_1.trans (hb2.mono c0_1.size); have c1_2 := hb2))
        | (go_at_call 14; go_must (refine (hh _ (Below.refl _ _)).mono ?_; rintro e w1 ⟨rfl, hb1⟩; have c0_1 := hb1)))
      go_ret
      exact ⟨by simp, c0_3⟩
    · have d2 : decide ((200 : Int) < (s.size : Int)) = true := by simp; omega
      go_enter Try.func4, Try.ntmps4
      go_wp2_with (first
        | (go_at_call 7; go_must (refine (hA _).mono ?_; rintro e w1 ⟨rfl, hb1⟩; have c0_1 := hb1)))
      go_ret
      exact ⟨rfl, c0_1⟩
  · have d1 : decide ((2000 : Int) < (m : Int)) = true := by simp; omega
    go_enter Try.func4, Try.ntmps4
    go_wp2_with (first
      | (go_at_call 7; go_must (refine (hA _).mono ?_; rintro e w1 ⟨rfl, hb1⟩; have c0_1 := hb1)))
    go_ret
    exact ⟨rfl, c0_1⟩

set_option maxRecDepth 100000 in
theorem svhas_long (hC : SieveC) (a : Option Addr) (m c : Nat) (s : ByteArray) (w : World) (h1 : 2000 < m) :
    Calls Try.prog 4 #[.slice a m c, .string s] w fun e w' => e = .returned (.bool true) ∧ Below w.heap.size w w' := by
  have hA := fun W => svawake hC W
  have d1 : decide ((2000 : Int) < (m : Int)) = true := by simp; omega
  go_enter Try.func4, Try.ntmps4
  go_wp2_with (first
    | (go_at_call 7; go_must (refine (hA _).mono ?_; rintro e w1 ⟨rfl, hb1⟩; have c0_1 := hb1)))
  go_ret
  exact ⟨rfl, c0_1⟩

set_option maxRecDepth 100000 in
set_option maxHeartbeats 2000000 in
theorem svkeeps_any (hC : SieveC) (a : Option Addr) (m c : Nat) (ks : List ByteArray) (w : World) (hi : InT w a m c ks) (hz : ∀ i, i < m → (ks.getD i ⟨#[]⟩).size ≤ maxLen) (hm : m ≤ 140737488355328) :
    Calls Try.prog 5 #[.slice a m c] w fun e w' => e = .returned (.bool true) ∧ Below w.heap.size w w' := by
  have hA := fun W => svawake hC W
  by_cases hl : m ≤ 30 ∧ ∀ i, i < m → (ks.getD i ⟨#[]⟩).size ≤ 200
  · have hL := svlightT a m c ks w hi.1 hz hm hl
    have hll : Hid (ks.length = m) := hi.1.1
    have hks := all_of_getD hi.1.1 hl.2
    have hof := fun W (h : Below w.heap.size w W) => hC.of a m c ks W (by omega) (fun x hx => by have := hks x hx; omega) (hi.below h (Nat.le_refl _))
    have hsz : Hid ((Sv.of (ks.map kb)).length = m + m / 10 + 1) := (by rw [Sv.of_length, List.length_map, hi.1.1]; rfl : (Sv.of (ks.map kb)).length = m + m / 10 + 1)
    have hkp : Hid (∀ x ∈ ks, Sv.has (Sv.of (ks.map kb)) (kb x) = true) := (fun x hx => Sv.keeps (List.mem_map_of_mem hx) : ∀ x ∈ ks, Sv.has (Sv.of (ks.map kb)) (kb x) = true)
    generalize Sv.of (ks.map kb) = S at *
    have hS : S.length ≤ 10000 := by have := hsz.out; omega
    have hm30 := hl.1
    have Hks : Hid (∀ x ∈ ks, x.size ≤ 200) := hks
    clear hl hz hks
    go_enter Try.func5, Try.ntmps5
    go_wp2_with (first
      | (go_at_call 12; have := c0_1; go_must (refine (hof _ c0_1).mono ?_; rintro e w2 ⟨a2, k2, rfl, hc2, hn2, hr2, hb2⟩; have c0_2 := c0_1.trans (hb2.mono c0_1.size); have c1_2 := hb2))
      | (go_at_call 6; go_must (refine (hL).mono ?_; rintro e w1 ⟨rfl, hb1⟩; have c0_1 := hb1)))
    go_loopw [4] (fun i wr => ∃ k : Nat, k ≤ m ∧ i = .int .i64 k ∧ Below w2.heap.size w2 wr) (fun i _ => m - (intOf i).toNat)
    case atStart => exact ⟨0, by omega, rfl, Below.refl _ _⟩
    case round =>
      obtain ⟨k, hk, rfl, hbel⟩ := hrel
      have hw := c0_2.trans (hbel.mono c0_2.size)
      by_cases hlt : k < m
      · obtain ⟨bb, off, rfl, hc⟩ := hi.1.cell (by omega)
        have p0 := (hw.cell (p := ⟨bb, off + k, none⟩) (cell_lt (hc k hlt))).trans (hc k hlt)
        have hmem : Hid (ks.getD k ⟨#[]⟩ ∈ ks) := (by
          have hk' : k < ks.length := by rw [hll.out]; exact hlt
          rw [show ks.getD k ⟨#[]⟩ = ks[k] by simp [hk']]; exact List.getElem_mem _ : ks.getD k ⟨#[]⟩ ∈ ks)
        generalize ks.getD k ⟨#[]⟩ = x at *
        have hh := hC.has a2 S.length k2 S x wr hS (by have := Hks.out x hmem.out; omega) (hr2.below hbel (Nat.le_refl _)) hn2 hc2
        rw [hkp.out x hmem.out] at hh
        have i0 : (0 : Int) ≤ (k : Int) := by omega
        have i1 : (k : Int) < (m : Int) := by omega
        clear hc
        go_wp2_with (go_at_call 14; go_must (refine hh.mono ?_; rintro e w3 ⟨rfl, hb3⟩))
        go_roundw
        case rel => exact ⟨k + 1, by omega, by go_num, hbel.trans (hb3.mono hbel.size)⟩
        case measure => simp [intOf]; omega
      · obtain rfl : k = m := by omega
        have e1 : ((S.length : Int) == (k : Int) + (k : Int) / 10 + 1) = true := by have := hsz.out; simp; omega
        have c0_3 := hw
        go_wp2_with (go_at_call 7; go_must (refine (hA _).mono ?_; rintro e w4 ⟨rfl, hb4⟩))
        go_ret
        exact ⟨by simp, hw.trans (hb4.mono hw.size)⟩
  · have hL := svlightF a m c ks w hi.1 hz hm hl
    go_enter Try.func5, Try.ntmps5
    go_wp2_with (first
      | (go_at_call 7; have := c0_1; go_must (refine (hA _).mono ?_; rintro e w2 ⟨rfl, hb2⟩; have c0_2 := c0_1.trans (hb2.mono c0_1.size); have c1_2 := hb2))
      | (go_at_call 6; go_must (refine (hL).mono ?_; rintro e w1 ⟨rfl, hb1⟩; have c0_1 := hb1)))
    go_ret
    exact ⟨rfl, c0_2⟩
end Go.Proofs.Ytfcijbplfokinaa
