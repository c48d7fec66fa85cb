/- What the program's own Of of a file does. -/
import Derived.Test.YtnoknmnbfkdccaaGreatDoorN4
import Derived.Test.YtnoknmnbfkdccaaGreatDoorShelf
import Derived.Lib.AppendIntMem
import Derived.Deep.RegionWith
import Derived.Deep.RegionHeld3
namespace Go.Proofs.YtnoknmnbfkdccaaGreatDoor
open Go.RowKit

namespace Na
theorem dig_zero : ∀ k, dig k 0 = List.replicate k 48
  | 0 => rfl
  | k + 1 => by
    rw [dig, Nat.zero_div, dig_zero k, List.replicate_succ']
/-- a number's digits, noughts ahead of them -/
theorem dec_dig : ∀ (k m : Nat), m < 10 ^ (k + 1) → (Lib.decDigits m).length ≤ k + 1 ∧ 1 ≤ (Lib.decDigits m).length ∧ List.replicate (k + 1 - (Lib.decDigits m).length) 48 ++ (Lib.decDigits m).map (·.toNat) = dig (k + 1) m
  | k, m, h => by
    by_cases hm : m < 10
    · rw [Lib.decDigits, dif_pos hm]
      refine ⟨by simp, by simp, ?_⟩
      have e : (UInt8.ofNat (48 + m)).toNat = 48 + m := by
        rw [UInt8.toNat_ofNat']; omega
      have e2 : m / 10 = 0 := by omega
      have e3 : m % 10 = m := by omega
      simp only [List.map_cons, List.map_nil, List.length_singleton, e, dig, e2, e3, dig_zero]
      rfl
    · cases k with
      | zero => simp at h; omega
      | succ k =>
        have h' : m / 10 < 10 ^ (k + 1) := by
          rw [Nat.pow_succ] at h
          omega
        obtain ⟨i1, i2, i3⟩ := dec_dig k (m / 10) h'
        rw [Lib.decDigits, dif_neg hm]
        refine ⟨by simp; omega, by simp, ?_⟩
        have e : (UInt8.ofNat (48 + m % 10)).toNat = 48 + m % 10 := by
          rw [UInt8.toNat_ofNat']; omega
        have el : k + 1 + 1 - (Lib.decDigits (m / 10) ++ [UInt8.ofNat (48 + m % 10)]).length = k + 1 - (Lib.decDigits (m / 10)).length := by simp
        rw [el, dig, ← i3]
        simp only [List.map_append, List.map_cons, List.map_nil, e, List.append_assoc]
end Na
theorem rep_list (c : Nat) : (Lib.repeatL [48] c).map (·.toNat) = List.replicate c 48 := by
  induction c with
  | zero => rfl
  | succ c ih => rw [Lib.repeatL, List.map_append, ih, List.replicate_succ]; rfl

theorem grow_below (w : World) (k : Nat) (os : Array Obj) : Below w.heap.size w (Sort.grow (w.drewN k) os) := Lib.below_grow _ w (Nat.le_refl _) k os
theorem itoa_own (n : Nat) (h2 : n ≤ 2147483647) (w : World) (hT : Tab w) :
    Calls Tryz.prog 123 #[.int .i64 n] w fun e w' => ∃ t : ByteArray, e = .returned (.string t) ∧ Hid (kb t = (Lib.decDigits n).map (·.toNat)) ∧ Below w.heap.size w w' := by
  refine (Tryz.strconv_Itoa (n : Int) (by omega) (by omega) w hT).mono ?_
  rintro e w' ⟨rfl, k, os, rfl⟩
  refine ⟨_, rfl, ?_, grow_below _ _ _⟩
  show kb _ = _
  unfold Lib.itoa kb
  rw [if_neg (by omega)]
  simp

set_option maxRecDepth 100000 in
set_option maxHeartbeats 1000000 in
theorem digits_any (n : Nat) (h2 : n ≤ 2147483647) (w : World) (hT : Tab w) :
    Calls Tryz.prog 106 #[.int .i64 n] w fun e w' => ∃ t : ByteArray, e = .returned (.string t) ∧ kb t = Na.dig 10 n ∧ Below w.heap.size w w' := by
  have H1 := fun W (h : Tab W) => itoa_own n h2 W h
  obtain ⟨i1, i2, i3⟩ := Na.dec_dig 9 n (by omega)
  obtain ⟨L, hL⟩ : ∃ L, L = (Lib.decDigits n).length := ⟨_, rfl⟩
  rw [← hL] at i1 i2 i3
  obtain ⟨c, hc⟩ : ∃ c : Nat, c = 10 - L := ⟨_, rfl⟩
  have H2 : ∀ (z : Int) W, z = c → Calls Tryz.prog 124 #[.string ⟨#[48]⟩, .int .i64 z] W fun e w' => ∃ t : ByteArray, e = .returned (.string t) ∧ Hid (kb t = List.replicate c 48) ∧ Below W.heap.size W w' := fun z W hz => by
    subst hz
    refine (Tryz.strings_Repeat ⟨#[48]⟩ c W (by omega) ?_).mono ?_
    · show 1 * c ≤ _
      omega
    · rintro e w' ⟨rfl, hb⟩
      exact ⟨_, rfl, (rep_list c : kb ⟨(Lib.repeatL [48] c).toArray⟩ = List.replicate c 48), hb⟩
  have HL : Hid (L = (Lib.decDigits n).length) := hL
  have HC : Hid (c = 10 - L) := hc
  have I3 : Hid (List.replicate c 48 ++ (Lib.decDigits n).map (·.toNat) = Na.dig 10 n) := (by rw [hc]; exact i3 : List.replicate c 48 ++ (Lib.decDigits n).map (·.toNat) = Na.dig 10 n)
  have i4 : IntKind.i64.wrap ((10 : Int) - (L : Int)) = (c : Int) := by
    rw [hc, IntKind.wrap_i64]; omega
  have i5 : c ≤ 10 := by omega
  clear hL hc i3
  go_enter Tryz.func106, Tryz.ntmps106
  go_wp2_with (first
    | (go_at_call 124; have := hbel1; go_must (refine (H2 _ _ rfl).mono ?_; rintro e w2 ⟨r, rfl, hr, hbel2⟩; have hb2 := hbel1.trans (hbel2.mono hbel1.size); have hrs : r.size = c := (by rw [← kb_len, hr.out, List.length_replicate])))
    | (go_at_call 123; go_must (refine (H1 _ hT).mono ?_; rintro e w1 ⟨t, rfl, ht, hbel1⟩; have hts : t.size = L := (by rw [← kb_len, ht.out, List.length_map, HL.out]))))
  go_ret
  exact ⟨_, rfl, by rw [kb_app, hr.out, ht.out]; exact I3.out, hb2⟩

set_option maxRecDepth 100000 in
theorem letter_any (k : Int) (h : 3 ≤ k ∧ k ≤ 7) (w : World) :
    Calls Tryz.prog 105 #[.int .i64 k] w fun e w' => ∃ t : ByteArray, e = .returned (.string t) ∧ kb t = [Na.letter k] ∧ w' = w := by
  have : k = 3 ∨ k = 4 ∨ k = 5 ∨ k = 6 ∨ k = 7 := by omega
  rcases this with rfl | rfl | rfl | rfl | rfl
  all_goals
    go_enter Tryz.func105, Tryz.ntmps105
    go_wp2
    go_ret
    exact ⟨_, rfl, by decide, rfl⟩

theorem hasnum_any (k : Int) (b : Bool) (h : b = decide (3 ≤ k ∧ k ≤ 7)) (w : World) :
    Calls Tryz.prog 103 #[.int .i64 k] w fun e w' => e = .returned (.bool b) ∧ w' = w := by
  subst h
  go_enter Tryz.func103, Tryz.ntmps103
  go_wp2
  all_goals
    go_ret
    exact ⟨by first | (simp_all; done) | (simp_all; omega), rfl⟩

theorem counts_any (k : Int) (b : Bool) (h : b = decide (1 ≤ k ∧ k ≤ 2147483647)) (w : World) :
    Calls Tryz.prog 104 #[.int .i64 k] w fun e w' => e = .returned (.bool b) ∧ w' = w := by
  subst h
  go_enter Tryz.func104, Tryz.ntmps104
  go_wp2
  all_goals
    go_ret
    exact ⟨by first | (simp_all; done) | (simp_all; omega), rfl⟩

set_option maxRecDepth 100000 in
set_option maxHeartbeats 1000000 in
/-- no name -/
theorem of_none (k n : Int) (w : World) (h1 : (k == 1) = false ∨ (n == 0) = false) (h2 : (k == 2) = false ∨ (n == 0) = false) (h3 : ¬ (3 ≤ k ∧ k ≤ 7 ∧ 1 ≤ n ∧ n ≤ 2147483647)) :
    Calls Tryz.prog 75 #[.agg #[.int .i64 k, .int .i64 n]] w fun e w' => e = .returned (.tuple #[.string ⟨#[]⟩, .int .i64 1]) ∧ Below w.heap.size w w' := by
  have hb := below_alloc w (.cells #[.int .i64 k, .int .i64 n] 127)
  by_cases hk : 3 ≤ k ∧ k ≤ 7
  · have H1 := hasnum_any k true (by simp [hk])
    have H2 := counts_any n false (by simp; omega)
    have e1 : (k == 1) = false := by simp; omega
    have e2 : (k == 2) = false := by simp; omega
    clear h1 h2 h3 hk
    go_enter Tryz.func75, Tryz.ntmps75
    go_wp2_with (first
      | (go_at_call 103; go_must (refine (H1 _).mono ?_; rintro e w1 ⟨rfl, hw⟩; subst hw))
      | (go_at_call 104; go_must (refine (H2 _).mono ?_; rintro e w1 ⟨rfl, hw⟩; subst hw)))
    go_ret2
    exact ⟨rfl, hb⟩
  · have H1 := hasnum_any k false (by simp; omega)
    clear h3
    rcases h1 with e1 | e1
    · rcases h2 with e2 | e2
      · clear hk
        go_enter Tryz.func75, Tryz.ntmps75
        go_wp2_with (go_at_call 103; go_must (refine (H1 _).mono ?_; rintro e w1 ⟨rfl, hw⟩; subst hw))
        go_ret2
        exact ⟨rfl, hb⟩
      · clear hk
        go_enter Tryz.func75, Tryz.ntmps75
        go_wp2_with (go_at_call 103; go_must (refine (H1 _).mono ?_; rintro e w1 ⟨rfl, hw⟩; subst hw))
        all_goals
          go_ret2
          exact ⟨rfl, hb⟩
    · clear hk h2
      go_enter Tryz.func75, Tryz.ntmps75
      go_wp2_with (go_at_call 103; go_must (refine (H1 _).mono ?_; rintro e w1 ⟨rfl, hw⟩; subst hw))
      all_goals
        go_ret2
        exact ⟨rfl, hb⟩

set_option maxRecDepth 100000 in
set_option maxHeartbeats 1000000 in
theorem of_num (k : Int) (n : Nat) (w : World) (hT : Tab w) (hk : 3 ≤ k ∧ k ≤ 7) (hn : 1 ≤ n ∧ n ≤ 2147483647) :
    Calls Tryz.prog 75 #[.agg #[.int .i64 k, .int .i64 n]] w fun e w' => ∃ s : ByteArray, e = .returned (.tuple #[.string s, .int .i64 0]) ∧ kb s = Na.letter k :: Na.dig 10 n ∧ Below w.heap.size w w' := by
  have H1 := hasnum_any k true (by simp [hk])
  have H2 := counts_any n true (by simp; omega)
  have H3 := letter_any k hk
  have H4 := fun W (h : Tab W) => digits_any n hn.2 W h
  have e1 : (k == 1) = false := by simp; omega
  have e2 : (k == 2) = false := by simp; omega
  clear hk hn
  go_enter Tryz.func75, Tryz.ntmps75
  go_wp2_with (first
    | (go_at_call 103; go_must (refine (H1 _).mono ?_; rintro e w1 ⟨rfl, hw⟩; subst hw))
    | (go_at_call 104; go_must (refine (H2 _).mono ?_; rintro e w1 ⟨rfl, hw⟩; subst hw)))
  have hb0 : Below w.heap.size w (w.alloc (.cells #[.int .i64 k, .int .i64 n] 127)) := below_alloc _ _
  have hc0 : (w.alloc (.cells #[.int .i64 k, .int .i64 n] 127)).cell? ⟨w.heap.size, 0, none⟩ = some (.int .i64 k) := by rw [cell_new]; rfl
  have hc1 : (w.alloc (.cells #[.int .i64 k, .int .i64 n] 127)).cell? ⟨w.heap.size, 1, none⟩ = some (.int .i64 n) := by rw [cell_new]; rfl
  have hT0 := hT.new (.cells #[.int .i64 k, .int .i64 n] 127)
  have hlt : w.heap.size < (w.alloc (.cells #[.int .i64 k, .int .i64 n] 127)).heap.size := by simp
  generalize w.alloc (.cells #[.int .i64 k, .int .i64 n] 127) = w0 at *
  go_region_held3 (fun w' => w'.cell? ⟨w.heap.size, 0, none⟩ = some (.int .i64 k) ∧ w'.cell? ⟨w.heap.size, 1, none⟩ = some (.int .i64 n)) (first | go_keep | (refine ⟨?_, ?_⟩ <;> assumption))
    (first
      | ((go_at_call 105; refine (H3 _).mono ?_; rintro e w1 ⟨t, rfl, ht, hw⟩; subst hw; have hts : t.size = 1 := (by rw [← kb_len, ht]; rfl)))
      | ((go_at_call 106; refine (H4 _ (hT0.keep (Below.refl _ _).drew)).mono ?_; rintro e w2 ⟨r, rfl, hr, hbel2⟩; have hb2 := hb0.trans ((below_of_drew hbel2).mono hb0.size); have hrs : r.size = 10 := (by rw [← kb_len, hr, Na.dig_len]); have k0 := ((below_of_drew hbel2).cell (p := ⟨w.heap.size, 0, none⟩) hlt).trans hc0; have k1 := ((below_of_drew hbel2).cell (p := ⟨w.heap.size, 1, none⟩) hlt).trans hc1)))
  all_goals
    go_wp2
    go_ret2
    exact ⟨_, rfl, by rw [kb_app, hr, ht]; rfl, hb2⟩

theorem nofC : NOfC := by
  intro k n w hk hn hT
  by_cases h1 : k = 1 ∧ n = 0
  · obtain ⟨rfl, rfl⟩ := h1
    refine (show Calls Tryz.prog 75 #[.agg #[.int .i64 1, .int .i64 0]] w fun e w' => e = .returned (.tuple #[.string ⟨#[114, 111, 115, 116, 101, 114]⟩, .int .i64 0]) ∧ Below w.heap.size w w' from ?_).mono ?_
    · go_enter Tryz.func75, Tryz.ntmps75
      go_wp2
      go_ret2
      exact ⟨rfl, below_alloc _ _⟩
    · rintro e w' ⟨rfl, hb⟩
      exact ⟨_, rfl, by decide, hb⟩
  · by_cases h2 : k = 2 ∧ n = 0
    · obtain ⟨rfl, rfl⟩ := h2
      refine (show Calls Tryz.prog 75 #[.agg #[.int .i64 2, .int .i64 0]] w fun e w' => e = .returned (.tuple #[.string ⟨#[114, 111, 115, 116, 101, 114, 46, 110, 101, 119]⟩, .int .i64 0]) ∧ Below w.heap.size w w' from ?_).mono ?_
      · go_enter Tryz.func75, Tryz.ntmps75
        go_wp2
        go_ret2
        exact ⟨rfl, below_alloc _ _⟩
      · rintro e w' ⟨rfl, hb⟩
        exact ⟨_, rfl, by decide, hb⟩
    · by_cases h3 : 3 ≤ k ∧ k ≤ 7 ∧ 1 ≤ n ∧ n ≤ 2147483647
      · obtain ⟨m, rfl⟩ : ∃ m : Nat, n = (m : Int) := ⟨n.toNat, by omega⟩
        refine (of_num k m w hT (by omega) (by omega)).mono ?_
        rintro e w' ⟨s, rfl, hs, hb⟩
        have hm : Na.may (k, (m : Int)) = true := by simp only [Na.may, decide_eq_true_eq]; exact .inr (.inr h3)
        refine ⟨s, by rw [hm]; rfl, ?_, hb⟩
        rw [hs, Na.of_num h3, Int.toNat_natCast]
      · refine (of_none k n w (by simp only [beq_eq_false_iff_ne]; omega) (by simp only [beq_eq_false_iff_ne]; omega) h3).mono ?_
        rintro e w' ⟨rfl, hb⟩
        have hm : Na.may (k, n) = false := by
          simp only [Na.may, decide_eq_false_iff_not, Prod.mk.injEq]
          rintro (h | h | h)
          · exact h1 h
          · exact h2 h
          · exact h3 h
        exact ⟨_, by rw [hm]; rfl, by rw [Na.of_empty.mpr hm]; rfl, hb⟩
end Go.Proofs.YtnoknmnbfkdccaaGreatDoor
