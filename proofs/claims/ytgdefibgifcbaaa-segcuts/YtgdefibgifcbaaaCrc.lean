/- What the sums do: crc.take, More, Of, and the reference's bit, step, run, Of, More. -/
import Derived.Test.YtgdefibgifcbaaaWa
import Derived.Test.YtgdefibgifcbaaaMa
import Derived.Laws.BitsAllLaws
namespace Go.Proofs.Ytgdefibgifcbaaa
open Go.RowKit

theorem lin_walk (r : Nat) (h : r < 4294967296) :
    bits .xor .u32 ((r : Int) / 2) (bits .and .u32 2197175160 (-bits .and .u32 (r : Int) 1 % 4294967296)) = (Crc.lin r : Nat) := by
  have e1 : bits .and .u32 (r : Int) 1 = ((r % 2 : Nat) : Int) := by
    have := u32_and_nat r 1 h (by omega); rw [Nat.and_one_is_mod] at this; exact_mod_cast this
  have e2 : (r : Int) / 2 = ((r / 2 : Nat) : Int) := by omega
  rw [e1, e2]
  unfold Crc.lin
  rcases Nat.mod_two_eq_zero_or_one r with h1 | h1
  · rw [h1, if_neg (by omega)]
    have e3 : (-((0 : Nat) : Int) % 4294967296) = ((0 : Nat) : Int) := by decide
    rw [e3]
    have := u32_and_nat 2197175160 0 (by omega) (by omega)
    rw [show ((2197175160 : Nat) : Int) = 2197175160 from rfl] at this
    rw [this, u32_xor_nat _ _ (by omega) (by decide)]
    simp
  · rw [h1, if_pos rfl]
    have e3 : (-((1 : Nat) : Int) % 4294967296) = ((4294967295 : Nat) : Int) := by decide
    rw [e3]
    have := u32_and_nat 2197175160 4294967295 (by omega) (by omega)
    rw [show ((2197175160 : Nat) : Int) = 2197175160 from rfl, show 2197175160 &&& 4294967295 = 2197175160 by decide +kernel] at this
    rw [this, u32_xor_nat _ _ (by omega) (by omega)]

set_option maxHeartbeats 400000 in
theorem take_any (r x : Nat) (w : World) (hr : r < 4294967296) (hx : x < 256) :
    Calls Try.prog 55 #[.int .u32 r, .int .u8 x] w fun e w' => e = .returned (.int .u32 (Crc.tk r x : Nat)) ∧ w' = w := by
  go_enter Try.func55, Try.ntmps55
  go_wp2
  go_loop [0, 10] (fun t i => ∃ k : Nat, k ≤ 8 ∧ i = .int .i64 k ∧ t = .int .u32 (Crc.lins k (r ^^^ x) : Nat)) (fun _ i => 8 - (intOf i).toNat)
  case atStart => exact ⟨0, by omega, rfl, val_int (u32_xor_nat r x hr (by omega))⟩
  case round =>
    obtain ⟨k, hk, rfl, rfl⟩ := hrel
    have hb := Crc.lins_lt (r := r ^^^ x) k (Crc.xor_lt hr (by omega))
    by_cases hlt : k < 8
    · go_wp2
      go_round
      case rel => exact ⟨k + 1, by omega, by go_num, val_int (lin_walk _ hb)⟩
      case measure => simp [intOf]; omega
    · have hk8 : 8 = k := by omega
      go_wp2
      go_ret
      exact ⟨ret_int (by subst hk8; rfl), rfl⟩

set_option maxHeartbeats 400000 in
theorem bit_any (n i : Nat) (w : World) (hn : n < 4294967296) (hi : i ≤ 8) :
    Calls Try.prog 51 #[.int .u32 n, .int .i64 i] w fun e w' => e = .returned (.int .i64 (Crc.bt n i : Nat)) ∧ w' = w := by
  go_enter Try.func51, Try.ntmps51
  go_wp2
  go_loop [0, 5] (fun t j => ∃ k : Nat, k ≤ i ∧ j = .int .i64 k ∧ t = .int .u32 (n / 2 ^ k : Nat)) (fun _ j => i - (intOf j).toNat)
  case atStart => exact ⟨0, by omega, rfl, val_int (by simp)⟩
  case round =>
    obtain ⟨k, hk, rfl, rfl⟩ := hrel
    obtain ⟨m, hm⟩ : ∃ m, m = n / 2 ^ k := ⟨_, rfl⟩
    have hmb : m < 4294967296 := by rw [hm]; exact Nat.lt_of_le_of_lt (Nat.div_le_self _ _) hn
    rw [← hm]
    have HM : Hid (m = n / 2 ^ k) := hm
    clear hm
    by_cases hlt : k < i
    · go_wp2
      go_round
      case rel => exact ⟨k + 1, by omega, by go_num, val_int (by rw [← Crc.div_pow_succ, ← HM.out]; omega)⟩
      case measure => simp [intOf]; omega
    · have hki : Hid (k = i) := (by omega : k = i)
      go_wp2
      go_ret
      exact ⟨ret_int (by unfold Crc.bt; rw [← hki.out, ← HM.out]; omega), rfl⟩

set_option maxHeartbeats 400000 in
theorem step_any (r b : Nat) (w : World) (hr : r < 4294967296) (hb : b < 2) :
    Calls Try.prog 50 #[.int .u32 r, .int .i64 b] w fun e w' => e = .returned (.int .u32 (Crc.stp r b : Nat)) ∧ w' = w := by
  have hb0 := bit_any r 0 w hr (by omega)
  rw [show Crc.bt r 0 = r % 2 by simp [Crc.bt]] at hb0
  by_cases h : r % 2 = b
  · go_enter Try.func50, Try.ntmps50
    go_wp2_with (go_at_call 51; refine hb0.mono ?_; rintro e w' ⟨rfl, rfl⟩)
    go_ret
    exact ⟨ret_int (by unfold Crc.stp; rw [if_neg (by omega)]; omega), rfl⟩
  · go_enter Try.func50, Try.ntmps50
    go_wp2_with (go_at_call 51; refine hb0.mono ?_; rintro e w' ⟨rfl, rfl⟩)
    go_ret
    exact ⟨ret_int (by
      unfold Crc.stp; rw [if_pos h]
      have := u32_xor_nat (r / 2) 2197175160 (by omega) (by omega)
      rw [← this]; rfl), rfl⟩

theorem not_walk (s : Nat) (h : s < 4294967296) : bits .xor .u32 IntKind.u32.max (s : Int) = ((s ^^^ 4294967295 : Nat) : Int) := by
  have := u32_xor_nat 4294967295 s (by omega) h
  rw [Nat.xor_comm] at this
  rw [← this]; rfl
theorem run_hid (q : Nat) (bs : List Nat) (k : Nat) (h : k < bs.length) : Crc.run q (bs.take (k + 1)) = Crc.tk (Crc.run q (bs.take k)) (bs.getD k 0) := by
  rw [Va.take_snoc bs k h, Crc.run_snoc]

set_option maxHeartbeats 400000 in
theorem more_any (s : Nat) (a : Option Addr) (len cap : Nat) (bs : List Nat) (w : World) (hs : s < 4294967296) (hrow : Row .u8 w a len bs) :
    Calls Try.prog 48 #[.int .u32 s, .slice a len cap] w fun e w' => e = .returned (.int .u32 (Crc.more s bs : Nat)) ∧ w' = w := by
  obtain ⟨hlen, hbig, hsm, hcells⟩ := hrow
  rcases hcells with h0 | ⟨b, off, rfl, hc⟩
  · subst h0
    obtain rfl : bs = [] := List.length_eq_zero_iff.mp hlen
    go_enter Try.func48, Try.ntmps48
    go_wp2
    go_loop [5, 12] (fun t i => i = .int .i64 (0 : Nat) ∧ t = .int .u32 (s ^^^ 4294967295 : Nat)) (fun _ i => 0)
    case atStart => exact ⟨rfl, val_int (not_walk s hs)⟩
    case round =>
      obtain ⟨rfl, rfl⟩ := hrel
      have hb := Crc.xor_lt hs (show 4294967295 < 4294967296 by omega)
      go_wp2
      go_ret
      exact ⟨ret_int (not_walk _ hb), rfl⟩
  · go_enter Try.func48, Try.ntmps48
    go_wp2
    go_loop [5, 12] (fun t i => ∃ k : Nat, k ≤ len ∧ i = .int .i64 k ∧ t = .int .u32 (Crc.run (s ^^^ 4294967295) (bs.take k) : Nat)) (fun _ i => len - (intOf i).toNat)
    case atStart => exact ⟨0, by omega, rfl, val_int (not_walk s hs)⟩
    case round =>
      obtain ⟨k, hk, rfl, rfl⟩ := hrel
      have hb := Crc.run_lt (r := s ^^^ 4294967295) (bs.take k) (Crc.xor_lt hs (by omega)) (take_small hsm k)
      by_cases hlt : k < len
      · have hcell := hc k hlt
        have hg := getD_lt8 hsm k
        have H1 : Hid (Crc.run (s ^^^ 4294967295) (bs.take (k + 1)) = Crc.tk (Crc.run (s ^^^ 4294967295) (bs.take k)) (bs.getD k 0)) := run_hid _ bs k (by omega)
        generalize Crc.run (s ^^^ 4294967295) (bs.take k) = q at *
        generalize bs.getD k 0 = x at *
        clear hc
        go_wp2_with (go_at_call 55; refine (take_any _ _ _ (by omega) (by omega)).mono ?_; rintro e w' ⟨rfl, rfl⟩)
        go_round
        case rel => exact ⟨k + 1, by omega, by go_num, by rw [H1.out]⟩
        case measure => simp [intOf]; omega
      · have hkl : Hid (k = bs.length) := (by omega : k = bs.length)
        go_wp2
        go_ret
        exact ⟨ret_int (by rw [not_walk _ hb, hkl.out, List.take_length]; rfl), rfl⟩

set_option maxHeartbeats 400000 in
theorem of_any (a : Option Addr) (len cap : Nat) (bs : List Nat) (w : World) (hrow : Row .u8 w a len bs) :
    Calls Try.prog 38 #[.slice a len cap] w fun e w' => e = .returned (.int .u32 (Crc.more 0 bs : Nat)) ∧ w' = w := by
  have hm := more_any 0 a len cap bs w (by omega) hrow
  go_enter Try.func38, Try.ntmps38
  go_wp2_with (go_at_call 48; refine hm.mono ?_; rintro e w' ⟨rfl, rfl⟩)
  go_ret
  exact ⟨rfl, rfl⟩

set_option maxHeartbeats 800000 in
theorem run_any (r : Nat) (a : Option Addr) (len cap : Nat) (bs : List Nat) (w : World) (hs : r < 4294967296) (hrow : Row .u8 w a len bs) :
    Calls Try.prog 41 #[.int .u32 r, .slice a len cap] w fun e w' => e = .returned (.int .u32 (Crc.run r bs : Nat)) ∧ w' = w := by
  obtain ⟨hlen, hbig, hsm, hcells⟩ := hrow
  rcases hcells with h0 | ⟨b, off, rfl, hc⟩
  · subst h0
    obtain rfl : bs = [] := List.length_eq_zero_iff.mp hlen
    go_enter Try.func41, Try.ntmps41
    go_wp2
    go_loop [0, 5] (fun t i => i = .int .i64 (0 : Nat) ∧ t = .int .u32 r) (fun _ i => 0)
    case atStart => exact ⟨rfl, rfl⟩
    case round =>
      obtain ⟨rfl, rfl⟩ := hrel
      go_wp2
      go_ret
      exact ⟨rfl, rfl⟩
  · go_enter Try.func41, Try.ntmps41
    go_wp2
    go_loop [0, 5] (fun t i => ∃ k : Nat, k ≤ len ∧ i = .int .i64 k ∧ t = .int .u32 (Crc.run r (bs.take k) : Nat)) (fun _ i => len - (intOf i).toNat)
    case atStart => exact ⟨0, by omega, rfl, rfl⟩
    case round =>
      obtain ⟨k, hk, rfl, rfl⟩ := hrel
      have hb := Crc.run_lt (r := r) (bs.take k) hs (take_small hsm k)
      by_cases hlt : k < len
      · have hcell := hc k hlt
        have hg := getD_lt8 hsm k
        have H1 : Hid (Crc.run r (bs.take (k + 1)) = Crc.tk (Crc.run r (bs.take k)) (bs.getD k 0)) := run_hid _ bs k (by omega)
        generalize Crc.run r (bs.take k) = q at *
        generalize bs.getD k 0 = x at *
        have H2 : Hid (Crc.tk q x = Crc.stps 8 q x) := Crc.tk_stps q x hg
        clear hc
        go_wp2
        go_loop [0, 6] (fun t i => ∃ j : Nat, j ≤ 8 ∧ i = .int .i64 j ∧ t = .int .u32 (Crc.stps j q x : Nat)) (fun _ i => 8 - (intOf i).toNat)
        case atStart => exact ⟨0, by omega, rfl, rfl⟩
        case round =>
          obtain ⟨j, hj, rfl, rfl⟩ := hrel
          have hb2 := Crc.stps_lt j x hb
          have hbt := Crc.bt_lt x j
          by_cases hjt : j < 8
          · have H3 : Hid (Crc.stps (j + 1) q x = Crc.stp (Crc.stps j q x) (Crc.bt x j)) := (rfl : Crc.stps (j + 1) q x = _)
            generalize Crc.stps j q x = q2 at *
            go_wp2_with (first | (go_at_call 51; refine (bit_any _ _ _ (by omega) (by omega)).mono ?_; rintro e w' ⟨rfl, rfl⟩) | (go_at_call 50; refine (step_any _ _ _ (by omega) (by omega)).mono ?_; rintro e w' ⟨rfl, rfl⟩))
            go_round
            case rel => exact ⟨j + 1, by omega, by go_num, by rw [H3.out]⟩
            case measure => simp [intOf]; omega
          · have hk8 : Hid (j = 8) := (by omega : j = 8)
            go_wp2
            go_round
            case rel => exact ⟨k + 1, by omega, by go_num, by rw [H1.out, H2.out, hk8.out]⟩
            case measure => simp [intOf]; omega
      · have hkl : Hid (k = bs.length) := (by omega : k = bs.length)
        go_wp2
        go_ret
        exact ⟨ret_int (by rw [hkl.out, List.take_length]), rfl⟩

set_option maxHeartbeats 400000 in
theorem refof_any (a : Option Addr) (len cap : Nat) (bs : List Nat) (w : World) (hrow : Row .u8 w a len bs) :
    Calls Try.prog 26 #[.slice a len cap] w fun e w' => e = .returned (.int .u32 (Crc.more 0 bs : Nat)) ∧ w' = w := by
  have hm := run_any 4294967295 a len cap bs w (by omega) hrow
  have hb := Crc.run_lt (r := 4294967295) bs (by omega) hrow.2.2.1
  go_enter Try.func26, Try.ntmps26
  go_wp2_with (go_at_call 41; refine hm.mono ?_; rintro e w' ⟨rfl, rfl⟩)
  go_ret
  exact ⟨ret_int (by
    have := u32_xor_nat 4294967295 _ (by omega) hb
    unfold Crc.more; rw [Nat.xor_comm, show 0 ^^^ 4294967295 = 4294967295 by decide +kernel, ← this]; rfl), rfl⟩

end Go.Proofs.Ytgdefibgifcbaaa
