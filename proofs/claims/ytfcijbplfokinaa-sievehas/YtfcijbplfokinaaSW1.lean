/- The program's own sieves: RotateLeft32 by 17, mask, each. -/
import Derived.Test.YtfcijbplfokinaaSV5
import Derived.Shelf.Abstract
import Derived.BigQuiet
namespace Go.Proofs.Ytfcijbplfokinaa
open Go.RowKit Go.Shelf

theorem Sv.odd_or (e : Nat) : e ||| 1 = Sv.odd e := by
  have h : e = 2 * (e / 2) + e % 2 := by omega
  unfold Sv.odd
  have key : ∀ q : Nat, 2 * q ||| 1 = 2 * q + 1 := fun q => by
    have := Nat.two_pow_add_eq_or_of_lt (i := 1) (b := 1) (by decide) q
    simpa using this.symm
  rcases Nat.mod_two_eq_zero_or_one e with h0 | h0
  · rw [if_pos h0]
    rw [h0, Nat.add_zero] at h
    rw [h]; exact key _
  · rw [if_neg (by omega)]
    rw [h0] at h
    rw [h, ← key, Nat.or_assoc, Nat.or_self]
theorem Sv.rot_or (h : Nat) (hh : h < 4294967296) : h * 131072 % 4294967296 ||| h / 32768 = h * 131072 % 4294967296 + h / 32768 := by
  have e : h * 131072 % 4294967296 = 2 ^ 17 * (h % 32768) := by omega
  rw [e]
  exact (Nat.two_pow_add_eq_or_of_lt (i := 17) (b := h / 32768) (by omega) (h % 32768)).symm

theorem Sv.turnd_lt (h : Nat) (hh : h < 4294967296) : Sv.turnd h < 4294967296 := by
  have e : h * 131072 % 4294967296 = 131072 * (h % 32768) := by omega
  have e2 : h / 32768 < 131072 := by omega
  have e3 : h % 32768 < 32768 := by omega
  have key : ∀ a b, a < 32768 → b < 131072 → Sv.odd (131072 * a + b) < 4294967296 := fun a b ha hb => by
    unfold Sv.odd
    by_cases hp : (131072 * a + b) % 2 = 0
    · rw [if_pos hp]; omega
    · rw [if_neg hp]; omega
  unfold Sv.turnd
  rw [e]
  exact key _ _ e3 e2

set_option maxRecDepth 100000 in
set_option maxHeartbeats 1000000 in
theorem rot_any (h : Nat) (w : World) (hh : h < 4294967296) : Calls Try.prog 25 #[.int .u32 h, .int .i64 17] w fun e w' => e = .returned (.int .u32 ((h * 131072 % 4294967296 + h / 32768 : Nat) : Int)) ∧ w' = w := by
  have k17 : bits BinOp.and IntKind.u64 17 31 = 17 := by decide
  go_enter Try.func25, Try.ntmps25
  go_wp2
  go_ret
  refine ⟨ret_int ?_, rfl⟩
  have := u32_or_nat (h * 131072 % 4294967296) (h / 32768) (by omega) (by omega)
  rw [Sv.rot_or h hh] at this
  rw [← this]
  have e1 : ((h * 131072 % 4294967296 : Nat) : Int) = (h : Int) * 131072 % 4294967296 := by omega
  have e2 : ((h / 32768 : Nat) : Int) = (h : Int) / 32768 := by omega
  rw [e1, e2]
set_option maxRecDepth 100000 in
set_option maxHeartbeats 1000000 in
theorem mask_any (b : Nat) (w : World) (hh : b < 4294967296) : Calls Try.prog 21 #[.int .i64 b] w fun e w' => e = .returned (.int .u8 ((2 ^ (b % 8) : Nat) : Int)) ∧ w' = w := by
  go_enter Try.func21, Try.ntmps21
  go_wp2
  go_ret
  refine ⟨ret_int ?_, rfl⟩
  have h8 : b % 8 < 8 := by omega
  have : (2 : Nat) ^ (b % 8) < 256 := Nat.lt_of_le_of_lt (Nat.pow_le_pow_right (by decide) (by omega : b % 8 ≤ 7)) (by decide)
  have h2 : ((2 : Int) ^ (b % 8)) = ((2 ^ (b % 8) : Nat) : Int) := by push_cast; rfl
  rw [h2]
  generalize (2 : Nat) ^ (b % 8) = m at *
  omega

set_option maxRecDepth 100000 in
set_option maxHeartbeats 2000000 in
/-- a key's bits, one behind the other: what is wanted is done with each, as long as it is true -/
theorem each_any (n : Nat) (s : ByteArray) (w : World) (hn : 1 ≤ n ∧ n ≤ 1048576) (hs : s.size ≤ 1000000) (fid : Nat) (caps : Array Value) (I : Nat → World → Prop) (J : World → Prop)
    (eg : ∀ args w, (callFunc fid args).run Try.prog w = .ok (.enter fid args) w)
    (hI : ∀ k V V', I k V → Below V.heap.size V V' → I k V')
    (hdo : ∀ (k : Nat) (V : World), k < 6 → I k V → Calls Try.prog fid (#[.int .i64 ((Sv.bit n (Sv.sum (kb s)) k : Nat) : Int)] ++ caps) V fun e V' => ∃ b : Bool, e = .returned (.bool b) ∧ (b = true → I (k + 1) V') ∧ (b = false → J V'))
    (h0 : I 0 w) :
    Calls Try.prog 16 #[.int .i64 n, .string s, .func (.func fid) #[] caps] w fun e w' => ∃ b : Bool, e = .returned (.bool b) ∧ (b = true → I 6 w') ∧ (b = false → J w') := by
  obtain ⟨C, cap, hconv, hrow⟩ := conv_row8 s w hs
  have hb0 : Below w.heap.size w (w.alloc (.cells C 5 (C.size, C.size + 1))) := below_alloc _ _
  have hof := fun W (h : Below (w.alloc (.cells C 5 (C.size, C.size + 1))).heap.size (w.alloc (.cells C 5 (C.size, C.size + 1))) W) => of_any _ s.size cap (kb s) W (hrow.below h (Nat.le_refl _))
  have hH : Crc.more 0 (kb s) < 4294967296 := Crc.more_lt (s := 0) (kb s) (by omega) (fun x hx => kb_small s x hx)
  unfold Sv.sum at hdo
  generalize Crc.more 0 (kb s) = H at *
  have hrot := fun W => rot_any H W hH
  have hor : bits .or .u32 (((H * 131072 % 4294967296 + H / 32768 : Nat) : Int)) 1 = ((Sv.turnd H : Nat) : Int) := by
    have := u32_or_nat (H * 131072 % 4294967296 + H / 32768) 1 (by omega) (by omega)
    rw [Sv.odd_or] at this
    exact this
  generalize H * 131072 % 4294967296 + H / 32768 = R at *
  have hD := Sv.turnd_lt H hH
  have Hbit : Hid (∀ k, Sv.bit n H k = (H + k * Sv.turnd H) % 4294967296 % (8 * n)) := (fun k => by rw [Sv.bit] : ∀ k, Sv.bit n H k = (H + k * Sv.turnd H) % 4294967296 % (8 * n))
  generalize Sv.turnd H = D at *
  obtain ⟨M, hM⟩ : ∃ M, M = 8 * n := ⟨_, rfl⟩
  have m1 : (n : Int) * 8 = (M : Int) := by omega
  have m2 : (M : Int) % 4294967296 = (M : Int) := by omega
  rw [← hM] at Hbit
  have d1 : decide ((n : Int) < 1) = false := by simp; omega
  have d2 : decide ((1048576 : Int) < (n : Int)) = false := by simp; omega
  have hM0 : 0 < M := by omega
  have hM8 : M ≤ 8388608 := by omega
  clear hM hn
  go_enter Try.func16, Try.ntmps16
  go_wp2_with (first
    | (go_at_call 25; go_must (refine (hrot _).mono ?_; rintro e w2 ⟨rfl, rfl⟩))
    | (go_at_call 24; go_must (refine (hof _ (Below.refl _ _).drew).mono ?_; rintro e w1 ⟨rfl, rfl⟩)))
  have h0' : I 0 (w.alloc (.cells C 5 (C.size, C.size + 1))).drew := hI 0 w _ h0 hb0.drew
  generalize (w.alloc (.cells C 5 (C.size, C.size + 1))).drew = w2 at *
  clear hconv hrow hof hb0 hrot hor m1 m2 d1 d2 h0
  go_loopw [7, 25] (fun v i wr => ∃ (k P : Nat), k ≤ 6 ∧ i = .int .i64 k ∧ v = .int .u32 P ∧ P < 4294967296 ∧ Hid (P = (H + k * D) % 4294967296) ∧ I k wr) (fun _ i _ => 6 - (intOf i).toNat)
  case atStart => exact ⟨0, H, by omega, rfl, rfl, hH, (by omega : H = (H + 0 * D) % 4294967296), h0'⟩
  case round =>
    obtain ⟨k, P, hk, rfl, rfl, hP, HP, hIk⟩ := hrel
    by_cases hlt : k < 6
    · have hd := hdo k wr hlt hIk
      have HB := Hbit.out k
      rw [← HP.out] at HB
      obtain ⟨B, hB⟩ : ∃ B, B = Sv.bit n H k := ⟨_, rfl⟩
      rw [← hB] at hd HB
      have hBM : B < M := by rw [HB]; exact Nat.mod_lt _ hM0
      have HP2 : Hid ((P + D) % 4294967296 = (H + (k + 1) * D) % 4294967296) := (by
        rw [HP.out, Nat.succ_mul]; omega : (P + D) % 4294967296 = (H + (k + 1) * D) % 4294967296)
      have b1 : (P : Int) % (M : Int) = (B : Int) := by rw [HB]; omega
      have b2 : ((M : Int) == 0) = false := by simp; omega
      have b3 : wrap64 (B : Int) = (B : Int) := by unfold wrap64; omega
      have hB8 : B < 8388608 := by omega
      clear HB hB HP Hbit
      go_wp2_with (go_at_fn fid; go_must (refine hd.mono ?_; rintro e w3 ⟨b, rfl, hT, hF⟩))
      · rename_i hb
        go_ret
        exact ⟨false, rfl, (fun h => by cases h), fun _ => hF (by simpa using hb)⟩
      · rename_i hb
        go_roundw
        case rel => exact ⟨k + 1, (P + D) % 4294967296, by omega, by go_num, val_int (by omega), by omega, HP2, hT (by simpa using hb)⟩
        case measure => simp [intOf]; omega
    · obtain rfl : k = 6 := by omega
      go_wp2
      go_ret
      exact ⟨true, rfl, (fun _ => hIk), (fun h => by cases h)⟩

set_option maxRecDepth 100000 in
set_option maxHeartbeats 1000000 in
theorem each_none (n : Int) (s : ByteArray) (w : World) (hn : ¬ (1 ≤ n ∧ n ≤ 1048576)) (v : Value) :
    Calls Try.prog 16 #[.int .i64 n, .string s, v] w fun e w' => e = .returned (.bool true) ∧ w' = w := by
  by_cases h : n < 1
  · have d1 : decide (n < 1) = true := decide_eq_true h
    go_enter Try.func16, Try.ntmps16
    go_wp2
    go_ret
    exact ⟨rfl, rfl⟩
  · have d1 : decide (n < 1) = false := decide_eq_false h
    have d2 : decide (1048576 < n) = true := decide_eq_true (by omega)
    go_enter Try.func16, Try.ntmps16
    go_wp2
    go_ret
    exact ⟨rfl, rfl⟩
end Go.Proofs.Ytfcijbplfokinaa
