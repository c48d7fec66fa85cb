/- What the program's numberIsCut, bodySize, sumAt and Clone do. -/
import Derived.Test.YtjioipkohnlipaaP1
import Derived.Test.YtjioipkohnlipaaPMath
import Derived.Test.YtjioipkohnlipaaF4
namespace Go.Proofs.Ytjioipkohnlipaa
open Go.RowKit

theorem size_max : Va.size 1048576 = 3 := by decide +kernel
set_option maxRecDepth 100000 in
set_option maxHeartbeats 400000 in
theorem nic_any (a : Option Addr) (len cap : Nat) (bs : List Nat) (w : World) (hr : Row .u8 w a len bs) :
    Calls Try.prog 39 #[.slice a len cap] w fun e w' => e = .returned (.bool (Fr.gapHead bs)) ∧ w' = w := by
  have hlen : Hid (bs.length = len) := hr.1
  have hl63 := hr.2.1
  have hsz : ∀ W, Calls Try.prog 24 #[.int .u64 1048576] W fun e w' => e = .returned (.int .i64 3) ∧ w' = W := fun W => by
    have h := size_any 1048576 W (by omega)
    rw [size_max] at h
    exact h
  by_cases h3 : len < 3
  · go_enter Try.func39, Try.ntmps39
    go_wp2_with (go_at_call 24; refine (hsz _).mono ?_; rintro e w' ⟨rfl, rfl⟩)
    clear hsz
    go_loop [11] (fun i => ∃ k : Nat, k ≤ len ∧ i = .int .i64 k ∧ ∀ j, j < k → 128 ≤ bs.getD j 0) (fun i => len - (intOf i).toNat)
    case atStart => exact ⟨0, by omega, rfl, fun j hj => by omega⟩
    case round =>
      obtain ⟨k, hk, rfl, hh⟩ := hrel
      by_cases hlt : k < len
      · obtain ⟨b, off, rfl, hc⟩ := hr.at (by omega)
        have hcell := hc k hlt
        have hx8 := getD_lt8 hr.2.2.1 k
        clear hc
        by_cases hx : bs.getD k 0 < 128
        · have H : Hid (Fr.gapHead bs = false) := (by rw [gap_iff (k := k) (by rw [hlen.out]; omega) hh (.inr (.inr hx))]; simp; rw [hlen.out]; omega : Fr.gapHead bs = false)
          clear hh hr
          generalize bs.getD k 0 = x at *
          go_wp2
          go_ret
          exact ⟨by rw [H.out]; rfl, rfl⟩
        · have H : Hid (∀ j, j < k + 1 → 128 ≤ bs.getD j 0) := (fun j hj => if e : j = k then by subst e; omega else hh j (by omega) : ∀ j, j < k + 1 → 128 ≤ bs.getD j 0)
          clear hh hr
          generalize bs.getD k 0 = x at *
          go_wp2
          go_round
          case rel => exact ⟨k + 1, by omega, by go_num, H.out⟩
          case measure => simp [intOf]; omega
      · have H : Hid (Fr.gapHead bs = true) := (by rw [gap_iff (k := k) (by rw [hlen.out]; omega) hh (.inl (by rw [hlen.out]; omega))]; simp; rw [hlen.out]; omega : Fr.gapHead bs = true)
        clear hh hr
        go_wp2
        go_ret
        exact ⟨by rw [H.out]; rfl, rfl⟩
  · have H : Hid (Fr.gapHead bs = false) := (by unfold Fr.gapHead; rw [hlen.out, decide_eq_false h3]; rfl : Fr.gapHead bs = false)
    clear hr
    go_enter Try.func39, Try.ntmps39
    go_wp2_with (go_at_call 24; refine (hsz _).mono ?_; rintro e w' ⟨rfl, rfl⟩)
    go_ret
    exact ⟨by rw [H.out]; rfl, rfl⟩

set_option maxRecDepth 100000 in
set_option maxHeartbeats 400000 in
theorem bodysize_any (a : Option Addr) (len cap : Nat) (bs : List Nat) (w : World) (hr : Row .u8 w a len bs) :
    Calls Try.prog 29 #[.slice a len cap] w fun e w' => e = .returned (.tuple #[.int .i64 ((Fr.bsz bs).1 : Nat), .int .i64 ((Fr.bsz bs).2 : Nat)]) ∧ w' = w := by
  have hget := fun W (h : W = w) => get_any a len cap bs W (h ▸ hr)
  have hnic := fun W (h : W = w) => nic_any a len cap bs W (h ▸ hr)
  have hlt := Va.get_lt bs
  have hgg : Hid (Fr.gapHead bs = true → (Va.get bs).2 = 0) := (fun h => by rw [Fr.gap_get h] : Fr.gapHead bs = true → (Va.get bs).2 = 0)
  obtain ⟨R, hR⟩ : ∃ R, R = Fr.bsz bs := ⟨_, rfl⟩
  rw [← hR]
  have HR : Hid (R = Fr.bsz bs) := hR
  clear hR hr
  by_cases h0 : (Va.get bs).2 = 0
  · rw [h0, code_zero] at hget
    by_cases hg : Fr.gapHead bs = true
    · have H : Hid (R = (0, 5)) := (by rw [HR.out]; unfold Fr.bsz; rw [if_pos h0, if_pos hg] : R = (0, 5))
      rw [hg] at hnic
      generalize (Va.get bs).1 = g at *
      go_enter Try.func29, Try.ntmps29
      go_wp2_with (first
        | (go_at_call 38; refine (hget _ rfl).mono ?_; rintro e w' ⟨rfl, rfl⟩)
        | (go_at_call 39; refine (hnic _ rfl).mono ?_; rintro e w' ⟨rfl, rfl⟩))
      go_ret2
      exact ⟨by rw [H.out]; rfl, rfl⟩
    · have H : Hid (R = (0, 2)) := (by rw [HR.out]; unfold Fr.bsz; rw [if_pos h0, if_neg hg] : R = (0, 2))
      rw [show Fr.gapHead bs = false by simpa using hg] at hnic
      generalize (Va.get bs).1 = g at *
      go_enter Try.func29, Try.ntmps29
      go_wp2_with (first
        | (go_at_call 38; refine (hget _ rfl).mono ?_; rintro e w' ⟨rfl, rfl⟩)
        | (go_at_call 39; refine (hnic _ rfl).mono ?_; rintro e w' ⟨rfl, rfl⟩))
      go_ret2
      exact ⟨by rw [H.out]; rfl, rfl⟩
  · have hc : code (Va.get bs).2 = 0 := by unfold code; rw [if_neg h0]
    rw [hc] at hget
    clear hnic hc
    by_cases hbg : 1048576 < (Va.get bs).1
    · have H : Hid (R = (0, 2)) := (by rw [HR.out]; unfold Fr.bsz; rw [if_neg h0, if_pos hbg] : R = (0, 2))
      generalize (Va.get bs).1 = g at *
      generalize (Va.get bs).2 = g2 at *
      clear hgg HR
      go_enter Try.func29, Try.ntmps29
      go_wp2_with (go_at_call 38; refine (hget _ rfl).mono ?_; rintro e w' ⟨rfl, rfl⟩)
      go_ret2
      exact ⟨by rw [H.out]; rfl, rfl⟩
    · have H : Hid (R = ((Va.get bs).1, 0)) := (by rw [HR.out]; unfold Fr.bsz; rw [if_neg h0, if_neg hbg] : R = ((Va.get bs).1, 0))
      generalize (Va.get bs).1 = g at *
      generalize (Va.get bs).2 = g2 at *
      clear hgg HR
      go_enter Try.func29, Try.ntmps29
      go_wp2_with (go_at_call 38; refine (hget _ rfl).mono ?_; rintro e w' ⟨rfl, rfl⟩)
      go_ret2
      exact ⟨by rw [H.out]; rfl, rfl⟩
end Go.Proofs.Ytjioipkohnlipaa
