/- What the program's sizeMayBe, kindMayBe, Head, Size, mayBe, numberIsCut, bodySize, sumAt and Clone do. -/
import Derived.Test.YtjioipkohnlipaaF1
namespace Go.Proofs.Ytjioipkohnlipaa
open Go.RowKit

def smB (z : Int) : Bool := decide (0 ≤ z ∧ z ≤ 1048576)
def kmB (z : Int) : Bool := decide (1 ≤ z ∧ z ≤ 250)

set_option maxRecDepth 100000 in
set_option maxHeartbeats 400000 in
theorem smb_any (z : Int) (w : World) : Calls Try.prog 23 #[.int .i64 z] w fun e w' => e = .returned (.bool (smB z)) ∧ w' = w := by
  by_cases h1 : 0 ≤ z
  · have hm : Hid (smB z = decide (z ≤ 1048576)) := (by unfold smB; simp [h1] : smB z = decide (z ≤ 1048576))
    go_enter Try.func23, Try.ntmps23
    go_wp2
    go_ret
    exact ⟨by rw [hm.out]; rfl, rfl⟩
  · have hm : Hid (smB z = false) := (by unfold smB; simp; omega : smB z = false)
    go_enter Try.func23, Try.ntmps23
    go_wp2
    go_ret
    exact ⟨by rw [hm.out]; rfl, rfl⟩

set_option maxRecDepth 100000 in
set_option maxHeartbeats 400000 in
theorem kmb_any (z : Int) (w : World) : Calls Try.prog 30 #[.int .i64 z] w fun e w' => e = .returned (.bool (kmB z)) ∧ w' = w := by
  by_cases h1 : 1 ≤ z
  · have hm : Hid (kmB z = decide (z ≤ 250)) := (by unfold kmB; simp [h1] : kmB z = decide (z ≤ 250))
    go_enter Try.func30, Try.ntmps30
    go_wp2
    go_ret
    exact ⟨by rw [hm.out]; rfl, rfl⟩
  · have hm : Hid (kmB z = false) := (by unfold kmB; simp; omega : kmB z = false)
    go_enter Try.func30, Try.ntmps30
    go_wp2
    go_ret
    exact ⟨by rw [hm.out]; rfl, rfl⟩

set_option maxRecDepth 100000 in
set_option maxHeartbeats 400000 in
theorem head_in (n : Nat) (w : World) (hn : n ≤ 1048576) : Calls Try.prog 10 #[.int .i64 n] w fun e w' => e = .returned (.int .i64 ((Va.one n).length + 1 : Nat)) ∧ w' = w := by
  have hsm : ∀ W, Calls Try.prog 23 #[.int .i64 n] W fun e w' => e = .returned (.bool true) ∧ w' = W := fun W => by
    have h := smb_any n W
    rwa [show smB n = true by unfold smB; simp; omega] at h
  have hsz : ∀ (W : World) (z : Int), z = (n : Int) → Calls Try.prog 24 #[.int .u64 z] W fun e w' => e = .returned (.int .i64 (Va.size n : Nat)) ∧ w' = W := fun W z hz => hz ▸ size_any n W (by omega)
  have h3 := Fr.one3 hn
  rw [← Va.size_one n (by omega)] at h3 ⊢
  generalize Va.size n = s at *
  go_enter Try.func10, Try.ntmps10
  go_wp2_with (first
    | (go_at_call 23; refine (hsm _).mono ?_; rintro e w' ⟨rfl, rfl⟩)
    | (go_at_call 24; refine (hsz _ _ ?_).mono ?_; omega; rintro e w' ⟨rfl, rfl⟩))
  go_ret
  exact ⟨ret_int (by omega), rfl⟩
set_option maxRecDepth 100000 in
set_option maxHeartbeats 400000 in
theorem head_out (z : Int) (w : World) (hz : ¬ (0 ≤ z ∧ z ≤ 1048576)) : Calls Try.prog 10 #[.int .i64 z] w fun e w' => e = .returned (.int .i64 (0 : Nat)) ∧ w' = w := by
  have hsm : ∀ W, Calls Try.prog 23 #[.int .i64 z] W fun e w' => e = .returned (.bool false) ∧ w' = W := fun W => by
    have h := smb_any z W
    rwa [show smB z = false by unfold smB; simp; omega] at h
  go_enter Try.func10, Try.ntmps10
  go_wp2_with (go_at_call 23; refine (hsm _).mono ?_; rintro e w' ⟨rfl, rfl⟩)
  go_ret
  exact ⟨rfl, rfl⟩
set_option maxRecDepth 100000 in
set_option maxHeartbeats 400000 in
theorem size_in (n : Nat) (w : World) (hn : n ≤ 1048576) : Calls Try.prog 9 #[.int .i64 n] w fun e w' => e = .returned (.int .i64 (Fr.size n : Nat)) ∧ w' = w := by
  have hsm : ∀ W, Calls Try.prog 23 #[.int .i64 n] W fun e w' => e = .returned (.bool true) ∧ w' = W := fun W => by
    have h := smb_any n W
    rwa [show smB n = true by unfold smB; simp; omega] at h
  have hhd := fun W => head_in n W hn
  have h3 := Fr.one3 hn
  have hs : Hid (Fr.size n = (Va.one n).length + 1 + n + 4) := (rfl : Fr.size n = (Va.one n).length + 1 + n + 4)
  generalize (Va.one n).length = o at *
  go_enter Try.func9, Try.ntmps9
  go_wp2_with (first
    | (go_at_call 23; refine (hsm _).mono ?_; rintro e w' ⟨rfl, rfl⟩)
    | (go_at_call 10; refine (hhd _).mono ?_; rintro e w' ⟨rfl, rfl⟩))
  go_ret
  exact ⟨ret_int (by rw [hs.out]; omega), rfl⟩
set_option maxRecDepth 100000 in
set_option maxHeartbeats 400000 in
theorem size_out (z : Int) (w : World) (hz : ¬ (0 ≤ z ∧ z ≤ 1048576)) : Calls Try.prog 9 #[.int .i64 z] w fun e w' => e = .returned (.int .i64 (0 : Nat)) ∧ w' = w := by
  have hsm : ∀ W, Calls Try.prog 23 #[.int .i64 z] W fun e w' => e = .returned (.bool false) ∧ w' = W := fun W => by
    have h := smb_any z W
    rwa [show smB z = false by unfold smB; simp; omega] at h
  go_enter Try.func9, Try.ntmps9
  go_wp2_with (go_at_call 23; refine (hsm _).mono ?_; rintro e w' ⟨rfl, rfl⟩)
  go_ret
  exact ⟨rfl, rfl⟩

set_option maxRecDepth 100000 in
set_option maxHeartbeats 400000 in
theorem maybe_any (k : Int) (a : Option Addr) (n c : Nat) (w : World) (hn : n ≤ 1000000000000000000) :
    Calls Try.prog 25 #[.agg #[.int .i64 k, .slice a n c]] w fun e w' => e = .returned (.bool (mayB k n)) ∧ Below w.heap.size w w' := by
  have hkm := fun W => kmb_any k W
  have hsm : ∀ (W : World) (z : Int), z = (n : Int) → Calls Try.prog 23 #[.int .i64 z] W fun e w' => e = .returned (.bool (smB n)) ∧ w' = W := fun W z hz => hz ▸ smb_any n W
  have hm : Hid (mayB k n = (kmB k && smB n)) := (by unfold mayB kmB smB; rw [Bool.eq_iff_iff]; simp; omega : mayB k n = (kmB k && smB n))
  by_cases hk : kmB k = true
  · rw [hk] at hkm
    have hm2 : Hid (mayB k n = smB n) := (by rw [hm.out, hk, Bool.true_and] : mayB k n = smB n)
    clear hm hk
    generalize smB n = s at *
    go_enter Try.func25, Try.ntmps25
    go_wp2_with (first
      | (go_at_call 30; refine (hkm _).mono ?_; rintro e w' ⟨rfl, rfl⟩)
      | (go_at_call 23; refine (hsm _ _ ?_).mono ?_; rfl; rintro e w' ⟨rfl, rfl⟩))
    go_ret
    exact ⟨by rw [hm2.out]; rfl, (Below.refl _ _).alloc (Nat.le_refl _) _⟩
  · have hk : kmB k = false := by simpa using hk
    rw [hk] at hkm
    have hm2 : Hid (mayB k n = false) := (by rw [hm.out, hk, Bool.false_and] : mayB k n = false)
    clear hm hk
    go_enter Try.func25, Try.ntmps25
    go_wp2_with (go_at_call 30; refine (hkm _).mono ?_; rintro e w' ⟨rfl, rfl⟩)
    go_ret
    exact ⟨by rw [hm2.out]; rfl, (Below.refl _ _).alloc (Nat.le_refl _) _⟩
end Go.Proofs.Ytjioipkohnlipaa
