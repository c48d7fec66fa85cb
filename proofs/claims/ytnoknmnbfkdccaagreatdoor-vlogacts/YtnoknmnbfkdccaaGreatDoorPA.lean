/- What the program's sizeMayBe, kindMayBe, Head, Size, mayBe, numberIsCut, bodySize, sumAt and Clone do. -/
import Derived.Test.YtnoknmnbfkdccaaGreatDoorFB
import Derived.Test.YtnoknmnbfkdccaaGreatDoorMa
import Derived.Test.YtnoknmnbfkdccaaGreatDoorBQ
import Derived.BigQuiet
import Derived.Deep.QuietTactic
namespace Go.Proofs.YtnoknmnbfkdccaaGreatDoor
open Go.RowKit

def smB (z : Int) : Bool := decide (0 ≤ z ∧ z ≤ 1048576)
def kmB (z : Int) : Bool := decide (1 ≤ z ∧ z ≤ 250)

set_option maxRecDepth 100000 in
set_option maxHeartbeats 400000 in
theorem smb_any (z : Int) (w : World) : Calls Tryz.prog 101 #[.int .i64 z] w fun e w' => e = .returned (.bool (smB z)) ∧ w' = w := by
  by_cases h1 : 0 ≤ z
  · have hm : Hid (smB z = decide (z ≤ 1048576)) := (by unfold smB; simp [h1] : smB z = decide (z ≤ 1048576))
    go_enter Tryz.func101, Tryz.ntmps101
    go_wp2
    go_ret
    exact ⟨by rw [hm.out]; rfl, rfl⟩
  · have hm : Hid (smB z = false) := (by unfold smB; simp; omega : smB z = false)
    go_enter Tryz.func101, Tryz.ntmps101
    go_wp2
    go_ret
    exact ⟨by rw [hm.out]; rfl, rfl⟩

set_option maxRecDepth 100000 in
set_option maxHeartbeats 400000 in
theorem kmb_any (z : Int) (w : World) : Calls Tryz.prog 113 #[.int .i64 z] w fun e w' => e = .returned (.bool (kmB z)) ∧ w' = w := by
  by_cases h1 : 1 ≤ z
  · have hm : Hid (kmB z = decide (z ≤ 250)) := (by unfold kmB; simp [h1] : kmB z = decide (z ≤ 250))
    go_enter Tryz.func113, Tryz.ntmps113
    go_wp2
    go_ret
    exact ⟨by rw [hm.out]; rfl, rfl⟩
  · have hm : Hid (kmB z = false) := (by unfold kmB; simp; omega : kmB z = false)
    go_enter Tryz.func113, Tryz.ntmps113
    go_wp2
    go_ret
    exact ⟨by rw [hm.out]; rfl, rfl⟩

set_option maxRecDepth 100000 in
set_option maxHeartbeats 400000 in
theorem head_in (n : Nat) (w : World) (hn : n ≤ 1048576) : Calls Tryz.prog 69 #[.int .i64 n] w fun e w' => e = .returned (.int .i64 ((Va.one n).length + 1 : Nat)) ∧ w' = w := by
  have hsm : ∀ W, Calls Tryz.prog 101 #[.int .i64 n] W fun e w' => e = .returned (.bool true) ∧ w' = W := fun W => by
    have h := smb_any n W
    rwa [show smB n = true by unfold smB; simp; omega] at h
  have hsz : ∀ (W : World) (z : Int), z = (n : Int) → Calls Tryz.prog 102 #[.int .u64 z] W fun e w' => e = .returned (.int .i64 (Va.size n : Nat)) ∧ w' = W := fun W z hz => hz ▸ size_any n W (by omega)
  have h3 := Fr.one3 hn
  rw [← Va.size_one n (by omega)] at h3 ⊢
  generalize Va.size n = s at *
  go_enter Tryz.func69, Tryz.ntmps69
  go_wp2_with (first
    | (go_at_call 101; refine (hsm _).mono ?_; rintro e w' ⟨rfl, rfl⟩)
    | (go_at_call 102; refine (hsz _ _ ?_).mono ?_; omega; rintro e w' ⟨rfl, rfl⟩))
  go_ret
  exact ⟨ret_int (by omega), rfl⟩
set_option maxRecDepth 100000 in
set_option maxHeartbeats 400000 in
theorem size_in (n : Nat) (w : World) (hn : n ≤ 1048576) : Calls Tryz.prog 98 #[.int .i64 n] w fun e w' => e = .returned (.int .i64 (Fr.size n : Nat)) ∧ w' = w := by
  have hsm : ∀ W, Calls Tryz.prog 101 #[.int .i64 n] W fun e w' => e = .returned (.bool true) ∧ w' = W := fun W => by
    have h := smb_any n W
    rwa [show smB n = true by unfold smB; simp; omega] at h
  have hhd := fun W => head_in n W hn
  have h3 := Fr.one3 hn
  have hs : Hid (Fr.size n = (Va.one n).length + 1 + n + 4) := (rfl : Fr.size n = (Va.one n).length + 1 + n + 4)
  generalize (Va.one n).length = o at *
  go_enter Tryz.func98, Tryz.ntmps98
  go_wp2_with (first
    | (go_at_call 101; refine (hsm _).mono ?_; rintro e w' ⟨rfl, rfl⟩)
    | (go_at_call 69; refine (hhd _).mono ?_; rintro e w' ⟨rfl, rfl⟩))
  go_ret
  exact ⟨ret_int (by rw [hs.out]; omega), rfl⟩
set_option maxRecDepth 100000 in
set_option maxHeartbeats 400000 in
theorem maybe_any (k : Int) (a : Option Addr) (n c : Nat) (w : World) (hn : n ≤ 1000000000000000000) :
    Calls Tryz.prog 97 #[.agg #[.int .i64 k, .slice a n c]] w fun e w' => e = .returned (.bool (mayB k n)) ∧ Below w.heap.size w w' := by
  have hkm := fun W => kmb_any k W
  have hsm : ∀ (W : World) (z : Int), z = (n : Int) → Calls Tryz.prog 101 #[.int .i64 z] W fun e w' => e = .returned (.bool (smB n)) ∧ w' = W := fun W z hz => hz ▸ smb_any n W
  have hm : Hid (mayB k n = (kmB k && smB n)) := (by unfold mayB kmB smB; rw [Bool.eq_iff_iff]; simp; omega : mayB k n = (kmB k && smB n))
  by_cases hk : kmB k = true
  · rw [hk] at hkm
    have hm2 : Hid (mayB k n = smB n) := (by rw [hm.out, hk, Bool.true_and] : mayB k n = smB n)
    clear hm hk
    generalize smB n = s at *
    go_enter Tryz.func97, Tryz.ntmps97
    go_wp2_with (first
      | (go_at_call 113; refine (hkm _).mono ?_; rintro e w' ⟨rfl, rfl⟩)
      | (go_at_call 101; refine (hsm _ _ ?_).mono ?_; rfl; rintro e w' ⟨rfl, rfl⟩))
    go_ret
    exact ⟨by rw [hm2.out]; rfl, (Below.refl _ _).alloc (Nat.le_refl _) _⟩
  · have hk : kmB k = false := by simpa using hk
    rw [hk] at hkm
    have hm2 : Hid (mayB k n = false) := (by rw [hm.out, hk, Bool.false_and] : mayB k n = false)
    clear hm hk
    go_enter Tryz.func97, Tryz.ntmps97
    go_wp2_with (go_at_call 113; refine (hkm _).mono ?_; rintro e w' ⟨rfl, rfl⟩)
    go_ret
    exact ⟨by rw [hm2.out]; rfl, (Below.refl _ _).alloc (Nat.le_refl _) _⟩
end Go.Proofs.YtnoknmnbfkdccaaGreatDoor

/- What the program's numberIsCut, bodySize, sumAt and Clone do. -/
namespace Go.Proofs.YtnoknmnbfkdccaaGreatDoor
open Go.RowKit

theorem size_max : Va.size 1048576 = 3 := by decide +kernel
set_option maxRecDepth 100000 in
set_option maxHeartbeats 400000 in
theorem nic_any (a : Option Addr) (len cap : Nat) (bs : List Nat) (w : World) (hr : Row .u8 w a len bs) :
    Calls Tryz.prog 130 #[.slice a len cap] w fun e w' => e = .returned (.bool (Fr.gapHead bs)) ∧ w' = w := by
  have hlen : Hid (bs.length = len) := hr.1
  have hl63 := hr.2.1
  have hsz : ∀ W, Calls Tryz.prog 102 #[.int .u64 1048576] W fun e w' => e = .returned (.int .i64 3) ∧ w' = W := fun W => by
    have h := size_any 1048576 W (by omega)
    rw [size_max] at h
    exact h
  by_cases h3 : len < 3
  · go_enter Tryz.func130, Tryz.ntmps130
    go_wp2_with (go_at_call 102; refine (hsz _).mono ?_; rintro e w' ⟨rfl, rfl⟩)
    clear hsz
    go_loop [11] (fun i => ∃ k : Nat, k ≤ len ∧ i = .int .i64 k ∧ ∀ j, j < k → 128 ≤ bs.getD j 0) (fun i => len - (intOf i).toNat)
    case atStart => exact ⟨0, by omega, rfl, fun j hj => by omega⟩
    case round =>
      obtain ⟨k, hk, rfl, hh⟩ := hrel
      by_cases hlt : k < len
      · obtain ⟨b, off, rfl, hc⟩ := hr.at (by omega)
        have hcell := hc k hlt
        have hx8 := getD_lt8 hr.2.2.1 k
        clear hc
        by_cases hx : bs.getD k 0 < 128
        · have H : Hid (Fr.gapHead bs = false) := (by rw [gap_iff (k := k) (by rw [hlen.out]; omega) hh (.inr (.inr hx))]; simp; rw [hlen.out]; omega : Fr.gapHead bs = false)
          clear hh hr
          generalize bs.getD k 0 = x at *
          go_wp2
          go_ret
          exact ⟨by rw [H.out]; rfl, rfl⟩
        · have H : Hid (∀ j, j < k + 1 → 128 ≤ bs.getD j 0) := (fun j hj => if e : j = k then by subst e; omega else hh j (by omega) : ∀ j, j < k + 1 → 128 ≤ bs.getD j 0)
          clear hh hr
          generalize bs.getD k 0 = x at *
          go_wp2
          go_round
          case rel => exact ⟨k + 1, by omega, by go_num, H.out⟩
          case measure => simp [intOf]; omega
      · have H : Hid (Fr.gapHead bs = true) := (by rw [gap_iff (k := k) (by rw [hlen.out]; omega) hh (.inl (by rw [hlen.out]; omega))]; simp; rw [hlen.out]; omega : Fr.gapHead bs = true)
        clear hh hr
        go_wp2
        go_ret
        exact ⟨by rw [H.out]; rfl, rfl⟩
  · have H : Hid (Fr.gapHead bs = false) := (by unfold Fr.gapHead; rw [hlen.out, decide_eq_false h3]; rfl : Fr.gapHead bs = false)
    clear hr
    go_enter Tryz.func130, Tryz.ntmps130
    go_wp2_with (go_at_call 102; refine (hsz _).mono ?_; rintro e w' ⟨rfl, rfl⟩)
    go_ret
    exact ⟨by rw [H.out]; rfl, rfl⟩

set_option maxRecDepth 100000 in
set_option maxHeartbeats 400000 in
theorem bodysize_any (a : Option Addr) (len cap : Nat) (bs : List Nat) (w : World) (hr : Row .u8 w a len bs) :
    Calls Tryz.prog 112 #[.slice a len cap] w fun e w' => e = .returned (.tuple #[.int .i64 ((Fr.bsz bs).1 : Nat), .int .i64 ((Fr.bsz bs).2 : Nat)]) ∧ w' = w := by
  have hget := fun W (h : W = w) => get_any a len cap bs W (h ▸ hr)
  have hnic := fun W (h : W = w) => nic_any a len cap bs W (h ▸ hr)
  have hlt := Va.get_lt bs
  have hgg : Hid (Fr.gapHead bs = true → (Va.get bs).2 = 0) := (fun h => by rw [Fr.gap_get h] : Fr.gapHead bs = true → (Va.get bs).2 = 0)
  obtain ⟨R, hR⟩ : ∃ R, R = Fr.bsz bs := ⟨_, rfl⟩
  rw [← hR]
  have HR : Hid (R = Fr.bsz bs) := hR
  clear hR hr
  by_cases h0 : (Va.get bs).2 = 0
  · rw [h0, code_zero] at hget
    by_cases hg : Fr.gapHead bs = true
    · have H : Hid (R = (0, 5)) := (by rw [HR.out]; unfold Fr.bsz; rw [if_pos h0, if_pos hg] : R = (0, 5))
      rw [hg] at hnic
      generalize (Va.get bs).1 = g at *
      go_enter Tryz.func112, Tryz.ntmps112
      go_wp2_with (first
        | (go_at_call 129; refine (hget _ rfl).mono ?_; rintro e w' ⟨rfl, rfl⟩)
        | (go_at_call 130; refine (hnic _ rfl).mono ?_; rintro e w' ⟨rfl, rfl⟩))
      go_ret2
      exact ⟨by rw [H.out]; rfl, rfl⟩
    · have H : Hid (R = (0, 2)) := (by rw [HR.out]; unfold Fr.bsz; rw [if_pos h0, if_neg hg] : R = (0, 2))
      rw [show Fr.gapHead bs = false by simpa using hg] at hnic
      generalize (Va.get bs).1 = g at *
      go_enter Tryz.func112, Tryz.ntmps112
      go_wp2_with (first
        | (go_at_call 129; refine (hget _ rfl).mono ?_; rintro e w' ⟨rfl, rfl⟩)
        | (go_at_call 130; refine (hnic _ rfl).mono ?_; rintro e w' ⟨rfl, rfl⟩))
      go_ret2
      exact ⟨by rw [H.out]; rfl, rfl⟩
  · have hc : code (Va.get bs).2 = 0 := by unfold code; rw [if_neg h0]
    rw [hc] at hget
    clear hnic hc
    by_cases hbg : 1048576 < (Va.get bs).1
    · have H : Hid (R = (0, 2)) := (by rw [HR.out]; unfold Fr.bsz; rw [if_neg h0, if_pos hbg] : R = (0, 2))
      generalize (Va.get bs).1 = g at *
      generalize (Va.get bs).2 = g2 at *
      clear hgg HR
      go_enter Tryz.func112, Tryz.ntmps112
      go_wp2_with (go_at_call 129; refine (hget _ rfl).mono ?_; rintro e w' ⟨rfl, rfl⟩)
      go_ret2
      exact ⟨by rw [H.out]; rfl, rfl⟩
    · have H : Hid (R = ((Va.get bs).1, 0)) := (by rw [HR.out]; unfold Fr.bsz; rw [if_neg h0, if_neg hbg] : R = ((Va.get bs).1, 0))
      generalize (Va.get bs).1 = g at *
      generalize (Va.get bs).2 = g2 at *
      clear hgg HR
      go_enter Tryz.func112, Tryz.ntmps112
      go_wp2_with (go_at_call 129; refine (hget _ rfl).mono ?_; rintro e w' ⟨rfl, rfl⟩)
      go_ret2
      exact ⟨by rw [H.out]; rfl, rfl⟩
end Go.Proofs.YtnoknmnbfkdccaaGreatDoor

/- What the program's sumAt and Clone do. -/
namespace Go.Proofs.YtnoknmnbfkdccaaGreatDoor
open Go.RowKit

set_option maxRecDepth 100000 in
set_option maxHeartbeats 400000 in
theorem sumat_any (a : Option Addr) (cap : Nat) (bs : List Nat) (w : World) (hr : Row .u8 w a 4 bs) :
    Calls Tryz.prog 114 #[.slice a 4 cap] w fun e w' => e = .returned (.int .u32 (Fr.val4 bs : Nat)) ∧ w' = w := by
  obtain ⟨b, off, rfl, hc⟩ := hr.at (by omega)
  go_enter Tryz.func114, Tryz.ntmps114
  go_wp2
  go_loop [3, 8] (fun t i => ∃ k n : Nat, k ≤ 4 ∧ i = .int .i64 k ∧ t = .int .u32 n ∧ n < 256 ^ k ∧ Hid (n = vk bs k)) (fun _ i => 4 - (intOf i).toNat)
  case atStart => exact ⟨0, 0, by omega, rfl, rfl, by omega, (rfl : 0 = vk bs 0)⟩
  case round =>
    obtain ⟨k, n, hk, rfl, rfl, hn, Hn⟩ := hrel
    by_cases hlt : k < 4
    · have hcell := hc k hlt
      have hx8 := getD_lt8 hr.2.2.1 k
      have H : Hid (n + 256 ^ k * bs.getD k 0 = vk bs (k + 1)) := (by rw [Hn.out]; rfl : n + 256 ^ k * bs.getD k 0 = vk bs (k + 1))
      clear hc hr Hn
      generalize bs.getD k 0 = x at *
      have hk4 : k = 0 ∨ k = 1 ∨ k = 2 ∨ k = 3 := by omega
      rcases hk4 with rfl | rfl | rfl | rfl
      · rw [Nat.add_zero] at hcell
        go_wp2
        go_round
        case rel => exact ⟨1, n + 256 ^ 0 * x, by omega, by go_num, val_int (by have := or32 n x 0 1 rfl (by omega) (by omega) (by omega); simpa using this), by omega, H⟩
        case measure => simp [intOf]
      · go_wp2
        go_round
        case rel => exact ⟨2, n + 256 ^ 1 * x, by omega, by go_num, val_int (by have := or32 n x 8 256 rfl (by omega) (by omega) (by omega); exact this), by omega, H⟩
        case measure => simp [intOf]
      · go_wp2
        go_round
        case rel => exact ⟨3, n + 256 ^ 2 * x, by omega, by go_num, val_int (by have := or32 n x 16 65536 rfl (by omega) (by omega) (by omega); exact this), by omega, H⟩
        case measure => simp [intOf]
      · go_wp2
        go_round
        case rel => exact ⟨4, n + 256 ^ 3 * x, by omega, by go_num, val_int (by have := or32 n x 24 16777216 rfl (by omega) (by omega) (by omega); exact this), by omega, H⟩
        case measure => simp [intOf]
    · obtain rfl : k = 4 := by omega
      have H : Hid (n = Fr.val4 bs) := (by rw [Hn.out, vk4] : n = Fr.val4 bs)
      clear Hn hc hr
      go_wp2
      go_ret
      exact ⟨ret_int (by rw [H.out]), rfl⟩

set_option maxRecDepth 100000 in
set_option maxHeartbeats 400000 in
theorem clone_any (p : Addr) (len cap : Nat) (bs : List Nat) (w : World) (hlen : len ≤ 1000000) (hr : Row .u8 w (some p) len bs) :
    Calls Tryz.prog 115 #[.slice (some p) len cap] w (Made .u8 5 w bs) := by
  have hl : Hid (bs.length = len) := hr.1
  have hr2 := hr.below (below_alloc w (.cells #[] 5)) (Nat.le_refl _)
  go_enter Tryz.func115, Tryz.ntmps115
  go_wp2_with fail
  rw [Lib.run_eql_slice_nil _ 39 5 (some p) len cap 0 0 Tryz.underlying39]
  go_wp2_with (at_builtin; refine append_u8 (w0 := w) (B := w.heap.size) rfl (.tmp 5) (.tmp 6) rfl _ 0 [] rfl (made_at w 5 w.heap.size rfl (Nat.le_refl _)) (some p) len cap bs rfl hr2 (fun h => by cases h) (by omega) (below_alloc _ _) (by simp) ?_; intro A C w2 hown2 hbel2 hsz2)
  rw [Nat.zero_add, List.nil_append] at hown2
  go_ret
  exact ⟨A, C, by rw [hl.out]; rfl, by rw [hl.out]; exact hown2, hbel2⟩
end Go.Proofs.YtnoknmnbfkdccaaGreatDoor

/- What the program's First does. -/
namespace Go.Proofs.YtnoknmnbfkdccaaGreatDoor
open Go.RowKit

set_option maxRecDepth 100000 in
set_option maxHeartbeats 1000000 in
theorem first_any (a : Option Addr) (len cap : Nat) (bs : List Nat) (w : World) (hcap : len ≤ cap) (hbig : len ≤ 100000) (hr : Row .u8 w a len bs) :
    Calls Tryz.prog 88 #[.slice a len cap] w (FirstRes w (Fr.first bs)) := by
  have hlen : Hid (bs.length = len) := hr.1
  have hs8 := hr.2.2.1
  obtain ⟨R, hR⟩ : ∃ R, R = Fr.first bs := ⟨_, rfl⟩
  rw [← hR]
  have HR : Hid (R = Fr.first bs) := hR
  clear hR
  have hb0 : Below w.heap.size w (w.alloc (.cells #[.int .i64 0, .slice none 0 0] 113)) := (Below.refl _ _).alloc (Nat.le_refl _) _
  have hrow0 := hr.below hb0 (Nat.le_refl _)
  have hbs := bodysize_any a len cap bs _ hrow0
  by_cases hbad : (Fr.bsz bs).2 = 0
  · obtain ⟨u, hu, hb, hget, htake, hol, hgap⟩ := Fr.bsz_ok hs8 hbad
    rw [hb] at hbs
    have hfn := Fr.first_num hu hget hgap
    have hput : Hid (_) := Fr.put_iff (u := u) (o := (Va.one u).length) hs8 htake
    have hhd := fun W => head_in u W hu
    have hsz := fun W => size_in u W hu
    have ho3 := Fr.one3 hu
    have ho1 := Va.one_pos u
    have Hsz : Hid (Fr.size u = (Va.one u).length + 1 + u + 4) := (rfl : Fr.size u = (Va.one u).length + 1 + u + 4)
    rw [hlen.out] at hol
    rw [← HR.out, hlen.out, Hsz.out] at hfn
    rw [Hsz.out] at hsz
    have Hfn : Hid (_) := hfn
    clear hfn Hsz HR hget htake hgap hbad hb
    generalize (Va.one u).length = o at *
    by_cases hoe : o = len
    · have H : Hid (R = ((0, []), 0, 5)) := (by rw [Hfn.out, if_pos hoe] : R = ((0, []), 0, 5))
      clear Hfn hput
      go_enter Tryz.func88, Tryz.ntmps88
      go_wp2_with (first
        | (go_at_call 112; refine hbs.mono ?_; rintro e w' ⟨rfl, rfl⟩)
        | (go_at_call 69; refine (hhd _).mono ?_; rintro e w' ⟨rfl, rfl⟩)
        | (go_at_call 98; refine (hsz _).mono ?_; rintro e w' ⟨rfl, rfl⟩))
      exact bodyPost_ret (v := .tuple #[.agg #[.int .i64 0, .slice none 0 0], .int .i64 0, .int .i64 5]) (by simp [results, Tryz.results88, go_sem]) rfl ⟨none, 0, by rw [H.out]; rfl, by rw [H.out]; exact World.ownsRow_nil _ _ _ _, hb0⟩
    · obtain ⟨b, off, rfl, hc⟩ := hrow0.at (by omega)
      have hcell := hc o (by omega)
      have hx8 := getD_lt8 hs8 o
      obtain ⟨x, hx⟩ : ∃ x, x = bs.getD o 0 := ⟨_, rfl⟩
      rw [← hx] at hx8 hcell
      have Hx : Hid (x = bs.getD o 0) := hx
      clear hx hc
      have hkm := fun W => kmb_any x W
      by_cases hk : 1 ≤ x ∧ x ≤ 250
      · rw [show kmB x = true by unfold kmB; simp; omega] at hkm
        by_cases hsh : len < o + 1 + u + 4
        · have H : Hid (R = ((0, []), 0, 5)) := (by rw [Hfn.out, if_neg hoe, if_neg (by rw [← Hx.out]; omega), if_pos hsh] : R = ((0, []), 0, 5))
          clear Hfn hput
          go_enter Tryz.func88, Tryz.ntmps88
          go_wp2_with (first
            | (go_at_call 112; refine hbs.mono ?_; rintro e w' ⟨rfl, rfl⟩)
            | (go_at_call 69; refine (hhd _).mono ?_; rintro e w' ⟨rfl, rfl⟩)
            | (go_at_call 98; refine (hsz _).mono ?_; rintro e w' ⟨rfl, rfl⟩)
            | (go_at_call 113; refine (hkm _).mono ?_; rintro e w' ⟨rfl, rfl⟩))
          exact bodyPost_ret (v := .tuple #[.agg #[.int .i64 0, .slice none 0 0], .int .i64 0, .int .i64 5]) (by simp [results, Tryz.results88, go_sem]) rfl ⟨none, 0, by rw [H.out]; rfl, by rw [H.out]; exact World.ownsRow_nil _ _ _ _, hb0⟩
        · have hput2 := hput.out (by rw [hlen.out]; omega)
          rw [← Hx.out] at hput2
          have hrS := (hrow0.drop o (by omega)).take (u + 1) (by omega)
          have hr4 := (hrow0.drop (o + 1 + u) (by omega)).take 4 (by omega)
          have hof : ∀ n z c, z = u + 1 → Calls Tryz.prog 100 #[.slice (some ⟨b, off + o, none⟩) z c] ((w.alloc (.cells #[.int .i64 0, .slice none 0 0] 113)).drewN n) fun e w' => e = .returned (.int .u32 (Crc.more 0 ((bs.drop o).take (u + 1)) : Nat)) ∧ w' = (w.alloc (.cells #[.int .i64 0, .slice none 0 0] 113)).drewN n := fun n z c hz => by
            subst hz; exact of_any _ _ _ _ _ (hrS.below (below_drewN _ _ _) (Nat.le_refl _))
          have hsa : ∀ n z c q, z = 4 → q = off + (o + 1 + u) → Calls Tryz.prog 114 #[.slice (some ⟨b, q, none⟩) z c] ((w.alloc (.cells #[.int .i64 0, .slice none 0 0] 113)).drewN n) fun e w' => e = .returned (.int .u32 (Fr.val4 ((bs.drop (o + 1 + u)).take 4) : Nat)) ∧ w' = (w.alloc (.cells #[.int .i64 0, .slice none 0 0] 113)).drewN n := fun n z c q hz hq => by
            subst hz; subst hq; exact sumat_any _ _ _ _ (hr4.below (below_drewN _ _ _) (Nat.le_refl _))
          clear hrS hr4 hput
          generalize Crc.more 0 ((bs.drop o).take (u + 1)) = s1 at *
          generalize Fr.val4 ((bs.drop (o + 1 + u)).take 4) = s2 at *
          have Hput : Hid (_) := hput2
          clear hput2
          by_cases hse : s1 = s2
          · subst hse
            generalize hbody : (bs.drop (o + 1)).take u = body at *
            have Hb : Hid ((bs.drop (o + 1)).take u = body) := hbody
            have hbl : Hid (body.length = u) := (by rw [← hbody, List.length_take, List.length_drop, hlen.out]; omega : body.length = u)
            have hbs8 : ∀ y ∈ body, y < lim .u8 := by rw [← hbody]; exact take_small (drop_small hr.2.2.1 _) _
            have H : Hid (R = (((x : Int), body), o + 1 + u + 4, 0)) := (by rw [Hfn.out, if_neg hoe, if_neg (by rw [← Hx.out]; omega), if_neg hsh, if_pos (by rw [← Hx.out, Hput.out]), ← Hx.out] : R = (((x : Int), body), o + 1 + u + 4, 0))
            clear hbody Hfn Hput
            go_enter Tryz.func88, Tryz.ntmps88
            go_wp2_with (first
              | (go_at_call 112; refine hbs.mono ?_; rintro e w' ⟨rfl, rfl⟩)
              | (go_at_call 69; refine (hhd _).mono ?_; rintro e w' ⟨rfl, rfl⟩)
              | (go_at_call 98; refine (hsz _).mono ?_; rintro e w' ⟨rfl, rfl⟩)
              | (go_at_call 113; refine (hkm _).mono ?_; rintro e w' ⟨rfl, rfl⟩))
            go_quiet ((first
              | (go_at_call 100; exact Calls.quiet_of_same (hof _ _ _ (by omega)))
              | (go_at_call 114; exact Calls.quiet_of_same (hsa _ _ _ _ (by omega) (by omega)))))
            go_wp2
            have hbd := below_drewN (w.alloc (.cells #[.int .i64 0, .slice none 0 0] 113)).heap.size (w.alloc (.cells #[.int .i64 0, .slice none 0 0] 113)) nq
            have hb1 := hb0.trans (hbd.mono hb0.size)
            have hs1 : w.heap.size < ((w.alloc (.cells #[.int .i64 0, .slice none 0 0] 113)).drewN nq).heap.size := by simp
            obtain ⟨hN0, hN1⟩ := cell_two w (.int .i64 0) (.slice none 0 0) 113 rfl
            have hN0 := (hbd.cell (p := ⟨w.heap.size, 0, none⟩) (by simp)).trans hN0
            have hN1 := (hbd.cell (p := ⟨w.heap.size, 1, none⟩) (by simp)).trans hN1
            have hF0 := (hbd.frozen (p := ⟨w.heap.size, 0, none⟩) (by simp)).trans (frozen_new w _ 113 0)
            have hF1 := (hbd.frozen (p := ⟨w.heap.size, 1, none⟩) (by simp)).trans (frozen_new w _ 113 1)
            have hrB := (((hrow0.below hbd (Nat.le_refl _)).drop (o + 1) (by omega)).take u (by omega))
            rw [Hb.out] at hrB
            have hcell1 := (hbd.cell (p := ⟨b, off + o, none⟩) (cell_lt hcell)).trans hcell
            clear hbd hof hsa hkm hhd hsz hbs hrow0 hcell
            generalize (w.alloc (.cells #[.int .i64 0, .slice none 0 0] 113)).drewN nq = W1 at *
            have hcl : ∀ W z c q, Below W1.heap.size W1 W → z = u → q = off + (o + 1) → Calls Tryz.prog 115 #[.slice (some ⟨b, q, none⟩) z c] W (Made .u8 5 W body) := fun W z c q hW hz hq => by
              subst hz; subst hq; exact clone_any _ _ _ _ _ (by omega) (hrB.below hW (Nat.le_refl _))
            have i1 : (0 : Int) ≤ (o : Int) := by omega
            have i2 : (o : Int) < (len : Int) := by omega
            have i3 : (0 : Int) ≤ (o : Int) + 1 := by omega
            have i4 : (o : Int) + 1 ≤ (o : Int) + 1 + u := by omega
            have i5 : (o : Int) + 1 + u ≤ (cap : Int) := by omega
            have i6 : IntKind.i64.wrap ((o : Int) + 1 - 1) = (o : Int) := by rw [IntKind.wrap_i64]; omega
            have i7 : IntKind.i64.wrap (o : Int) = (o : Int) := by rw [IntKind.wrap_i64]; omega
            have i8 : ¬ (cap = o + 1) := by omega
            have i9 : IntKind.i64.wrap (x : Int) = (x : Int) := by rw [IntKind.wrap_i64]; omega
            have hne1 := World.new_ne W1 ⟨b, off + o, none⟩ hcell1
            go_region_held3 (fun w' => w'.cell? ⟨b, off + o, none⟩ = some (.int .u8 (x : Nat))) (first | go_keep | assumption)
              (first
                | ((go_at_call 115; refine (hcl _ _ _ _ ((Below.refl _ _).drew) ?_ ?_).mono ?_; omega; omega; rintro e w2 ⟨A, C, rfl, hown2, hbel2⟩; have hbel2' := below_of_drew hbel2; have hk0 := (hbel2'.cell (p := ⟨b, off + o, none⟩) (cell_lt hcell1)).trans hcell1; have hne2 := World.new_ne w2 ⟨b, off + o, none⟩ hk0))
                | ((go_at_call 115; refine (hcl _ _ _ _ (((Below.refl _ _).alloc (Nat.le_refl _) _).drew) ?_ ?_).mono ?_; omega; omega; rintro e w2 ⟨A, C, rfl, hown2, hbel2⟩; have hbel2b := below_of_drew hbel2; have hbel2' : Below W1.heap.size W1 w2 := (below_alloc _ _).trans (hbel2b.mono (by simp)); have hk0 := (hbel2'.cell (p := ⟨b, off + o, none⟩) (cell_lt hcell1)).trans hcell1; have hm0 := (hbel2b.cell (p := ⟨W1.heap.size, 0, none⟩) (by simp)).trans (cell_two W1 (.int .i64 0) (.slice none 0 0) 113 rfl).1; have hm1 := (hbel2b.cell (p := ⟨W1.heap.size, 1, none⟩) (by simp)).trans (cell_two W1 (.int .i64 0) (.slice none 0 0) 113 rfl).2; have hm2 := (hbel2b.frozen (p := ⟨W1.heap.size, 0, none⟩) (by simp)).trans (frozen_new W1 _ 113 0); have hm3 := (hbel2b.frozen (p := ⟨W1.heap.size, 1, none⟩) (by simp)).trans (frozen_new W1 _ 113 1))))
            · have hb : Below W1.heap.size W1 (w2.alloc (.cells #[.int .i64 (x : Nat), .slice A body.length C] 113)) := Below.alloc (show Below W1.heap.size W1 w2 from hbel2') hbel2'.size _
              obtain ⟨q0, q1⟩ := cell_two w2 (.int .i64 (x : Nat)) (.slice A body.length C) 113 rfl
              have hown3 : (w2.alloc (.cells #[.int .i64 (x : Nat), .slice A body.length C] 113)).ownsRow W1.heap.size 5 1 (.slice A body.length C) body.length (kcells .u8 body) := hown2.alloc _
              clear hown2 hbel2 hbel2' hk0 hne2 hcl
              generalize w2.alloc (.cells #[.int .i64 (x : Nat), .slice A body.length C] 113) = W3 at *
              generalize w2.heap.size = M at *
              have n0 := (hb.cell (p := ⟨w.heap.size, 0, none⟩) hs1).trans hN0
              have n1 := (hb.cell (p := ⟨w.heap.size, 1, none⟩) hs1).trans hN1
              have f0 := (hb.frozen (p := ⟨w.heap.size, 0, none⟩) hs1).trans hF0
              have f1 := (hb.frozen (p := ⟨w.heap.size, 1, none⟩) hs1).trans hF1
              have hB3 := hb1.trans (hb.mono hb1.size)
              clear hN0 hN1 hF0 hF1 hcell1 hne1 hrB
              go_wp2
              refine bodyPost_ret (v := .tuple #[.agg #[.int .i64 (x : Nat), .slice A body.length C], .int .i64 ((o + 1 + u + 4 : Nat) : Int), .int .i64 0]) (by simp [results, Tryz.results88, go_sem, n0, n1]) rfl ⟨A, C, ?_, ?_, (hB3.setCell (Nat.le_refl _) _).setCell (Nat.le_refl _) _⟩
              · rw [H.out]; rfl
              · rw [H.out]
                exact (ownsRow_setCell_below (ownsRow_setCell_below hown3 hs1 _) hs1 _).mono (by omega)
            · have hb : Below W1.heap.size W1 ((w2.setCell ⟨W1.heap.size, 0, none⟩ (.int .i64 (x : Nat))).setCell ⟨W1.heap.size, 1, none⟩ (.slice A body.length C)) := (hbel2'.setCell (Nat.le_refl _) _).setCell (Nat.le_refl _) _
              have q0 : ((w2.setCell ⟨W1.heap.size, 0, none⟩ (.int .i64 (x : Nat))).setCell ⟨W1.heap.size, 1, none⟩ (.slice A body.length C)).cell? ⟨W1.heap.size, 0, none⟩ = some (.int .i64 (x : Nat)) :=
                (World.cell?_setCell_other _ _ _ _ (by simp)).trans (World.cell?_setCell_same w2 _ _ hm0)
              have q1 : ((w2.setCell ⟨W1.heap.size, 0, none⟩ (.int .i64 (x : Nat))).setCell ⟨W1.heap.size, 1, none⟩ (.slice A body.length C)).cell? ⟨W1.heap.size, 1, none⟩ = some (.slice A body.length C) :=
                World.cell?_setCell_same _ _ _ (u := .slice none 0 0) ((World.cell?_setCell_other _ _ _ _ (by simp)).trans hm1)
              have hown3 : ((w2.setCell ⟨W1.heap.size, 0, none⟩ (.int .i64 (x : Nat))).setCell ⟨W1.heap.size, 1, none⟩ (.slice A body.length C)).ownsRow W1.heap.size 5 1 (.slice A body.length C) body.length (kcells .u8 body) :=
                (ownsRow_setCell_below (ownsRow_setCell_below hown2 (by simp) _) (by simp) _).mono (by simp)
              clear hown2 hbel2 hbel2' hbel2b hk0 hm0 hm1 hm2 hm3 hcl
              generalize (w2.setCell ⟨W1.heap.size, 0, none⟩ (.int .i64 (x : Nat))).setCell ⟨W1.heap.size, 1, none⟩ (.slice A body.length C) = W3 at *
              have n0 := (hb.cell (p := ⟨w.heap.size, 0, none⟩) hs1).trans hN0
              have n1 := (hb.cell (p := ⟨w.heap.size, 1, none⟩) hs1).trans hN1
              have f0 := (hb.frozen (p := ⟨w.heap.size, 0, none⟩) hs1).trans hF0
              have f1 := (hb.frozen (p := ⟨w.heap.size, 1, none⟩) hs1).trans hF1
              have hB3 := hb1.trans (hb.mono hb1.size)
              clear hN0 hN1 hF0 hF1 hcell1 hne1 hrB
              go_wp2
              refine bodyPost_ret (v := .tuple #[.agg #[.int .i64 (x : Nat), .slice A body.length C], .int .i64 ((o + 1 + u + 4 : Nat) : Int), .int .i64 0]) (by simp [results, Tryz.results88, go_sem, n0, n1]) rfl ⟨A, C, ?_, ?_, (hB3.setCell (Nat.le_refl _) _).setCell (Nat.le_refl _) _⟩
              · rw [H.out]; rfl
              · rw [H.out]
                exact (ownsRow_setCell_below (ownsRow_setCell_below hown3 hs1 _) hs1 _).mono (by omega)
          · have H : Hid (R = ((0, []), 0, 2)) := (by rw [Hfn.out, if_neg hoe, if_neg (by rw [← Hx.out]; omega), if_neg hsh, if_neg (by rw [← Hx.out, Hput.out]; exact hse)] : R = ((0, []), 0, 2))
            have hse' : ((s1 : Int) == (s2 : Int)) = false := by simp; omega
            clear Hfn Hput
            go_enter Tryz.func88, Tryz.ntmps88
            go_wp2_with (first
              | (go_at_call 112; refine hbs.mono ?_; rintro e w' ⟨rfl, rfl⟩)
              | (go_at_call 69; refine (hhd _).mono ?_; rintro e w' ⟨rfl, rfl⟩)
              | (go_at_call 98; refine (hsz _).mono ?_; rintro e w' ⟨rfl, rfl⟩)
              | (go_at_call 113; refine (hkm _).mono ?_; rintro e w' ⟨rfl, rfl⟩))
            go_quiet ((first
              | (go_at_call 100; exact Calls.quiet_of_same (hof _ _ _ (by omega)))
              | (go_at_call 114; exact Calls.quiet_of_same (hsa _ _ _ _ (by omega) (by omega)))))
            go_wp2
            exact bodyPost_ret (v := .tuple #[.agg #[.int .i64 0, .slice none 0 0], .int .i64 0, .int .i64 2]) (by simp [results, Tryz.results88, go_sem]) rfl ⟨none, 0, by rw [H.out]; rfl, by rw [H.out]; exact World.ownsRow_nil _ _ _ _, ((hb0.trans (below_drewN _ _ _)).setCell (Nat.le_refl _) _).setCell (Nat.le_refl _) _⟩
      · have H : Hid (R = ((0, []), 0, 2)) := (by rw [Hfn.out, if_neg hoe, if_pos (by rw [← Hx.out]; omega)] : R = ((0, []), 0, 2))
        rw [show kmB x = false by unfold kmB; simp; omega] at hkm
        clear Hfn hput
        go_enter Tryz.func88, Tryz.ntmps88
        go_wp2_with (first
          | (go_at_call 112; refine hbs.mono ?_; rintro e w' ⟨rfl, rfl⟩)
          | (go_at_call 69; refine (hhd _).mono ?_; rintro e w' ⟨rfl, rfl⟩)
          | (go_at_call 98; refine (hsz _).mono ?_; rintro e w' ⟨rfl, rfl⟩)
          | (go_at_call 113; refine (hkm _).mono ?_; rintro e w' ⟨rfl, rfl⟩))
        exact bodyPost_ret (v := .tuple #[.agg #[.int .i64 0, .slice none 0 0], .int .i64 0, .int .i64 2]) (by simp [results, Tryz.results88, go_sem]) rfl ⟨none, 0, by rw [H.out]; rfl, by rw [H.out]; exact World.ownsRow_nil _ _ _ _, hb0⟩
  · have H : Hid (R = ((0, []), 0, (Fr.bsz bs).2)) := (by rw [HR.out, Fr.first_bad hbad] : R = ((0, []), 0, (Fr.bsz bs).2))
    clear HR
    generalize (Fr.bsz bs).1 = n0 at *
    generalize (Fr.bsz bs).2 = c0 at *
    have hc0 : ((c0 : Int) == 0) = false := by simp; omega
    go_enter Tryz.func88, Tryz.ntmps88
    go_wp2_with (go_at_call 112; refine hbs.mono ?_; rintro e w' ⟨rfl, rfl⟩)
    exact bodyPost_ret (v := .tuple #[.agg #[.int .i64 0, .slice none 0 0], .int .i64 0, .int .i64 c0]) (by simp [results, Tryz.results88, go_sem]) rfl ⟨none, 0, by rw [H.out]; rfl, by rw [H.out]; exact World.ownsRow_nil _ _ _ _, hb0⟩
end Go.Proofs.YtnoknmnbfkdccaaGreatDoor

/- What the program's Scan does. -/
namespace Go.Proofs.YtnoknmnbfkdccaaGreatDoor
open Go.RowKit

theorem Fr.first_size {bs : List Nat} (hs : ∀ x ∈ bs, x < 256) (h : (Fr.first bs).2.2 = 0) : (Fr.first bs).1.2.length ≤ 1048576 ∧ (Fr.first bs).2.1 = Fr.size (Fr.first bs).1.2.length := by
  by_cases hb : (Fr.bsz bs).2 = 0
  · obtain ⟨u, hu, _, hget, htake, hol, hgap⟩ := Fr.bsz_ok hs hb
    have hfn := Fr.first_num hu hget hgap
    have hsz : Fr.size u = (Va.one u).length + 1 + u + 4 := rfl
    rw [hfn] at h ⊢
    split at h
    · simp at h
    · split at h
      · simp at h
      · split at h
        · simp at h
        · split at h
          · rename_i h1 h2 h3 h4
            have hl : ((bs.drop ((Va.one u).length + 1)).take u).length = u := by rw [List.length_take, List.length_drop]; omega
            rw [if_neg h1, if_neg h2, if_neg h3, if_pos h4]
            simp only []
            rw [hl]
            exact ⟨hu, rfl⟩
          · simp at h
  · rw [Fr.first_bad hb] at h
    exact absurd h hb

end Go.Proofs.YtnoknmnbfkdccaaGreatDoor
