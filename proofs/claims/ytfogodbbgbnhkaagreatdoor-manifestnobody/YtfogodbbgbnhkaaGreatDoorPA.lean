/- What the program's sizeMayBe, kindMayBe, Head, Size, mayBe, numberIsCut, bodySize, sumAt and Clone do. -/
import Derived.Test.YtfogodbbgbnhkaaGreatDoorFB
import Derived.Test.YtfogodbbgbnhkaaGreatDoorMa
import Derived.Test.YtfogodbbgbnhkaaGreatDoorBQ
import Derived.BigQuiet
import Derived.Deep.QuietTactic
namespace Go.Proofs.YtfogodbbgbnhkaaGreatDoor
open Go.RowKit

def smB (z : Int) : Bool := decide (0 ≤ z ∧ z ≤ 1048576)
def kmB (z : Int) : Bool := decide (1 ≤ z ∧ z ≤ 250)

set_option maxRecDepth 100000 in
set_option maxHeartbeats 400000 in
theorem smb_any (z : Int) (w : World) : Calls Tryz.prog 152 #[.int .i64 z] w fun e w' => e = .returned (.bool (smB z)) ∧ w' = w := by
  by_cases h1 : 0 ≤ z
  · have hm : Hid (smB z = decide (z ≤ 1048576)) := (by unfold smB; simp [h1] : smB z = decide (z ≤ 1048576))
    go_enter Tryz.func152, Tryz.ntmps152
    go_wp2
    go_ret
    exact ⟨by rw [hm.out]; rfl, rfl⟩
  · have hm : Hid (smB z = false) := (by unfold smB; simp; omega : smB z = false)
    go_enter Tryz.func152, Tryz.ntmps152
    go_wp2
    go_ret
    exact ⟨by rw [hm.out]; rfl, rfl⟩

set_option maxRecDepth 100000 in
set_option maxHeartbeats 400000 in
theorem kmb_any (z : Int) (w : World) : Calls Tryz.prog 191 #[.int .i64 z] w fun e w' => e = .returned (.bool (kmB z)) ∧ w' = w := by
  by_cases h1 : 1 ≤ z
  · have hm : Hid (kmB z = decide (z ≤ 250)) := (by unfold kmB; simp [h1] : kmB z = decide (z ≤ 250))
    go_enter Tryz.func191, Tryz.ntmps191
    go_wp2
    go_ret
    exact ⟨by rw [hm.out]; rfl, rfl⟩
  · have hm : Hid (kmB z = false) := (by unfold kmB; simp; omega : kmB z = false)
    go_enter Tryz.func191, Tryz.ntmps191
    go_wp2
    go_ret
    exact ⟨by rw [hm.out]; rfl, rfl⟩

set_option maxRecDepth 100000 in
set_option maxHeartbeats 400000 in
theorem head_in (n : Nat) (w : World) (hn : n ≤ 1048576) : Calls Tryz.prog 149 #[.int .i64 n] w fun e w' => e = .returned (.int .i64 ((Va.one n).length + 1 : Nat)) ∧ w' = w := by
  have hsm : ∀ W, Calls Tryz.prog 152 #[.int .i64 n] W fun e w' => e = .returned (.bool true) ∧ w' = W := fun W => by
    have h := smb_any n W
    rwa [show smB n = true by unfold smB; simp; omega] at h
  have hsz : ∀ (W : World) (z : Int), z = (n : Int) → Calls Tryz.prog 189 #[.int .u64 z] W fun e w' => e = .returned (.int .i64 (Va.size n : Nat)) ∧ w' = W := fun W z hz => hz ▸ size_any n W (by omega)
  have h3 := Fr.one3 hn
  rw [← Va.size_one n (by omega)] at h3 ⊢
  generalize Va.size n = s at *
  go_enter Tryz.func149, Tryz.ntmps149
  go_wp2_with (first
    | (go_at_call 152; refine (hsm _).mono ?_; rintro e w' ⟨rfl, rfl⟩)
    | (go_at_call 189; refine (hsz _ _ ?_).mono ?_; omega; rintro e w' ⟨rfl, rfl⟩))
  go_ret
  exact ⟨ret_int (by omega), rfl⟩
set_option maxRecDepth 100000 in
set_option maxHeartbeats 400000 in
theorem size_in (n : Nat) (w : World) (hn : n ≤ 1048576) : Calls Tryz.prog 99 #[.int .i64 n] w fun e w' => e = .returned (.int .i64 (Fr.size n : Nat)) ∧ w' = w := by
  have hsm : ∀ W, Calls Tryz.prog 152 #[.int .i64 n] W fun e w' => e = .returned (.bool true) ∧ w' = W := fun W => by
    have h := smb_any n W
    rwa [show smB n = true by unfold smB; simp; omega] at h
  have hhd := fun W => head_in n W hn
  have h3 := Fr.one3 hn
  have hs : Hid (Fr.size n = (Va.one n).length + 1 + n + 4) := (rfl : Fr.size n = (Va.one n).length + 1 + n + 4)
  generalize (Va.one n).length = o at *
  go_enter Tryz.func99, Tryz.ntmps99
  go_wp2_with (first
    | (go_at_call 152; refine (hsm _).mono ?_; rintro e w' ⟨rfl, rfl⟩)
    | (go_at_call 149; refine (hhd _).mono ?_; rintro e w' ⟨rfl, rfl⟩))
  go_ret
  exact ⟨ret_int (by rw [hs.out]; omega), rfl⟩
set_option maxRecDepth 100000 in
set_option maxHeartbeats 400000 in
theorem maybe_any (k : Int) (a : Option Addr) (n c : Nat) (w : World) (hn : n ≤ 1000000000000000000) :
    Calls Tryz.prog 146 #[.agg #[.int .i64 k, .slice a n c]] w fun e w' => e = .returned (.bool (mayB k n)) ∧ Below w.heap.size w w' := by
  have hkm := fun W => kmb_any k W
  have hsm : ∀ (W : World) (z : Int), z = (n : Int) → Calls Tryz.prog 152 #[.int .i64 z] W fun e w' => e = .returned (.bool (smB n)) ∧ w' = W := fun W z hz => hz ▸ smb_any n W
  have hm : Hid (mayB k n = (kmB k && smB n)) := (by unfold mayB kmB smB; rw [Bool.eq_iff_iff]; simp; omega : mayB k n = (kmB k && smB n))
  by_cases hk : kmB k = true
  · rw [hk] at hkm
    have hm2 : Hid (mayB k n = smB n) := (by rw [hm.out, hk, Bool.true_and] : mayB k n = smB n)
    clear hm hk
    generalize smB n = s at *
    go_enter Tryz.func146, Tryz.ntmps146
    go_wp2_with (first
      | (go_at_call 191; refine (hkm _).mono ?_; rintro e w' ⟨rfl, rfl⟩)
      | (go_at_call 152; refine (hsm _ _ ?_).mono ?_; rfl; rintro e w' ⟨rfl, rfl⟩))
    go_ret
    exact ⟨by rw [hm2.out]; rfl, (Below.refl _ _).alloc (Nat.le_refl _) _⟩
  · have hk : kmB k = false := by simpa using hk
    rw [hk] at hkm
    have hm2 : Hid (mayB k n = false) := (by rw [hm.out, hk, Bool.false_and] : mayB k n = false)
    clear hm hk
    go_enter Tryz.func146, Tryz.ntmps146
    go_wp2_with (go_at_call 191; refine (hkm _).mono ?_; rintro e w' ⟨rfl, rfl⟩)
    go_ret
    exact ⟨by rw [hm2.out]; rfl, (Below.refl _ _).alloc (Nat.le_refl _) _⟩
end Go.Proofs.YtfogodbbgbnhkaaGreatDoor

/- What the program's numberIsCut, bodySize, sumAt and Clone do. -/
namespace Go.Proofs.YtfogodbbgbnhkaaGreatDoor
open Go.RowKit

theorem size_max : Va.size 1048576 = 3 := by decide +kernel
set_option maxRecDepth 100000 in
set_option maxHeartbeats 400000 in
theorem nic_any (a : Option Addr) (len cap : Nat) (bs : List Nat) (w : World) (hr : Row .u8 w a len bs) :
    Calls Tryz.prog 213 #[.slice a len cap] w fun e w' => e = .returned (.bool (Fr.gapHead bs)) ∧ w' = w := by
  have hlen : Hid (bs.length = len) := hr.1
  have hl63 := hr.2.1
  have hsz : ∀ W, Calls Tryz.prog 189 #[.int .u64 1048576] W fun e w' => e = .returned (.int .i64 3) ∧ w' = W := fun W => by
    have h := size_any 1048576 W (by omega)
    rw [size_max] at h
    exact h
  by_cases h3 : len < 3
  · go_enter Tryz.func213, Tryz.ntmps213
    go_wp2_with (go_at_call 189; refine (hsz _).mono ?_; rintro e w' ⟨rfl, rfl⟩)
    clear hsz
    go_loop [11] (fun i => ∃ k : Nat, k ≤ len ∧ i = .int .i64 k ∧ ∀ j, j < k → 128 ≤ bs.getD j 0) (fun i => len - (intOf i).toNat)
    case atStart => exact ⟨0, by omega, rfl, fun j hj => by omega⟩
    case round =>
      obtain ⟨k, hk, rfl, hh⟩ := hrel
      by_cases hlt : k < len
      · obtain ⟨b, off, rfl, hc⟩ := hr.at (by omega)
        have hcell := hc k hlt
        have hx8 := getD_lt8 hr.2.2.1 k
        clear hc
        by_cases hx : bs.getD k 0 < 128
        · have H : Hid (Fr.gapHead bs = false) := (by rw [gap_iff (k := k) (by rw [hlen.out]; omega) hh (.inr (.inr hx))]; simp; rw [hlen.out]; omega : Fr.gapHead bs = false)
          clear hh hr
          generalize bs.getD k 0 = x at *
          go_wp2
          go_ret
          exact ⟨by rw [H.out]; rfl, rfl⟩
        · have H : Hid (∀ j, j < k + 1 → 128 ≤ bs.getD j 0) := (fun j hj => if e : j = k then by subst e; omega else hh j (by omega) : ∀ j, j < k + 1 → 128 ≤ bs.getD j 0)
          clear hh hr
          generalize bs.getD k 0 = x at *
          go_wp2
          go_round
          case rel => exact ⟨k + 1, by omega, by go_num, H.out⟩
          case measure => simp [intOf]; omega
      · have H : Hid (Fr.gapHead bs = true) := (by rw [gap_iff (k := k) (by rw [hlen.out]; omega) hh (.inl (by rw [hlen.out]; omega))]; simp; rw [hlen.out]; omega : Fr.gapHead bs = true)
        clear hh hr
        go_wp2
        go_ret
        exact ⟨by rw [H.out]; rfl, rfl⟩
  · have H : Hid (Fr.gapHead bs = false) := (by unfold Fr.gapHead; rw [hlen.out, decide_eq_false h3]; rfl : Fr.gapHead bs = false)
    clear hr
    go_enter Tryz.func213, Tryz.ntmps213
    go_wp2_with (go_at_call 189; refine (hsz _).mono ?_; rintro e w' ⟨rfl, rfl⟩)
    go_ret
    exact ⟨by rw [H.out]; rfl, rfl⟩

set_option maxRecDepth 100000 in
set_option maxHeartbeats 400000 in
theorem bodysize_any (a : Option Addr) (len cap : Nat) (bs : List Nat) (w : World) (hr : Row .u8 w a len bs) :
    Calls Tryz.prog 193 #[.slice a len cap] w fun e w' => e = .returned (.tuple #[.int .i64 ((Fr.bsz bs).1 : Nat), .int .i64 ((Fr.bsz bs).2 : Nat)]) ∧ w' = w := by
  have hget := fun W (h : W = w) => get_any a len cap bs W (h ▸ hr)
  have hnic := fun W (h : W = w) => nic_any a len cap bs W (h ▸ hr)
  have hlt := Va.get_lt bs
  have hgg : Hid (Fr.gapHead bs = true → (Va.get bs).2 = 0) := (fun h => by rw [Fr.gap_get h] : Fr.gapHead bs = true → (Va.get bs).2 = 0)
  obtain ⟨R, hR⟩ : ∃ R, R = Fr.bsz bs := ⟨_, rfl⟩
  rw [← hR]
  have HR : Hid (R = Fr.bsz bs) := hR
  clear hR hr
  by_cases h0 : (Va.get bs).2 = 0
  · rw [h0, code_zero] at hget
    by_cases hg : Fr.gapHead bs = true
    · have H : Hid (R = (0, 5)) := (by rw [HR.out]; unfold Fr.bsz; rw [if_pos h0, if_pos hg] : R = (0, 5))
      rw [hg] at hnic
      generalize (Va.get bs).1 = g at *
      go_enter Tryz.func193, Tryz.ntmps193
      go_wp2_with (first
        | (go_at_call 150; refine (hget _ rfl).mono ?_; rintro e w' ⟨rfl, rfl⟩)
        | (go_at_call 213; refine (hnic _ rfl).mono ?_; rintro e w' ⟨rfl, rfl⟩))
      go_ret2
      exact ⟨by rw [H.out]; rfl, rfl⟩
    · have H : Hid (R = (0, 2)) := (by rw [HR.out]; unfold Fr.bsz; rw [if_pos h0, if_neg hg] : R = (0, 2))
      rw [show Fr.gapHead bs = false by simpa using hg] at hnic
      generalize (Va.get bs).1 = g at *
      go_enter Tryz.func193, Tryz.ntmps193
      go_wp2_with (first
        | (go_at_call 150; refine (hget _ rfl).mono ?_; rintro e w' ⟨rfl, rfl⟩)
        | (go_at_call 213; refine (hnic _ rfl).mono ?_; rintro e w' ⟨rfl, rfl⟩))
      go_ret2
      exact ⟨by rw [H.out]; rfl, rfl⟩
  · have hc : code (Va.get bs).2 = 0 := by unfold code; rw [if_neg h0]
    rw [hc] at hget
    clear hnic hc
    by_cases hbg : 1048576 < (Va.get bs).1
    · have H : Hid (R = (0, 2)) := (by rw [HR.out]; unfold Fr.bsz; rw [if_neg h0, if_pos hbg] : R = (0, 2))
      generalize (Va.get bs).1 = g at *
      generalize (Va.get bs).2 = g2 at *
      clear hgg HR
      go_enter Tryz.func193, Tryz.ntmps193
      go_wp2_with (go_at_call 150; refine (hget _ rfl).mono ?_; rintro e w' ⟨rfl, rfl⟩)
      go_ret2
      exact ⟨by rw [H.out]; rfl, rfl⟩
    · have H : Hid (R = ((Va.get bs).1, 0)) := (by rw [HR.out]; unfold Fr.bsz; rw [if_neg h0, if_neg hbg] : R = ((Va.get bs).1, 0))
      generalize (Va.get bs).1 = g at *
      generalize (Va.get bs).2 = g2 at *
      clear hgg HR
      go_enter Tryz.func193, Tryz.ntmps193
      go_wp2_with (go_at_call 150; refine (hget _ rfl).mono ?_; rintro e w' ⟨rfl, rfl⟩)
      go_ret2
      exact ⟨by rw [H.out]; rfl, rfl⟩
end Go.Proofs.YtfogodbbgbnhkaaGreatDoor

/- What the program's sumAt and Clone do. -/
namespace Go.Proofs.YtfogodbbgbnhkaaGreatDoor
open Go.RowKit

set_option maxRecDepth 100000 in
set_option maxHeartbeats 400000 in
theorem sumat_any (a : Option Addr) (cap : Nat) (bs : List Nat) (w : World) (hr : Row .u8 w a 4 bs) :
    Calls Tryz.prog 194 #[.slice a 4 cap] w fun e w' => e = .returned (.int .u32 (Fr.val4 bs : Nat)) ∧ w' = w := by
  obtain ⟨b, off, rfl, hc⟩ := hr.at (by omega)
  go_enter Tryz.func194, Tryz.ntmps194
  go_wp2
  go_loop [3, 8] (fun t i => ∃ k n : Nat, k ≤ 4 ∧ i = .int .i64 k ∧ t = .int .u32 n ∧ n < 256 ^ k ∧ Hid (n = vk bs k)) (fun _ i => 4 - (intOf i).toNat)
  case atStart => exact ⟨0, 0, by omega, rfl, rfl, by omega, (rfl : 0 = vk bs 0)⟩
  case round =>
    obtain ⟨k, n, hk, rfl, rfl, hn, Hn⟩ := hrel
    by_cases hlt : k < 4
    · have hcell := hc k hlt
      have hx8 := getD_lt8 hr.2.2.1 k
      have H : Hid (n + 256 ^ k * bs.getD k 0 = vk bs (k + 1)) := (by rw [Hn.out]; rfl : n + 256 ^ k * bs.getD k 0 = vk bs (k + 1))
      clear hc hr Hn
      generalize bs.getD k 0 = x at *
      have hk4 : k = 0 ∨ k = 1 ∨ k = 2 ∨ k = 3 := by omega
      rcases hk4 with rfl | rfl | rfl | rfl
      · rw [Nat.add_zero] at hcell
        go_wp2
        go_round
        case rel => exact ⟨1, n + 256 ^ 0 * x, by omega, by go_num, val_int (by have := or32 n x 0 1 rfl (by omega) (by omega) (by omega); simpa using this), by omega, H⟩
        case measure => simp [intOf]
      · go_wp2
        go_round
        case rel => exact ⟨2, n + 256 ^ 1 * x, by omega, by go_num, val_int (by have := or32 n x 8 256 rfl (by omega) (by omega) (by omega); exact this), by omega, H⟩
        case measure => simp [intOf]
      · go_wp2
        go_round
        case rel => exact ⟨3, n + 256 ^ 2 * x, by omega, by go_num, val_int (by have := or32 n x 16 65536 rfl (by omega) (by omega) (by omega); exact this), by omega, H⟩
        case measure => simp [intOf]
      · go_wp2
        go_round
        case rel => exact ⟨4, n + 256 ^ 3 * x, by omega, by go_num, val_int (by have := or32 n x 24 16777216 rfl (by omega) (by omega) (by omega); exact this), by omega, H⟩
        case measure => simp [intOf]
    · obtain rfl : k = 4 := by omega
      have H : Hid (n = Fr.val4 bs) := (by rw [Hn.out, vk4] : n = Fr.val4 bs)
      clear Hn hc hr
      go_wp2
      go_ret
      exact ⟨ret_int (by rw [H.out]), rfl⟩

set_option maxRecDepth 100000 in
set_option maxHeartbeats 400000 in
theorem clone_any (p : Addr) (len cap : Nat) (bs : List Nat) (w : World) (hlen : len ≤ 1000000) (hr : Row .u8 w (some p) len bs) :
    Calls Tryz.prog 195 #[.slice (some p) len cap] w (Made .u8 5 w bs) := by
  have hl : Hid (bs.length = len) := hr.1
  have hr2 := hr.below (below_alloc w (.cells #[] 5)) (Nat.le_refl _)
  go_enter Tryz.func195, Tryz.ntmps195
  go_wp2_with fail
  rw [Lib.run_eql_slice_nil _ 67 5 (some p) len cap 0 0 Tryz.underlying67]
  go_wp2_with (at_builtin; refine append_u8 (w0 := w) (B := w.heap.size) rfl (.tmp 5) (.tmp 6) rfl _ 0 [] rfl (made_at w 5 w.heap.size rfl (Nat.le_refl _)) (some p) len cap bs rfl hr2 (fun h => by cases h) (by omega) (below_alloc _ _) (by simp) ?_; intro A C w2 hown2 hbel2 hsz2)
  rw [Nat.zero_add, List.nil_append] at hown2
  go_ret
  exact ⟨A, C, by rw [hl.out]; rfl, by rw [hl.out]; exact hown2, hbel2⟩
end Go.Proofs.YtfogodbbgbnhkaaGreatDoor

/- What the program's First does. -/
namespace Go.Proofs.YtfogodbbgbnhkaaGreatDoor
open Go.RowKit

set_option maxRecDepth 100000 in
set_option maxHeartbeats 1000000 in
theorem first_any (a : Option Addr) (len cap : Nat) (bs : List Nat) (w : World) (hcap : len ≤ cap) (hbig : len ≤ 100000) (hr : Row .u8 w a len bs) :
    Calls Tryz.prog 148 #[.slice a len cap] w (FirstRes w (Fr.first bs)) := by
  have hlen : Hid (bs.length = len) := hr.1
  have hs8 := hr.2.2.1
  obtain ⟨R, hR⟩ : ∃ R, R = Fr.first bs := ⟨_, rfl⟩
  rw [← hR]
  have HR : Hid (R = Fr.first bs) := hR
  clear hR
  have hb0 : Below w.heap.size w (w.alloc (.cells #[.int .i64 0, .slice none 0 0] 150)) := (Below.refl _ _).alloc (Nat.le_refl _) _
  have hrow0 := hr.below hb0 (Nat.le_refl _)
  have hbs := bodysize_any a len cap bs _ hrow0
  by_cases hbad : (Fr.bsz bs).2 = 0
  · obtain ⟨u, hu, hb, hget, htake, hol, hgap⟩ := Fr.bsz_ok hs8 hbad
    rw [hb] at hbs
    have hfn := Fr.first_num hu hget hgap
    have hput : Hid (_) := Fr.put_iff (u := u) (o := (Va.one u).length) hs8 htake
    have hhd := fun W => head_in u W hu
    have hsz := fun W => size_in u W hu
    have ho3 := Fr.one3 hu
    have ho1 := Va.one_pos u
    have Hsz : Hid (Fr.size u = (Va.one u).length + 1 + u + 4) := (rfl : Fr.size u = (Va.one u).length + 1 + u + 4)
    rw [hlen.out] at hol
    rw [← HR.out, hlen.out, Hsz.out] at hfn
    rw [Hsz.out] at hsz
    have Hfn : Hid (_) := hfn
    clear hfn Hsz HR hget htake hgap hbad hb
    generalize (Va.one u).length = o at *
    by_cases hoe : o = len
    · have H : Hid (R = ((0, []), 0, 5)) := (by rw [Hfn.out, if_pos hoe] : R = ((0, []), 0, 5))
      clear Hfn hput
      go_enter Tryz.func148, Tryz.ntmps148
      go_wp2_with (first
        | (go_at_call 193; refine hbs.mono ?_; rintro e w' ⟨rfl, rfl⟩)
        | (go_at_call 149; refine (hhd _).mono ?_; rintro e w' ⟨rfl, rfl⟩)
        | (go_at_call 99; refine (hsz _).mono ?_; rintro e w' ⟨rfl, rfl⟩))
      exact bodyPost_ret (v := .tuple #[.agg #[.int .i64 0, .slice none 0 0], .int .i64 0, .int .i64 5]) (by simp [results, Tryz.results148, go_sem]) rfl ⟨none, 0, by rw [H.out]; rfl, by rw [H.out]; exact World.ownsRow_nil _ _ _ _, hb0⟩
    · obtain ⟨b, off, rfl, hc⟩ := hrow0.at (by omega)
      have hcell := hc o (by omega)
      have hx8 := getD_lt8 hs8 o
      obtain ⟨x, hx⟩ : ∃ x, x = bs.getD o 0 := ⟨_, rfl⟩
      rw [← hx] at hx8 hcell
      have Hx : Hid (x = bs.getD o 0) := hx
      clear hx hc
      have hkm := fun W => kmb_any x W
      by_cases hk : 1 ≤ x ∧ x ≤ 250
      · rw [show kmB x = true by unfold kmB; simp; omega] at hkm
        by_cases hsh : len < o + 1 + u + 4
        · have H : Hid (R = ((0, []), 0, 5)) := (by rw [Hfn.out, if_neg hoe, if_neg (by rw [← Hx.out]; omega), if_pos hsh] : R = ((0, []), 0, 5))
          clear Hfn hput
          go_enter Tryz.func148, Tryz.ntmps148
          go_wp2_with (first
            | (go_at_call 193; refine hbs.mono ?_; rintro e w' ⟨rfl, rfl⟩)
            | (go_at_call 149; refine (hhd _).mono ?_; rintro e w' ⟨rfl, rfl⟩)
            | (go_at_call 99; refine (hsz _).mono ?_; rintro e w' ⟨rfl, rfl⟩)
            | (go_at_call 191; refine (hkm _).mono ?_; rintro e w' ⟨rfl, rfl⟩))
          exact bodyPost_ret (v := .tuple #[.agg #[.int .i64 0, .slice none 0 0], .int .i64 0, .int .i64 5]) (by simp [results, Tryz.results148, go_sem]) rfl ⟨none, 0, by rw [H.out]; rfl, by rw [H.out]; exact World.ownsRow_nil _ _ _ _, hb0⟩
        · have hput2 := hput.out (by rw [hlen.out]; omega)
          rw [← Hx.out] at hput2
          have hrS := (hrow0.drop o (by omega)).take (u + 1) (by omega)
          have hr4 := (hrow0.drop (o + 1 + u) (by omega)).take 4 (by omega)
          have hof : ∀ n z c, z = u + 1 → Calls Tryz.prog 192 #[.slice (some ⟨b, off + o, none⟩) z c] ((w.alloc (.cells #[.int .i64 0, .slice none 0 0] 150)).drewN n) fun e w' => e = .returned (.int .u32 (Crc.more 0 ((bs.drop o).take (u + 1)) : Nat)) ∧ w' = (w.alloc (.cells #[.int .i64 0, .slice none 0 0] 150)).drewN n := fun n z c hz => by
            subst hz; exact of_any _ _ _ _ _ (hrS.below (below_drewN _ _ _) (Nat.le_refl _))
          have hsa : ∀ n z c q, z = 4 → q = off + (o + 1 + u) → Calls Tryz.prog 194 #[.slice (some ⟨b, q, none⟩) z c] ((w.alloc (.cells #[.int .i64 0, .slice none 0 0] 150)).drewN n) fun e w' => e = .returned (.int .u32 (Fr.val4 ((bs.drop (o + 1 + u)).take 4) : Nat)) ∧ w' = (w.alloc (.cells #[.int .i64 0, .slice none 0 0] 150)).drewN n := fun n z c q hz hq => by
            subst hz; subst hq; exact sumat_any _ _ _ _ (hr4.below (below_drewN _ _ _) (Nat.le_refl _))
          clear hrS hr4 hput
          generalize Crc.more 0 ((bs.drop o).take (u + 1)) = s1 at *
          generalize Fr.val4 ((bs.drop (o + 1 + u)).take 4) = s2 at *
          have Hput : Hid (_) := hput2
          clear hput2
          by_cases hse : s1 = s2
          · subst hse
            generalize hbody : (bs.drop (o + 1)).take u = body at *
            have Hb : Hid ((bs.drop (o + 1)).take u = body) := hbody
            have hbl : Hid (body.length = u) := (by rw [← hbody, List.length_take, List.length_drop, hlen.out]; omega : body.length = u)
            have hbs8 : ∀ y ∈ body, y < lim .u8 := by rw [← hbody]; exact take_small (drop_small hr.2.2.1 _) _
            have H : Hid (R = (((x : Int), body), o + 1 + u + 4, 0)) := (by rw [Hfn.out, if_neg hoe, if_neg (by rw [← Hx.out]; omega), if_neg hsh, if_pos (by rw [← Hx.out, Hput.out]), ← Hx.out] : R = (((x : Int), body), o + 1 + u + 4, 0))
            clear hbody Hfn Hput
            go_enter Tryz.func148, Tryz.ntmps148
            go_wp2_with (first
              | (go_at_call 193; refine hbs.mono ?_; rintro e w' ⟨rfl, rfl⟩)
              | (go_at_call 149; refine (hhd _).mono ?_; rintro e w' ⟨rfl, rfl⟩)
              | (go_at_call 99; refine (hsz _).mono ?_; rintro e w' ⟨rfl, rfl⟩)
              | (go_at_call 191; refine (hkm _).mono ?_; rintro e w' ⟨rfl, rfl⟩))
            go_quiet ((first
              | (go_at_call 192; exact Calls.quiet_of_same (hof _ _ _ (by omega)))
              | (go_at_call 194; exact Calls.quiet_of_same (hsa _ _ _ _ (by omega) (by omega)))))
            go_wp2
            have hbd := below_drewN (w.alloc (.cells #[.int .i64 0, .slice none 0 0] 150)).heap.size (w.alloc (.cells #[.int .i64 0, .slice none 0 0] 150)) nq
            have hb1 := hb0.trans (hbd.mono hb0.size)
            have hs1 : w.heap.size < ((w.alloc (.cells #[.int .i64 0, .slice none 0 0] 150)).drewN nq).heap.size := by simp
            obtain ⟨hN0, hN1⟩ := cell_two w (.int .i64 0) (.slice none 0 0) 150 rfl
            have hN0 := (hbd.cell (p := ⟨w.heap.size, 0, none⟩) (by simp)).trans hN0
            have hN1 := (hbd.cell (p := ⟨w.heap.size, 1, none⟩) (by simp)).trans hN1
            have hF0 := (hbd.frozen (p := ⟨w.heap.size, 0, none⟩) (by simp)).trans (frozen_new w _ 150 0)
            have hF1 := (hbd.frozen (p := ⟨w.heap.size, 1, none⟩) (by simp)).trans (frozen_new w _ 150 1)
            have hrB := (((hrow0.below hbd (Nat.le_refl _)).drop (o + 1) (by omega)).take u (by omega))
            rw [Hb.out] at hrB
            have hcell1 := (hbd.cell (p := ⟨b, off + o, none⟩) (cell_lt hcell)).trans hcell
            clear hbd hof hsa hkm hhd hsz hbs hrow0 hcell
            generalize (w.alloc (.cells #[.int .i64 0, .slice none 0 0] 150)).drewN nq = W1 at *
            have hcl : ∀ W z c q, Below W1.heap.size W1 W → z = u → q = off + (o + 1) → Calls Tryz.prog 195 #[.slice (some ⟨b, q, none⟩) z c] W (Made .u8 5 W body) := fun W z c q hW hz hq => by
              subst hz; subst hq; exact clone_any _ _ _ _ _ (by omega) (hrB.below hW (Nat.le_refl _))
            have i1 : (0 : Int) ≤ (o : Int) := by omega
            have i2 : (o : Int) < (len : Int) := by omega
            have i3 : (0 : Int) ≤ (o : Int) + 1 := by omega
            have i4 : (o : Int) + 1 ≤ (o : Int) + 1 + u := by omega
            have i5 : (o : Int) + 1 + u ≤ (cap : Int) := by omega
            have i6 : IntKind.i64.wrap ((o : Int) + 1 - 1) = (o : Int) := by rw [IntKind.wrap_i64]; omega
            have i7 : IntKind.i64.wrap (o : Int) = (o : Int) := by rw [IntKind.wrap_i64]; omega
            have i8 : ¬ (cap = o + 1) := by omega
            have i9 : IntKind.i64.wrap (x : Int) = (x : Int) := by rw [IntKind.wrap_i64]; omega
            have hne1 := World.new_ne W1 ⟨b, off + o, none⟩ hcell1
            go_region_held3 (fun w' => w'.cell? ⟨b, off + o, none⟩ = some (.int .u8 (x : Nat))) (first | go_keep | assumption)
              (first
                | ((go_at_call 195; refine (hcl _ _ _ _ ((Below.refl _ _).drew) ?_ ?_).mono ?_; omega; omega; rintro e w2 ⟨A, C, rfl, hown2, hbel2⟩; have hbel2' := below_of_drew hbel2; have hk0 := (hbel2'.cell (p := ⟨b, off + o, none⟩) (cell_lt hcell1)).trans hcell1; have hne2 := World.new_ne w2 ⟨b, off + o, none⟩ hk0))
                | ((go_at_call 195; refine (hcl _ _ _ _ (((Below.refl _ _).alloc (Nat.le_refl _) _).drew) ?_ ?_).mono ?_; omega; omega; rintro e w2 ⟨A, C, rfl, hown2, hbel2⟩; have hbel2b := below_of_drew hbel2; have hbel2' : Below W1.heap.size W1 w2 := (below_alloc _ _).trans (hbel2b.mono (by simp)); have hk0 := (hbel2'.cell (p := ⟨b, off + o, none⟩) (cell_lt hcell1)).trans hcell1; have hm0 := (hbel2b.cell (p := ⟨W1.heap.size, 0, none⟩) (by simp)).trans (cell_two W1 (.int .i64 0) (.slice none 0 0) 150 rfl).1; have hm1 := (hbel2b.cell (p := ⟨W1.heap.size, 1, none⟩) (by simp)).trans (cell_two W1 (.int .i64 0) (.slice none 0 0) 150 rfl).2; have hm2 := (hbel2b.frozen (p := ⟨W1.heap.size, 0, none⟩) (by simp)).trans (frozen_new W1 _ 150 0); have hm3 := (hbel2b.frozen (p := ⟨W1.heap.size, 1, none⟩) (by simp)).trans (frozen_new W1 _ 150 1))))
            · have hb : Below W1.heap.size W1 (w2.alloc (.cells #[.int .i64 (x : Nat), .slice A body.length C] 150)) := Below.alloc (show Below W1.heap.size W1 w2 from hbel2') hbel2'.size _
              obtain ⟨q0, q1⟩ := cell_two w2 (.int .i64 (x : Nat)) (.slice A body.length C) 150 rfl
              have hown3 : (w2.alloc (.cells #[.int .i64 (x : Nat), .slice A body.length C] 150)).ownsRow W1.heap.size 5 1 (.slice A body.length C) body.length (kcells .u8 body) := hown2.alloc _
              clear hown2 hbel2 hbel2' hk0 hne2 hcl
              generalize w2.alloc (.cells #[.int .i64 (x : Nat), .slice A body.length C] 150) = W3 at *
              generalize w2.heap.size = M at *
              have n0 := (hb.cell (p := ⟨w.heap.size, 0, none⟩) hs1).trans hN0
              have n1 := (hb.cell (p := ⟨w.heap.size, 1, none⟩) hs1).trans hN1
              have f0 := (hb.frozen (p := ⟨w.heap.size, 0, none⟩) hs1).trans hF0
              have f1 := (hb.frozen (p := ⟨w.heap.size, 1, none⟩) hs1).trans hF1
              have hB3 := hb1.trans (hb.mono hb1.size)
              clear hN0 hN1 hF0 hF1 hcell1 hne1 hrB
              go_wp2
              refine bodyPost_ret (v := .tuple #[.agg #[.int .i64 (x : Nat), .slice A body.length C], .int .i64 ((o + 1 + u + 4 : Nat) : Int), .int .i64 0]) (by simp [results, Tryz.results148, go_sem, n0, n1]) rfl ⟨A, C, ?_, ?_, (hB3.setCell (Nat.le_refl _) _).setCell (Nat.le_refl _) _⟩
              · rw [H.out]; rfl
              · rw [H.out]
                exact (ownsRow_setCell_below (ownsRow_setCell_below hown3 hs1 _) hs1 _).mono (by omega)
            · have hb : Below W1.heap.size W1 ((w2.setCell ⟨W1.heap.size, 0, none⟩ (.int .i64 (x : Nat))).setCell ⟨W1.heap.size, 1, none⟩ (.slice A body.length C)) := (hbel2'.setCell (Nat.le_refl _) _).setCell (Nat.le_refl _) _
              have q0 : ((w2.setCell ⟨W1.heap.size, 0, none⟩ (.int .i64 (x : Nat))).setCell ⟨W1.heap.size, 1, none⟩ (.slice A body.length C)).cell? ⟨W1.heap.size, 0, none⟩ = some (.int .i64 (x : Nat)) :=
                (World.cell?_setCell_other _ _ _ _ (by simp)).trans (World.cell?_setCell_same w2 _ _ hm0)
              have q1 : ((w2.setCell ⟨W1.heap.size, 0, none⟩ (.int .i64 (x : Nat))).setCell ⟨W1.heap.size, 1, none⟩ (.slice A body.length C)).cell? ⟨W1.heap.size, 1, none⟩ = some (.slice A body.length C) :=
                World.cell?_setCell_same _ _ _ (u := .slice none 0 0) ((World.cell?_setCell_other _ _ _ _ (by simp)).trans hm1)
              have hown3 : ((w2.setCell ⟨W1.heap.size, 0, none⟩ (.int .i64 (x : Nat))).setCell ⟨W1.heap.size, 1, none⟩ (.slice A body.length C)).ownsRow W1.heap.size 5 1 (.slice A body.length C) body.length (kcells .u8 body) :=
                (ownsRow_setCell_below (ownsRow_setCell_below hown2 (by simp) _) (by simp) _).mono (by simp)
              clear hown2 hbel2 hbel2' hbel2b hk0 hm0 hm1 hm2 hm3 hcl
              generalize (w2.setCell ⟨W1.heap.size, 0, none⟩ (.int .i64 (x : Nat))).setCell ⟨W1.heap.size, 1, none⟩ (.slice A body.length C) = W3 at *
              have n0 := (hb.cell (p := ⟨w.heap.size, 0, none⟩) hs1).trans hN0
              have n1 := (hb.cell (p := ⟨w.heap.size, 1, none⟩) hs1).trans hN1
              have f0 := (hb.frozen (p := ⟨w.heap.size, 0, none⟩) hs1).trans hF0
              have f1 := (hb.frozen (p := ⟨w.heap.size, 1, none⟩) hs1).trans hF1
              have hB3 := hb1.trans (hb.mono hb1.size)
              clear hN0 hN1 hF0 hF1 hcell1 hne1 hrB
              go_wp2
              refine bodyPost_ret (v := .tuple #[.agg #[.int .i64 (x : Nat), .slice A body.length C], .int .i64 ((o + 1 + u + 4 : Nat) : Int), .int .i64 0]) (by simp [results, Tryz.results148, go_sem, n0, n1]) rfl ⟨A, C, ?_, ?_, (hB3.setCell (Nat.le_refl _) _).setCell (Nat.le_refl _) _⟩
              · rw [H.out]; rfl
              · rw [H.out]
                exact (ownsRow_setCell_below (ownsRow_setCell_below hown3 hs1 _) hs1 _).mono (by omega)
          · have H : Hid (R = ((0, []), 0, 2)) := (by rw [Hfn.out, if_neg hoe, if_neg (by rw [← Hx.out]; omega), if_neg hsh, if_neg (by rw [← Hx.out, Hput.out]; exact hse)] : R = ((0, []), 0, 2))
            have hse' : ((s1 : Int) == (s2 : Int)) = false := by simp; omega
            clear Hfn Hput
            go_enter Tryz.func148, Tryz.ntmps148
            go_wp2_with (first
              | (go_at_call 193; refine hbs.mono ?_; rintro e w' ⟨rfl, rfl⟩)
              | (go_at_call 149; refine (hhd _).mono ?_; rintro e w' ⟨rfl, rfl⟩)
              | (go_at_call 99; refine (hsz _).mono ?_; rintro e w' ⟨rfl, rfl⟩)
              | (go_at_call 191; refine (hkm _).mono ?_; rintro e w' ⟨rfl, rfl⟩))
            go_quiet ((first
              | (go_at_call 192; exact Calls.quiet_of_same (hof _ _ _ (by omega)))
              | (go_at_call 194; exact Calls.quiet_of_same (hsa _ _ _ _ (by omega) (by omega)))))
            go_wp2
            exact bodyPost_ret (v := .tuple #[.agg #[.int .i64 0, .slice none 0 0], .int .i64 0, .int .i64 2]) (by simp [results, Tryz.results148, go_sem]) rfl ⟨none, 0, by rw [H.out]; rfl, by rw [H.out]; exact World.ownsRow_nil _ _ _ _, ((hb0.trans (below_drewN _ _ _)).setCell (Nat.le_refl _) _).setCell (Nat.le_refl _) _⟩
      · have H : Hid (R = ((0, []), 0, 2)) := (by rw [Hfn.out, if_neg hoe, if_pos (by rw [← Hx.out]; omega)] : R = ((0, []), 0, 2))
        rw [show kmB x = false by unfold kmB; simp; omega] at hkm
        clear Hfn hput
        go_enter Tryz.func148, Tryz.ntmps148
        go_wp2_with (first
          | (go_at_call 193; refine hbs.mono ?_; rintro e w' ⟨rfl, rfl⟩)
          | (go_at_call 149; refine (hhd _).mono ?_; rintro e w' ⟨rfl, rfl⟩)
          | (go_at_call 99; refine (hsz _).mono ?_; rintro e w' ⟨rfl, rfl⟩)
          | (go_at_call 191; refine (hkm _).mono ?_; rintro e w' ⟨rfl, rfl⟩))
        exact bodyPost_ret (v := .tuple #[.agg #[.int .i64 0, .slice none 0 0], .int .i64 0, .int .i64 2]) (by simp [results, Tryz.results148, go_sem]) rfl ⟨none, 0, by rw [H.out]; rfl, by rw [H.out]; exact World.ownsRow_nil _ _ _ _, hb0⟩
  · have H : Hid (R = ((0, []), 0, (Fr.bsz bs).2)) := (by rw [HR.out, Fr.first_bad hbad] : R = ((0, []), 0, (Fr.bsz bs).2))
    clear HR
    generalize (Fr.bsz bs).1 = n0 at *
    generalize (Fr.bsz bs).2 = c0 at *
    have hc0 : ((c0 : Int) == 0) = false := by simp; omega
    go_enter Tryz.func148, Tryz.ntmps148
    go_wp2_with (go_at_call 193; refine hbs.mono ?_; rintro e w' ⟨rfl, rfl⟩)
    exact bodyPost_ret (v := .tuple #[.agg #[.int .i64 0, .slice none 0 0], .int .i64 0, .int .i64 c0]) (by simp [results, Tryz.results148, go_sem]) rfl ⟨none, 0, by rw [H.out]; rfl, by rw [H.out]; exact World.ownsRow_nil _ _ _ _, hb0⟩
end Go.Proofs.YtfogodbbgbnhkaaGreatDoor

/- What the program's Scan does. -/
namespace Go.Proofs.YtfogodbbgbnhkaaGreatDoor
open Go.RowKit

theorem Fr.first_size {bs : List Nat} (hs : ∀ x ∈ bs, x < 256) (h : (Fr.first bs).2.2 = 0) : (Fr.first bs).1.2.length ≤ 1048576 ∧ (Fr.first bs).2.1 = Fr.size (Fr.first bs).1.2.length := by
  by_cases hb : (Fr.bsz bs).2 = 0
  · obtain ⟨u, hu, _, hget, htake, hol, hgap⟩ := Fr.bsz_ok hs hb
    have hfn := Fr.first_num hu hget hgap
    have hsz : Fr.size u = (Va.one u).length + 1 + u + 4 := rfl
    rw [hfn] at h ⊢
    split at h
    · simp at h
    · split at h
      · simp at h
      · split at h
        · simp at h
        · split at h
          · rename_i h1 h2 h3 h4
            have hl : ((bs.drop ((Va.one u).length + 1)).take u).length = u := by rw [List.length_take, List.length_drop]; omega
            rw [if_neg h1, if_neg h2, if_neg h3, if_pos h4]
            simp only []
            rw [hl]
            exact ⟨hu, rfl⟩
          · simp at h
  · rw [Fr.first_bad hb] at h
    exact absurd h hb

set_option maxRecDepth 100000 in
set_option maxHeartbeats 2000000 in
theorem scan_any (a : Option Addr) (len cap : Nat) (bs : List Nat) (w : World) (hbig : len ≤ 100000) (hshape : Shape a len cap) (hr : Row .u8 w a len bs) :
    Calls Tryz.prog 97 #[.slice a len cap] w (ScanRes w (Fr.scan bs)) := by
  have hlen : Hid (bs.length = len) := hr.1
  obtain ⟨R, hR⟩ : ∃ R, R = Fr.scan bs := ⟨_, rfl⟩
  rw [← hR]
  have HR : Hid (len + 1 ≤ (len + 1) + 0 ∧ R = Fr.sc (len + 1) bs 0 [] []) := (⟨by omega, by rw [hR, Fr.scan, hlen.out]⟩ : len + 1 ≤ (len + 1) + 0 ∧ R = Fr.sc (len + 1) bs 0 [] [])
  clear hR
  have hl0 := World.ownsRow_nil w w.heap.size 150 2
  have hp0 := World.ownsRow_nil w w.heap.size 3 1
  go_enter Tryz.func97, Tryz.ntmps97
  go_wp2
  go_loopw [5, 6, 7] (fun v u t wr => ∃ (k at' m : Nat) (fs : List Fr.F) (ps : List Nat) (cs : List Value) (a1 : Option Addr) (c1 : Nat) (a2 : Option Addr) (c2 : Nat), k ≤ at' ∧ at' ≤ len ∧ t = .int .i64 at' ∧ v = .slice a1 k c1 ∧ u = .slice a2 k c2 ∧
      wr.ownsRow w.heap.size 150 2 (.slice a1 k c1) k cs ∧ Held wr w.heap.size fs cs ∧ wr.ownsRow w.heap.size 3 1 (.slice a2 k c2) k (kcells .i64 ps) ∧ Below w.heap.size w wr ∧ Hid (fs.length = k) ∧ Hid (ps.length = k) ∧ Hid (len + 1 ≤ m + at' ∧ R = Fr.sc m bs at' fs ps))
    (fun _ _ t _ => len + 1 - (intOf t).toNat)
  case atStart => exact ⟨0, 0, len + 1, [], [], [], _, _, _, _, by omega, by omega, rfl, rfl, rfl, hl0, rfl, hp0, Below.refl _ _, (rfl : [].length = 0), (rfl : [].length = 0), HR⟩
  case round =>
    obtain ⟨k, at', m, fs, ps, cs, a1, c1, a2, c2, hka, hat, rfl, rfl, rfl, hl, hh, hp, hbel, hfk, hpk, H⟩ := hrel
    clear hl0 hp0 HR
    have hsz := hbel.size
    have hr' := hr.below hbel (Nat.le_refl _)
    have H0 := H.out.2
    obtain ⟨m', hm'⟩ : ∃ m', m = m' + 1 := ⟨m - 1, by have := H.out.1; omega⟩
    rw [hm'] at H0
    have hfl := Fr.first_le (bs.drop at')
    rw [List.length_drop, hlen.out] at hfl
    obtain ⟨R1, hR1⟩ : ∃ R1, Fr.first (bs.drop at') = R1 := ⟨_, rfl⟩
    have hok := fun h => Fr.first_ok (bs := bs.drop at') h
    have hsize := fun h => Fr.first_size (bs := bs.drop at') (drop_small hr.2.2.1 _) h
    rw [hR1] at hfl hok hsize
    obtain ⟨⟨x, y⟩, rn, rc⟩ := R1
    simp only at hfl hok hsize
    rcases hshape with ⟨rfl, rfl⟩ | ⟨b, off, rfl, hc⟩
    · have hrow := hr'.take 0 (by omega)
      obtain rfl : at' = 0 := by omega
      have hbs0 : bs = [] := List.length_eq_zero_iff.mp hlen.out
      have hcz : ¬ rc = 0 := by
        have : Fr.first (bs.drop 0) = ((0, []), 0, 5) := by rw [hbs0]; exact Fr.first_nil
        rw [hR1] at this
        simp at this; omega
      rw [show bs.take 0 = bs.drop 0 by rw [hbs0]; rfl] at hrow
      have hcall := fun c (_ : 0 ≤ c) => first_any a 0 c (bs.drop 0) wr (by omega) (by omega) hrow
      rw [hR1] at hcall
      clear hr hr' hrow hok hsize
      have H2 : Hid (R = (fs, ps, 0)) := (by rw [H0, Fr.sc_no (by rw [hR1]; exact hcz)] : R = (fs, ps, 0))
      clear H0
      have hR1' : Hid (_ = _) := hR1
      clear hR1
      have hcb : ((rc : Int) != 0) = true := by simp; omega
      go_wp2_with (go_at_call 148; refine (hcall _ (by omega)).mono ?_; rintro e w1 ⟨A, C, rfl, hown1, hbel1⟩; have hs1 := hbel1.size)
      have hB1 := hbel.trans (hbel1.mono hsz)
      go_ret3
      refine ⟨a1, c1, a2, c2, cs, ?_, ?_, ?_, ?_, ?_, ?_⟩
      · rw [H2.out]; simp only []; rw [hfk.out]; rfl
      · rw [H2.out]; simp only []; rw [hfk.out]; exact (owns_below hl hbel1).alloc _
      · rw [H2.out]; exact (hh.below hbel1).below (below_alloc _ _)
      · rw [H2.out]; simp only []; rw [hfk.out]; exact (owns_below hp hbel1).alloc _
      · rw [H2.out]; simp only []; rw [hfk.out, hpk.out]
      · exact hB1.alloc hB1.size _
    · by_cases hcap : cap = at'
      · have hrow : Row .u8 wr (some ⟨b, off, none⟩) (len - at') (bs.drop at') := by
          have h1 := hr'.drop at' hat
          exact ⟨h1.1, h1.2.1, h1.2.2.1, .inl (by omega)⟩
        have hcz : ¬ rc = 0 := by
          have : Fr.first (bs.drop at') = ((0, []), 0, 5) := by rw [List.drop_of_length_le (by rw [hlen.out]; omega)]; exact Fr.first_nil
          rw [hR1] at this
          simp at this; omega
        have hcall := fun c (h : len - at' ≤ c) => first_any (some ⟨b, off, none⟩) (len - at') c (bs.drop at') wr h (by omega) hrow
        rw [hR1] at hcall
        clear hr hr' hrow hok hsize
        have H2 : Hid (R = (fs, ps, at')) := (by rw [H0, Fr.sc_no (by rw [hR1]; exact hcz)] : R = (fs, ps, at'))
        clear H0
        have hR1' : Hid (_ = _) := hR1
        clear hR1
        have hcb : ((rc : Int) != 0) = true := by simp; omega
        go_wp2_with (go_at_call 148; refine (hcall _ (by omega)).mono ?_; rintro e w1 ⟨A, C, rfl, hown1, hbel1⟩; have hs1 := hbel1.size)
        have hB1 := hbel.trans (hbel1.mono hsz)
        go_ret3
        refine ⟨a1, c1, a2, c2, cs, ?_, ?_, ?_, ?_, ?_, ?_⟩
        · rw [H2.out]; simp only []; rw [hfk.out]; rfl
        · rw [H2.out]; simp only []; rw [hfk.out]; exact (owns_below hl hbel1).alloc _
        · rw [H2.out]; exact (hh.below hbel1).below (below_alloc _ _)
        · rw [H2.out]; simp only []; rw [hfk.out]; exact (owns_below hp hbel1).alloc _
        · rw [H2.out]; simp only []; rw [hfk.out, hpk.out]
        · exact hB1.alloc hB1.size _
      · have hrow := hr'.drop at' hat
        have hcall := fun c (h : len - at' ≤ c) => first_any (some ⟨b, off + at', none⟩) (len - at') c (bs.drop at') wr h (by omega) hrow
        rw [hR1] at hcall
        clear hr' hrow
        by_cases hcz : rc = 0
        · subst hcz
          obtain ⟨o1, o2, o3, o4, o5⟩ := hok rfl
          have hys : ∀ z ∈ y, z < 256 := by
            rw [o3]; exact take_small (drop_small (drop_small hr.2.2.1 _) _) _
          obtain ⟨hy20, hrn⟩ := hsize rfl
          have hhd := fun W => head_in y.length W hy20
          have ho3 := Fr.one3 hy20
          have Hrn : Hid (rn = (Va.one y.length).length + 1 + y.length + 4) := (hrn : rn = (Va.one y.length).length + 1 + y.length + 4)
          have hrn := Hrn.out
          generalize (Va.one y.length).length = o at *
          clear o3 hok hr hsize Hrn
          rw [Fr.sc_ok (by rw [hR1]), hR1] at H0
          simp only at H0
          have H2 : Hid (len + 1 ≤ m' + (at' + rn) ∧ R = Fr.sc m' bs (at' + rn) (fs ++ [(x, y)]) (ps ++ [at' + rn - 4 - y.length])) := (⟨by have := H.out.1; omega, H0⟩ : len + 1 ≤ m' + (at' + rn) ∧ R = Fr.sc m' bs (at' + rn) (fs ++ [(x, y)]) (ps ++ [at' + rn - 4 - y.length]))
          clear H0 H hR1 hm'
          go_wp2_with (first
            | (go_at_call 149; refine (hhd _).mono ?_; rintro e w' ⟨rfl, rfl⟩)
            | (go_at_call 148; go_must (refine (hcall _ (by omega)).mono ?_; rintro e w1 ⟨A, C, rfl, hown1, hbel1⟩; have hs1 := hbel1.size; have hl1 := owns_below hl hbel1; have hp1 := owns_below hp hbel1; have hB1 := hbel.trans (hbel1.mono hsz); have hh1 := Held.snoc (f := (x, y)) (hown1.mono hsz) hys (show y.length ≤ 1000000000 by omega) ⟨(show -9223372036854775808 ≤ x by omega), (show x ≤ 9223372036854775807 by omega)⟩ (hh.below hbel1); simp only at hh1))
            | (at_builtin; have := hl3; go_must (refine append_i64g (w0 := w) (B := w.heap.size) rfl (.tmp 28) (.tmp 35) rfl _ k ps rfl (hp3.alloc _) _ 1 1 [at' + rn - 4 - y.length] rfl (row_newz .i64 _ 3 _ (at' + rn - 4 - y.length) (by omega) (by show _ < 18446744073709551616; omega)) (fun h => by cases h) (by omega) (hB3.alloc hs3 _) (by simp; omega) ?_; intro a4 c4 w4 hp4 hB4 hs4 hg4))
            | (at_builtin; have := hl1; go_must (refine append_fr (w0 := w) (B := w.heap.size) rfl (.tmp 24) (.tmp 26) rfl _ k cs rfl ((hl1.alloc _).alloc _) (w1.heap.size + 1) 1 (.int .i64 x) (.slice A y.length C) rfl (cell_two _ _ _ _ (by simp)).1 (cell_two _ _ _ _ (by simp)).2 rfl rfl (by omega) ((hB1.alloc hB1.size _).alloc (by simp; have := hB1.size; omega) _) (by simp; have := hB1.size; omega) ?_; intro a3 c3 w3 hl3 hB3 hs3 hg3; obtain ⟨hF, hp3, hlt3, hh3⟩ := scan_mid hl hs1 hl1 hp1 hh1 hg3)))
          obtain ⟨hl4, hh4⟩ := scan_end hl3 hp3 hh3 hg4
          go_roundw
          case rel => exact ⟨k + 1, at' + rn, m', _, _, _, a3, c3, a4, c4, by omega, by omega, val_int (by omega), rfl, rfl, hl4, hh4, hp4, hB4, (by rw [List.length_append, hfk.out]; rfl : (fs ++ [(x, y)]).length = k + 1), (by rw [List.length_append, hpk.out]; rfl : (ps ++ [at' + rn - 4 - y.length]).length = k + 1), H2⟩
          case measure => simp [intOf]; omega
        · clear hr hok
          have H2 : Hid (R = (fs, ps, at')) := (by rw [H0, Fr.sc_no (by rw [hR1]; exact hcz)] : R = (fs, ps, at'))
          clear H0
          have hR1' : Hid (_ = _) := hR1
          clear hR1
          have hcb : ((rc : Int) != 0) = true := by simp; omega
          go_wp2_with (go_at_call 148; refine (hcall _ (by omega)).mono ?_; rintro e w1 ⟨A, C, rfl, hown1, hbel1⟩; have hs1 := hbel1.size)
          have hB1 := hbel.trans (hbel1.mono hsz)
          go_ret3
          refine ⟨a1, c1, a2, c2, cs, ?_, ?_, ?_, ?_, ?_, ?_⟩
          · rw [H2.out]; simp only []; rw [hfk.out]; rfl
          · rw [H2.out]; simp only []; rw [hfk.out]; exact (owns_below hl hbel1).alloc _
          · rw [H2.out]; exact (hh.below hbel1).below (below_alloc _ _)
          · rw [H2.out]; simp only []; rw [hfk.out]; exact (owns_below hp hbel1).alloc _
          · rw [H2.out]; simp only []; rw [hfk.out, hpk.out]
          · exact hB1.alloc hB1.size _
end Go.Proofs.YtfogodbbgbnhkaaGreatDoor
