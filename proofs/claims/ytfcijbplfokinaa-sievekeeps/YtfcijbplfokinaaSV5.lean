/- What is asked of the program's own functions over sieves; the laws SieveOf, SieveHas, SieveKeeps, given that. -/
import Derived.Test.YtfcijbplfokinaaSV4
import Derived.Test.YtfcijbplfokinaaI1
namespace Go.Proofs.Ytfcijbplfokinaa
open Go.RowKit

def Sv.bitsR (n : Int) (key : List Nat) : List Nat := if 1 ≤ n ∧ n ≤ 1048576 then Sv.bits n.toNat key else []
def VBitsC : Prop := ∀ (n : Int) (s : ByteArray) (w : World), (-9223372036854775808 ≤ n ∧ n ≤ 9223372036854775807) → s.size ≤ 1000 → Calls Try.prog 8 #[.int .i64 n, .string s] w fun e w' => ∃ a c, e = .returned (.slice a (Sv.bitsR n (kb s)).length c) ∧ IRow w' a (Sv.bitsR n (kb s)).length (Sv.bitsR n (kb s)) ∧ Below w.heap.size w w'
def VOfC : Prop := ∀ (a : Option Addr) (n c : Nat) (ks : List ByteArray) (w : World), n ≤ 1000 → (∀ s ∈ ks, s.size ≤ 1000) → InT w a n c ks → Calls Try.prog 12 #[.slice a n c] w (SieveRes w (Sv.of (ks.map kb)))
def VHasC : Prop := ∀ (a : Option Addr) (n c : Nat) (bs : List Nat) (s : ByteArray) (w : World), n ≤ 10000 → s.size ≤ 1000 → Row .u8 w a n bs → (a = none → n = 0 ∧ c = 0) → n ≤ c → Calls Try.prog 14 #[.slice a n c, .string s] w fun e w' => e = .returned (.bool (Sv.has bs (kb s))) ∧ Below w.heap.size w w'
structure SieveC : Prop where
  bits : VBitsC
  of : VOfC
  has : VHasC

theorem sv_none (key : List Nat) : Sv.has [0] key = false := by
  unfold Sv.has
  rw [if_neg (by simp)]
  have : ∀ j, Sv.isSet [0] j = false := fun j => by
    unfold Sv.isSet
    rw [decide_eq_false_iff_not]
    have h : ([0] : List Nat).getD (j / 8) 0 = 0 := by
      cases j / 8 with
      | zero => rfl
      | succ k => rfl
    rw [h, Nat.zero_div]
    decide
  unfold Sv.bits
  simp [List.range, List.range.loop, this]
theorem sv_nil : Sv.of [] = [0] := by decide
theorem bits_small {n : Int} {key : List Nat} : ∀ x ∈ Sv.bitsR n key, x < lim .i64 := fun x hx => by
  unfold Sv.bitsR at hx
  split at hx
  · have := Sv.bit_lt (by omega) key x hx
    show x < 18446744073709551616
    omega
  · cases hx

set_option maxRecDepth 100000 in
set_option maxHeartbeats 1000000 in
theorem svawake (hC : SieveC) (w : World) : Calls Try.prog 7 #[] w fun e w' => e = .returned (.bool true) ∧ Below w.heap.size w w' := by
  have ho := hC.of none 0 0 [] w (by omega) (fun s hs => by cases hs) ⟨TRow.nil _ _, (fun _ => ⟨rfl, rfl⟩), by omega⟩
  simp only [List.map_nil, sv_nil] at ho
  have hh := fun (a : Option Addr) (c : Nat) W h1 h2 h3 => hC.has a 1 c [0] ⟨#[97]⟩ W (by omega) (by decide) h1 h2 h3
  simp only [sv_none] at hh
  have hb := fun W => hC.bits 3 ⟨#[97]⟩ W (by omega) (by decide)
  have hl6 : (Sv.bitsR 3 (kb ⟨#[97]⟩)).length = 6 := by unfold Sv.bitsR; rw [if_pos (by omega), Sv.bits_len]
  generalize Sv.bitsR 3 (kb ⟨#[97]⟩) = L at *
  go_enter Try.func7, Try.ntmps7
  go_wp2_with (first
    | (go_at_call 8; have := c0_2; go_must (refine (hb _).mono ?_; rintro e w3 ⟨a3, c3, rfl, hr3, hb3⟩; have c0_3 := c0_2.trans (hb3.mono c0_2.size); have c1_3 := c1_2.trans (hb3.mono c1_2.size); have c2_3 := hb3))
    | (go_at_call 14; have := c0_1; go_must (refine (hh _ _ _ hr1 hn1 hc1).mono ?_; rintro e w2 ⟨rfl, hb2⟩; have c0_2 := c0_1.trans (hb2.mono c0_1.size); have c1_2 := hb2))
    | (go_at_call 12; go_must (refine (ho).mono ?_; rintro e w1 ⟨a1, c1, rfl, hc1, hn1, hr1, hb1⟩; have c0_1 := hb1; obtain ⟨bb, off, rfl, hcell⟩ := hr1.at (by simp); have q0 := hcell 0 (by simp); simp only [Nat.add_zero] at q0)))
  go_ret
  exact ⟨by simp, c0_3⟩

set_option maxRecDepth 100000 in
set_option maxHeartbeats 1000000 in
theorem svlight (a : Option Addr) (n c : Nat) (ks : List ByteArray) (w : World) (hr : StRow w a n ks) (hz : ∀ i, i < n → (ks.getD i ⟨#[]⟩).size ≤ maxLen) (hn : n ≤ 140737488355328) :
    Calls Try.prog 6 #[.slice a n c] w fun e w' => ∃ r : Bool, e = .returned (.bool r) ∧ (r = true ↔ n ≤ 30 ∧ ∀ i, i < n → (ks.getD i ⟨#[]⟩).size ≤ 200) ∧ Below w.heap.size w w' := by
  go_enter Try.func6, Try.ntmps6
  go_wp2
  go_loopw [3] (fun i wr => ∃ k : Nat, k ≤ n ∧ k ≤ 31 ∧ i = .int .i64 k ∧ Hid (∀ j, j < k → (ks.getD j ⟨#[]⟩).size ≤ 200) ∧ Below w.heap.size w wr) (fun i _ => 31 - (intOf i).toNat)
  case atStart => exact ⟨0, by omega, by omega, rfl, (fun j hj => by omega : ∀ j, j < 0 → (ks.getD j ⟨#[]⟩).size ≤ 200), Below.refl _ _⟩
  case round =>
    obtain ⟨k, hk, hk31, rfl, H, hbel⟩ := hrel
    by_cases hlt : k < n ∧ k ≤ 30
    · obtain ⟨bb, off, rfl, hc⟩ := hr.cell (by omega)
      have p0 := (hbel.cell (p := ⟨bb, off + k, none⟩) (cell_lt (hc k hlt.1))).trans (hc k hlt.1)
      have hzk := hz k hlt.1
      unfold maxLen at hzk
      have Hs : Hid (∀ s, s = ks.getD k ⟨#[]⟩ → s.size ≤ 200 → ∀ j, j < k + 1 → (ks.getD j ⟨#[]⟩).size ≤ 200) := (fun s hs h j hj => by
        rcases Nat.lt_or_ge j k with h' | h'
        · exact H.out j h'
        · obtain rfl : j = k := by omega
          rw [← hs]; exact h : ∀ s, s = ks.getD k ⟨#[]⟩ → s.size ≤ 200 → ∀ j, j < k + 1 → (ks.getD j ⟨#[]⟩).size ≤ 200)
      obtain ⟨s, hs⟩ : ∃ s, s = ks.getD k ⟨#[]⟩ := ⟨_, rfl⟩
      rw [← hs] at p0 hzk
      have i0 : (0 : Int) ≤ (k : Int) := by omega
      have i1 : (k : Int) < (n : Int) := by omega
      have i2 : (k : Int) ≤ 30 := by omega
      by_cases h1 : s.size ≤ 200
      · have H2 : Hid (∀ j, j < k + 1 → (ks.getD j ⟨#[]⟩).size ≤ 200) := Hs.out s hs h1
        have d1 : decide ((200 : Int) < (s.size : Int)) = false := by simp; omega
        clear Hs hs H hc
        go_wp2
        go_roundw
        case rel => exact ⟨k + 1, by omega, by omega, by go_num, H2, hbel⟩
        case measure => simp [intOf]; omega
      · have d1 : decide ((200 : Int) < (s.size : Int)) = true := by simp; omega
        have HF : Hid (¬ (n ≤ 30 ∧ ∀ i, i < n → (ks.getD i ⟨#[]⟩).size ≤ 200)) := (fun h => h1 (by rw [hs]; exact h.2 k hlt.1) : ¬ (n ≤ 30 ∧ ∀ i, i < n → (ks.getD i ⟨#[]⟩).size ≤ 200))
        clear Hs hs H hc
        go_wp2
        go_ret
        exact ⟨false, rfl, ⟨(fun h => by cases h), fun h => absurd h HF.out⟩, hbel⟩
    · by_cases hkn : k < n
      · have i1 : (k : Int) < (n : Int) := by omega
        have i2 : decide ((k : Int) ≤ 30) = false := by simp; omega
        have i3 : decide ((n : Int) ≤ 30) = false := by simp; omega
        clear hr hz
        go_wp2
        go_ret
        exact ⟨false, rfl, ⟨(fun h => by cases h), fun h => by omega⟩, hbel⟩
      · obtain rfl : k = n := by omega
        by_cases hk30 : k ≤ 30
        · have i3 : decide ((k : Int) ≤ 30) = true := by simp; omega
          clear hr hz
          go_wp2
          go_ret
          exact ⟨true, rfl, ⟨(fun _ => ⟨hk30, H.out⟩), fun _ => rfl⟩, hbel⟩
        · have i3 : decide ((k : Int) ≤ 30) = false := by simp; omega
          clear hr hz
          go_wp2
          go_ret
          exact ⟨false, rfl, ⟨(fun h => by cases h), fun h => by omega⟩, hbel⟩
theorem svlightT (a : Option Addr) (n c : Nat) (ks : List ByteArray) (w : World) (hr : StRow w a n ks) (hz : ∀ i, i < n → (ks.getD i ⟨#[]⟩).size ≤ maxLen) (hn : n ≤ 140737488355328) (h : n ≤ 30 ∧ ∀ i, i < n → (ks.getD i ⟨#[]⟩).size ≤ 200) :
    Calls Try.prog 6 #[.slice a n c] w fun e w' => e = .returned (.bool true) ∧ Below w.heap.size w w' :=
  (svlight a n c ks w hr hz hn).mono (fun e w' ⟨r, h1, h2, h3⟩ => ⟨by rw [h1, h2.mpr h], h3⟩)
theorem svlightF (a : Option Addr) (n c : Nat) (ks : List ByteArray) (w : World) (hr : StRow w a n ks) (hz : ∀ i, i < n → (ks.getD i ⟨#[]⟩).size ≤ maxLen) (hn : n ≤ 140737488355328) (h : ¬ (n ≤ 30 ∧ ∀ i, i < n → (ks.getD i ⟨#[]⟩).size ≤ 200)) :
    Calls Try.prog 6 #[.slice a n c] w fun e w' => e = .returned (.bool false) ∧ Below w.heap.size w w' :=
  (svlight a n c ks w hr hz hn).mono (fun e w' ⟨r, h1, h2, h3⟩ => ⟨by
    cases r with
    | true => exact absurd (h2.mp rfl) h
    | false => exact h1, h3⟩)
theorem intsB (a1 : Option Addr) (l1 c1 : Nat) (a2 : Option Addr) (l2 c2 : Nat) (L : List Nat) (w : World) (hr1 : Row .i64 w a1 l1 L) (hr2 : Row .i64 w a2 l2 L) : Calls Try.prog 9 #[.slice a1 l1 c1, .slice a2 l2 c2] w fun e w' => e = .returned (.bool true) ∧ Below w.heap.size w w' :=
  (ints_any a1 l1 c1 L a2 l2 c2 L w hr1 hr2).mono (fun e w' h => ⟨by rw [h.1]; simp, by obtain ⟨n, rfl⟩ := h.2; exact below_drewN _ _ _⟩)
theorem bytesB (a1 : Option Addr) (l1 c1 : Nat) (a2 : Option Addr) (l2 c2 : Nat) (L : List Nat) (w : World) (hr1 : Row .u8 w a1 l1 L) (hr2 : Row .u8 w a2 l2 L) : Calls Try.prog 11 #[.slice a1 l1 c1, .slice a2 l2 c2] w fun e w' => e = .returned (.bool true) ∧ Below w.heap.size w w' :=
  (bytes_any a1 l1 c1 L a2 l2 c2 L w hr1 hr2).mono (fun e w' h => ⟨by rw [h.1]; simp, by obtain ⟨n, rfl⟩ := h.2; exact below_drewN _ _ _⟩)
theorem all_of_getD {ks : List ByteArray} {n : Nat} (hl : ks.length = n) (h : ∀ i, i < n → (ks.getD i ⟨#[]⟩).size ≤ 200) : ∀ s ∈ ks, s.size ≤ 200 := fun s hs => by
  obtain ⟨i, hi, rfl⟩ := List.mem_iff_getElem.mp hs
  have := h i (by omega)
  rw [show ks.getD i ⟨#[]⟩ = ks[i] by simp [hi]] at this
  exact this
end Go.Proofs.Ytfcijbplfokinaa
