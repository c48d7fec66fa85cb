/- What the functions over numbers alone do: Size, Fold (both), Unfold. -/
import Derived.Test.YtnoknmnbfkdccaaGreatDoorRows
import Derived.Test.YtnoknmnbfkdccaaGreatDoorMa
import Derived.Test.YtnoknmnbfkdccaaGreatDoorW0
import Derived.WalkKit
import Derived.WalkSpells
import Derived.WalkLawsBesides
import Derived.Deep.QuietTactic
import Derived.BigQuiet
import Derived.Laws.AppendOwnNone
import Derived.Deep.AppendLies
import Derived.Deep.Onto
import Derived.Deep.RegionHeld3
import Derived.Lib.SmallJoins
import Derived.Maps.AppendAt
import Derived.Deep.RegionLawGrows
import Derived.Laws.Closers25
import Derived.Laws.BytesArg
import Derived.Lib.Strings
import Derived.Laws.IdiomStrings
namespace Go.Proofs.YtnoknmnbfkdccaaGreatDoor
open Go.RowKit

theorem ret_int {k : IntKind} {a b : Int} (h : a = b) : Ending.returned (.int k a) = .returned (.int k b) := by rw [h]
theorem val_int {k : IntKind} {a b : Int} (h : a = b) : Value.int k a = .int k b := by rw [h]

theorem or1_walk (u : Nat) (h : u < 18446744073709551616) : bits .or .u64 (u : Int) 1 = ((u ||| 1 : Nat) : Int) := by
  have := u64_or_nat u 1 h (by omega)
  exact_mod_cast this

set_option maxHeartbeats 400000 in
theorem size_any (u : Nat) (w : World) (h : u < 18446744073709551616) :
    Calls Tryz.prog 102 #[.int .u64 u] w fun e w' => e = .returned (.int .i64 (Va.size u : Nat)) ∧ w' = w := by
  have hb : u ||| 1 < 18446744073709551616 := Nat.or_lt_two_pow (n := 64) h (by decide)
  have hl := Va.bitLen_le (u := u) h
  have hc := fun w => len64_any (u ||| 1) w hb
  have hs : Hid (Va.size u = (Lib.bitLen (u ||| 1) + 6) / 7) := (rfl : Va.size u = (Lib.bitLen (u ||| 1) + 6) / 7)
  rw [← or1_walk u h] at hc
  generalize Lib.bitLen (u ||| 1) = b at *
  go_enter Tryz.func102, Tryz.ntmps102
  go_wp2_with (go_at_call 122; refine (hc _).mono ?_; rintro e w' ⟨rfl, rfl⟩)
  go_ret
  exact ⟨ret_int (by rw [hs.out]; omega), rfl⟩

end Go.Proofs.YtnoknmnbfkdccaaGreatDoor


/- What the readers of rows do: same (bytes), Same (numbers), Bytes, value. -/
namespace Go.Proofs.YtnoknmnbfkdccaaGreatDoor
open Go.RowKit

def lim : IntKind → Nat
  | .u8 => 256
  | _ => 18446744073709551616
/-- A slice that reads as the numbers bs. -/
def Row (k : IntKind) (w : World) (a : Option Addr) (len : Nat) (bs : List Nat) : Prop :=
  bs.length = len ∧ len ≤ 1000000000000000000 ∧ (∀ n ∈ bs, n < lim k) ∧
    (len = 0 ∨ ∃ b off, a = some ⟨b, off, none⟩ ∧ ∀ i, i < len → w.cell? ⟨b, off + i, none⟩ = some (.int k (bs.getD i 0 : Nat)))

theorem getD_lt {m : Nat} (hm : 0 < m) {bs : List Nat} (h : ∀ n ∈ bs, n < m) (i : Nat) : bs.getD i 0 < m := by
  rw [List.getD_eq_getElem?_getD]
  cases e : bs[i]? with
  | none => simpa using hm
  | some x => simpa using h x (List.mem_of_getElem? e)
theorem getD_lt8 {bs : List Nat} (h : ∀ n ∈ bs, n < lim .u8) (i : Nat) : bs.getD i 0 < 256 := getD_lt (by decide) h i
theorem getD_lt64 {bs : List Nat} (h : ∀ n ∈ bs, n < lim .u64) (i : Nat) : bs.getD i 0 < 18446744073709551616 := getD_lt (by decide) h i
theorem take_small {m : Nat} {bs : List Nat} (h : ∀ n ∈ bs, n < m) (k : Nat) : ∀ n ∈ bs.take k, n < m := fun n hn => h n (List.mem_of_mem_take hn)
theorem drop_small {m : Nat} {bs : List Nat} (h : ∀ n ∈ bs, n < m) (k : Nat) : ∀ n ∈ bs.drop k, n < m := fun n hn => h n (List.mem_of_mem_drop hn)
theorem eq_of_getD {a b : List Nat} (hl : a.length = b.length) (h : ∀ j, j < a.length → a.getD j 0 = b.getD j 0) : a = b := by
  apply List.ext_getElem hl
  intro i h1 h2
  have := h i h1
  simpa [h1, h2] using this
theorem Row.at {k : IntKind} {w : World} {a : Option Addr} {n : Nat} {bs : List Nat} (h : Row k w a n bs) (hn : 0 < n) :
    ∃ b off, a = some ⟨b, off, none⟩ ∧ ∀ i, i < n → w.cell? ⟨b, off + i, none⟩ = some (.int k (bs.getD i 0 : Nat)) := by
  obtain ⟨_, _, _, h0 | h0⟩ := h
  · omega
  · exact h0

set_option maxHeartbeats 400000 in
theorem same_any (a1 : Option Addr) (l1 c1 : Nat) (bs1 : List Nat) (a2 : Option Addr) (l2 c2 : Nat) (bs2 : List Nat) (w : World) (hr1 : Row .u8 w a1 l1 bs1) (hr2 : Row .u8 w a2 l2 bs2) :
    Calls Tryz.prog 54 #[.slice a1 l1 c1, .slice a2 l2 c2] w fun e w' => e = .returned (.bool (decide (bs1 = bs2))) ∧ ∃ n, w' = w.drewN n := by
  by_cases hl : l1 = l2
  · subst hl
    rcases Nat.eq_zero_or_pos l1 with h0 | h0
    · have he : Hid (decide (bs1 = bs2) = true) := (by
        have e1 := List.length_eq_zero_iff.mp (hr1.1.trans h0); have e2 := List.length_eq_zero_iff.mp (hr2.1.trans h0)
        rw [e1, e2]; rfl : decide (bs1 = bs2) = true)
      subst h0
      go_enter Tryz.func54, Tryz.ntmps54
      go_wp2
      go_loop [5] (fun i => i = .int .i64 (0 : Nat)) (fun _ => 0)
      case atStart => rfl
      case round =>
        subst hrel
        go_wp2
        go_ret
        exact ⟨by rw [he.out]; rfl, 0, rfl⟩
    · obtain ⟨b1, o1, rfl, hc1⟩ := hr1.at h0
      obtain ⟨b2, o2, rfl, hc2⟩ := hr2.at h0
      have hb := hr1.2.1
      have hlen : Hid (bs1.length = bs2.length) := (by rw [hr1.1, hr2.1] : bs1.length = bs2.length)
      have hlen1 : Hid (bs1.length = l1) := hr1.1
      clear hr1 hr2
      go_enter Tryz.func54, Tryz.ntmps54
      go_wp2
      go_loopw [5] (fun i wr => ∃ k n : Nat, k ≤ l1 ∧ i = .int .i64 k ∧ wr = w.drewN n ∧ Hid (∀ j, j < k → bs1.getD j 0 = bs2.getD j 0)) (fun i _ => l1 - (intOf i).toNat)
      case atStart => exact ⟨0, 0, by omega, rfl, rfl, (fun j hj => by omega : ∀ j, j < 0 → bs1.getD j 0 = bs2.getD j 0)⟩
      case round =>
        obtain ⟨k, n, hk, rfl, rfl, hsame⟩ := hrel
        by_cases hlt : k < l1
        · have h1 := hc1 k hlt
          have h2 := hc2 k hlt
          clear hc1 hc2
          have i0 : (0 : Int) ≤ (k : Int) := Int.natCast_nonneg _
          have i1 : (k : Int) < (l1 : Int) := by omega
          by_cases hxy : bs1.getD k 0 = bs2.getD k 0
          · have H : Hid (∀ j, j < k + 1 → bs1.getD j 0 = bs2.getD j 0) := (by
              intro j hj
              rcases Nat.lt_or_ge j k with h | h
              · exact hsame.out j h
              · obtain rfl : j = k := by omega
                exact hxy : ∀ j, j < k + 1 → bs1.getD j 0 = bs2.getD j 0)
            rw [← hxy] at h2
            clear hxy hsame
            generalize bs1.getD k 0 = x at *
            go_wp2_with fail
            go_quiet (fail)
            go_wp2
            go_roundw
            case rel => exact ⟨k + 1, _, by omega, by go_num, by first | rfl | exact (World.drewN_drewN _ _ _), H⟩
            case measure => simp [intOf]; omega
          · have he : Hid (decide (bs1 = bs2) = false) := (by simp; intro h; exact hxy (by rw [h]) : decide (bs1 = bs2) = false)
            generalize bs1.getD k 0 = x at *
            generalize bs2.getD k 0 = y at *
            have hxy' : ((x : Int) == (y : Int)) = false := by simp; omega
            go_wp2_with fail
            go_quiet (fail)
            go_wp2
            go_ret
            exact ⟨by rw [he.out]; rfl, _, by first | rfl | exact (World.drewN_drewN _ _ _)⟩
        · have he : Hid (decide (bs1 = bs2) = true) := (by
            simp; exact eq_of_getD hlen.out (fun j hj => hsame.out j (by have := hlen1.out; omega)) : decide (bs1 = bs2) = true)
          go_wp2
          go_ret
          exact ⟨by rw [he.out]; rfl, _, by first | rfl | exact (World.drewN_drewN _ _ _)⟩
  · have he : Hid (decide (bs1 = bs2) = false) := (by
      simp; intro h; apply hl; rw [← hr1.1, ← hr2.1, h] : decide (bs1 = bs2) = false)
    go_enter Tryz.func54, Tryz.ntmps54
    go_wp2
    go_ret
    exact ⟨by rw [he.out]; rfl, 0, rfl⟩

end Go.Proofs.YtnoknmnbfkdccaaGreatDoor

/- What Bytes, value and the program's Get do. -/
namespace Go.Proofs.YtnoknmnbfkdccaaGreatDoor
open Go.RowKit

set_option maxHeartbeats 400000 in
theorem bytes_any (a1 : Option Addr) (l1 c1 : Nat) (bs1 : List Nat) (a2 : Option Addr) (l2 c2 : Nat) (bs2 : List Nat) (w : World) (hr1 : Row .u8 w a1 l1 bs1) (hr2 : Row .u8 w a2 l2 bs2) :
    Calls Tryz.prog 21 #[.slice a1 l1 c1, .slice a2 l2 c2] w fun e w' => e = .returned (.bool (decide (bs1 = bs2))) ∧ ∃ n, w' = w.drewN n := by
  have hs := same_any a1 l1 c1 bs1 a2 l2 c2 bs2 w hr1 hr2
  clear hr1 hr2
  go_enter Tryz.func21, Tryz.ntmps21
  go_wp2_with (go_at_call 54; refine hs.mono ?_; rintro e w' ⟨rfl, n, rfl⟩)
  go_ret
  exact ⟨rfl, n, rfl⟩

theorem value_step (u x v : Nat) (hu : u = v % 18446744073709551616) : (u * 128 + x % 128) % 18446744073709551616 = (x % 128 + 128 * v) % 18446744073709551616 := by
  subst hu; omega

set_option maxHeartbeats 400000 in
theorem value_any (a : Option Addr) (len cap : Nat) (bs : List Nat) (w : World) (hr : Row .u8 w a len bs) :
    Calls Tryz.prog 145 #[.slice a len cap] w fun e w' => e = .returned (.int .u64 (Va.val bs % 18446744073709551616 : Nat)) ∧ w' = w := by
  have hlen : Hid (bs.length = len) := hr.1
  have hbig := hr.2.1
  go_enter Tryz.func145, Tryz.ntmps145
  go_wp2
  go_loop [3, 4] (fun t i => ∃ k u : Nat, k ≤ len ∧ i = .int .i64 ((k : Int) - 1) ∧ t = .int .u64 u ∧ Hid (u = Va.val (bs.drop k) % 18446744073709551616)) (fun _ i => (intOf i + 1).toNat)
  case atStart => exact ⟨len, 0, by omega, rfl, rfl, (by rw [List.drop_of_length_le (by rw [hlen.out]; omega)]; rfl : 0 = Va.val (bs.drop len) % 18446744073709551616)⟩
  case round =>
    obtain ⟨k, u, hk, rfl, rfl, hu⟩ := hrel
    rcases Nat.eq_zero_or_pos k with h0 | h0
    · subst h0
      go_wp2
      go_ret
      exact ⟨ret_int (by rw [hu.out]; rfl), rfl⟩
    · obtain ⟨b, off, rfl, hc⟩ := hr.at (by omega)
      obtain ⟨j, rfl⟩ : ∃ j, k = j + 1 := ⟨k - 1, by omega⟩
      have hcell := hc j (by omega)
      have hx := getD_lt8 hr.2.2.1 j
      have hub : u < 18446744073709551616 := by rw [hu.out]; exact Nat.mod_lt _ (by omega)
      have H : Hid ((u * 128 + bs.getD j 0 % 128) % 18446744073709551616 = Va.val (bs.drop j) % 18446744073709551616) := (by
        rw [value_step _ _ _ hu.out, Va.drop_get bs j (by rw [hlen.out]; omega)]; rfl : _ = _)
      clear hc hr hu
      have e : ((j + 1 : Nat) : Int) - 1 = (j : Int) := by omega
      rw [e]
      clear e
      generalize bs.getD j 0 = x at *
      go_wp2
      go_round
      case rel => exact ⟨j, (u * 128 + x % 128) % 18446744073709551616, by omega, by go_num, val_int (by simp only [IntKind.wrap_u64]; omega), H⟩
      case measure => simp [intOf]

/-- the code that goes with how many bytes were read -/
def code (n : Nat) : Nat := if n = 0 then 2 else 0
theorem code_zero : code 0 = 2 := rfl
theorem ret3 {k1 k2 k3 : IntKind} {a a' b b' c c' : Int} (h1 : a = a') (h2 : b = b') (h3 : c = c') :
    Ending.returned (.tuple #[.int k1 a, .int k2 b, .int k3 c]) = .returned (.tuple #[.int k1 a', .int k2 b', .int k3 c']) := by rw [h1, h2, h3]

theorem or_walk (u x k : Nat) (hu : u < 128 ^ k) (hx : x < 256) (hk : k ≤ 8 ∨ k = 9 ∧ x ≤ 1) :
    bits .or .u64 (u : Int) (IntKind.u64.wrap (IntKind.u64.wrap (bits .and .u8 (x : Int) 127) * 2 ^ (7 * k))) = ((u + 128 ^ k * (x % 128) : Nat) : Int) := by
  have e1 : bits .and .u8 (x : Int) 127 = ((x % 128 : Nat) : Int) := by
    have := u8_and_nat x 127 hx (by omega); rw [nat_mask7] at this; exact_mod_cast this
  have e2 : (128 : Nat) ^ k = 2 ^ (7 * k) := by rw [show 128 = 2 ^ 7 from rfl, ← Nat.pow_mul]
  have hb : x % 128 * 2 ^ (7 * k) < 18446744073709551616 := by
    rcases hk with hk | ⟨rfl, h1⟩
    · have h2 : 2 ^ (7 * k) ≤ 2 ^ 56 := Nat.pow_le_pow_right (by omega) (by omega)
      have h3 : x % 128 * 2 ^ (7 * k) ≤ 127 * 2 ^ 56 := Nat.mul_le_mul (by omega) h2
      omega
    · have : x % 128 ≤ 1 := by omega
      have h3 : x % 128 * 2 ^ (7 * 9) ≤ 1 * 2 ^ (7 * 9) := Nat.mul_le_mul_right _ this
      omega
  have e3 : (((x % 128 : Nat) : Int) % 18446744073709551616) = ((x % 128 : Nat) : Int) := by omega
  have e4 : ((x % 128 : Nat) : Int) * 2 ^ (7 * k) = ((x % 128 * 2 ^ (7 * k) : Nat) : Int) := by simp
  have hub : u < 18446744073709551616 := by
    have : (128 : Nat) ^ k ≤ 128 ^ 9 := Nat.pow_le_pow_right (by omega) (by omega)
    have : (128 : Nat) ^ 9 < 18446744073709551616 := by decide
    omega
  rw [e1]
  simp only [IntKind.wrap_u64]
  rw [e3, e4]
  rw [e2] at hu ⊢
  have e5 : (((x % 128 * 2 ^ (7 * k) : Nat) : Int) % 18446744073709551616) = ((x % 128 * 2 ^ (7 * k) : Nat) : Int) := by omega
  rw [e5, u64_or_nat _ _ hub hb, Nat.or_comm, nat_join (7 * k) _ _ (Nat.mul_mod_left _ _) hu, Nat.add_comm, Nat.mul_comm (x % 128)]
theorem acc_lt (u x k : Nat) (hu : u < 128 ^ k) : u + 128 ^ k * (x % 128) < 128 ^ (k + 1) := by
  rw [Nat.pow_succ]
  have : 128 ^ k * (x % 128) ≤ 128 ^ k * 127 := Nat.mul_le_mul_left _ (by omega)
  omega

set_option maxRecDepth 100000 in
set_option maxHeartbeats 1000000 in
theorem get_any (a : Option Addr) (len cap : Nat) (bs : List Nat) (w : World) (hr : Row .u8 w a len bs) :
    Calls Tryz.prog 129 #[.slice a len cap] w fun e w' => e = .returned (.tuple #[.int .u64 ((Va.get bs).1 : Nat), .int .i64 ((Va.get bs).2 : Nat), .int .i64 (code (Va.get bs).2 : Nat)]) ∧ w' = w := by
  have hlen : Hid (bs.length = len) := hr.1
  have hbig := hr.2.1
  obtain ⟨g, hg⟩ : ∃ g, g = Va.get bs := ⟨_, rfl⟩
  rw [← hg]
  have HG : Hid (g = Va.get bs) := hg
  clear hg
  go_enter Tryz.func129, Tryz.ntmps129
  go_wp2
  go_loop [5, 10] (fun t i => ∃ k u : Nat, k ≤ len ∧ k ≤ 9 ∧ i = .int .i64 k ∧ t = .int .u64 u ∧ Hid (u < 128 ^ k ∧ g = Va.lp k u (bs.drop k))) (fun _ i => len - (intOf i).toNat)
  case atStart => exact ⟨0, 0, by omega, by omega, rfl, rfl, (⟨by omega, HG.out⟩ : 0 < 128 ^ 0 ∧ g = Va.lp 0 0 (bs.drop 0))⟩
  case round =>
    obtain ⟨k, u, hk, hk9, rfl, rfl, hu⟩ := hrel
    clear HG
    by_cases hlt : k < len
    · obtain ⟨b, off, rfl, hc⟩ := hr.at (by omega)
      have hcell := hc k hlt
      have hx := getD_lt8 hr.2.2.1 k
      clear hc hr
      have H := hu.out.2
      rw [Va.drop_get bs k (by rw [hlen.out]; omega), Va.lp] at H
      generalize bs.getD k 0 = x at *
      by_cases h1 : k = 9 ∧ 1 < x
      · rw [if_pos h1] at H
        obtain ⟨rfl, h1⟩ := h1
        replace H : Hid (g = (0, 0)) := H
        clear hu
        go_wp2
        go_ret3
        exact ⟨ret3 (by rw [H.out]; rfl) (by rw [H.out]; rfl) (by rw [H.out]; rfl), rfl⟩
      · rw [if_neg h1] at H
        by_cases h2 : 0 < k ∧ x = 0
        · rw [if_pos h2] at H
          obtain ⟨h2, rfl⟩ := h2
          replace H : Hid (g = (0, 0)) := H
          clear hu
          by_cases h9 : k = 9
          · subst h9
            go_wp2
            go_ret3
            exact ⟨ret3 (by rw [H.out]; rfl) (by rw [H.out]; rfl) (by rw [H.out]; rfl), rfl⟩
          · go_wp2
            go_ret3
            exact ⟨ret3 (by rw [H.out]; rfl) (by rw [H.out]; rfl) (by rw [H.out]; rfl), rfl⟩
        · rw [if_neg h2] at H
          have hur : Hid (u < 128 ^ k) := hu.out.1
          have hub : u < 9223372036854775808 := Nat.lt_of_lt_of_le hu.out.1 (Nat.pow_le_pow_right (n := 128) (j := 9) (by omega) hk9)
          clear hu
          by_cases h3 : x < 128
          · rw [if_pos h3] at H
            replace H : Hid (_ = _) := H
            by_cases h9 : k = 9
            · subst h9
              have h1' : x ≤ 1 := by omega
              go_wp2
              go_ret3
              exact ⟨ret3 (by rw [H.out]; exact or_walk u x 9 hur.out hx (.inr ⟨rfl, h1'⟩)) (by rw [H.out]; rfl) (by rw [H.out]; rfl), rfl⟩
            · go_wp2
              all_goals
                go_ret3
                exact ⟨ret3 (by rw [H.out]; exact or_walk u x k hur.out hx (.inl (by omega))) (by rw [H.out]; show (k : Int) + 1 = ((k + 1 : Nat) : Int); omega) (by rw [H.out]; rfl), rfl⟩
          · rw [if_neg h3] at H
            replace H : Hid (_ = _) := H
            by_cases h9 : k = 9
            · omega
            · go_wp2
              all_goals
                go_round
                case rel => exact ⟨k + 1, u + 128 ^ k * (x % 128), by omega, by omega, by go_num, val_int (or_walk u x k hur.out hx (.inl (by omega))), (⟨acc_lt _ _ _ hur.out, H.out⟩ : _ ∧ _)⟩
                case measure => simp [intOf]; omega
    · have H : Hid (g = (0, 0)) := (by rw [hu.out.2, List.drop_of_length_le (by rw [hlen.out]; omega)]; rfl : g = (0, 0))
      clear hu
      go_wp2
      go_ret3
      exact ⟨ret3 (by rw [H.out]; rfl) (by rw [H.out]; rfl) (by rw [H.out]; rfl), rfl⟩
end Go.Proofs.YtnoknmnbfkdccaaGreatDoor

/- Rows that a call makes of its own; what append does to them; what the reference's One does. -/
namespace Go.Proofs.YtnoknmnbfkdccaaGreatDoor
open Go.RowKit

/-- numbers as cells -/
def kcells (k : IntKind) (bs : List Nat) : List Value := bs.map fun n => Value.int k (n : Nat)
theorem kcells_append (k : IntKind) (a b : List Nat) : kcells k (a ++ b) = kcells k a ++ kcells k b := by simp [kcells]
theorem kcells_length (k : IntKind) (a : List Nat) : (kcells k a).length = a.length := by simp [kcells]
theorem kcells_get (k : IntKind) (a : List Nat) (j : Nat) (u : Value) (h : (kcells k a)[j]? = some u) : j < a.length ∧ u = .int k (a.getD j 0 : Nat) := by
  simp only [kcells, List.getElem?_map] at h
  cases e : a[j]? with
  | none => rw [e] at h; simp at h
  | some x =>
    rw [e] at h; simp at h
    refine ⟨(List.getElem?_eq_some_iff.mp e).1, ?_⟩
    rw [List.getD_eq_getElem?_getD, e]; simp [← h]
theorem add_at (b off i : Nat) : Addr.add ⟨b, off, none⟩ i = ⟨b, off + i, none⟩ := by
  unfold Addr.add; split
  · simp_all
  · rfl
theorem cell_lt {w : World} {p : Addr} {v : Value} (h : w.cell? p = some v) : p.block < w.heap.size := by
  rcases Nat.lt_or_ge p.block w.heap.size with h' | h'
  · exact h'
  · simp [World.cell?, Array.getElem?_eq_none h'] at h
theorem Row.below {k : IntKind} {w w' : World} {B : Nat} {a : Option Addr} {l : Nat} {bs : List Nat} (h : Row k w a l bs) (hb : Below B w w') (hB : w.heap.size ≤ B) : Row k w' a l bs := by
  obtain ⟨h1, h2, h3, h4⟩ := h
  refine ⟨h1, h2, h3, ?_⟩
  rcases h4 with h0 | ⟨b, off, e, hc⟩
  · exact .inl h0
  · refine .inr ⟨b, off, e, fun i hi => ?_⟩
    have hlt := cell_lt (hc i hi)
    rw [hb.cell (p := ⟨b, off + i, none⟩) (Nat.lt_of_lt_of_le hlt hB)]
    exact hc i hi
theorem below_drewN (B : Nat) (w : World) (n : Nat) : Below B w (w.drewN n) := ⟨rfl, rfl, rfl, Nat.le_refl _, fun _ _ => rfl⟩
theorem owns_below {w w' : World} {B e size n : Nat} {v : Value} {xs : List Value} (h : w.ownsRow B e size v n xs) (hb : Below w.heap.size w w') : w'.ownsRow B e size v n xs := by
  refine ⟨h.1, ?_⟩
  rcases h.2 with hn | ⟨g, cap, cur, rfl, hg, hgg, rest⟩
  · exact .inl hn
  · exact .inr ⟨g, cap, cur, rfl, hg, by rw [hb.block g (Array.getElem?_eq_some_iff.1 hgg).1]; exact hgg, rest⟩
theorem owns_lit (w : World) (base : Nat) (e : TypeId) (cs : List Value) (n : Nat) (hn : n = cs.length) (hb : base ≤ w.heap.size) (hm : n ≤ 1000) :
    (w.alloc (.cells cs.toArray e)).ownsRow base e 1 (.slice (some ⟨w.heap.size, 0, none⟩) n n) n cs :=
  ⟨by omega, .inr ⟨w.heap.size, n, cs.toArray, rfl, hb, heap_alloc_new w _, Nat.le_refl _, by unfold maxLen; omega, by simp; omega, by simp [hn]⟩⟩

theorem row_of_owns {k : IntKind} {w : World} {base : Nat} {e : TypeId} {a : Option Addr} {n cap : Nat} {bs : List Nat} (h : w.ownsRow base e 1 (.slice a n cap) n (kcells k bs)) (hsm : ∀ x ∈ bs, x < lim k) (hn : n ≤ 1000000000000000000) :
    Row k w a n bs ∧ (a = none → n = 0 ∧ cap = 0) ∧ n ≤ cap := by
  have hl := h.1
  rw [kcells_length] at hl
  rcases h.2 with ⟨e, rfl⟩ | ⟨g, cap, cur, e, _, hh, hnc, hm, hsz, htk⟩
  · simp only [Value.slice.injEq] at e
    obtain ⟨rfl, _, rfl⟩ := e
    exact ⟨⟨by omega, hn, hsm, .inl rfl⟩, fun _ => ⟨rfl, rfl⟩, by omega⟩
  · simp only [Value.slice.injEq] at e
    obtain ⟨rfl, _, rfl⟩ := e
    refine ⟨⟨by omega, hn, hsm, .inr ⟨g, 0, rfl, fun i hi => ?_⟩⟩, (fun h => by cases h), hnc⟩
    simp only [World.cell?, hh]
    have e : cur[0 + i]? = (cur.toList.take (n * 1))[i]? := by
      rw [List.getElem?_take, if_pos (by omega)]; simp
    show (if (none : Option _).isSome then none else cur[0 + i]?) = _
    rw [if_neg (by simp), e, htk]
    simp only [kcells, List.getElem?_map, List.getD_eq_getElem?_getD]
    rw [List.getElem?_eq_getElem (by omega)]; simp
theorem slice_of_owns {w : World} {base : Nat} {e : TypeId} {v : Value} {n : Nat} {xs : List Value} (h : w.ownsRow base e 1 v n xs) : ∃ a cap, v = .slice a n cap := by
  rcases h.2 with ⟨rfl, rfl⟩ | ⟨g, cap, cur, rfl, _⟩
  · exact ⟨_, _, rfl⟩
  · exact ⟨_, _, rfl⟩
theorem row_new (k : IntKind) (w : World) (e : TypeId) (x : Nat) (hx : x < lim k) : Row k (w.alloc (.cells #[.int k (x : Nat)] e)) (some ⟨w.heap.size, 0, none⟩) 1 [x] := by
  refine ⟨rfl, by omega, by simpa using hx, .inr ⟨_, _, rfl, fun i hi => ?_⟩⟩
  obtain rfl : i = 0 := by omega
  have : (w.alloc (.cells #[.int k (x : Nat)] e)).heap[w.heap.size]? = some (.cells #[.int k (x : Nat)] e) := heap_alloc_new w _
  simp only [World.cell?, this]
  rfl

theorem Tryz.info5 : (Tryz.prog.info? 5).map (fun i => (i.zero, i.size, i.bytes)) = some (some (.int .u8 0), 1, 1) := by kernel_rfl

theorem append_u8 {w0 w : World} {B : Nat} {ops : Array Oper} {rest : List Oper} {o : Oper} {a : Act} {Q : Exit → Act → World → Prop} (hgd : o.guard = none) (s x : Operand)
    (ho : o.op = .call { callee := .builtin .append, args := #[s, x], argTypes := #[39, 39] })
    (v : Value) (n : Nat) (xs : List Nat) (hs : a.eval s = v) (hown : w.ownsRow B 5 1 v n (kcells .u8 xs))
    (ad : Option Addr) (m c : Nat) (bs : List Nat) (hx : a.eval x = .slice ad m c) (hrow : Row .u8 w ad m bs) (hnil : ad = none → m = 0 ∧ c = 0)
    (hnm : n + m ≤ 1000000000000) (hbel : Below B w0 w) (hB : B ≤ w.heap.size)
    (h : ∀ a' c' w', w'.ownsRow B 5 1 (.slice a' (n + m) c') (n + m) (kcells .u8 (xs ++ bs)) → Below B w0 w' → B ≤ w'.heap.size → wpList Tryz.prog ops Q rest (a.put o.dst (.slice a' (n + m) c')) w') : wpList Tryz.prog ops Q (o :: rest) a w := by
  obtain ⟨i0, hi, hz0, hz1, hz2⟩ := info_parts Tryz.info5
  obtain ⟨h1, h2, h3, h4⟩ := hrow
  cases ad with
  | none =>
    obtain ⟨rfl, rfl⟩ := hnil rfl
    obtain rfl : bs = [] := List.length_eq_zero_iff.mp h1
    refine wpList_append_own_none hgd s x 39 ho B 5 i0 1 Tryz.underlying39 hi v n (kcells .u8 xs) hs hown hx ?_
    obtain ⟨a', c', rfl⟩ := slice_of_owns hown
    exact h a' c' w (by simpa using hown) hbel hB
  | some ad =>
    refine wpList_append_own w hgd s x 39 ho B 5 i0 (.int .u8 0) 1 1 Tryz.underlying39 hi hz0 hz1 hz2 rfl (by decide) v n (kcells .u8 xs) hs hown ad m c (kcells .u8 bs) hx (by rw [kcells_length]; omega) ?_ ?_ (by unfold maxLen; omega) (by omega) hB ?_
    · intro j u hj
      obtain ⟨hlt, rfl⟩ := kcells_get .u8 bs j u hj
      rcases h4 with h0 | ⟨b, off, e, hc⟩
      · omega
      · obtain rfl : ad = ⟨b, off, none⟩ := by simpa using e
        rw [add_at]; exact hc j (by omega)
    · intro u hu
      simp only [kcells, List.mem_map] at hu
      obtain ⟨n, _, rfl⟩ := hu
      rfl
    · intro v' w' hown' hg _
      obtain ⟨a', c', rfl⟩ := slice_of_owns hown'
      refine h a' c' w' (by rw [kcells_append]; exact hown') (hbel.grown hg hB (fun k hk => (hown.lt k hk).1)) (Nat.le_trans hB hg.size)

/-- what a call that makes a row tells: the row is its own, what was there is as it was -/
def Made (k : IntKind) (e : TypeId) (w : World) (bs : List Nat) (en : Ending) (w' : World) : Prop :=
  ∃ a c, en = .returned (.slice a bs.length c) ∧ w'.ownsRow w.heap.size e 1 (.slice a bs.length c) bs.length (kcells k bs) ∧ Below w.heap.size w w'

set_option maxRecDepth 100000 in
set_option maxHeartbeats 400000 in
theorem one_low (u : Nat) (w : World) (h : u < 128) : Calls Tryz.prog 133 #[.int .u64 u] w (Made .u8 5 w (Va.one u)) := by
  have h1 := owns_lit w w.heap.size 5 [.int .u8 (u : Nat)] 1 rfl (Nat.le_refl _) (by omega)
  have h2 : Below w.heap.size w (w.alloc (.cells #[.int .u8 (u : Nat)] 5)) := (Below.refl _ _).alloc (Nat.le_refl _) _
  rw [Va.one_lo h]
  go_enter Tryz.func133, Tryz.ntmps133
  go_wp2
  go_ret
  exact ⟨_, _, rfl, h1, h2⟩

set_option maxRecDepth 100000 in
set_option maxHeartbeats 400000 in
theorem one_any : ∀ (k u : Nat) (w : World), u ≤ k → u < 18446744073709551616 → Calls Tryz.prog 133 #[.int .u64 u] w (Made .u8 5 w (Va.one u)) := by
  intro k
  induction k with
  | zero => exact fun u w hu _ => one_low u w (by omega)
  | succ k ih =>
    intro u w hu hu64
    by_cases h : u < 128
    · exact one_low u w h
    · have hc := fun w => ih (u / 128) w (by omega) (by omega)
      have e1 : ((u / 128 : Nat) : Int) = (u : Int) / 128 := by omega
      simp only [e1] at hc
      clear e1 ih
      rw [Va.one_hi h]
      have hlen := Va.one_len10 (u := u / 128) (by omega)
      have hsm := Va.one_small (u / 128)
      generalize Va.one (u / 128) = r at *
      have h1 := owns_lit w w.heap.size 5 [.int .u8 ((u : Int) % 128 + 128)] 1 rfl (Nat.le_refl _) (by omega)
      have h2 : Below w.heap.size w (w.alloc (.cells #[.int .u8 ((u : Int) % 128 + 128)] 5)) := (Below.refl _ _).alloc (Nat.le_refl _) _
      have e2 : Hid (kcells .u8 [u % 128 + 128] = [.int .u8 ((u : Int) % 128 + 128)]) := (by simp [kcells] : kcells .u8 [u % 128 + 128] = [.int .u8 ((u : Int) % 128 + 128)])
      go_enter Tryz.func133, Tryz.ntmps133
      go_wp2_with (first | (go_at_call 133; refine (hc _).mono ?_; rintro e w1 ⟨a1, c1, rfl, hown1, hbel1⟩) | (at_builtin; have := hown1; go_must (obtain ⟨hr1, hn1, _⟩ := row_of_owns hown1 hsm (by omega); refine append_u8 (w0 := w) rfl (.tmp 12) (.tmp 15) rfl _ 1 [u % 128 + 128] rfl (by rw [e2.out]; exact owns_below h1 hbel1) a1 _ c1 r rfl hr1 hn1 (by omega) (h2.trans (hbel1.mono (by simp))) (Nat.le_trans h2.size hbel1.size) ?_; intro a2 c2 w2 hown2 hbel2 hsz2)))
      go_ret
      refine ⟨a2, c2, ?_, ?_, hbel2⟩
      · rw [List.length_cons, Nat.add_comm]; rfl
      · rw [List.length_cons, Nat.add_comm]; exact hown2
end Go.Proofs.YtnoknmnbfkdccaaGreatDoor

/- What the program's Put and the reference's Put do. -/
namespace Go.Proofs.YtnoknmnbfkdccaaGreatDoor
open Go.RowKit

theorem put_take (l : List Nat) (k : Nat) (h : k < l.length) : Va.put (l.take (k + 1)) = Va.put (l.take k) ++ Va.one (l.getD k 0) := by
  rw [Va.take_snoc l k h, Va.put_snoc]
theorem put_take_len (l : List Nat) (hs : ∀ u ∈ l, u < lim .u64) (k : Nat) (hk : k ≤ 1000) : (Va.put (l.take k)).length ≤ 10000 := by
  have h1 := Va.put_len (l.take k) (fun u hu => hs u (List.mem_of_mem_take hu))
  have h2 : (l.take k).length ≤ k := by rw [List.length_take]; omega
  omega
theorem or128 : ∀ x : Fin 256, x.val ||| 128 = x.val % 128 + 128 := by decide +kernel
theorem or128_walk (u : Nat) : bits .or .u8 ((u : Int) % 256) 128 = ((u % 128 + 128 : Nat) : Int) := by
  have h1 : (u : Int) % 256 = ((u % 256 : Nat) : Int) := by omega
  have h2 := u8_or_nat (u % 256) 128 (by omega) (by omega)
  have h3 := or128 ⟨u % 256, by omega⟩
  simp only at h3
  rw [h1]
  have h4 : ((128 : Nat) : Int) = 128 := rfl
  rw [h4] at h2
  rw [h2, h3]; omega

set_option maxRecDepth 100000 in
set_option maxHeartbeats 1000000 in
theorem put_any (a : Option Addr) (len cap : Nat) (l : List Nat) (w : World) (hlen : len ≤ 1000) (hr : Row .u64 w a len l) :
    Calls Tryz.prog 120 #[.slice a len cap] w (Made .u8 5 w (Va.put l)) := by
  have hll : Hid (l.length = len) := hr.1
  go_enter Tryz.func120, Tryz.ntmps120
  go_wp2
  go_loop [3, 11] (fun t i => ∃ k : Nat, k ≤ len ∧ i = .int .i64 k ∧ t = .int .i64 ((Va.put (l.take k)).length : Nat)) (fun _ i => len - (intOf i).toNat)
  case atStart => exact ⟨0, by omega, rfl, rfl⟩
  case round =>
    obtain ⟨k, hk, rfl, rfl⟩ := hrel
    have hb := put_take_len l hr.2.2.1 k (by omega)
    by_cases hlt : k < len
    · obtain ⟨b, off, rfl, hc⟩ := hr.at (by omega)
      have hcell := hc k hlt
      have hx := getD_lt64 hr.2.2.1 k
      have H : Hid ((Va.put (l.take (k + 1))).length = (Va.put (l.take k)).length + Va.size (l.getD k 0)) := (by
        rw [put_take l k (by rw [hll.out]; exact hlt), List.length_append, Va.size_one _ hx] : (Va.put (l.take (k + 1))).length = (Va.put (l.take k)).length + Va.size (l.getD k 0))
      have hs10 : Va.size (l.getD k 0) ≤ 10 := by rw [Va.size_one _ hx]; exact Va.one_len10 hx
      clear hc hr
      generalize l.getD k 0 = x at *
      generalize (Va.put (l.take k)).length = n at *
      go_wp2_with (go_at_call 102; refine (size_any _ _ (by omega)).mono ?_; rintro e w' ⟨rfl, rfl⟩)
      go_round
      case rel => exact ⟨k + 1, by omega, by go_num, val_int (by rw [H.out]; omega)⟩
      case measure => simp [intOf]; omega
    · have hkl : Hid (l.take k = l) := (List.take_of_length_le (by rw [hll.out]; omega) : l.take k = l)
      rw [hkl.out] at hb ⊢
      generalize (Va.put l).length = N at *
      obtain ⟨i0, hi0, hz0, hz1, hz2⟩ := info_parts Tryz.info5
      clear hkl
      go_wp2_with (at_make; refine wpList_make_own _ rfl _ _ 39 rfl w.heap.size 5 i0 (.int .u8 0) 1 Tryz.underlying39 hi0 hz0 hz1 .i64 .i64 _ N rfl rfl rfl (by rw [hz2]; omega) (by unfold maxLen; omega) (Nat.le_refl _) ?_; intro w2 hmade hg)
      have hbel0 : Below w.heap.size w w2 := (Below.refl _ _).grown hg (Nat.le_refl _) (fun k h => by cases h)
      clear hg hi0 hz0 hz1 hz2 hk hlt
      go_loopw [6, 24] (fun v i wr => ∃ (k : Nat) (a' : Option Addr) (n c : Nat), k ≤ len ∧ i = .int .i64 k ∧ v = .slice a' n c ∧ Hid (n = (Va.put (l.take k)).length) ∧ wr.ownsRow w.heap.size 5 1 (.slice a' n c) n (kcells .u8 (Va.put (l.take k))) ∧ Below w.heap.size w wr)
        (fun _ i _ => len - (intOf i).toNat)
      case atStart => exact ⟨0, _, 0, N, by omega, rfl, rfl, (rfl : 0 = (Va.put (l.take 0)).length), hmade, hbel0⟩
      case round =>
        obtain ⟨k, a', n, c, hk, rfl, rfl, hn, hown, hbel⟩ := hrel
        clear hmade hbel0
        by_cases hlt : k < len
        · have hr' := hr.below hbel (Nat.le_refl _)
          obtain ⟨b, off, rfl, hc⟩ := hr'.at (by omega)
          have hcell := hc k hlt
          have hx := getD_lt64 hr.2.2.1 k
          have H : Hid (Va.put (l.take (k + 1)) = Va.put (l.take k) ++ Va.one (l.getD k 0)) := put_take l k (by rw [hll.out]; exact hlt)
          have hb1 : Hid ((Va.put (l.take (k + 1))).length ≤ 10000) := put_take_len l hr.2.2.1 (k + 1) (by omega)
          clear hc hr'
          generalize l.getD k 0 = x at *
          go_wp2
          go_loopw [6, 8] (fun v t wr => ∃ (a' : Option Addr) (n c u : Nat) (d : List Nat), v = .slice a' n c ∧ t = .int .u64 u ∧ u < 18446744073709551616 ∧ wr.ownsRow w.heap.size 5 1 (.slice a' n c) n (kcells .u8 d) ∧ Below w.heap.size w wr ∧ Hid (n = d.length) ∧ Hid (Va.put (l.take (k + 1)) = d ++ Va.one u))
            (fun _ t _ => (intOf t).toNat)
          case atStart => exact ⟨a', n, c, x, Va.put (l.take k), rfl, rfl, hx, hown, hbel, hn, H⟩
          case round =>
            obtain ⟨a2, n2, c2, u, d, rfl, rfl, hu, hown2, hbel2, hn2, H2⟩ := hrel
            have hd : n2 ≤ 10000 := by have := hb1.out; rw [H2.out, List.length_append, ← hn2.out] at this; omega
            have hsz := hbel2.size
            clear hown hbel H hcell
            by_cases h128 : u < 128
            · have H3 : Hid (Va.put (l.take (k + 1)) = d ++ [u]) := (by rw [H2.out, Va.one_lo h128] : Va.put (l.take (k + 1)) = d ++ [u])
              clear H2
              go_wp2_with (at_builtin; refine append_u8 (w0 := w) rfl (.tmp 38) (.tmp 41) rfl _ n2 d rfl (hown2.alloc _) _ 1 1 [u] rfl (row_new .u8 _ 5 u (by show u < 256; omega)) (fun h => by cases h) (by omega) (hbel2.alloc hsz _) (by simp; omega) ?_; intro a3 c3 w3 hown3 hbel3 hsz3)
              go_roundw
              case rel => exact ⟨k + 1, a3, n2 + 1, c3, by omega, by go_num, rfl, (by rw [H3.out, List.length_append, ← hn2.out]; rfl : n2 + 1 = (Va.put (l.take (k + 1))).length), by rw [H3.out]; exact hown3, hbel3⟩
              case measure => simp [intOf]; omega
            · have H3 : Hid (Va.put (l.take (k + 1)) = d ++ [u % 128 + 128] ++ Va.one (u / 128)) := (by rw [H2.out, Va.one_hi h128]; simp : Va.put (l.take (k + 1)) = d ++ [u % 128 + 128] ++ Va.one (u / 128))
              clear H2
              have hw : Hid (_ = _) := or128_walk u
              go_wp2_with (at_builtin; refine append_u8 (w0 := w) rfl (.tmp 30) (.tmp 34) rfl _ n2 d rfl (hown2.alloc _) _ 1 1 [u % 128 + 128] rfl (by rw [hw.out]; exact row_new .u8 _ 5 (u % 128 + 128) (by show _ < 256; omega)) (fun h => by cases h) (by omega) (hbel2.alloc hsz _) (by simp; omega) ?_; intro a3 c3 w3 hown3 hbel3 hsz3)
              go_roundw
              case rel => exact ⟨a3, n2 + 1, c3, u / 128, _, rfl, val_int (by omega), by omega, hown3, hbel3, (by rw [List.length_append, ← hn2.out]; rfl : n2 + 1 = (d ++ [u % 128 + 128]).length), H3⟩
              case measure => simp [intOf]; omega
        · have hkl : Hid (l.take k = l) := (List.take_of_length_le (by rw [hll.out]; omega) : l.take k = l)
          rw [hkl.out] at hown
          have hn' : Hid (n = (Va.put l).length) := (by rw [hn.out, hkl.out] : n = (Va.put l).length)
          clear hn
          go_wp2
          go_ret
          exact ⟨a', c, by rw [← hn'.out]; rfl, by rw [← hn'.out]; exact hown, hbel⟩

end Go.Proofs.YtnoknmnbfkdccaaGreatDoor


/- What the laws' own test 'awake' does; from the frame's reading to rows. -/
namespace Go.Proofs.YtnoknmnbfkdccaaGreatDoor
open Go.RowKit

theorem row_lit (k : IntKind) (w : World) (e : TypeId) (cs : Array Value) (bs : List Nat) (n : Nat) (hcs : cs.toList = kcells k bs) (hn : n = bs.length) (hs : ∀ x ∈ bs, x < lim k) (hb : n ≤ 1000) :
    Row k (w.alloc (.cells cs e)) (some ⟨w.heap.size, 0, none⟩) n bs := by
  refine ⟨hn.symm, by omega, hs, .inr ⟨_, _, rfl, fun i hi => ?_⟩⟩
  have : (w.alloc (.cells cs e)).heap[w.heap.size]? = some (.cells cs e) := heap_alloc_new w _
  simp only [World.cell?, this]
  show (if (none : Option _).isSome then none else cs[0 + i]?) = _
  rw [if_neg (by simp), Nat.zero_add, ← Array.getElem?_toList, hcs]
  simp only [kcells, List.getElem?_map, List.getD_eq_getElem?_getD]
  rw [List.getElem?_eq_getElem (by omega)]; simp
/-- what came in, as integers -/
def IsRow (k : IntKind) (w : World) (a : Option Addr) (len cap : Nat) (zs : List Int) : Prop :=
  (a = none ∧ len = 0 ∧ cap = 0 ∧ zs = []) ∨
  ∃ x, a = some x ∧ len ≤ cap ∧ cap ≤ maxLen ∧ zs.length = cap ∧ (∀ i, i < zs.length → w.cell? (x.add i) = some (.int k (zs.getD i 0))) ∧ ∀ n ∈ zs, (Lit.int k n).wf = true

theorem row_of {k : IntKind} (hk : k = .u8 ∨ k = .u64) {w : World} {a : Option Addr} {len cap : Nat} {zs : List Int} (h : IsRow k w a len cap zs) (hl : len ≤ 1000000000000000000) :
    ∃ bs, Row k w a len bs := by
  rcases h with ⟨rfl, rfl, rfl, rfl⟩ | ⟨x, rfl, hlc, hm, hz, hcell, hwz⟩
  · exact ⟨[], rfl, by omega, by simp, .inl rfl⟩
  · have hwz' : ∀ n ∈ zs, 0 ≤ n ∧ n < (lim k : Int) := by
      intro n hn
      have := hwz n hn
      rcases hk with rfl | rfl
      · simp [Lit.wf, IntKind.min, IntKind.max, IntKind.bits, IntKind.signed] at this
        show 0 ≤ n ∧ n < 256
        omega
      · simp [Lit.wf, IntKind.min, IntKind.max, IntKind.bits, IntKind.signed] at this
        show 0 ≤ n ∧ n < 18446744073709551616
        omega
    refine ⟨(zs.take len).map Int.toNat, by simp; omega, by omega, ?_, ?_⟩
    · intro n hn
      simp only [List.mem_map] at hn
      obtain ⟨z, hz', rfl⟩ := hn
      have := hwz' z (List.mem_of_mem_take hz')
      omega
    · by_cases h0 : len = 0
      · exact .inl h0
      · right
        obtain ⟨b, off, spot⟩ := x
        have hs : spot = none := by simpa [Addr.add] using World.cell?_spot (hcell 0 (by omega))
        subst hs
        refine ⟨b, off, rfl, fun i hi => ?_⟩
        have hc := hcell i (by omega)
        have hb := hwz' (zs.getD i 0) (by rw [List.getD_eq_getElem?_getD, List.getElem?_eq_getElem (by omega)]; simp)
        rw [add_at] at hc
        rw [hc]
        have e : ((zs.take len).map Int.toNat).getD i 0 = (zs.getD i 0).toNat := by
          simp [List.getD_eq_getElem?_getD, hi]
          rw [List.getElem?_eq_getElem (by omega)]; simp
        rw [e, Int.toNat_of_nonneg hb.1]
end Go.Proofs.YtnoknmnbfkdccaaGreatDoor

/- Parts of rows; what the law VarintPrefix does. -/
namespace Go.Proofs.YtnoknmnbfkdccaaGreatDoor
open Go.RowKit

theorem Row.take {k : IntKind} {w : World} {a : Option Addr} {n : Nat} {bs : List Nat} (h : Row k w a n bs) (j : Nat) (hj : j ≤ n) : Row k w a j (bs.take j) := by
  obtain ⟨h1, h2, h3, h4⟩ := h
  refine ⟨by rw [List.length_take]; omega, by omega, take_small h3 j, ?_⟩
  rcases Nat.eq_zero_or_pos j with h0 | h0
  · exact .inl h0
  · rcases h4 with h0 | ⟨b, off, e, hc⟩
    · omega
    · refine .inr ⟨b, off, e, fun i hi => ?_⟩
      rw [hc i (by omega)]
      congr 3
      rw [List.getD_eq_getElem?_getD, List.getD_eq_getElem?_getD, List.getElem?_take, if_pos hi]
theorem Row.drop {k : IntKind} {w : World} {b off n : Nat} {bs : List Nat} (h : Row k w (some ⟨b, off, none⟩) n bs) (j : Nat) (hj : j ≤ n) : Row k w (some ⟨b, off + j, none⟩) (n - j) (bs.drop j) := by
  obtain ⟨h1, h2, h3, h4⟩ := h
  refine ⟨by rw [List.length_drop]; omega, by omega, drop_small h3 j, ?_⟩
  rcases Nat.eq_zero_or_pos (n - j) with h0 | h0
  · exact .inl h0
  · rcases h4 with h0 | ⟨b', off', e, hc⟩
    · omega
    · simp only [Option.some.injEq, Addr.mk.injEq] at e
      obtain ⟨rfl, rfl, _⟩ := e
      refine .inr ⟨b, off + j, rfl, fun i hi => ?_⟩
      have := hc (j + i) (by omega)
      rw [← Nat.add_assoc] at this
      rw [this]
      congr 3
      rw [List.getD_eq_getElem?_getD, List.getD_eq_getElem?_getD, List.getElem?_drop]

end Go.Proofs.YtnoknmnbfkdccaaGreatDoor


/- What All does, the program's and the reference's. -/
namespace Go.Proofs.YtnoknmnbfkdccaaGreatDoor
open Go.RowKit

/-- what a slice looks like: of no room at all, or at a place in a block -/
def Shape (a : Option Addr) (len cap : Nat) : Prop := (len = 0 ∧ cap = 0) ∨ ∃ b off, a = some ⟨b, off, none⟩ ∧ len ≤ cap

theorem shape_of {k : IntKind} {w : World} {a : Option Addr} {len cap : Nat} {zs : List Int} (h : IsRow k w a len cap zs) : Shape a len cap := by
  rcases h with ⟨rfl, rfl, rfl, rfl⟩ | ⟨x, rfl, hlc, hm, hz, hcell, _⟩
  · exact .inl ⟨rfl, rfl⟩
  · rcases Nat.eq_zero_or_pos cap with h0 | h0
    · exact .inl ⟨by omega, h0⟩
    · obtain ⟨b, off, spot⟩ := x
      have hs : spot = none := by simpa [Addr.add] using World.cell?_spot (hcell 0 (by omega))
      subst hs
      exact .inr ⟨b, off, rfl, hlc⟩

end Go.Proofs.YtnoknmnbfkdccaaGreatDoor

/- What the reference's Get does. -/
namespace Go.Proofs.YtnoknmnbfkdccaaGreatDoor
open Go.RowKit

theorem ret2 {k1 k2 : IntKind} {a a' b b' : Int} (h1 : a = a') (h2 : b = b') :
    Ending.returned (.tuple #[.int k1 a, .int k2 b]) = .returned (.tuple #[.int k1 a', .int k2 b']) := by rw [h1, h2]
theorem high_step {bs : List Nat} {k : Nat} (h : ∀ j, j < k → 128 ≤ bs.getD j 0) (hx : 128 ≤ bs.getD k 0) : ∀ j, j < k + 1 → 128 ≤ bs.getD j 0 := by
  intro j hj
  rcases Nat.lt_or_ge j k with h' | h'
  · exact h j h'
  · obtain rfl : j = k := by omega
    exact hx

theorem below_of_drew {B : Nat} {W w1 : World} (h : Below B W.drew w1) : Below B W w1 := ⟨h.os, h.tape, h.output, h.size, h.block⟩

set_option maxRecDepth 100000 in
set_option maxHeartbeats 1000000 in
theorem refget_any (a : Option Addr) (len cap : Nat) (bs : List Nat) (w : World) (hcap : len ≤ cap) (hbig : len ≤ 100000) (hr : Row .u8 w a len bs) :
    Calls Tryz.prog 131 #[.slice a len cap] w fun e w' => e = .returned (.tuple #[.int .u64 ((Va.get bs).1 : Nat), .int .i64 ((Va.get bs).2 : Nat)]) ∧ Below w.heap.size w w' := by
  have hlen : Hid (bs.length = len) := hr.1
  obtain ⟨g, hg⟩ : ∃ g, g = Va.get bs := ⟨_, rfl⟩
  rw [← hg]
  have HG : Hid (g = Va.get bs) := hg
  clear hg
  go_enter Tryz.func131, Tryz.ntmps131
  go_wp2
  go_loop [4] (fun i => ∃ k : Nat, k ≤ len ∧ k ≤ 10 ∧ i = .int .i64 (k + 1 : Nat) ∧ Hid (∀ j, j < k → 128 ≤ bs.getD j 0)) (fun i => len + 1 - (intOf i).toNat)
  case atStart => exact ⟨0, by omega, by omega, rfl, (fun j hj => by omega : ∀ j, j < 0 → 128 ≤ bs.getD j 0)⟩
  case round =>
    obtain ⟨k, hk, hk10, rfl, hh⟩ := hrel
    by_cases hlt : k < len ∧ k < 10
    · obtain ⟨hlt, hlt10⟩ := hlt
      obtain ⟨b, off, rfl, hc⟩ := hr.at (by omega)
      have hcell := hc k hlt
      have hx := getD_lt8 hr.2.2.1 k
      have H0 := fun h => Va.get_at (k := k) hr.2.2.1 (by omega) (by rw [hlen.out]; exact hlt) hh.out h
      have H1 := fun h => high_step (k := k) hh.out h
      have hrt := hr.take (k + 1) (by omega)
      have hval := fun c => value_any (some ⟨b, off, none⟩) (k + 1) c _ w hrt
      clear hc hr hh
      generalize bs.getD k 0 = x at *
      have hul : Va.val (bs.take (k + 1)) % 18446744073709551616 < 18446744073709551616 := Nat.mod_lt _ (by omega)
      generalize Va.val (bs.take (k + 1)) % 18446744073709551616 = u at *
      have e1 : ((k + 1 : Nat) : Int) - 1 = (k : Int) := by omega
      have i2 : (k : Int) + 1 ≤ (cap : Int) := by omega
      have i3 : (0 : Int) ≤ (k : Int) + 1 := by omega
      have i4 : (k : Int) + 1 ≤ (len : Int) := by omega
      by_cases hx128 : x < 128
      · replace H0 := H0 hx128
        clear H1
        have hsm := Va.one_small u
        have hone := fun W => one_any u u W (Nat.le_refl _) hul
        have hl10 := Va.one_len10 hul
        generalize Va.one u = r at *
        by_cases hs : r = bs.take (k + 1)
        · rw [if_pos hs] at H0
          have H2 : Hid (g = (u, k + 1)) := (HG.out.trans H0 : g = (u, k + 1))
          clear H0 HG
          have hd : decide (r = bs.take (k + 1)) = true := by simp [hs]
          clear hs
          go_wp2_with (go_at_call 145; refine (hval _).mono ?_; rintro e w' ⟨rfl, rfl⟩)
          go_region_held3 (fun _ => True) (trivial)
            (first | ((go_at_call 133; refine (hone _).mono ?_; rintro e w1 ⟨a1, c1, rfl, hown1, hbel1⟩)) | ((go_at_call 54; have := hown1; refine (same_any _ _ _ _ _ _ _ _ _ (row_of_owns hown1 hsm (by omega)).1 (hrt.below (below_of_drew hbel1) (Nat.le_refl _))).mono ?_; rintro e w2 ⟨rfl, m, rfl⟩)))
          go_wp2
          go_ret2
          exact ⟨ret2 (by rw [H2.out]) (by rw [H2.out]; show (k : Int) + 1 = ((k + 1 : Nat) : Int); omega), (below_of_drew hbel1).trans (below_drewN _ _ _)⟩
        · rw [if_neg hs] at H0
          have H2 : Hid (g = (0, 0)) := (HG.out.trans H0 : g = (0, 0))
          clear H0 HG
          have hd : decide (r = bs.take (k + 1)) = false := by simp [hs]
          clear hs
          go_wp2_with (go_at_call 145; refine (hval _).mono ?_; rintro e w' ⟨rfl, rfl⟩)
          go_region_held3 (fun _ => True) (trivial)
            (first | ((go_at_call 133; refine (hone _).mono ?_; rintro e w1 ⟨a1, c1, rfl, hown1, hbel1⟩)) | ((go_at_call 54; have := hown1; refine (same_any _ _ _ _ _ _ _ _ _ (row_of_owns hown1 hsm (by omega)).1 (hrt.below (below_of_drew hbel1) (Nat.le_refl _))).mono ?_; rintro e w2 ⟨rfl, m, rfl⟩)))
          go_wp2
          go_ret2
          exact ⟨ret2 (by rw [H2.out]; rfl) (by rw [H2.out]; rfl), (below_of_drew hbel1).trans (below_drewN _ _ _)⟩
      · have H2 : Hid (∀ j, j < k + 1 → 128 ≤ bs.getD j 0) := H1 (by omega)
        clear H0 H1
        go_wp2
        go_round
        case rel => exact ⟨k + 1, by omega, by omega, by go_num, H2⟩
        case measure => simp [intOf]; omega
    · have H2 : Hid (g = (0, 0)) := (HG.out.trans (Va.get_end (k := k) hk10 (by rw [hlen.out]; exact hk) (by rw [hlen.out]; omega) hh.out) : g = (0, 0))
      clear HG
      by_cases hkl : k < len
      · have : k = 10 := by omega
        subst this
        go_wp2
        go_ret2
        exact ⟨ret2 (by rw [H2.out]; rfl) (by rw [H2.out]; rfl), Below.refl _ _⟩
      · go_wp2
        go_ret2
        exact ⟨ret2 (by rw [H2.out]; rfl) (by rw [H2.out]; rfl), Below.refl _ _⟩
end Go.Proofs.YtnoknmnbfkdccaaGreatDoor

/- What the reference's All does. -/
namespace Go.Proofs.YtnoknmnbfkdccaaGreatDoor
open Go.RowKit

end Go.Proofs.YtnoknmnbfkdccaaGreatDoor

/- Worlds, blocks and rows: what every layer's walks want. -/
namespace Go.Proofs.YtnoknmnbfkdccaaGreatDoor
open Go.RowKit

theorem row_newz (k : IntKind) (w : World) (e : TypeId) (z : Int) (x : Nat) (hz : z = (x : Nat)) (hx : x < lim k) : Row k (w.alloc (.cells #[.int k z] e)) (some ⟨w.heap.size, 0, none⟩) 1 [x] := hz ▸ row_new k w e x hx

theorem cell_new (w : World) (cs : Array Value) (e : TypeId) (i : Nat) : (w.alloc (.cells cs e)).cell? ⟨w.heap.size, i, none⟩ = cs[i]? := by
  have : (w.alloc (.cells cs e)).heap[w.heap.size]? = some (.cells cs e) := heap_alloc_new w _
  simp only [World.cell?, this]
  rfl

theorem grown_cell {w w' : World} {row : Option Nat} (hg : w.grownBy w' row) {p : Addr} (hp : p.block < w.heap.size) (hne : some p.block ≠ row) : w'.cell? p = w.cell? p := World.cell?_of_block (w := w) (hg.block p.block hp hne)

theorem cell_past (w : World) (o : Obj) (p : Addr) (h : p.block < w.heap.size) : (w.alloc o).cell? p = w.cell? p := World.cell?_of_block (w := w) (Below.heap_alloc w o p.block h)

theorem row_inz {k : IntKind} {w : World} {e : TypeId} {b : Nat} (z : Int) (x : Nat) (hz : z = (x : Nat)) (hx : x < lim k) (h : w.heap[b]? = some (.cells #[.int k z] e (0, 0))) : Row k w (some ⟨b, 0, none⟩) 1 [x] := by
  subst hz
  refine ⟨rfl, by omega, by simpa using hx, .inr ⟨_, _, rfl, fun i hi => ?_⟩⟩
  obtain rfl : i = 0 := by omega
  simp only [World.cell?, h]
  rfl

theorem le4_take (s j : Nat) (hj : j < 4) : (Fr.le4 s).take (j + 1) = (Fr.le4 s).take j ++ [s / 256 ^ j % 256] := by
  match j, hj with
  | 0, _ | 1, _ | 2, _ | 3, _ => simp [Fr.le4]

theorem div_step (s j : Nat) : s / 256 ^ j / 256 = s / 256 ^ (j + 1) := by rw [Nat.div_div_eq_div_mul, ← Nat.pow_succ]

theorem append_u8g {w0 w : World} {B : Nat} {ops : Array Oper} {rest : List Oper} {o : Oper} {a : Act} {Q : Exit → Act → World → Prop} (hgd : o.guard = none) (s x : Operand)
    (ho : o.op = .call { callee := .builtin .append, args := #[s, x], argTypes := #[39, 39] })
    (v : Value) (n : Nat) (xs : List Nat) (hs : a.eval s = v) (hown : w.ownsRow B 5 1 v n (kcells .u8 xs))
    (ad : Option Addr) (m c : Nat) (bs : List Nat) (hx : a.eval x = .slice ad m c) (hrow : Row .u8 w ad m bs) (hnil : ad = none → m = 0 ∧ c = 0)
    (hnm : n + m ≤ 1000000000000) (hbel : Below B w0 w) (hB : B ≤ w.heap.size)
    (h : ∀ a' c' w', w'.ownsRow B 5 1 (.slice a' (n + m) c') (n + m) (kcells .u8 (xs ++ bs)) → Below B w0 w' → B ≤ w'.heap.size → w.grownBy w' v.ownBlock → wpList Tryz.prog ops Q rest (a.put o.dst (.slice a' (n + m) c')) w') : wpList Tryz.prog ops Q (o :: rest) a w := by
  obtain ⟨i0, hi, hz0, hz1, hz2⟩ := info_parts Tryz.info5
  obtain ⟨h1, h2, h3, h4⟩ := hrow
  cases ad with
  | none =>
    obtain ⟨rfl, rfl⟩ := hnil rfl
    obtain rfl : bs = [] := List.length_eq_zero_iff.mp h1
    refine wpList_append_own_none hgd s x 39 ho B 5 i0 1 Tryz.underlying39 hi v n (kcells .u8 xs) hs hown hx ?_
    obtain ⟨a', c', rfl⟩ := slice_of_owns hown
    exact h a' c' w (by simpa using hown) hbel hB ⟨rfl, rfl, rfl, Nat.le_refl _, fun _ _ _ => rfl⟩
  | some ad =>
    refine wpList_append_own w hgd s x 39 ho B 5 i0 (.int .u8 0) 1 1 Tryz.underlying39 hi hz0 hz1 hz2 rfl (by decide) v n (kcells .u8 xs) hs hown ad m c (kcells .u8 bs) hx (by rw [kcells_length]; omega) ?_ ?_ (by unfold maxLen; omega) (by omega) hB ?_
    · intro j u hj
      obtain ⟨hlt, rfl⟩ := kcells_get .u8 bs j u hj
      rcases h4 with h0 | ⟨b, off, e, hc⟩
      · omega
      · obtain rfl : ad = ⟨b, off, none⟩ := by simpa using e
        rw [add_at]; exact hc j (by omega)
    · intro u hu
      simp only [kcells, List.mem_map] at hu
      obtain ⟨n, _, rfl⟩ := hu
      rfl
    · intro v' w' hown' hg _
      obtain ⟨a', c', rfl⟩ := slice_of_owns hown'
      refine h a' c' w' (by rw [kcells_append]; exact hown') (hbel.grown hg hB (fun k hk => (hown.lt k hk).1)) (Nat.le_trans hB hg.size) hg

/-- append at a step of a region that draws: a row of bytes behind an own one -/
theorem step_u8 {w0 w : World} {B : Nat} {ops : Array Oper} {o : Oper} {a : Act} {K : Act → World → Prop} {Q : Exit → Act → World → Prop} {E : Prop} (hgd : o.guard = none) (s x : Operand)
    (ho : o.op = .call { callee := .builtin .append, args := #[s, x], argTypes := #[39, 39] })
    (v : Value) (n : Nat) (xs : List Nat) (hs : a.eval s = v) (hown : w.ownsRow B 5 1 v n (kcells .u8 xs))
    (ad : Addr) (m c : Nat) (bs : List Nat) (hx : a.eval x = .slice (some ad) m c) (hrow : Row .u8 w (some ad) m bs) (hm : 0 < m)
    (hnm : n + m ≤ 1000000000000) (hbel : Below B w0 w) (hB : B ≤ w.heap.size)
    (h : ∀ a' c' w', w'.ownsRow B 5 1 (.slice a' (n + m) c') (n + m) (kcells .u8 (xs ++ bs)) → Below B w0 w' → B ≤ w'.heap.size → w.grownBy w' v.ownBlock → K (a.put o.dst (.slice a' (n + m) c')) w') :
    if Region.wanted o (yielded ops a.tmps) = true then Oper.wp Tryz.prog o a w K Q else E := by
  obtain ⟨i0, hi, hz0, hz1, hz2⟩ := info_parts Tryz.info5
  obtain ⟨h1, h2, h3, h4⟩ := hrow
  refine step_append_lies w hgd s x 39 ho B 5 i0 (.int .u8 0) 1 1 Tryz.underlying39 hi hz0 hz1 hz2 rfl (by decide) v n (kcells .u8 xs) hs hown ad m c (kcells .u8 bs) hx (by rw [kcells_length]; omega) ?_ ?_ hm (by unfold maxLen; omega) (by omega) hB w.heap.size rfl ?_
  · intro j u hj
    obtain ⟨hlt, rfl⟩ := kcells_get .u8 bs j u hj
    rcases h4 with h0 | ⟨b, off, e, hc⟩
    · omega
    · obtain rfl : ad = ⟨b, off, none⟩ := by simpa using e
      rw [add_at]; exact hc j (by omega)
  · intro u hu
    simp only [kcells, List.mem_map] at hu
    obtain ⟨n, _, rfl⟩ := hu
    rfl
  · intro g cap w' hown' hg _ _
    exact h _ _ w' (by rw [kcells_append]; exact hown') (hbel.grown hg hB (fun k hk => (hown.lt k hk).1)) (Nat.le_trans hB hg.size) hg

theorem ret_bool {a b : Bool} (h : a = b) : Ending.returned (.bool a) = .returned (.bool b) := by rw [h]

theorem bcell {W w1 : World} (hb : Below W.heap.size W w1) : (∀ b o, b < W.heap.size → w1.cell? ⟨b, o, none⟩ = W.cell? ⟨b, o, none⟩) ∧ (∀ b o, b < W.heap.size → w1.frozen? ⟨b, o, none⟩ = W.frozen? ⟨b, o, none⟩) :=
  ⟨fun b o h => hb.cell (p := ⟨b, o, none⟩) h, fun b o h => hb.frozen (p := ⟨b, o, none⟩) h⟩

theorem made_at (w : World) (e : TypeId) (base : Nat) {b : Nat} (hb : w.heap.size = b) (hB : base ≤ b) : (w.alloc (.cells #[] e)).ownsRow base e 1 (.slice (some ⟨b, 0, none⟩) 0 0) 0 (kcells .u8 []) := by
  subst hb
  exact World.ownsRow_made (base := base) (e := e) (size := 1) w #[] 0 hB (by decide) (by simp)

theorem Row.cell {k : IntKind} {w : World} {b off n : Nat} {bs : List Nat} (h : Row k w (some ⟨b, off, none⟩) n bs) (i : Nat) (hi : i < n) : w.cell? ⟨b, off + i, none⟩ = some (.int k (bs.getD i 0 : Nat)) := by
  obtain ⟨b', off', e, hc⟩ := h.at (by omega)
  simp only [Option.some.injEq, Addr.mk.injEq] at e
  obtain ⟨rfl, rfl, _⟩ := e
  exact hc i hi

/-- rows of different elements lie in different blocks -/
theorem own_apart {w : World} {B B' : Nat} {e e' : TypeId} {s s' : Nat} {v v' : Value} {n n' : Nat} {xs xs' : List Value} (h : w.ownsRow B e s v n xs) (h' : w.ownsRow B' e' s' v' n' xs') (hne : e ≠ e') : v.ownBlock = none ∨ v.ownBlock ≠ v'.ownBlock := by
  rcases h.2 with ⟨rfl, _⟩ | ⟨g, cap, cur, rfl, _, hg, _⟩
  · exact .inl rfl
  · rcases h'.2 with ⟨rfl, _⟩ | ⟨g', cap', cur', rfl, _, hg', _⟩
    · right; simp [Value.ownBlock]
    · right
      simp only [Value.ownBlock, ne_eq, Option.some.injEq]
      rintro rfl
      rw [hg] at hg'
      simp at hg'
      exact hne hg'.2

theorem cell_two (w : World) (c0 c1 : Value) (e : TypeId) {b : Nat} (hb : w.heap.size = b) : (w.alloc (.cells #[c0, c1] e)).cell? ⟨b, 0, none⟩ = some c0 ∧ (w.alloc (.cells #[c0, c1] e)).cell? ⟨b, 1, none⟩ = some c1 := by
  subst hb
  exact ⟨by rw [cell_new]; rfl, by rw [cell_new]; rfl⟩

theorem own_lt_ne {w w1 : World} {B : Nat} {e : TypeId} {s : Nat} {v : Value} {n : Nat} {xs : List Value} (h : w.ownsRow B e s v n xs) (hs : w.heap.size ≤ w1.heap.size) : some w1.heap.size ≠ v.ownBlock := by
  intro e
  have := (h.lt _ e.symm).2
  omega

theorem below_alloc (w : World) (o : Obj) : Below w.heap.size w (w.alloc o) := (Below.refl _ _).alloc (Nat.le_refl _) _

theorem made_b (w : World) (e : TypeId) (size base : Nat) {b : Nat} (hb : w.heap.size = b) (hB : base ≤ b) : (w.alloc (.cells #[] e)).ownsRow base e size (.slice (some ⟨b, 0, none⟩) 0 0) 0 [] := by
  subst hb
  exact World.ownsRow_made (base := base) (e := e) (size := size) w #[] 0 hB (by decide) (by simp)

theorem frozen_new (w : World) (cs : Array Value) (e : TypeId) (i : Nat) : (w.alloc (.cells cs e)).frozen? ⟨w.heap.size, i, none⟩ = false := by
  have : (w.alloc (.cells cs e)).heap[w.heap.size]? = some (.cells cs e) := heap_alloc_new w _
  simp only [World.frozen?, this]
  simp

theorem own_at {w : World} {B n c : Nat} {a : Option Addr} {xs : List Value} (h : w.ownsRow B 5 1 (.slice a n c) n xs) (hn : 0 < n) : ∃ g, a = some ⟨g, 0, none⟩ ∧ n ≤ c := by
  rcases h.2 with ⟨e, h0⟩ | ⟨g, cap, cur, e, _, _, hnc, _⟩
  · omega
  · simp only [Value.slice.injEq] at e
    obtain ⟨rfl, _, rfl⟩ := e
    exact ⟨g, rfl, hnc⟩
end Go.Proofs.YtnoknmnbfkdccaaGreatDoor

/- Rows of the call's own: made whole, written in place. -/
namespace Go.Proofs.YtnoknmnbfkdccaaGreatDoor
open Go.RowKit

theorem turned_set (w : World) (g o : Nat) (v : Value) : w.grownBy (w.setCell ⟨g, o, none⟩ v) (some g) :=
  ⟨rfl, rfl, rfl, by simp, fun k _ hne => Below.heap_setCell w ⟨g, o, none⟩ v k (fun e => hne (by rw [e]))⟩
/-- make of a whole row -/
theorem make_full {P : Program} (w : World) {ops : Array Oper} {rest : List Oper} {o : Oper} {a : Act} {Q : Exit → Act → World → Prop}
    (hg : o.guard = none) (l c : Operand) (t : TypeId) (hop : o.op = Op.makeSlice t l c)
    (base : Nat) (e : TypeId) (i : TypeInfo) (z : Value) (size : Nat) (h1 : P.underlying t = some (.slice e)) (h2 : P.info? e = some i) (h3 : i.zero = some z) (h4 : i.size = size)
    (kl kc : IntKind) (n : Nat) (hl : a.eval l = .int kl (n : Int)) (hc : a.eval c = .int kc (n : Int)) (b2 : i.bytes * n ≤ 281474976710656) (b3 : n ≤ maxLen) (b4 : base ≤ w.heap.size)
    (hK : ∀ w', w'.ownsRow base e size (.slice (some ⟨w.heap.size, 0, none⟩) n n) n (madeCells z.cells (n * size)).toList → Below w.heap.size w w' → wpList P ops Q rest (a.put o.dst (.slice (some ⟨w.heap.size, 0, none⟩) n n)) w') :
    wpList P ops Q (o :: rest) a w := by
  subst h4
  refine wpList_plain hg fun K hK' => ?_
  have h63 : (n : Int) ≤ 9223372036854775807 := by simp [maxLen] at b3; omega
  have hb' : (i.bytes : Int) * (n : Int) ≤ 281474976710656 := by
    have h : ((i.bytes * n : Nat) : Int) ≤ 281474976710656 := by omega
    rwa [Int.natCast_mul] at h
  have hrun := run_make (P := P) w t e i z h1 h2 h3 kl kc n n (by omega) (Int.le_refl _) hb' h63
  simp only [Int.toNat_natCast] at hrun
  unfold Oper.wp
  simp [execOp, hop, hl, hc, hrun, Result.andThen]
  refine hK' _ _ (hK _ ?_ (below_alloc _ _))
  refine ⟨by simp [size_madeCells], .inr ⟨w.heap.size, n, madeCells z.cells (n * i.size), rfl, b4, heap_alloc_new _ _, Nat.le_refl _, b3, size_madeCells _ _, ?_⟩⟩
  rw [List.take_of_length_le (by simp [size_madeCells])]

/-- a store into a row of the call's own -/
theorem own_store {w : World} {B e s g n c : Nat} {xs : List Value} (h : w.ownsRow B e s (.slice (some ⟨g, 0, none⟩) n c) n xs) (j : Nat) (v : Value) : (w.setCell ⟨g, j, none⟩ v).ownsRow B e s (.slice (some ⟨g, 0, none⟩) n c) n (xs.set j v) := by
  obtain ⟨h1, h2⟩ := h
  refine ⟨by rw [List.length_set]; exact h1, ?_⟩
  rcases h2 with ⟨e, _⟩ | ⟨g', cap, cur, e, hB, hg, hn, hm, hs, ht⟩
  · cases e
  · simp only [Value.slice.injEq, Option.some.injEq, Addr.mk.injEq] at e
    obtain ⟨⟨rfl, _⟩, _, rfl⟩ := e
    refine .inr ⟨g, c, _, rfl, hB, Go.Joins.block_setCell (i := j) hg v, hn, hm, by simpa using hs, ?_⟩
    rw [← ht]
    simp only [Array.toList_setIfInBounds, List.take_set]
theorem own_cells {w : World} {B e s g n c : Nat} {xs : List Value} (h : w.ownsRow B e s (.slice (some ⟨g, 0, none⟩) n c) n xs) {j : Nat} {v : Value} (hj : xs[j]? = some v) : w.cell? ⟨g, j, none⟩ = some v ∧ w.frozen? ⟨g, j, none⟩ = false := by
  rcases h.2 with ⟨e, _⟩ | ⟨g', cap, cur, e, hB, hg, hn, hm, hs, ht⟩
  · cases e
  · simp only [Value.slice.injEq, Option.some.injEq, Addr.mk.injEq] at e
    obtain ⟨⟨rfl, _⟩, _, rfl⟩ := e
    refine ⟨?_, Go.Joins.unfrozen_of_block hg _⟩
    rw [Go.Joins.cell_of_block hg]
    rw [← ht, List.getElem?_take] at hj
    split at hj
    · simpa using hj
    · cases hj
theorem own_lt {w : World} {B e s g n c : Nat} {xs : List Value} (h : w.ownsRow B e s (.slice (some ⟨g, 0, none⟩) n c) n xs) : g < w.heap.size ∧ B ≤ g := by
  rcases h.2 with ⟨e, _⟩ | ⟨g', cap, cur, e, hB, hg, hn, hm, hs, ht⟩
  · cases e
  · simp only [Value.slice.injEq, Option.some.injEq, Addr.mk.injEq] at e
    obtain ⟨⟨rfl, _⟩, _, rfl⟩ := e
    exact ⟨(Array.getElem?_eq_some_iff.1 hg).1, hB⟩
end Go.Proofs.YtnoknmnbfkdccaaGreatDoor

/- Rows of structs of whatever kind: read, made, appended to. -/
namespace Go.Proofs.YtnoknmnbfkdccaaGreatDoor
open Go.RowKit

/-- a slice type and its elements' type: cells, bytes, the zero value -/
structure Elem (T E : TypeId) (s bytes : Nat) (z : Value) : Prop where
  und : Tryz.prog.underlying T = some (.slice E)
  info : (Tryz.prog.info? E).map (fun i => (i.zero, i.size, i.bytes)) = some (some z, s, bytes)
  zero : z.cells.size = s
  pos : 0 < s
  small : bytes ≤ 1000
/-- how a thing lies in cells -/
structure Enc {α : Type} (s : Nat) (enc : α → List Value) : Prop where
  len : ∀ x, (enc x).length = s
  one : ∀ x, ∀ u ∈ enc x, u.oneCell' = true

def TAt {α : Type} (enc : α → List Value) (w : World) (b o : Nat) (x : α) : Prop := ∀ j v, (enc x)[j]? = some v → w.cell? ⟨b, o + j, none⟩ = some v
/-- a slice that reads as things -/
def TRow {α : Type} (s : Nat) (enc : α → List Value) (d : α) (w : World) (a : Option Addr) (n : Nat) (l : List α) : Prop :=
  l.length = n ∧ n ≤ 1000000000000000 ∧ (n = 0 ∨ ∃ b off, a = some ⟨b, off, none⟩ ∧ ∀ i, i < n → TAt enc w b (off + i * s) (l.getD i d))
def tcells {α : Type} (enc : α → List Value) (l : List α) : List Value := l.flatMap enc

section
variable {α : Type} {s : Nat} {enc : α → List Value} {d : α}
theorem TAt.below {w w' : World} {B b o : Nat} {x : α} (h : TAt enc w b o x) (hb : Below B w w') (hB : w.heap.size ≤ B) : TAt enc w' b o x := fun j v hj =>
  (hb.cell (p := ⟨b, o + j, none⟩) (Nat.lt_of_lt_of_le (cell_lt (h j v hj)) hB)).trans (h j v hj)
theorem TRow.below {w w' : World} {B : Nat} {a : Option Addr} {n : Nat} {l : List α} (h : TRow s enc d w a n l) (hb : Below B w w') (hB : w.heap.size ≤ B) : TRow s enc d w' a n l := by
  obtain ⟨h1, h2, h3⟩ := h
  refine ⟨h1, h2, ?_⟩
  rcases h3 with h0 | ⟨b, off, e, hc⟩
  · exact .inl h0
  · exact .inr ⟨b, off, e, fun i hi => (hc i hi).below hb hB⟩
theorem TRow.at {w : World} {a : Option Addr} {n : Nat} {l : List α} (h : TRow s enc d w a n l) (hn : 0 < n) : ∃ b off, a = some ⟨b, off, none⟩ ∧ ∀ i, i < n → TAt enc w b (off + i * s) (l.getD i d) := by
  obtain ⟨_, _, h0 | h0⟩ := h
  · omega
  · exact h0
theorem TRow.nil (w : World) (a : Option Addr) : TRow s enc d w a 0 [] := ⟨rfl, by omega, .inl rfl⟩
theorem tcells_append (a b : List α) : tcells enc (a ++ b) = tcells enc a ++ tcells enc b := by simp [tcells]
theorem tcells_length (hE : Enc s enc) : ∀ (a : List α), (tcells enc a).length = a.length * s
  | [] => by simp [tcells]
  | x :: a => by
    have : tcells enc (x :: a) = enc x ++ tcells enc a := rfl
    rw [this, List.length_append, tcells_length hE a, hE.len, List.length_cons, Nat.succ_mul]; omega
theorem tcells_one (hE : Enc s enc) (a : List α) : ∀ u ∈ tcells enc a, u.oneCell' = true := by
  intro u hu
  simp only [tcells, List.mem_flatMap] at hu
  obtain ⟨x, _, hx⟩ := hu
  exact hE.one x u hx
theorem tcells_get (hE : Enc s enc) : ∀ (l : List α) (i j : Nat), i < l.length → j < s → (tcells enc l)[i * s + j]? = (enc (l.getD i d))[j]?
  | [], i, j, hi, _ => by simp at hi
  | x :: l, 0, j, _, hj => by
    have : tcells enc (x :: l) = enc x ++ tcells enc l := rfl
    rw [this, Nat.zero_mul, Nat.zero_add, List.getElem?_append_left (by rw [hE.len]; exact hj)]
    rfl
  | x :: l, i + 1, j, hi, hj => by
    have : tcells enc (x :: l) = enc x ++ tcells enc l := rfl
    rw [this, Nat.succ_mul, List.getElem?_append_right (by rw [hE.len]; omega), hE.len, show i * s + s + j - s = i * s + j by omega, tcells_get hE l i j (by simpa using hi) hj]
    rfl
theorem tcells_at (hE : Enc s enc) (hs : 0 < s) {l : List α} {k : Nat} {u : Value} (h : (tcells enc l)[k]? = some u) : k / s < l.length ∧ k = k / s * s + k % s ∧ k % s < s ∧ (enc (l.getD (k / s) d))[k % s]? = some u := by
  have hk : k < (tcells enc l).length := by
    rcases Nat.lt_or_ge k (tcells enc l).length with h' | h'
    · exact h'
    · rw [List.getElem?_eq_none h'] at h; cases h
  rw [tcells_length hE] at hk
  have h1 : k / s < l.length := (Nat.div_lt_iff_lt_mul hs).mpr hk
  have h2 : k = k / s * s + k % s := by rw [Nat.mul_comm]; exact (Nat.div_add_mod k s).symm
  have h3 := Nat.mod_lt k hs
  refine ⟨h1, h2, h3, ?_⟩
  rw [← tcells_get hE l (k / s) (k % s) h1 h3, ← h2]
  exact h
/-- a row's cells, one behind the other -/
theorem TRow.cells (hE : Enc s enc) (hs : 0 < s) {w : World} {ad : Addr} {n : Nat} {l : List α} (h : TRow s enc d w (some ad) n l) (k : Nat) (u : Value) (hk : (tcells enc l)[k]? = some u) : w.cell? (ad.add k) = some u := by
  obtain ⟨h1, h2, h3, h4⟩ := tcells_at (d := d) hE hs hk
  have hl := h.1
  obtain ⟨b, off, e, hc⟩ := h.at (by rw [← hl]; exact Nat.lt_of_le_of_lt (Nat.zero_le _) h1)
  cases e
  have := hc (k / s) (by rw [← hl]; exact h1) (k % s) u h4
  rw [add_at, h2]
  rw [Nat.add_assoc] at this
  exact this
theorem t_shape {w : World} {B n : Nat} {e : TypeId} {v : Value} {xs : List Value} (h : w.ownsRow B e s v n xs) : ∃ a c, v = .slice a n c ∧ (a = none → n = 0 ∧ c = 0) ∧ n ≤ c := by
  rcases h.2 with ⟨e, h0⟩ | ⟨g, cap, cur, e, _, _, hn, _⟩
  · exact ⟨none, 0, by rw [e, h0], fun _ => ⟨h0, rfl⟩, by omega⟩
  · exact ⟨_, _, e, (fun h => by cases h), hn⟩
theorem trow_of_owns (hE : Enc s enc) {w : World} {B n c : Nat} {e : TypeId} {a : Option Addr} {l : List α} (h : w.ownsRow B e s (.slice a n c) n (tcells enc l)) (hs : 0 < s) (hn : n ≤ 1000000000) : TRow s enc d w a n l := by
  have hl := h.1
  rw [tcells_length hE] at hl
  have hl' : l.length = n := Nat.eq_of_mul_eq_mul_right hs hl
  have h0 := h
  rcases h.2 with ⟨e, rfl⟩ | ⟨g, cap, cur, e, _, _, hnc, _⟩
  · exact ⟨hl', by omega, .inl rfl⟩
  · simp only [Value.slice.injEq] at e
    obtain ⟨rfl, _, rfl⟩ := e
    refine ⟨hl', by omega, .inr ⟨g, 0, rfl, fun i hi j v hj => ?_⟩⟩
    have hjs : j < s := by
      rcases Nat.lt_or_ge j s with h' | h'
      · exact h'
      · rw [List.getElem?_eq_none (by rw [hE.len]; exact h')] at hj; cases hj
    rw [Nat.zero_add]
    exact (own_cells h0 (by rw [tcells_get (d := d) hE l i j (by omega) hjs]; exact hj)).1
/-- a row of one thing, just laid -/
theorem trow_lit (w : World) (C : Array Value) (e : TypeId) (x : α) {g : Nat} (hg : w.heap.size = g) (h : ∀ (j : Nat) (v : Value), (enc x)[j]? = some v → C[j]? = some v) : TRow s enc d (w.alloc (.cells C e)) (some ⟨g, 0, none⟩) 1 [x] := by
  subst hg
  refine ⟨rfl, by omega, .inr ⟨_, 0, rfl, fun i hi j v hj => ?_⟩⟩
  obtain rfl : i = 0 := by omega
  simp only [Nat.zero_mul, Nat.zero_add]
  rw [cell_new]
  exact h j v hj

theorem wp_append_t {T E : TypeId} {bytes : Nat} {z : Value} (he : Elem T E s bytes z) (hE : Enc s enc) {w0 w : World} {B : Nat} {o : Oper} {a : Act} {K : Act → World → Prop} {Q : Exit → Act → World → Prop} (sl x : Operand)
    (ho : o.op = .call { callee := .builtin .append, args := #[sl, x], argTypes := #[T, T] })
    (v : Value) (n : Nat) (xs : List α) (hs : a.eval sl = v) (hown : w.ownsRow B E s v n (tcells enc xs))
    (ax : Option Addr) (m c : Nat) (ys : List α) (hx : a.eval x = .slice ax m c) (hr : TRow s enc d w ax m ys) (hnil : ax = none → m = 0 ∧ c = 0)
    (hnm : n + m ≤ 1000000000) (hbel : Below B w0 w) (hB : B ≤ w.heap.size)
    (h : ∀ a' c' w', n + m ≤ c' → (a' = none → n + m = 0 ∧ c' = 0) → (a' = none ↔ v = .slice none 0 0 ∧ m = 0) → w'.ownsRow B E s (.slice a' (n + m) c') (n + m) (tcells enc (xs ++ ys)) → Below B w0 w' → B ≤ w'.heap.size → K (a.put o.dst (.slice a' (n + m) c')) w') : o.wp Tryz.prog a w K Q := by
  obtain ⟨i0, hi, hz0, hz1, hz2⟩ := info_parts he.info
  cases ax with
  | none =>
    obtain ⟨rfl, rfl⟩ := hnil rfl
    have hys : ys = [] := List.length_eq_zero_iff.mp hr.1
    subst hys
    obtain ⟨a', c', rfl, h1, h2⟩ := t_shape hown
    have hrun := run_append_owned_none (P := Tryz.prog) (w := w) B T o.type E i0 s he.und hi (.slice a' n c') n (tcells enc xs) hown
    unfold Oper.wp
    simp [execOp, ho, resolve, invoke, builtin, hs, hx, hrun, Result.andThen]
    refine h a' c' w h2 h1 ?_ (by simpa using hown) hbel hB
    constructor
    · intro e
      obtain ⟨rfl, rfl⟩ := h1 e
      exact ⟨by rw [e], rfl⟩
    · rintro ⟨e, _⟩
      simp only [Value.slice.injEq] at e
      exact e.1
  | some ad =>
    refine wp_append_own w sl x T ho B E i0 _ s bytes he.und hi hz0 hz1 hz2 he.zero he.pos v n (tcells enc xs) hs hown ad m c (tcells enc ys) hx (by rw [tcells_length hE, hr.1]) (hr.cells hE he.pos) (tcells_one hE ys) (by unfold maxLen; omega) ?_ hB ?_
    · have h1 := he.small
      have h2 : (n + m) * bytes ≤ 1000000000 * 1000 := Nat.mul_le_mul hnm h1
      omega
    · intro v' w' hown' hg hn
      obtain ⟨a', c', rfl, h1, h2⟩ := t_shape hown'
      refine h a' c' w' h2 h1 ?_ (by rw [tcells_append]; exact hown') (hbel.grown hg hB (fun k hk => (hown.lt k hk).1)) (Nat.le_trans hB hg.size)
      rw [← hn]
      constructor
      · intro e
        obtain ⟨e1, rfl⟩ := h1 e
        rw [e, e1]
      · intro e
        simp only [Value.slice.injEq] at e
        exact e.1
theorem append_t {T E : TypeId} {bytes : Nat} {z : Value} (he : Elem T E s bytes z) (hE : Enc s enc) {w0 w : World} {B : Nat} {ops : Array Oper} {rest : List Oper} {o : Oper} {a : Act} {Q : Exit → Act → World → Prop} (hgd : o.guard = none) (sl x : Operand)
    (ho : o.op = .call { callee := .builtin .append, args := #[sl, x], argTypes := #[T, T] })
    (v : Value) (n : Nat) (xs : List α) (hs : a.eval sl = v) (hown : w.ownsRow B E s v n (tcells enc xs))
    (ax : Option Addr) (m c : Nat) (ys : List α) (hx : a.eval x = .slice ax m c) (hr : TRow s enc d w ax m ys) (hnil : ax = none → m = 0 ∧ c = 0)
    (hnm : n + m ≤ 1000000000) (hbel : Below B w0 w) (hB : B ≤ w.heap.size)
    (h : ∀ a' c' w', n + m ≤ c' → (a' = none → n + m = 0 ∧ c' = 0) → (a' = none ↔ v = .slice none 0 0 ∧ m = 0) → w'.ownsRow B E s (.slice a' (n + m) c') (n + m) (tcells enc (xs ++ ys)) → Below B w0 w' → B ≤ w'.heap.size → wpList Tryz.prog ops Q rest (a.put o.dst (.slice a' (n + m) c')) w') : wpList Tryz.prog ops Q (o :: rest) a w :=
  wpList_plain hgd fun _ hK => wp_append_t he hE sl x ho v n xs hs hown ax m c ys hx hr hnil hnm hbel hB fun a' c' w' h1 h2 h3 h4 h5 h6 => hK _ _ (h a' c' w' h1 h2 h3 h4 h5 h6)
/-- a row made by '[]T{}' -/
theorem made_t (w : World) {B E : Nat} (hB : B ≤ w.heap.size) {g : Nat} (hg : w.heap.size = g) : (w.alloc (.cells #[] E)).ownsRow B E s (.slice (some ⟨g, 0, none⟩) 0 0) 0 (tcells enc ([] : List α)) := made_b w E s B hg (by omega)
end
end Go.Proofs.YtnoknmnbfkdccaaGreatDoor

/- Texts and their bytes. -/
namespace Go.Proofs.YtnoknmnbfkdccaaGreatDoor
open Go.RowKit

/-- a text's bytes -/
def kb (s : ByteArray) : List Nat := s.data.toList.map (·.toNat)
theorem kb_len (s : ByteArray) : (kb s).length = s.size := by unfold kb; rw [List.length_map, Array.length_toList]; rfl
theorem isEmpty_kb (s : ByteArray) : s.toList.isEmpty = decide (s = ⟨#[]⟩) := (decide_eq_emptyBytes s).symm
theorem kb_inj {s t : ByteArray} (h : kb s = kb t) : s = t := by
  have e : s.data.toList = t.data.toList := by
    unfold kb at h
    exact (List.map_inj_right (fun a b e => UInt8.toNat_inj.mp e)).mp h
  exact ByteArray.ext (Array.toList_inj.mp e)
theorem kb_app (s t : ByteArray) : kb (s ++ t) = kb s ++ kb t := by
  simp [kb]
end Go.Proofs.YtnoknmnbfkdccaaGreatDoor

/- Rows of ints and of texts, by the general rows; a text's bytes as a new row. -/
namespace Go.Proofs.YtnoknmnbfkdccaaGreatDoor
open Go.RowKit

/-- an int's cell, a number that is not below nought -/
def ie (n : Nat) : List Value := [.int .i64 (n : Int)]
abbrev IRow (w : World) (a : Option Addr) (n : Nat) (l : List Nat) : Prop := TRow 1 ie 0 w a n l
theorem IRow.cell {w : World} {a : Option Addr} {n : Nat} {l : List Nat} (h : IRow w a n l) (hn : 0 < n) : ∃ b off, a = some ⟨b, off, none⟩ ∧ ∀ i, i < n → w.cell? ⟨b, off + i, none⟩ = some (.int .i64 ((l.getD i 0 : Nat) : Int)) := by
  obtain ⟨b, off, e, hc⟩ := h.at hn
  refine ⟨b, off, e, fun i hi => ?_⟩
  have := hc i hi 0 _ rfl
  rw [Nat.mul_one, Nat.add_zero] at this
  exact this
theorem IRow.row {w : World} {a : Option Addr} {n : Nat} {l : List Nat} (h : IRow w a n l) (hs : ∀ x ∈ l, x < lim .i64) : Row .i64 w a n l := by
  refine ⟨h.1, by have := h.2.1; omega, hs, ?_⟩
  rcases Nat.eq_zero_or_pos n with h0 | h0
  · exact .inl h0
  · obtain ⟨b, off, e, hc⟩ := h.cell h0
    exact .inr ⟨b, off, e, hc⟩

/-- a byte's cell -/
def be (n : Nat) : List Value := [.int .u8 (n : Int)]
abbrev BRow (w : World) (a : Option Addr) (n : Nat) (l : List Nat) : Prop := TRow 1 be 0 w a n l
theorem BRow.row {w : World} {a : Option Addr} {n : Nat} {l : List Nat} (h : BRow w a n l) (hs : ∀ x ∈ l, x < 256) : Row .u8 w a n l := by
  refine ⟨h.1, by have := h.2.1; omega, hs, ?_⟩
  rcases Nat.eq_zero_or_pos n with h0 | h0
  · exact .inl h0
  · obtain ⟨b, off, e, hc⟩ := h.at h0
    refine .inr ⟨b, off, e, fun i hi => ?_⟩
    have := hc i hi 0 _ rfl
    rw [Nat.mul_one, Nat.add_zero] at this
    exact this

/-- a text's cell -/
def ste (s : ByteArray) : List Value := [.string s]
abbrev StRow (w : World) (a : Option Addr) (n : Nat) (l : List ByteArray) : Prop := TRow 1 ste ⟨#[]⟩ w a n l
theorem StRow.cell {w : World} {a : Option Addr} {n : Nat} {l : List ByteArray} (h : StRow w a n l) (hn : 0 < n) : ∃ b off, a = some ⟨b, off, none⟩ ∧ ∀ i, i < n → w.cell? ⟨b, off + i, none⟩ = some (.string (l.getD i ⟨#[]⟩)) := by
  obtain ⟨b, off, e, hc⟩ := h.at hn
  refine ⟨b, off, e, fun i hi => ?_⟩
  have := hc i hi 0 _ rfl
  rw [Nat.mul_one, Nat.add_zero] at this
  exact this
def InT (w : World) (a : Option Addr) (n c : Nat) (ks : List ByteArray) : Prop := StRow w a n ks ∧ (a = none → n = 0 ∧ c = 0) ∧ n ≤ c
theorem InT.below {w w' : World} {B : Nat} {a : Option Addr} {n c : Nat} {l : List ByteArray} (h : InT w a n c l) (hb : Below B w w') (hB : w.heap.size ≤ B) : InT w' a n c l := ⟨h.1.below hb hB, h.2⟩

end Go.Proofs.YtnoknmnbfkdccaaGreatDoor

/- The order of texts is the order of their bytes. -/
namespace Go.Proofs.YtnoknmnbfkdccaaGreatDoor
open Go.RowKit

end Go.Proofs.YtnoknmnbfkdccaaGreatDoor
