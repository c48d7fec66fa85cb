/- What Add and the law CrcAdds do. -/
import Derived.Test.YteglhhenpimimaaW5
import Derived.Test.YteglhhenpimimaaM2
import Derived.Deep.RegionHeld3
import Derived.Deep.AppendLies
namespace Go.Proofs.Yteglhhenpimimaa
open Go.RowKit

theorem add3_walk (a b c : List Nat) (ha : ∀ n ∈ a, n < 256) (hb : ∀ n ∈ b, n < 256) (hc : ∀ n ∈ c, n < 256) :
    bits .xor .u32 (bits .xor .u32 (Crc.more 0 a : Nat) (Crc.more 0 b : Nat)) (Crc.more 0 c : Nat) = (Crc.add3 a b c : Nat) := by
  have h1 := Crc.more_lt (s := 0) a (by omega) ha
  have h2 := Crc.more_lt (s := 0) b (by omega) hb
  have h3 := Crc.more_lt (s := 0) c (by omega) hc
  rw [u32_xor_nat _ _ h1 h2, u32_xor_nat _ _ (Crc.xor_lt h1 h2) h3]; rfl

set_option maxHeartbeats 400000 in
theorem add_any (a1 a2 a3 : Option Addr) (l1 c1 l2 c2 l3 c3 : Nat) (bs1 bs2 bs3 : List Nat) (w : World)
    (hr1 : Row w a1 l1 bs1) (hr2 : Row w a2 l2 bs2) (hr3 : Row w a3 l3 bs3) :
    Calls Try.prog 12 #[.slice a1 l1 c1, .slice a2 l2 c2, .slice a3 l3 c3] w fun e w' => e = .returned (.int .u32 (Crc.add3 bs1 bs2 bs3 : Nat)) ∧ w' = w := by
  have hx := add3_walk bs1 bs2 bs3 hr1.2.2.1 hr2.2.2.1 hr3.2.2.1
  go_enter Try.func12, Try.ntmps12
  go_wp2_with (go_at_call 8; refine (of_any _ _ _ _ _ (by assumption)).mono ?_; rintro e w' ⟨rfl, rfl⟩)
  go_ret
  exact ⟨by first | rfl | exact ret_int hx, rfl⟩

theorem Row.at {w : World} {a : Option Addr} {n : Nat} {bs : List Nat} (h : Row w a n bs) (hn : 0 < n) :
    ∃ b off, a = some ⟨b, off, none⟩ ∧ (∀ i, i < n → b < w.heap.size) ∧ ∀ i, i < n → w.cell? ⟨b, off + i, none⟩ = some (.int .u8 (bs.getD i 0 : Nat)) := by
  obtain ⟨_, _, _, h0 | ⟨b, off, e, hc⟩⟩ := h
  · omega
  · exact ⟨b, off, e, fun i hi => cell_lt (hc i hi), hc⟩

theorem xor3_walk (x y z : Nat) (hx : x < 256) (hy : y < 256) (hz : z < 256) :
    bits .xor .u8 (bits .xor .u8 (x : Int) (y : Int)) (z : Int) = ((x ^^^ y ^^^ z : Nat) : Int) := by
  rw [u8_xor_nat _ _ hx hy, u8_xor_nat _ _ (Crc.xor_lt8 hx hy) hz]

theorem owns_ge {w : World} {base : Nat} {e : TypeId} {size : Nat} {v : Value} {n : Nat} {xs : List Value} (h : w.ownsRow base e size v n xs) :
    ∀ b, v.ownBlock = some b → base ≤ b := fun b hv => (h.lt b hv).1

set_option maxRecDepth 100000 in
set_option maxHeartbeats 1000000 in
theorem adds_any (a1 a2 a3 : Option Addr) (n c1 c2 c3 : Nat) (bs1 bs2 bs3 : List Nat) (w : World) (hn : n ≤ 2000)
    (hr1 : Row w a1 n bs1) (hr2 : Row w a2 n bs2) (hr3 : Row w a3 n bs3) :
    Calls Try.prog 5 #[.slice a1 n c1, .slice a2 n c2, .slice a3 n c3] w fun e w' => e = .returned (.bool true) ∧ Below w.heap.size w w' := by
  have hx := add3_walk bs1 bs2 bs3 hr1.2.2.1 hr2.2.2.1 hr3.2.2.1
  obtain ⟨i0, hi0, hz0, hz1, hz2⟩ := info_parts Try.info5
  go_enter Try.func5, Try.ntmps5
  go_wp2_with (first | (go_at_call 12; refine (add_any _ _ _ _ _ _ _ _ _ _ _ _ _ hr1 hr2 hr3).mono ?_; rintro e w' ⟨rfl, rfl⟩) | (go_at_call 9; refine (refof_any _ _ _ _ _ (by assumption)).mono ?_; rintro e w' ⟨rfl, rfl⟩))
  clear hx
  go_loopw [8, 9] (fun v i wr => ∃ k : Nat, k ≤ n ∧ i = .int .i64 k ∧ wr.ownsRow w'.heap.size 5 1 v k (bcells (Crc.x3 (bs1.take k) (bs2.take k) (bs3.take k))) ∧ Below w'.heap.size w' wr)
    (fun _ i _ => n - (intOf i).toNat)
  case atStart => exact ⟨0, by omega, rfl, World.ownsRow_made (base := w'.heap.size) (e := 5) (size := 1) w' #[] 0 (Nat.le_refl _) (by decide) (by simp), (Below.refl _ _).alloc (Nat.le_refl _) _⟩
  case round =>
    obtain ⟨k, hk, rfl, hown, hbel⟩ := hrel
    by_cases hlt : k < n
    · obtain ⟨b1, o1, rfl, hb1, hc1⟩ := hr1.at (by omega)
      obtain ⟨b2, o2, rfl, hb2, hc2⟩ := hr2.at (by omega)
      obtain ⟨b3, o3, rfl, hb3, hc3⟩ := hr3.at (by omega)
      have hb1 := hb1 k hlt
      have hb2 := hb2 k hlt
      have hb3 := hb3 k hlt
      have hd1 : Hid (_ = _) := hc1 k hlt
      have hc1 := (hbel.cell (p := ⟨b1, o1 + k, none⟩) hb1).trans (hc1 k hlt)
      have hd2 : Hid (_ = _) := hc2 k hlt
      have hc2 := (hbel.cell (p := ⟨b2, o2 + k, none⟩) hb2).trans (hc2 k hlt)
      have hd3 : Hid (_ = _) := hc3 k hlt
      have hc3 := (hbel.cell (p := ⟨b3, o3 + k, none⟩) hb3).trans (hc3 k hlt)
      have hg1 := getD_lt hr1.2.2.1 k
      have hg2 := getD_lt hr2.2.2.1 k
      have hg3 := getD_lt hr3.2.2.1 k
      have hsn : Hid (_ = _) := Crc.x3_snoc bs1 bs2 bs3 k (by rw [hr1.1]; exact hlt) (by rw [hr2.1]; exact hlt) (by rw [hr3.1]; exact hlt)
      have hsz := hbel.size
      clear hr1 hr2 hr3
      generalize bs1.getD k 0 = x1 at *
      generalize bs2.getD k 0 = x2 at *
      generalize bs3.getD k 0 = x3 at *
      have hxx : Hid (_ = _) := xor3_walk x1 x2 x3 hg1 hg2 hg3
      have hi0' : (0 : Int) ≤ (k : Int) := Int.natCast_nonneg _
      have hi1 : (k : Int) < (n : Int) := by omega
      have hge := owns_ge hown
      go_wp2_with fail
      go_region_held3 (fun w' => w'.cell? ⟨b1, o1 + k, none⟩ = some (.int .u8 x1) ∧ w'.cell? ⟨b2, o2 + k, none⟩ = some (.int .u8 x2) ∧ w'.cell? ⟨b3, o3 + k, none⟩ = some (.int .u8 x3))
        (first | go_keep | (refine ⟨?_, ?_, ?_⟩ <;> assumption))
        ((refine step_append_lies _ (by rfl) _ _ _ (by rfl) w'.heap.size 5 i0 _ 1 1 Try.underlying23 hi0 hz0 hz1 hz2 rfl (by omega) _ k _ (by rfl) ((hown.alloc _).drew) ⟨wr.heap.size, 0, none⟩ 1 1 [.int .u8 (bits .xor .u8 (bits .xor .u8 (x1 : Int) (x2 : Int)) (x3 : Int))] (by rfl) (by rfl) (World.news_of_block (cs := #[.int .u8 (bits .xor .u8 (bits .xor .u8 (x1 : Int) (x2 : Int)) (x3 : Int))]) (t := 5) (fr := (0, 0)) (heap_alloc_new wr _)) (by simp [Value.oneCell']) (by omega) (by unfold maxLen; omega) (by omega) (by simp; omega) (wr.heap.size + 1) (by simp) ?_; intro g cap w1 hown1 hgrow hat hlt1; have hbel1 : Below w'.heap.size w' w1 := ((hbel.alloc hsz _).drew).grown hgrow (by simp; omega) hge; have hk1 := (hbel1.cell (p := ⟨b1, o1 + k, none⟩) hb1).trans hd1.out; have hk2 := (hbel1.cell (p := ⟨b2, o2 + k, none⟩) hb2).trans hd2.out; have hk3 := (hbel1.cell (p := ⟨b3, o3 + k, none⟩) hb3).trans hd3.out))
      have R : w1.ownsRow w'.heap.size 5 1 (Value.slice (some ⟨g, 0, none⟩) (k + 1) cap) (k + 1) (bcells (Crc.x3 (bs1.take (k + 1)) (bs2.take (k + 1)) (bs3.take (k + 1)))) := by
        rw [hsn.out, bcells_append, show bcells [x1 ^^^ x2 ^^^ x3] = [Value.int .u8 ((x1 ^^^ x2 ^^^ x3 : Nat) : Int)] from rfl, ← hxx.out]
        exact hown1
      clear hown1 hgrow hown hc1 hc2 hc3 hk1 hk2 hk3 hxx hsn hd1 hd2 hd3
      go_wp2
      go_roundw
      case rel => exact ⟨k + 1, by omega, by go_num, R, hbel1⟩
      case measure => simp [intOf]; omega
    · obtain rfl : k = n := by omega
      have e1 : bs1.take k = bs1 := List.take_of_length_le (by rw [hr1.1]; exact Nat.le_refl _)
      have e2 : bs2.take k = bs2 := List.take_of_length_le (by rw [hr2.1]; exact Nat.le_refl _)
      have e3 : bs3.take k = bs3 := List.take_of_length_le (by rw [hr3.1]; exact Nat.le_refl _)
      rw [e1, e2, e3] at hown
      obtain ⟨a4, c4, rfl, hr4⟩ := row_of_owns hown (Crc.x3_small bs1 bs2 bs3 hr1.2.2.1 hr2.2.2.1 hr3.2.2.1) (by omega)
      have hj := Crc.add3_x3 bs1 bs2 bs3 (by rw [hr1.1, hr2.1]) (by rw [hr2.1, hr3.1])
      have hsz := hbel.size
      clear hown hr1 hr2 hr3 e1 e2 e3
      go_wp2_with (first | (go_at_call 8; refine (of_any _ _ _ _ _ hr4).mono ?_; rintro e w2 ⟨rfl, rfl⟩) | (go_at_call 7; refine (awake_any _).mono ?_; rintro e w3 ⟨rfl, hbel3⟩))
      go_ret
      exact ⟨rfl, hbel.trans (hbel3.mono hsz)⟩

set_option maxHeartbeats 400000 in
theorem adds_off (a1 a2 a3 : Option Addr) (l1 c1 l2 c2 l3 c3 : Nat) (bs1 bs2 bs3 : List Nat) (w : World) (h1 : l1 ≤ 2000) (h2 : l2 ≤ 2000) (h3 : l3 ≤ 2000)
    (hne : l1 ≠ l2 ∨ l2 ≠ l3) (hr1 : Row w a1 l1 bs1) (hr2 : Row w a2 l2 bs2) (hr3 : Row w a3 l3 bs3) :
    Calls Try.prog 5 #[.slice a1 l1 c1, .slice a2 l2 c2, .slice a3 l3 c3] w fun e w' => e = .returned (.bool true) ∧ Below w.heap.size w w' := by
  have hx := add3_walk bs1 bs2 bs3 hr1.2.2.1 hr2.2.2.1 hr3.2.2.1
  by_cases h12 : l1 = l2
  · have h23 : ¬ l2 = l3 := by omega
    subst h12
    clear hne
    go_enter Try.func5, Try.ntmps5
    go_wp2_with (first | (go_at_call 12; refine (add_any _ _ _ _ _ _ _ _ _ _ _ _ _ hr1 hr2 hr3).mono ?_; rintro e w' ⟨rfl, rfl⟩) | (go_at_call 9; refine (refof_any _ _ _ _ _ (by assumption)).mono ?_; rintro e w' ⟨rfl, rfl⟩) | (go_at_call 7; refine (awake_any _).mono ?_; rintro e w3 ⟨rfl, hbel3⟩))
    go_ret
    exact ⟨rfl, by assumption⟩
  · clear hne
    go_enter Try.func5, Try.ntmps5
    go_wp2_with (first | (go_at_call 12; refine (add_any _ _ _ _ _ _ _ _ _ _ _ _ _ hr1 hr2 hr3).mono ?_; rintro e w' ⟨rfl, rfl⟩) | (go_at_call 9; refine (refof_any _ _ _ _ _ (by assumption)).mono ?_; rintro e w' ⟨rfl, rfl⟩) | (go_at_call 7; refine (awake_any _).mono ?_; rintro e w3 ⟨rfl, hbel3⟩))
    all_goals (go_ret; exact ⟨rfl, by assumption⟩)

set_option maxHeartbeats 400000 in
theorem adds_long (a1 a2 a3 : Option Addr) (l1 c1 l2 c2 l3 c3 : Nat) (w : World) (h : 2000 < l1 ∨ 2000 < l2 ∨ 2000 < l3) :
    Calls Try.prog 5 #[.slice a1 l1 c1, .slice a2 l2 c2, .slice a3 l3 c3] w fun e w' => e = .returned (.bool true) ∧ Below w.heap.size w w' := by
  by_cases h1 : 2000 < l1
  · clear h
    go_enter Try.func5, Try.ntmps5
    go_wp2_with (go_at_call 7; refine (awake_any _).mono ?_; rintro e w' ⟨rfl, hbel⟩)
    go_ret
    exact ⟨rfl, by assumption⟩
  · by_cases h2 : 2000 < l2
    · clear h
      go_enter Try.func5, Try.ntmps5
      go_wp2_with (go_at_call 7; refine (awake_any _).mono ?_; rintro e w' ⟨rfl, hbel⟩)
      go_ret
      exact ⟨rfl, by assumption⟩
    · have h3 : 2000 < l3 := by omega
      clear h
      go_enter Try.func5, Try.ntmps5
      go_wp2_with (go_at_call 7; refine (awake_any _).mono ?_; rintro e w' ⟨rfl, hbel⟩)
      go_ret
      exact ⟨rfl, by assumption⟩
end Go.Proofs.Yteglhhenpimimaa
