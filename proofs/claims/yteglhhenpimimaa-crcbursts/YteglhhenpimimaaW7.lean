/- What the law CrcBursts does. -/
import Derived.Test.YteglhhenpimimaaW5
import Derived.Test.YteglhhenpimimaaM3
import Derived.Deep.AppendLies
namespace Go.Proofs.Yteglhhenpimimaa
open Go.RowKit

theorem cells_at (l : List Nat) (j : Nat) (h : j < l.length) : (bcells l)[j]? = some (.int .u8 (l.getD j 0 : Nat)) := by
  simp only [bcells, List.getElem?_map, List.getD_eq_getElem?_getD]
  rw [List.getElem?_eq_getElem h]; rfl

theorem bcells_set (l : List Nat) (j x : Nat) : bcells (l.set j x) = (bcells l).set j (.int .u8 (x : Nat)) := by
  simp [bcells, List.map_set]
theorem turn_store {w : World} {B g n cap k p i : Nat} {bs : List Nat} (h : w.ownsRow B 5 1 (.slice (some ⟨g, 0, none⟩) n cap) n (bcells (Crc.turned bs k p i)))
    (hb : Crc.bt p i = 1) (hs : (Crc.turned bs k p i).getD ((k + i) / 8) 0 < 256) :
    (w.setCell ⟨g, (k + i) / 8, none⟩ (.int .u8 (bits .xor .u8 ((Crc.turned bs k p i).getD ((k + i) / 8) 0 : Nat) (2 ^ ((k + i) % 8) % 256)))).ownsRow B 5 1 (.slice (some ⟨g, 0, none⟩) n cap) n (bcells (Crc.turned bs k p (i + 1))) := by
  have h1 := (h.stored ((k + i) / 8) (.int .u8 (bits .xor .u8 ((Crc.turned bs k p i).getD ((k + i) / 8) 0 : Nat) (2 ^ ((k + i) % 8) % 256)))).1
  have hp : 2 ^ ((k + i) % 8) < 256 := Nat.pow_lt_pow_right (a := 2) (n := 8) (by omega) (Nat.mod_lt _ (by omega))
  have e : (2 ^ ((k + i) % 8) % 256 : Int) = ((2 ^ ((k + i) % 8) : Nat) : Int) := by
    have : ((2 ^ ((k + i) % 8) : Nat) : Int) = 2 ^ ((k + i) % 8) := by simp
    rw [← this]; generalize (2 ^ ((k + i) % 8) : Nat) = z at *; omega
  rw [e, u8_xor_nat _ _ hs hp, ← bcells_set] at h1
  rw [e, u8_xor_nat _ _ hs hp, Crc.turned, if_pos hb]
  exact h1
theorem turn_skip (bs : List Nat) (k p i : Nat) (h : ¬ Crc.bt p i = 1) : Crc.turned bs k p (i + 1) = Crc.turned bs k p i := by
  rw [Crc.turned, if_neg h]
theorem turn_mod (p i : Nat) (h : ¬ Crc.bt p i = 1) : p % 2 ^ (i + 1) = p % 2 ^ i := by
  rw [Crc.mod_pow_succ']
  rcases Crc.bt_cases p i with h' | h'
  · rw [h']; simp
  · exact absurd h' h
theorem turn_set (p i : Nat) (h : Crc.bt p i = 1) : decide (p % 2 ^ (i + 1) ≠ 0) = true := by
  rw [Crc.mod_pow_succ', h]
  have := Nat.two_pow_pos i
  simp

set_option maxHeartbeats 1000000 in
theorem bursts_any (a1 : Option Addr) (n c1 : Nat) (at' p : Nat) (bs : List Nat) (w : World) (h0 : 0 < n) (hn : n ≤ 2000) (hat : at' < 65536) (hp : p < 4294967296)
    (hr1 : Row w a1 n bs) (hn1 : a1 = none → n = 0 ∧ c1 = 0) :
    Calls Try.prog 6 #[.slice a1 n c1, .int .u16 at', .int .u32 p] w fun e w' => e = .returned (.bool true) ∧ Below w.heap.size w w' := by
  have hb0 : Below w.heap.size w (w.alloc (.cells #[] 5)) := (Below.refl _ _).alloc (Nat.le_refl _) _
  have hmade := World.ownsRow_made (base := w.heap.size) (e := 5) (size := 1) w #[] 0 (Nat.le_refl _) (by decide) (by simp)
  obtain ⟨k, hk⟩ : ∃ k, k = at' % (8 * n) := ⟨_, rfl⟩
  have hkn : k < 8 * n := by rw [hk]; exact Nat.mod_lt _ (by omega)
  have hk' : (at' : Int) % (8 * (n : Int)) = (k : Int) := by rw [hk]; simp
  have hne0 : ((n : Int) == 0) = false := by simp; omega
  clear hk
  go_enter Try.func6, Try.ntmps6
  go_wp2_with (at_builtin; refine wpList_append_row rfl (.tmp 26) (.tmp 27) rfl _ 0 [] rfl hmade a1 n c1 bs rfl (hr1.below hb0 (Nat.le_refl _)) hn1 (by omega) hb0 hb0.size ?_; intro v1 w1 hown1 hbel1 hsz1; simp only [Nat.zero_add, List.nil_append] at hown1; obtain ⟨g, cap, rfl, hg, hg'⟩ := hown1.form h0)
  clear hmade hb0 hk'
  go_loopw [9, 10] (fun t j wr => ∃ i : Nat, i ≤ 32 ∧ k + i ≤ 8 * n ∧ j = .int .i64 i ∧ t = .bool (decide (p % 2 ^ i ≠ 0)) ∧ wr.ownsRow w.heap.size 5 1 (.slice (some ⟨g, 0, none⟩) n cap) n (bcells (Crc.turned bs k p i)) ∧ Below w.heap.size w wr)
    (fun _ j _ => 32 - (intOf j).toNat)
  case atStart => exact ⟨0, by omega, by omega, rfl, by simp [Nat.mod_one], hown1, hbel1⟩
  case round =>
    obtain ⟨i, hi, hki, rfl, rfl, hown, hbel⟩ := hrel
    by_cases hlt : i < 32 ∧ k + i < 8 * n
    · obtain ⟨hlt, hlt2⟩ := hlt
      obtain ⟨q, hq⟩ : ∃ q : Nat, (p : Int) / 2 ^ i = (q : Int) := ⟨p / 2 ^ i, by simp⟩
      have hq2 : Hid (q = p / 2 ^ i) := (by have : ((p / 2 ^ i : Nat) : Int) = (q : Int) := by rw [← hq]; simp
                                            omega : q = p / 2 ^ i)
      have hql : q < 4294967296 := by rw [hq2.out]; exact Nat.lt_of_le_of_lt (Nat.div_le_self _ _) hp
      have hbt : Hid (Crc.bt p i = q % 2) := (by rw [hq2.out]; rfl : Crc.bt p i = q % 2)
      by_cases hbit : q % 2 = 1
      · have hcell := hown.cellAt ((k + i) / 8) (by omega)
        have hfz := hown.frozenAt ((k + i) / 8)
        rw [cells_at _ _ (by rw [Crc.turned_length, hr1.1]; omega)] at hcell
        have hsm := getD_lt (Crc.turned_small hr1.2.2.1 k p i) ((k + i) / 8)
        have R := turn_store (k := k) (p := p) (i := i) hown (hbt.out.trans hbit) hsm
        generalize (Crc.turned bs k p i).getD ((k + i) / 8) 0 = y at *
        clear hown hown1
        go_wp2
        go_roundw
        case rel => exact ⟨i + 1, by omega, by omega, by go_num, by rw [turn_set _ _ (hbt.out.trans hbit)], R, hbel.setCell hg _⟩
        case measure => simp [intOf]; omega
      · have R := turn_skip bs k p i (fun h => hbit (hbt.out.symm.trans h))
        have R2 := turn_mod p i (fun h => hbit (hbt.out.symm.trans h))
        go_wp2
        go_roundw
        case rel => exact ⟨i + 1, by omega, by omega, by go_num, by rw [R2]; simp, by rw [R]; exact hown, hbel⟩
        case measure => simp [intOf]; omega
    · have hend := Crc.more_turned bs k p i (by rw [hr1.1]; omega) hi
      obtain ⟨a2, c2, e2, hr2⟩ := row_of_owns hown (Crc.turned_small hr1.2.2.1 k p i) (by omega)
      simp only [Value.slice.injEq] at e2
      obtain ⟨rfl, -, rfl⟩ := e2
      have hr1' := hr1.below hbel (Nat.le_refl _)
      have hsz := hbel.size
      clear hown hown1 hr1 hbel1
      by_cases hz : p % 2 ^ i = 0
      · have he : Crc.more 0 (Crc.turned bs k p i) = Crc.more 0 bs := by
          rcases Nat.decEq (Crc.more 0 bs) (Crc.more 0 (Crc.turned bs k p i)) with h | h
          · exact absurd hz (hend.mp h)
          · exact h.symm
        clear hend
        by_cases h32 : i < 32
        all_goals
          go_wp2_with (first | (go_at_call 8; refine (of_any _ _ _ _ _ (by assumption)).mono ?_; rintro e w2 ⟨rfl, rfl⟩) | (go_at_call 7; refine (awake_any _).mono ?_; rintro e w3 ⟨rfl, hbel3⟩))
          go_ret
          exact ⟨rfl, hbel.trans (hbel3.mono hsz)⟩
      · have he := hend.mpr hz
        have he2 : ((Crc.more 0 bs : Int) != (Crc.more 0 (Crc.turned bs k p i) : Int)) = true := by simp; omega
        clear hend
        by_cases h32 : i < 32
        all_goals
          go_wp2_with (first | (go_at_call 8; refine (of_any _ _ _ _ _ (by assumption)).mono ?_; rintro e w2 ⟨rfl, rfl⟩) | (go_at_call 7; refine (awake_any _).mono ?_; rintro e w3 ⟨rfl, hbel3⟩))
          go_ret
          exact ⟨rfl, hbel.trans (hbel3.mono hsz)⟩

set_option maxHeartbeats 400000 in
theorem bursts_none (a1 : Option Addr) (n c1 : Nat) (at' p : Int) (w : World) (h : n = 0 ∨ 2000 < n) :
    Calls Try.prog 6 #[.slice a1 n c1, .int .u16 at', .int .u32 p] w fun e w' => e = .returned (.bool true) ∧ Below w.heap.size w w' := by
  rcases h with rfl | h
  · go_enter Try.func6, Try.ntmps6
    go_wp2_with (go_at_call 7; refine (awake_any _).mono ?_; rintro e w' ⟨rfl, hbel⟩)
    go_ret
    exact ⟨rfl, by assumption⟩
  · have hne0 : ((n : Int) == 0) = false := by simp; omega
    go_enter Try.func6, Try.ntmps6
    go_wp2_with (go_at_call 7; refine (awake_any _).mono ?_; rintro e w' ⟨rfl, hbel⟩)
    go_ret
    exact ⟨rfl, by assumption⟩
end Go.Proofs.Yteglhhenpimimaa
