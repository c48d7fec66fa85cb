/- What the reference's Bits of a key does, and its has. -/
import Derived.Test.YtfcijbplfokinaaSvMath
import Derived.Test.YtfcijbplfokinaaGI
import Derived.Test.YtfcijbplfokinaaCrc
namespace Go.Proofs.Ytfcijbplfokinaa
open Go.RowKit

def BitsRes (w : World) (L : List Nat) (e : Ending) (w' : World) : Prop :=
  ∃ a c, e = .returned (.slice a L.length c) ∧ L.length ≤ c ∧ (a = none → L.length = 0 ∧ c = 0) ∧ w'.ownsRow w.heap.size 3 1 (.slice a L.length c) L.length (tcells ie L) ∧ Below w.heap.size w w'

set_option maxRecDepth 100000 in
set_option maxHeartbeats 2000000 in
theorem vbits_any (n : Nat) (s : ByteArray) (w : World) (hn : 1 ≤ n ∧ n ≤ 1048576) (hs : s.size ≤ 1000000) :
    Calls Try.prog 10 #[.int .i64 n, .string s] w (BitsRes w (Sv.bits n (kb s))) := by
  obtain ⟨C, cap, hconv, hrow⟩ := conv_row8 s w hs
  have hb0 : Below w.heap.size w (w.alloc (.cells C 5 (C.size, C.size + 1))) := below_alloc _ _
  have hof := fun W (h : Below (w.alloc (.cells C 5 (C.size, C.size + 1))).heap.size (w.alloc (.cells C 5 (C.size, C.size + 1))) W) => refof_any _ s.size cap (kb s) W (hrow.below h (Nat.le_refl _))
  have hH : Crc.more 0 (kb s) < 4294967296 := Crc.more_lt (s := 0) (kb s) (by omega) (fun x hx => kb_small s x hx)
  obtain ⟨L, hL⟩ : ∃ L, L = Sv.bits n (kb s) := ⟨_, rfl⟩
  have HL : Hid (L = (List.range 6).map (Sv.bit n (Crc.more 0 (kb s)))) := (by rw [hL]; rfl : L = (List.range 6).map (Sv.bit n (Crc.more 0 (kb s))))
  rw [← hL]
  clear hL
  generalize Crc.more 0 (kb s) = H at *
  by_cases hpar : (H * 131072 % 4294967296 + H / 32768) % 2 = 0
  · have hd : (((H : Int) * 131072 % 4294967296 + (H : Int) / 32768) % 2 == 0) = true := by simp; omega
    obtain ⟨D, hDD⟩ : ∃ D, D = Sv.turnd H := ⟨_, rfl⟩
    have hDe : (H : Int) * 131072 % 4294967296 + (H : Int) / 32768 + 1 = (D : Int) := by rw [hDD]; unfold Sv.turnd Sv.odd; rw [if_pos hpar]; omega
    have HD : Hid (D = Sv.turnd H) := hDD
    have hD8 : D ≤ 8589934592 := by rw [hDD]; unfold Sv.turnd Sv.odd; split <;> omega
    clear hDD
    go_enter Try.func10, Try.ntmps10
    go_wp2_with (go_at_call 18; go_must (refine (hof _ (Below.refl _ _).drew).mono ?_; rintro e w1 ⟨rfl, hb1⟩))
    have hown0 := made_t (s := 1) (enc := ie) (w.alloc (.cells C 5 (C.size, C.size + 1))) (B := w.heap.size) (E := 3) (by simp) (g := w.heap.size + 1) (by simp)
    have hbel0 := hb0.alloc hb0.size (.cells #[] 3)
    generalize (w.alloc (.cells C 5 (C.size, C.size + 1))).alloc (.cells #[] 3) = w2 at *
    clear hconv hrow hof hb0 hb1 hDe hpar hd
    go_loopw [7, 8] (fun v i wr => ∃ (k c : Nat) (g : Option Addr) (O : List Nat), k ≤ 6 ∧ i = .int .i64 k ∧ v = .slice g k c ∧ k ≤ c ∧ (g = none → k = 0 ∧ c = 0) ∧ Hid (O = (List.range k).map (Sv.bit n H)) ∧ wr.ownsRow w.heap.size 3 1 (.slice g k c) k (tcells ie O) ∧ Below w.heap.size w wr)
      (fun _ i _ => 6 - (intOf i).toNat)
    case atStart => exact ⟨0, 0, _, [], by omega, rfl, rfl, by omega, (fun h => by cases h), (rfl : ([] : List Nat) = (List.range 0).map (Sv.bit n H)), hown0, hbel0.drew⟩
    case round =>
      obtain ⟨k, c, g, O, hk, rfl, rfl, hkc, hgn, HO, hown, hbel⟩ := hrel
      clear hown0 hbel0
      by_cases hlt : k < 6
      · obtain ⟨M, hM⟩ : ∃ M, M = k * D := ⟨_, rfl⟩
        have hM6 : M ≤ 51539607552 := by
          rw [hM]
          exact Nat.le_trans (Nat.mul_le_mul (by omega : k ≤ 6) hD8) (by omega)
        have j1 : IntKind.u64.wrap ((k : Int) * (D : Int)) = (M : Int) := by
          rw [IntKind.wrap_u64, hM]
          have : ((k * D : Nat) : Int) ≤ 51539607552 := by omega
          rw [Int.natCast_mul] at this ⊢
          omega
        obtain ⟨V, hV⟩ : ∃ V, V = Sv.bit n H k := ⟨_, rfl⟩
        have j2 : ((H : Int) + (M : Int)) % 4294967296 % (8 * (n : Int)) = (V : Int) := by
          rw [hV, hM]
          unfold Sv.bit
          rw [← HD.out]
          simp only [Int.natCast_emod, Int.natCast_add, Int.natCast_mul]
          rfl
        have hV8 : V ≤ 8388608 := by
          rw [hV]
          have : Sv.bit n H k < 8 * n := Nat.mod_lt _ (by omega)
          omega
        have H2 : Hid (O ++ [V] = (List.range (k + 1)).map (Sv.bit n H)) := (by rw [HO.out, List.range_succ, List.map_append, hV]; rfl : O ++ [V] = (List.range (k + 1)).map (Sv.bit n H))
        clear hM hV HO
        go_wp2_with (at_builtin; go_must (refine append_t intE ieE (w0 := w) (B := w.heap.size) rfl (.tmp 29) (.tmp 42) rfl _ k O rfl (hown.alloc _) (some ⟨wr.heap.size, 0, none⟩) 1 1 [V] rfl (lit_int wr V rfl) (fun h => by cases h) (by omega) (hbel.alloc hbel.size _) (hbel.alloc hbel.size _).size ?_; intro a2 c2 w2 hc2 hn2 _ hown2 hb2 _))
        go_roundw
        case rel => exact ⟨k + 1, c2, a2, _, by omega, by go_num, rfl, hc2, hn2, H2, hown2, hb2⟩
        case measure => simp [intOf]; omega
      · obtain rfl : k = 6 := by omega
        obtain rfl : O = L := by rw [HO.out, HL.out]
        have hl6 : O.length = 6 := by rw [HO.out]; simp
        go_wp2
        go_ret
        exact ⟨g, c, by rw [hl6]; rfl, by rw [hl6]; exact hkc, by rw [hl6]; exact hgn, by rw [hl6]; exact hown, hbel⟩
  · have hd : (((H : Int) * 131072 % 4294967296 + (H : Int) / 32768) % 2 == 0) = false := by simp; omega
    obtain ⟨D, hDD⟩ : ∃ D, D = Sv.turnd H := ⟨_, rfl⟩
    have hDe : (H : Int) * 131072 % 4294967296 + (H : Int) / 32768 = (D : Int) := by rw [hDD]; unfold Sv.turnd Sv.odd; rw [if_neg hpar]; omega
    have hd2 : ((D : Int) % 2 == 0) = false := by rw [← hDe]; exact hd
    have HD : Hid (D = Sv.turnd H) := hDD
    have hD8 : D ≤ 8589934592 := by rw [hDD]; unfold Sv.turnd Sv.odd; split <;> omega
    clear hDD
    go_enter Try.func10, Try.ntmps10
    go_wp2_with (go_at_call 18; go_must (refine (hof _ (Below.refl _ _).drew).mono ?_; rintro e w1 ⟨rfl, hb1⟩))
    have hown0 := made_t (s := 1) (enc := ie) (w.alloc (.cells C 5 (C.size, C.size + 1))) (B := w.heap.size) (E := 3) (by simp) (g := w.heap.size + 1) (by simp)
    have hbel0 := hb0.alloc hb0.size (.cells #[] 3)
    generalize (w.alloc (.cells C 5 (C.size, C.size + 1))).alloc (.cells #[] 3) = w2 at *
    clear hconv hrow hof hb0 hb1 hDe hpar hd hd2
    go_loopw [7, 8] (fun v i wr => ∃ (k c : Nat) (g : Option Addr) (O : List Nat), k ≤ 6 ∧ i = .int .i64 k ∧ v = .slice g k c ∧ k ≤ c ∧ (g = none → k = 0 ∧ c = 0) ∧ Hid (O = (List.range k).map (Sv.bit n H)) ∧ wr.ownsRow w.heap.size 3 1 (.slice g k c) k (tcells ie O) ∧ Below w.heap.size w wr)
      (fun _ i _ => 6 - (intOf i).toNat)
    case atStart => exact ⟨0, 0, _, [], by omega, rfl, rfl, by omega, (fun h => by cases h), (rfl : ([] : List Nat) = (List.range 0).map (Sv.bit n H)), hown0, hbel0.drew⟩
    case round =>
      obtain ⟨k, c, g, O, hk, rfl, rfl, hkc, hgn, HO, hown, hbel⟩ := hrel
      clear hown0 hbel0
      by_cases hlt : k < 6
      · obtain ⟨M, hM⟩ : ∃ M, M = k * D := ⟨_, rfl⟩
        have hM6 : M ≤ 51539607552 := by
          rw [hM]
          exact Nat.le_trans (Nat.mul_le_mul (by omega : k ≤ 6) hD8) (by omega)
        have j1 : IntKind.u64.wrap ((k : Int) * (D : Int)) = (M : Int) := by
          rw [IntKind.wrap_u64, hM]
          have : ((k * D : Nat) : Int) ≤ 51539607552 := by omega
          rw [Int.natCast_mul] at this ⊢
          omega
        obtain ⟨V, hV⟩ : ∃ V, V = Sv.bit n H k := ⟨_, rfl⟩
        have j2 : ((H : Int) + (M : Int)) % 4294967296 % (8 * (n : Int)) = (V : Int) := by
          rw [hV, hM]
          unfold Sv.bit
          rw [← HD.out]
          simp only [Int.natCast_emod, Int.natCast_add, Int.natCast_mul]
          rfl
        have hV8 : V ≤ 8388608 := by
          rw [hV]
          have : Sv.bit n H k < 8 * n := Nat.mod_lt _ (by omega)
          omega
        have H2 : Hid (O ++ [V] = (List.range (k + 1)).map (Sv.bit n H)) := (by rw [HO.out, List.range_succ, List.map_append, hV]; rfl : O ++ [V] = (List.range (k + 1)).map (Sv.bit n H))
        clear hM hV HO
        go_wp2_with (at_builtin; go_must (refine append_t intE ieE (w0 := w) (B := w.heap.size) rfl (.tmp 29) (.tmp 42) rfl _ k O rfl (hown.alloc _) (some ⟨wr.heap.size, 0, none⟩) 1 1 [V] rfl (lit_int wr V rfl) (fun h => by cases h) (by omega) (hbel.alloc hbel.size _) (hbel.alloc hbel.size _).size ?_; intro a2 c2 w2 hc2 hn2 _ hown2 hb2 _))
        go_roundw
        case rel => exact ⟨k + 1, c2, a2, _, by omega, by go_num, rfl, hc2, hn2, H2, hown2, hb2⟩
        case measure => simp [intOf]; omega
      · obtain rfl : k = 6 := by omega
        obtain rfl : O = L := by rw [HO.out, HL.out]
        have hl6 : O.length = 6 := by rw [HO.out]; simp
        go_wp2
        go_ret
        exact ⟨g, c, by rw [hl6]; rfl, by rw [hl6]; exact hkc, by rw [hl6]; exact hgn, by rw [hl6]; exact hown, hbel⟩
end Go.Proofs.Ytfcijbplfokinaa
