/- What the reference's Of of keys does. -/
import Derived.Test.YtfcijbplfokinaaSV2
namespace Go.Proofs.Ytfcijbplfokinaa
open Go.RowKit

def SieveRes (w : World) (L : List Nat) (e : Ending) (w' : World) : Prop :=
  ∃ a c, e = .returned (.slice a L.length c) ∧ L.length ≤ c ∧ (a = none → L.length = 0 ∧ c = 0) ∧ Row .u8 w' a L.length L ∧ Below w.heap.size w w'

set_option maxRecDepth 100000 in
set_option maxHeartbeats 2000000 in
theorem vof_any (a : Option Addr) (len cap : Nat) (ks : List ByteArray) (w : World) (hr : StRow w a len ks) (hlen : len ≤ 1000) (hs : ∀ s ∈ ks, s.size ≤ 1000000) :
    Calls Try.prog 13 #[.slice a len cap] w (SieveRes w (Sv.of (ks.map kb))) := by
  obtain ⟨N, hN⟩ : ∃ N, N = Sv.size len := ⟨_, rfl⟩
  have hN1 : 1 ≤ N ∧ N ≤ 1048576 := by rw [hN]; unfold Sv.size; omega
  have hNe : (len : Int) + (len : Int) / 10 + 1 = (N : Int) := by rw [hN]; unfold Sv.size; omega
  have hset := fun (b : Nat) W (h : Below w.heap.size w W) => vset_any a len cap ks N b W (hr.below h (Nat.le_refl _)) hN1 hs
  obtain ⟨L, hL⟩ : ∃ L, L = Sv.of (ks.map kb) := ⟨_, rfl⟩
  have HL : Hid (L = (List.range N).map (Sv.byte (ks.map kb) N)) := (by rw [hL, hN]; unfold Sv.of; rw [List.length_map, hr.1] : L = (List.range N).map (Sv.byte (ks.map kb) N))
  rw [← hL]
  have hm0 := made_t (s := 1) (enc := be) w (B := w.heap.size) (E := 5) (Nat.le_refl _) rfl
  have hb0 := below_alloc w (.cells #[] 5)
  clear hL hN hs
  go_enter Try.func13, Try.ntmps13
  go_wp2
  clear hNe
  go_loopw [4, 5] (fun v i wr => ∃ (k c : Nat) (g : Option Addr) (O : List Nat), k ≤ N ∧ i = .int .i64 k ∧ v = .slice g k c ∧ k ≤ c ∧ (g = none → k = 0 ∧ c = 0) ∧ Hid (O = (List.range k).map (Sv.byte (ks.map kb) N)) ∧ wr.ownsRow w.heap.size 5 1 (.slice g k c) k (tcells be O) ∧ Below w.heap.size w wr)
    (fun _ i _ => N - (intOf i).toNat)
  case atStart => exact ⟨0, 0, _, [], by omega, rfl, rfl, by omega, (fun h => by cases h), (rfl : ([] : List Nat) = (List.range 0).map (Sv.byte (ks.map kb) N)), hm0, hb0⟩
  case round =>
    obtain ⟨k, c, g, O, hk, rfl, rfl, hkc, hgn, HO, hown, hbel⟩ := hrel
    clear hm0 hb0
    by_cases hlt : k < N
    · obtain ⟨V, hV⟩ : ∃ V, V = Sv.byte (ks.map kb) N k := ⟨_, rfl⟩
      have hV8 : V < 256 := by rw [hV]; exact Sv.byte_lt _ _ _
      have H2 : Hid (O ++ [V] = (List.range (k + 1)).map (Sv.byte (ks.map kb) N)) := (by rw [HO.out, List.range_succ, List.map_append, hV]; rfl : O ++ [V] = (List.range (k + 1)).map (Sv.byte (ks.map kb) N))
      have HV : Hid (V = Sv.byteGo (fun q => Sv.set (ks.map kb) N (8 * k + q)) 8 0) := hV
      have i1 : (k : Int) < (N : Int) := by omega
      clear hV HO
      go_wp2
      go_loopw [6, 7] (fun t j wi => ∃ (q v : Nat) (z : Int), q ≤ 8 ∧ j = .int .i64 z ∧ Hid (z = (q : Int) - 1) ∧ t = .int .i64 v ∧ v < 2 ^ (8 - q) ∧ Hid (V = Sv.byteGo (fun q => Sv.set (ks.map kb) N (8 * k + q)) q v) ∧ Below wr.heap.size wr wi)
        (fun _ j _ => (intOf j + 1).toNat)
      case atStart => exact ⟨8, 0, 7, by omega, rfl, (by omega : (7 : Int) = ((8 : Nat) : Int) - 1), rfl, by decide, HV, Below.refl _ _⟩
      case round =>
        obtain ⟨q, v, z, hq, rfl, Hz, rfl, hv, HB, hbi⟩ := hrel
        have hbw := hbel.trans (hbi.mono hbel.size)
        clear HV
        cases q with
        | zero =>
          obtain rfl : z = -1 := by have := Hz.out; omega
          obtain rfl : V = v := HB.out
          have hown1 := owns_below hown hbi
          clear HB Hz
          have j1 : IntKind.u8.wrap (V : Int) = (V : Int) := by rw [IntKind.wrap_u8]; omega
          go_wp2_with (at_builtin; go_must (refine append_t byteE beE (w0 := w) (B := w.heap.size) rfl (.tmp 36) (.tmp 39) rfl _ k O rfl (hown1.alloc _) (some ⟨_, 0, none⟩) 1 1 [V] rfl (lit_byte _ V rfl) (fun h => by cases h) (by omega) (hbw.alloc hbw.size _) (hbw.alloc hbw.size _).size ?_; intro a2 c2 w2 hc2 hn2 _ hown2 hb2 _))
          go_roundw
          case rel => exact ⟨k + 1, c2, a2, _, by omega, by go_num, rfl, hc2, hn2, H2, hown2, hb2⟩
          case measure => simp [intOf]; omega
        | succ r =>
          obtain rfl : z = (r : Int) := by have := Hz.out; omega
          have hv2 : v * 2 + 1 < 2 ^ (8 - r) := by
            have : 2 ^ (8 - r) = 2 * 2 ^ (8 - (r + 1)) := by
              rw [show 8 - r = (8 - (r + 1)) + 1 by omega, Nat.pow_succ, Nat.mul_comm]
            omega
          have hp : 2 ^ (8 - r) ≤ 2 ^ 8 := Nat.pow_le_pow_right (by omega) (by omega)
          have hv8 : v ≤ 255 := by omega
          obtain ⟨B, hB⟩ : ∃ B, B = 8 * k + r := ⟨_, rfl⟩
          have j1 : 8 * (k : Int) + (r : Int) = (B : Int) := by omega
          have hS := fun W h => hset B W h
          have hst : Hid (V = Sv.byteGo (fun q => Sv.set (ks.map kb) N (8 * k + q)) r (v * 2 + if Sv.set (ks.map kb) N B = true then 1 else 0)) := (by rw [HB.out, hB]; rfl : V = Sv.byteGo (fun q => Sv.set (ks.map kb) N (8 * k + q)) r (v * 2 + if Sv.set (ks.map kb) N B = true then 1 else 0))
          have i0 : (0 : Int) ≤ (r : Int) := by omega
          clear HB Hz hB
          cases hq2 : Sv.set (ks.map kb) N B with
          | true =>
            rw [hq2] at hS hst
            clear hq2
            go_wp2_with (go_at_call 22; go_must (refine (hS _ hbw).mono ?_; rintro e w3 ⟨rfl, hb3⟩))
            go_roundw
            case rel => exact ⟨r, v * 2 + 1, _, by omega, rfl, (by omega : (r : Int) - 1 = (r : Int) - 1), val_int (by omega), hv2, hst, hbi.trans (hb3.mono hbi.size)⟩
            case measure => simp [intOf]
          | false =>
            rw [hq2] at hS hst
            clear hq2
            go_wp2_with (go_at_call 22; go_must (refine (hS _ hbw).mono ?_; rintro e w3 ⟨rfl, hb3⟩))
            go_roundw
            case rel => exact ⟨r, v * 2, _, by omega, rfl, (by omega : (r : Int) - 1 = (r : Int) - 1), val_int (by omega), by omega, hst, hbi.trans (hb3.mono hbi.size)⟩
            case measure => simp [intOf]
    · obtain rfl : k = N := by omega
      obtain rfl : O = L := by rw [HO.out, HL.out]
      have hlN : O.length = k := by rw [HO.out]; simp
      have hsm : ∀ x ∈ O, x < 256 := fun x hx => by
        rw [HO.out] at hx
        obtain ⟨i, _, rfl⟩ := List.mem_map.mp hx
        exact Sv.byte_lt _ _ _
      go_wp2
      go_ret
      exact ⟨g, c, by rw [hlN]; rfl, by rw [hlN]; exact hkc, by rw [hlN]; exact hgn, by rw [hlN]; exact BRow.row (trow_of_owns beE hown (by omega) (by omega)) hsm, hbel⟩
end Go.Proofs.Ytfcijbplfokinaa
