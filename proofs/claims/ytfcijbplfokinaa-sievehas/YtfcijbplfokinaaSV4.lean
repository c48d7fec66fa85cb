/- What the reference's Has of a key does. -/
import Derived.Test.YtfcijbplfokinaaSV3
namespace Go.Proofs.Ytfcijbplfokinaa
open Go.RowKit

set_option maxRecDepth 100000 in
set_option maxHeartbeats 2000000 in
theorem vhas_any (a : Option Addr) (len cap : Nat) (bs : List Nat) (s : ByteArray) (w : World) (hr : Row .u8 w a len bs) (hs : s.size ≤ 1000000) :
    Calls Try.prog 15 #[.slice a len cap, .string s] w fun e w' => e = .returned (.bool (Sv.has bs (kb s))) ∧ Below w.heap.size w w' := by
  have hll : Hid (bs.length = len) := hr.1
  have hlb := hr.2.1
  by_cases h0 : len = 0 ∨ 1048576 < len
  · rw [show Sv.has bs (kb s) = true by unfold Sv.has; rw [hr.1, if_pos h0]]
    by_cases h00 : len = 0
    · subst h00
      go_enter Try.func15, Try.ntmps15
      go_wp2
      go_ret
      exact ⟨rfl, Below.refl _ _⟩
    · have d1 : ((len : Int) == 0) = false := by simp; omega
      have d2 : decide ((1048576 : Int) < (len : Int)) = true := by simp; omega
      have d3 : (len == 0) = false := by simp; omega
      clear h0 h00
      go_enter Try.func15, Try.ntmps15
      go_wp2
      go_ret
      exact ⟨rfl, Below.refl _ _⟩
  · obtain ⟨R, hR⟩ : ∃ R, R = Sv.has bs (kb s) := ⟨_, rfl⟩
    have HR : Hid (R = (Sv.bits len (kb s)).all (Sv.isSet bs)) := (by rw [hR]; unfold Sv.has; rw [hr.1, if_neg h0] : R = (Sv.bits len (kb s)).all (Sv.isSet bs))
    rw [← hR]
    have d1 : ((len : Int) == 0) = false := by simp; omega
    have d2 : decide ((1048576 : Int) < (len : Int)) = false := by simp; omega
    have d3 : (len == 0) = false := by simp; omega
    have hB := vbits_any len s w (by omega) hs
    have hlt8 : Hid (∀ j ∈ Sv.bits len (kb s), j < 8 * len) := (Sv.bit_lt (by omega) (kb s) : ∀ j ∈ Sv.bits len (kb s), j < 8 * len)
    have hl6 : Hid ((Sv.bits len (kb s)).length = 6) := Sv.bits_len len (kb s)
    generalize Sv.bits len (kb s) = L at *
    have hlen : 0 < len ∧ len ≤ 1048576 := by omega
    obtain ⟨bb, off, rfl, hc⟩ := hr.at hlen.1
    clear hR h0
    go_enter Try.func15, Try.ntmps15
    go_wp2_with (go_at_call 10; go_must (refine hB.mono ?_; rintro e w1 ⟨a1, c1, rfl, _, _, hown1, hb1⟩; have hrow1 : IRow w1 a1 L.length L := trow_of_owns ieE hown1 (by omega) (by have := hl6.out; omega)))
    have hLb : L.length ≤ 1000000000 := by have := hl6.out; omega
    go_loopw [6] (fun i wr => ∃ k : Nat, k ≤ L.length ∧ i = .int .i64 k ∧ Hid (R = (L.drop k).all (Sv.isSet bs)) ∧ Below w1.heap.size w1 wr) (fun i _ => L.length - (intOf i).toNat)
    case atStart => exact ⟨0, by omega, rfl, (HR.out : R = (L.drop 0).all (Sv.isSet bs)), Below.refl _ _⟩
    case round =>
      obtain ⟨k, hk, rfl, H, hbel⟩ := hrel
      clear HR
      by_cases hlt : k < L.length
      · obtain ⟨b1, o1, rfl, hc1⟩ := hrow1.cell (by omega)
        have hst : Hid (R = (Sv.isSet bs (L.getD k 0) && (L.drop (k + 1)).all (Sv.isSet bs))) := (by
          rw [H.out, List.drop_eq_getElem_cons hlt, show L.getD k 0 = L[k] by simp [hlt]]; rfl : R = (Sv.isSet bs (L.getD k 0) && (L.drop (k + 1)).all (Sv.isSet bs)))
        have hj8 := hlt8.out (L.getD k 0) (by rw [show L.getD k 0 = L[k] by simp [hlt]]; exact List.getElem_mem _)
        have C1 : Hid (∀ W, Below w1.heap.size w1 W → W.cell? ⟨b1, o1 + k, none⟩ = some (.int .i64 ((L.getD k 0 : Nat) : Int))) := (fun W hW => (hW.cell (p := ⟨b1, o1 + k, none⟩) (cell_lt (hc1 k hlt))).trans (hc1 k hlt) : ∀ W, Below w1.heap.size w1 W → W.cell? ⟨b1, o1 + k, none⟩ = some (.int .i64 ((L.getD k 0 : Nat) : Int)))
        generalize L.getD k 0 = j at *
        obtain ⟨Y, hY⟩ : ∃ Y, Y = j / 8 := ⟨_, rfl⟩
        obtain ⟨Z, hZ⟩ : ∃ Z, Z = j % 8 := ⟨_, rfl⟩
        have j1 : (j : Int) / 8 = (Y : Int) := by omega
        have j2 : (j : Int) % 8 = (Z : Int) := by omega
        have hY1 : (Y : Int) < (len : Int) := by omega
        have hY0 : (0 : Int) ≤ (Y : Int) := by omega
        have hZ8 : Z < 8 := by omega
        have q0 := C1.out wr hbel
        have hw := hb1.trans (hbel.mono hb1.size)
        have q1 := (hw.cell (p := ⟨bb, off + Y, none⟩) (cell_lt (hc Y (by omega)))).trans (hc Y (by omega))
        have hX8 : bs.getD Y 0 < 256 := by
          have hY' : Y < bs.length := by rw [hll.out]; omega
          rw [show bs.getD Y 0 = bs[Y] by simp [hY']]
          exact hr.2.2.1 _ (List.getElem_mem _)
        have Hset : Hid (Sv.isSet bs j = decide (bs.getD Y 0 / 2 ^ Z % 2 = 1)) := (by unfold Sv.isSet; rw [← hY, ← hZ] : Sv.isSet bs j = decide (bs.getD Y 0 / 2 ^ Z % 2 = 1))
        generalize bs.getD Y 0 = X at *
        have i0 : (0 : Int) ≤ (k : Int) := by omega
        have i1 : (k : Int) < (L.length : Int) := by omega
        clear H hY hZ hc1 hj8
        go_wp2
        go_loopw [7, 8] (fun t i wi => ∃ (q v : Nat), q ≤ Z ∧ i = .int .i64 q ∧ t = .int .u8 v ∧ Hid (v = X / 2 ^ q) ∧ v < 256 ∧ Below wr.heap.size wr wi) (fun _ i _ => Z - (intOf i).toNat)
        case atStart => exact ⟨0, X, by omega, rfl, rfl, (by simp : X = X / 2 ^ 0), hX8, Below.refl _ _⟩
        case round =>
          obtain ⟨q, v, hq, rfl, rfl, Hv, hv, hbi⟩ := hrel
          have hbw := hbel.trans (hbi.mono hbel.size)
          have q2 := C1.out _ hbw
          clear q0 q1
          by_cases hqz : q < Z
          · have Hv2 : Hid (v / 2 = X / 2 ^ (q + 1)) := (by rw [Hv.out, Nat.div_div_eq_div_mul, ← Nat.pow_succ] : v / 2 = X / 2 ^ (q + 1))
            clear Hv
            go_wp2
            go_roundw
            case rel => exact ⟨q + 1, v / 2, by omega, by go_num, val_int (by omega), Hv2, by omega, hbi⟩
            case measure => simp [intOf]; omega
          · obtain rfl : q = Z := by omega
            by_cases hp : v % 2 = 0
            · have dp : ((v : Int) % 2 == 0) = true := by simp; omega
              obtain rfl : R = false := by
                rw [hst.out, Hset.out, ← Hv.out]
                simp [hp]
              clear hst Hset Hv hp
              go_wp2
              go_ret
              exact ⟨rfl, hb1.trans (hbw.mono hb1.size)⟩
            · have dp : ((v : Int) % 2 == 0) = false := by simp; omega
              have H2 : Hid (R = (L.drop (k + 1)).all (Sv.isSet bs)) := (by
                rw [hst.out, Hset.out, ← Hv.out, show decide (v % 2 = 1) = true by simp; omega]
                rfl : R = (L.drop (k + 1)).all (Sv.isSet bs))
              clear hst Hset Hv hp
              go_wp2
              go_roundw
              case rel => exact ⟨k + 1, by omega, by go_num, H2, hbw⟩
              case measure => simp [intOf]; omega
      · obtain rfl : k = L.length := by omega
        obtain rfl : R = true := by rw [H.out, List.drop_of_length_le (Nat.le_refl _)]; rfl
        go_wp2
        go_ret
        exact ⟨rfl, hb1.trans (hbel.mono hb1.size)⟩
end Go.Proofs.Ytfcijbplfokinaa
