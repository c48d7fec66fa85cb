/- What the program's hidesOlder does. -/
import Derived.Test.YtghgolpofafjmaaLN
namespace Go.Proofs.Ytghgolpofafjmaa
open Go.RowKit

theorem filter_any (l : List Lv.T) (p : Lv.T → Bool) : decide (0 < (l.filter p).length) = l.any p := by
  rw [Bool.eq_iff_iff, decide_eq_true_eq, List.any_eq_true]
  constructor
  · intro h
    obtain ⟨x, hx⟩ := List.exists_mem_of_length_pos (l := l.filter p) (by omega)
    exact ⟨x, (List.mem_filter.mp hx).1, (List.mem_filter.mp hx).2⟩
  · rintro ⟨x, h1, h2⟩
    have := List.length_pos_of_mem (List.mem_filter.mpr ⟨h1, h2⟩)
    omega
set_option maxRecDepth 100000 in
set_option maxHeartbeats 400000 in
theorem lhid_any (x1 x2 x3 : Int) (x4 x5 : ByteArray) (G0 G1 : Nat) (ai : Option Addr) (ni ci : Nat) (il : List Lv.T) (n : Int) (w : World) (hni : ni ≤ 1000) (h1 : w.cell? ⟨G1, 0, none⟩ = some (.int .i64 n)) (h0 : w.cell? ⟨G0, 0, none⟩ = some (.slice ai ni ci)) (hr : LRow w ai ni il) :
    Calls Try.prog 47 #[.agg #[.int .i64 x1, .int .i64 x2, .int .i64 x3, .string x4, .string x5], .pointer (some ⟨G1, 0, none⟩), .pointer (some ⟨G0, 0, none⟩)] w fun e w' => e = .returned (.bool (decide (n < x2) && il.any (fun y => Lv.meet y ⟨x1, x2, x3, x4, x5⟩))) ∧ Below w.heap.size w w' := by
  have hme := fun W r => lmeeting_any ai ni ci il x1 x2 x3 x4 x5 W (by omega) r
  have HF : Hid (decide (0 < (il.filter (fun y => Lv.meet y ⟨x1, x2, x3, x4, x5⟩)).length) = il.any (fun y => Lv.meet y ⟨x1, x2, x3, x4, x5⟩)) := filter_any _ _
  generalize il.filter (fun y => Lv.meet y ⟨x1, x2, x3, x4, x5⟩) = F at *
  generalize il.any (fun y => Lv.meet y ⟨x1, x2, x3, x4, x5⟩) = R at *
  have hb0 := below_alloc w (otab x1 x2 x3 x4 x5)
  have hrb := hr.below hb0 (Nat.le_refl _)
  have k1 := (cell_past w (otab x1 x2 x3 x4 x5) ⟨G1, 0, none⟩ (cell_lt h1)).trans h1
  have k0 := (cell_past w (otab x1 x2 x3 x4 x5) ⟨G0, 0, none⟩ (cell_lt h0)).trans h0
  by_cases hlt : n < x2
  · have d0 : decide (n < x2) = true := decide_eq_true hlt
    rw [d0, Bool.true_and]
    go_enter Try.func47, Try.ntmps47
    go_wp2_with (go_at_call 24; go_must (refine (hme _ hrb).mono ?_; rintro e w2 ⟨A, C, rfl, hown2, hb2⟩))
    go_ret
    obtain rfl := HF.out
    exact ⟨rfl, hb0.trans (hb2.mono hb0.size)⟩
  · have d0 : decide (n < x2) = false := decide_eq_false hlt
    rw [d0, Bool.false_and]
    go_enter Try.func47, Try.ntmps47
    go_wp2
    go_ret
    exact ⟨rfl, hb0⟩

set_option maxRecDepth 100000 in
set_option maxHeartbeats 1000000 in
theorem lindex_any (a : Option Addr) (len cap : Nat) (l : List Lv.T) (G0 G1 : Nat) (ai : Option Addr) (ni ci : Nat) (il : List Lv.T) (n : Int) (w : World) (hlen : len ≤ 1000) (hr : LRow w a len l) (hni : ni ≤ 1000) (h1 : w.cell? ⟨G1, 0, none⟩ = some (.int .i64 n)) (h0 : w.cell? ⟨G0, 0, none⟩ = some (.slice ai ni ci)) (hri : LRow w ai ni il) :
    Calls Try.prog 60 #[.slice a len cap, .func (.func 47) #[] #[.pointer (some ⟨G1, 0, none⟩), .pointer (some ⟨G0, 0, none⟩)]] w fun e w' => ∃ r : Int, e = .returned (.int .i64 r) ∧ decide (0 ≤ r) = Lv.hides l il n ∧ Below w.heap.size w w' := by
  have hll : Hid (l.length = len) := hr.1
  obtain ⟨p, hp⟩ : ∃ p : Lv.T → Bool, p = fun x => decide (n < x.lev) && il.any (fun y => Lv.meet y x) := ⟨_, rfl⟩
  have hcl : ∀ x1 x2 x3 x4 x5 V, Below w.heap.size w V → Calls Try.prog 47 #[.agg #[.int .i64 x1, .int .i64 x2, .int .i64 x3, .string x4, .string x5], .pointer (some ⟨G1, 0, none⟩), .pointer (some ⟨G0, 0, none⟩)] V fun e w' => e = .returned (.bool (p ⟨x1, x2, x3, x4, x5⟩)) ∧ Below V.heap.size V w' := by
    intro x1 x2 x3 x4 x5 V hV
    rw [hp]
    exact lhid_any x1 x2 x3 x4 x5 G0 G1 ai ni ci il n V hni ((hV.cell (p := ⟨G1, 0, none⟩) (cell_lt h1)).trans h1) ((hV.cell (p := ⟨G0, 0, none⟩) (cell_lt h0)).trans h0) (hri.below hV (Nat.le_refl _))
  have hR : Lv.hides l il n = l.any p := by rw [hp]; rfl
  rw [hR]
  clear hR hp h1 h0 hri
  obtain ⟨R, hR⟩ : ∃ R, R = l.any p := ⟨_, rfl⟩
  rw [← hR]
  have HR : Hid (R = (l.drop 0).any p) := hR
  clear hR
  go_enter Try.func60, Try.ntmps60
  go_wp2
  go_loopw [8] (fun i wr => ∃ k : Nat, k ≤ len ∧ i = .int .i64 k ∧ Hid (R = (l.drop k).any p) ∧ Below w.heap.size w wr) (fun i _ => len - (intOf i).toNat)
  case atStart => exact ⟨0, by omega, rfl, HR, Below.refl _ _⟩
  case round =>
    obtain ⟨k, hk, rfl, H, hbel⟩ := hrel
    by_cases hlt : k < len
    · obtain ⟨b, off, x1, x2, x3, x4, x5, rfl, hx, q0, q1, q2, q3, q4⟩ := lget hr hbel hlt
      have hk' : k < l.length := by rw [hll.out]; exact hlt
      have i0 : (0 : Int) ≤ (k : Int) := by omega
      have i1 : (k : Int) < (len : Int) := by omega
      have HS : Hid ((l.drop k).any p = (p ⟨x1, x2, x3, x4, x5⟩ || (l.drop (k + 1)).any p)) := (by rw [ldrop hk', hx.out]; rfl : (l.drop k).any p = (p ⟨x1, x2, x3, x4, x5⟩ || (l.drop (k + 1)).any p))
      have hd := hcl x1 x2 x3 x4 x5 wr hbel
      cases hz : p ⟨x1, x2, x3, x4, x5⟩ with
      | true =>
        rw [hz] at hd
        have HE : Hid (R = true) := (by rw [H.out, HS.out, hz, Bool.true_or] : R = true)
        clear H HS HR hx hcl
        go_wp2_with (go_at_call 47; go_must (refine hd.mono ?_; rintro e w2 ⟨rfl, hb2⟩))
        go_ret
        exact ⟨(k : Int), rfl, by rw [HE.out]; exact decide_eq_true (by omega), hbel.trans (hb2.mono hbel.size)⟩
      | false =>
        rw [hz] at hd
        have HE : Hid (R = (l.drop (k + 1)).any p) := (by rw [H.out, HS.out, hz, Bool.false_or] : R = (l.drop (k + 1)).any p)
        clear H HS HR hx hcl
        go_wp2_with (go_at_call 47; go_must (refine hd.mono ?_; rintro e w2 ⟨rfl, hb2⟩))
        go_roundw
        case rel => exact ⟨k + 1, by omega, by go_num, HE, hbel.trans (hb2.mono hbel.size)⟩
        case measure => simp [intOf]; omega
    · obtain rfl : k = len := by omega
      have HE : Hid (R = false) := (by rw [H.out, List.drop_of_length_le (by rw [hll.out]; omega)]; rfl : R = false)
      clear H HR
      go_wp2
      go_ret
      exact ⟨-1, rfl, by rw [HE.out]; rfl, hbel⟩

set_option maxRecDepth 100000 in
set_option maxHeartbeats 400000 in
theorem lhides_any (a : Option Addr) (len cap : Nat) (l : List Lv.T) (ai : Option Addr) (ni ci : Nat) (il : List Lv.T) (n : Int) (w : World) (hlen : len ≤ 1000) (hr : LRow w a len l) (hni : ni ≤ 1000) (hri : LRow w ai ni il) :
    Calls Try.prog 40 #[.slice ai ni ci, .slice a len cap, .int .i64 n] w fun e w' => e = .returned (.bool (Lv.hides l il n)) ∧ Below w.heap.size w w' := by
  have hb0 := below_two w (.cells #[.slice ai ni ci] 22) (.cells #[.int .i64 n] 3)
  have hix := lindex_any a len cap l w.heap.size (w.heap.size + 1) ai ni ci il n ((w.alloc (.cells #[.slice ai ni ci] 22)).alloc (.cells #[.int .i64 n] 3)) hlen (hr.below hb0 (Nat.le_refl _)) hni (cell_newb _ _ _ _ (by simp)) ((cell_past _ _ _ (by simp)).trans (cell_new _ _ _ _)) (hri.below hb0 (Nat.le_refl _))
  generalize Lv.hides l il n = R at *
  have hct : Calls Try.prog 46 #[.slice a len cap, .func (.func 47) #[] #[.pointer (some ⟨w.heap.size + 1, 0, none⟩), .pointer (some ⟨w.heap.size, 0, none⟩)]] ((w.alloc (.cells #[.slice ai ni ci] 22)).alloc (.cells #[.int .i64 n] 3)) fun e w' => e = .returned (.bool R) ∧ Below w.heap.size w w' := by
    go_enter Try.func46, Try.ntmps46
    go_wp2_with (go_at_call 60; go_must (refine hix.mono ?_; rintro e w2 ⟨r, rfl, hr, hb2⟩))
    go_ret
    exact ⟨by rw [← hr]; rfl, hb0.trans (hb2.mono hb0.size)⟩
  clear hix
  go_enter Try.func40, Try.ntmps40
  go_wp2_with (go_at_call 46; go_must (refine hct.mono ?_; rintro e w2 ⟨rfl, hb2⟩))
  go_ret
  exact ⟨rfl, hb2⟩
end Go.Proofs.Ytghgolpofafjmaa
