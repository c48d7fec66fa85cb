/- What the reference's Points, Get, Same of tallies do. -/
import Derived.Test.YtfeaablomceejaaTA1
namespace Go.Proofs.Ytfeaablomceejaa
open Go.RowKit

set_option maxRecDepth 100000 in
set_option maxHeartbeats 1000000 in
theorem tpoints_any (a : Option Addr) (len cap : Nat) (ps : List Po.P) (w : World) (hr : PRow w a len ps) :
    Calls Try.prog 11 #[.slice a len cap] w fun e w' => e = .returned (.bool (Ta.points ps)) ∧ Below w.heap.size w w' := by
  have hll : Hid (ps.length = len) := hr.1
  have hlb := hr.2.1
  obtain ⟨R, hR⟩ : ∃ R, R = Ta.points ps := ⟨_, rfl⟩
  rw [← hR]
  have HR : Hid (R = Ta.points ps) := hR
  clear hR
  go_enter Try.func11, Try.ntmps11
  go_wp2
  go_loopw [3] (fun i wr => ∃ k : Nat, k ≤ len ∧ i = .int .i64 k ∧ Hid (R = Ta.points (ps.drop k)) ∧ Below w.heap.size w wr) (fun i _ => len - (intOf i).toNat)
  case atStart => exact ⟨0, by omega, rfl, (HR.out : R = Ta.points (ps.drop 0)), Below.refl _ _⟩
  case round =>
    obtain ⟨k, hk, rfl, H, hbel⟩ := hrel
    by_cases hlt : k < len
    · obtain ⟨b, off, rfl, hc⟩ := hr.at (by omega)
      obtain ⟨p0, p1, p2, p3, _⟩ := (hc k hlt)
      have q0 := (hbel.cell (p := ⟨b, off + k * 4, none⟩) (cell_lt p0)).trans p0
      have q1 := (hbel.cell (p := ⟨b, off + k * 4 + 1, none⟩) (cell_lt p1)).trans p1
      have q2 := (hbel.cell (p := ⟨b, off + k * 4 + 2, none⟩) (cell_lt p2)).trans p2
      have q3 := (hbel.cell (p := ⟨b, off + k * 4 + 3, none⟩) (cell_lt p3)).trans p3
      have hst : Hid (R = (Po.may (ps.getD k Po.zero) && Ta.points (ps.drop (k + 1)))) := (by
        have hk' : k < ps.length := by rw [hll.out]; exact hlt
        rw [H.out, List.drop_eq_getElem_cons hk', show ps.getD k Po.zero = ps[k] by simp [hk']]
        rfl : R = (Po.may (ps.getD k Po.zero) && Ta.points (ps.drop (k + 1))))
      generalize ps.getD k Po.zero = p at *
      obtain ⟨y0, y1, y2, y3⟩ := p
      simp only at q0 q1 q2 q3
      have i0 : (0 : Int) ≤ (k : Int) := by omega
      have i1 : (k : Int) < (len : Int) := by omega
      have hm := fun W => pomay_any y0 y1 y2 y3 W
      clear H p0 p1 p2 p3 hc HR
      cases hq : Po.may (y0, y1, y2, y3) with
      | false =>
        rw [hq] at hm
        obtain rfl : R = false := by rw [hst.out, hq]; rfl
        clear hst hq
        go_wp2_with (go_at_call 24; go_must (refine (hm _).mono ?_; rintro e w1 ⟨rfl, hb1⟩))
        go_ret
        exact ⟨rfl, hbel.trans (hb1.mono hbel.size)⟩
      | true =>
        rw [hq] at hm
        have H2 : Hid (R = Ta.points (ps.drop (k + 1))) := (by rw [hst.out, hq]; simp : R = Ta.points (ps.drop (k + 1)))
        clear hst hq
        go_wp2_with (go_at_call 24; go_must (refine (hm _).mono ?_; rintro e w1 ⟨rfl, hb1⟩))
        go_roundw
        case rel => exact ⟨k + 1, by omega, by go_num, H2, hbel.trans (hb1.mono hbel.size)⟩
        case measure => simp [intOf]; omega
    · obtain rfl : k = len := by omega
      have HE : Hid (R = true) := (by rw [H.out, List.drop_of_length_le (by rw [hll.out]; omega)]; rfl : R = true)
      go_wp2
      go_ret
      exact ⟨by rw [HE.out]; rfl, hbel⟩

set_option maxRecDepth 100000 in
set_option maxHeartbeats 1000000 in
theorem tget_any (a : Option Addr) (len cap : Nat) (l : List Ta.S) (s : Int) (w : World) (hr : ShRow w a len l) :
    Calls Try.prog 17 #[.slice a len cap, .int .i64 s] w fun e w' => e = .returned (.int .i64 (Ta.get l s)) ∧ Below w.heap.size w w' := by
  have hll : Hid (l.length = len) := hr.1
  have hlb := hr.2.1
  obtain ⟨R, hR⟩ : ∃ R, R = Ta.get l s := ⟨_, rfl⟩
  rw [← hR]
  have HR : Hid (R = Ta.get l s) := hR
  clear hR
  go_enter Try.func17, Try.ntmps17
  go_wp2
  go_loopw [5] (fun i wr => ∃ k : Nat, k ≤ len ∧ i = .int .i64 k ∧ Hid (R = Ta.get (l.drop k) s) ∧ Below w.heap.size w wr) (fun i _ => len - (intOf i).toNat)
  case atStart => exact ⟨0, by omega, rfl, (HR.out : R = Ta.get (l.drop 0) s), Below.refl _ _⟩
  case round =>
    obtain ⟨k, hk, rfl, H, hbel⟩ := hrel
    by_cases hlt : k < len
    · obtain ⟨b, off, rfl, hc⟩ := hr.cell (by omega)
      obtain ⟨c0, c1⟩ := hc k hlt
      have p0 := (hbel.cell (p := ⟨b, off + k * 2, none⟩) (cell_lt c0)).trans c0
      have p1 := (hbel.cell (p := ⟨b, off + k * 2 + 1, none⟩) (cell_lt c1)).trans c1
      have hst : Hid (R = if (l.getD k (0, 0)).1 = s then (l.getD k (0, 0)).2 else Ta.get (l.drop (k + 1)) s) := (by
        rw [H.out, Ta.getD_drop (by rw [hll.out]; exact hlt)]; rfl : R = if (l.getD k (0, 0)).1 = s then (l.getD k (0, 0)).2 else Ta.get (l.drop (k + 1)) s)
      generalize l.getD k (0, 0) = x at *
      obtain ⟨x1, x2⟩ := x
      simp only at p0 p1 hst
      have i0 : (0 : Int) ≤ (k : Int) := by omega
      have i1 : (k : Int) < (len : Int) := by omega
      clear H c0 c1 hc HR
      by_cases he : x1 = s
      · subst he
        obtain rfl : R = x2 := by rw [hst.out, if_pos rfl]
        have hd : (x1 == x1) = true := by simp
        clear hst
        go_wp2
        go_ret
        exact ⟨rfl, hbel⟩
      · have H2 : Hid (R = Ta.get (l.drop (k + 1)) s) := (by rw [hst.out, if_neg he] : R = Ta.get (l.drop (k + 1)) s)
        have hd : (x1 == s) = false := by simpa using he
        clear hst he
        go_wp2
        go_roundw
        case rel => exact ⟨k + 1, by omega, by go_num, H2, hbel⟩
        case measure => simp [intOf]; omega
    · obtain rfl : k = len := by omega
      have HE : Hid (R = 0) := (by rw [H.out, List.drop_of_length_le (by rw [hll.out]; omega)]; rfl : R = 0)
      go_wp2
      go_ret
      exact ⟨by rw [HE.out]; rfl, hbel⟩

set_option maxRecDepth 100000 in
set_option maxHeartbeats 1000000 in
theorem tsame_any (a1 : Option Addr) (l1 c1 : Nat) (a2 : Option Addr) (l2 c2 : Nat) (l : List Ta.S) (w : World) (hr1 : ShRow w a1 l1 l) (hr2 : ShRow w a2 l2 l) :
    Calls Try.prog 16 #[.slice a1 l1 c1, .slice a2 l2 c2] w fun e w' => e = .returned (.bool true) ∧ ∃ n, w' = w.drewN n := by
  have hl1 : Hid (l.length = l1) := hr1.1
  obtain rfl : l1 = l2 := hr1.1.symm.trans hr2.1
  have hb := hr1.2.1
  go_enter Try.func16, Try.ntmps16
  go_wp2
  go_loopw [5] (fun i wr => ∃ k : Nat, k ≤ l1 ∧ i = .int .i64 k ∧ ∃ n, wr = w.drewN n) (fun i _ => l1 - (intOf i).toNat)
  case atStart => exact ⟨0, by omega, rfl, 0, rfl⟩
  case round =>
    obtain ⟨k, hk, rfl, n, rfl⟩ := hrel
    by_cases hlt : k < l1
    · obtain ⟨b, off, rfl, hc⟩ := hr1.cell (by omega)
      obtain ⟨b', off', rfl, hc'⟩ := hr2.cell (by omega)
      obtain ⟨p0, p1⟩ := hc k hlt
      obtain ⟨q0, q1⟩ := hc' k hlt
      clear hc hc' hr1 hr2
      generalize l.getD k (0, 0) = f at *
      obtain ⟨s, y⟩ := f
      simp only at p0 p1 q0 q1
      go_wp2
      go_quiet (fail)
      go_wp2
      go_roundw
      case rel => exact ⟨k + 1, by omega, by go_num, _, rfl⟩
      case measure => simp [intOf]; omega
    · go_wp2
      go_ret
      exact ⟨rfl, n, rfl⟩
end Go.Proofs.Ytfeaablomceejaa
