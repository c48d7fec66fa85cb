/- What the program's Check of a tally, mayBe and weigh do. -/
import Derived.Test.YtfeaablomceejaaTbMath
import Derived.Test.YtfeaablomceejaaTA2
import Derived.Test.YtfeaablomceejaaQC
namespace Go.Proofs.Ytfeaablomceejaa
open Go.RowKit

set_option maxRecDepth 100000 in
set_option maxHeartbeats 4000000 in
theorem tcheck_any (a : Option Addr) (n c : Nat) (l : List Ta.S) (w : World) (hr : ShRow w a n l) :
    Calls Try.prog 12 #[.slice a n c] w fun e w' => e = .returned (.int .i64 (if Ta.may l = true then 0 else 1)) ∧ Below w.heap.size w w' := by
  have hll : Hid (l.length = n) := hr.1
  have hlb := hr.2.1
  obtain ⟨R, hR⟩ : ∃ R, R = Ta.chkI 0 l := ⟨_, rfl⟩
  rw [Ta.may_chkI, ← hR, hr.1]
  have HR : Hid (R = Ta.chkI 0 l) := hR
  clear hR
  by_cases hbig : n ≤ 4096
  · have dn : decide ((4096 : Int) < (n : Int)) = false := by simp; omega
    rw [decide_eq_true hbig, Bool.and_true]
    go_enter Try.func12, Try.ntmps12
    go_wp2
    go_loopw [3, 11] (fun u i wr => ∃ (k : Nat) (q : Int), k ≤ n ∧ i = .int .i64 k ∧ u = .int .i64 q ∧ Hid (R = Ta.chkI q (l.drop k)) ∧ Below w.heap.size w wr) (fun _ i _ => n - (intOf i).toNat)
    case atStart => exact ⟨0, 0, by omega, rfl, rfl, (HR.out : R = Ta.chkI 0 (l.drop 0)), Below.refl _ _⟩
    case round =>
      obtain ⟨k, q, hk, rfl, rfl, H, hbel⟩ := hrel
      by_cases hlt : k < n
      · obtain ⟨b, off, rfl, hc⟩ := hr.cell (by omega)
        obtain ⟨c0, c1⟩ := hc k hlt
        have p0 := (hbel.cell (p := ⟨b, off + k * 2, none⟩) (cell_lt c0)).trans c0
        have p1 := (hbel.cell (p := ⟨b, off + k * 2 + 1, none⟩) (cell_lt c1)).trans c1
        have hst : Hid (R = (decide (q < (l.getD k (0, 0)).1 ∧ (l.getD k (0, 0)).1 ≤ 2147483647 ∧ 1 ≤ (l.getD k (0, 0)).2 ∧ (l.getD k (0, 0)).2 ≤ 1099511627776) && Ta.chkI (l.getD k (0, 0)).1 (l.drop (k + 1)))) := (by
          rw [H.out, Ta.drop_getD (by rw [hll.out]; exact hlt)]; rfl : R = (decide (q < (l.getD k (0, 0)).1 ∧ (l.getD k (0, 0)).1 ≤ 2147483647 ∧ 1 ≤ (l.getD k (0, 0)).2 ∧ (l.getD k (0, 0)).2 ≤ 1099511627776) && Ta.chkI (l.getD k (0, 0)).1 (l.drop (k + 1))))
        generalize l.getD k (0, 0) = x at *
        obtain ⟨x1, x2⟩ := x
        simp only at p0 p1 hst
        have i0 : (0 : Int) ≤ (k : Int) := by omega
        have i1 : (k : Int) < (n : Int) := by omega
        have hb2 : ∀ o, Below w.heap.size w (wr.alloc o) := fun o => hbel.alloc hbel.size o
        have m0 := cell_new wr #[.int .i64 x1, .int .i64 x2] 47 0
        have m1 := cell_new wr #[.int .i64 x1, .int .i64 x2] 47 1
        clear H c0 c1 hc HR
        by_cases h0 : q < x1
        · have d0 : decide (x1 ≤ q) = false := by simp; omega
          by_cases h1 : x1 ≤ 2147483647
          · have d1 : decide (2147483647 < x1) = false := by simp; omega
            by_cases h2 : 1 ≤ x2
            · have d2 : decide (x2 < 1) = false := by simp; omega
              by_cases h3 : x2 ≤ 1099511627776
              · have d3 : decide (1099511627776 < x2) = false := by simp; omega
                have H2 : Hid (R = Ta.chkI x1 (l.drop (k + 1))) := (by rw [hst.out, decide_eq_true ⟨h0, h1, h2, h3⟩, Bool.true_and] : R = Ta.chkI x1 (l.drop (k + 1)))
                clear hst h0 h1 h2 h3
                go_wp2
                go_roundw
                case rel => exact ⟨k + 1, x1, by omega, by go_num, rfl, H2, hb2 _⟩
                case measure => simp [intOf]; omega
              · have d3 : decide (1099511627776 < x2) = true := by simp; omega
                obtain rfl : R = false := by rw [hst.out, decide_eq_false (by omega), Bool.false_and]
                clear hst h0 h1 h2 h3
                go_wp2
                go_ret
                exact ⟨by simp, hb2 _⟩
            · have d2 : decide (x2 < 1) = true := by simp; omega
              obtain rfl : R = false := by rw [hst.out, decide_eq_false (by omega), Bool.false_and]
              clear hst h0 h1 h2
              go_wp2
              go_ret
              exact ⟨by simp, hb2 _⟩
          · have d1 : decide (2147483647 < x1) = true := by simp; omega
            obtain rfl : R = false := by rw [hst.out, decide_eq_false (by omega), Bool.false_and]
            clear hst h0 h1
            go_wp2
            go_ret
            exact ⟨by simp, hb2 _⟩
        · have d0 : decide (x1 ≤ q) = true := by simp; omega
          obtain rfl : R = false := by rw [hst.out, decide_eq_false (by omega), Bool.false_and]
          clear hst h0
          go_wp2
          go_ret
          exact ⟨by simp, hb2 _⟩
      · obtain rfl : k = n := by omega
        obtain rfl : R = true := by rw [H.out, List.drop_of_length_le (by rw [hll.out]; omega)]; rfl
        clear H HR
        go_wp2
        go_ret
        exact ⟨by simp, hbel⟩
  · have dn : decide ((4096 : Int) < (n : Int)) = true := by simp; omega
    rw [decide_eq_false hbig, Bool.and_false]
    clear HR
    go_enter Try.func12, Try.ntmps12
    go_wp2
    go_ret
    exact ⟨by simp, Below.refl _ _⟩

set_option maxRecDepth 100000 in
set_option maxHeartbeats 1000000 in
theorem tmaybe_any (a : Option Addr) (len cap : Nat) (ps : List Po.P) (w : World) (hr : PRow w a len ps) :
    Calls Try.prog 21 #[.slice a len cap] w fun e w' => e = .returned (.bool (Ta.points ps)) ∧ Below w.heap.size w w' := by
  have hll : Hid (ps.length = len) := hr.1
  have hlb := hr.2.1
  obtain ⟨R, hR⟩ : ∃ R, R = Ta.points ps := ⟨_, rfl⟩
  rw [← hR]
  have HR : Hid (R = Ta.points ps) := hR
  clear hR
  go_enter Try.func21, Try.ntmps21
  go_wp2
  go_loopw [7] (fun i wr => ∃ k : Nat, k ≤ len ∧ i = .int .i64 k ∧ Hid (R = Ta.points (ps.drop k)) ∧ Below w.heap.size w wr) (fun i _ => len - (intOf i).toNat)
  case atStart => exact ⟨0, by omega, rfl, (HR.out : R = Ta.points (ps.drop 0)), Below.refl _ _⟩
  case round =>
    obtain ⟨k, hk, rfl, H, hbel⟩ := hrel
    by_cases hlt : k < len
    · obtain ⟨b, off, rfl, hc⟩ := hr.at (by omega)
      obtain ⟨p0, p1, p2, p3, hfit⟩ := (hc k hlt)
      have q0 := (hbel.cell (p := ⟨b, off + k * 4, none⟩) (cell_lt p0)).trans p0
      have q1 := (hbel.cell (p := ⟨b, off + k * 4 + 1, none⟩) (cell_lt p1)).trans p1
      have q2 := (hbel.cell (p := ⟨b, off + k * 4 + 2, none⟩) (cell_lt p2)).trans p2
      have q3 := (hbel.cell (p := ⟨b, off + k * 4 + 3, none⟩) (cell_lt p3)).trans p3
      have hst : Hid (R = (Po.may (ps.getD k Po.zero) && Ta.points (ps.drop (k + 1)))) := (by
        have hk' : k < ps.length := by rw [hll.out]; exact hlt
        rw [H.out, List.drop_eq_getElem_cons hk', show ps.getD k Po.zero = ps[k] by simp [hk']]
        rfl : R = (Po.may (ps.getD k Po.zero) && Ta.points (ps.drop (k + 1))))
      generalize ps.getD k Po.zero = p at *
      have hm := fun W => pcheck_any p W hfit
      obtain ⟨y0, y1, y2, y3⟩ := p
      simp only at q0 q1 q2 q3
      simp only [pv] at hm
      have i0 : (0 : Int) ≤ (k : Int) := by omega
      have i1 : (k : Int) < (len : Int) := by omega
      have hb2 := hbel.alloc hbel.size (.cells #[.int .i64 y0, .int .i64 y1, .int .i64 y2, .int .u32 (y3 : Nat)] 41)
      clear H p0 p1 p2 p3 hc HR hfit
      cases hq : Po.may (y0, y1, y2, y3) with
      | false =>
        simp only [hq, Bool.false_eq_true, if_false] at hm
        obtain rfl : R = false := by rw [hst.out, hq]; rfl
        clear hst hq
        go_wp2_with (go_at_call 30; go_must (refine (hm _).mono ?_; rintro e w1 ⟨rfl, hb1⟩))
        go_ret
        exact ⟨rfl, hb2.trans (hb1.mono hb2.size)⟩
      | true =>
        simp only [hq, if_true] at hm
        have H2 : Hid (R = Ta.points (ps.drop (k + 1))) := (by rw [hst.out, hq]; simp : R = Ta.points (ps.drop (k + 1)))
        clear hst hq
        go_wp2_with (go_at_call 30; go_must (refine (hm _).mono ?_; rintro e w1 ⟨rfl, hb1⟩))
        go_roundw
        case rel => exact ⟨k + 1, by omega, by go_num, H2, hb2.trans (hb1.mono hb2.size)⟩
        case measure => simp [intOf]; omega
    · obtain rfl : k = len := by omega
      have HE : Hid (R = true) := (by rw [H.out, List.drop_of_length_le (by rw [hll.out]; omega)]; rfl : R = true)
      go_wp2
      go_ret
      exact ⟨by rw [HE.out]; rfl, hbel⟩
end Go.Proofs.Ytfeaablomceejaa
