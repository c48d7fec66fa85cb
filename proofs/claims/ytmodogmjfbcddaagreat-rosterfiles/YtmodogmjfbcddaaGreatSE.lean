/- Rosters: are they alike? Of the program and of the reference, of any two. -/
import Derived.Test.YtmodogmjfbcddaaGreatRYa
import Derived.Test.YtmodogmjfbcddaaGreatEF
import Derived.Deep.QuietTactic
import Derived.BigQuiet
namespace Go.Proofs.YtmodogmjfbcddaaGreat
open Go.RowKit

theorem eq_of_getDs {α : Type} {d : α} {a b : List α} (hl : a.length = b.length) (h : ∀ j, j < a.length → a.getD j d = b.getD j d) : a = b := by
  apply List.ext_getElem hl
  intro i h1 h2
  have := h i h1
  simpa [h1, h2] using this
theorem upto_more {α : Type} {d : α} {a b : List α} {j : Nat} (h : ∀ m, m < j → a.getD m d = b.getD m d) (hj : a.getD j d = b.getD j d) : ∀ m, m < j + 1 → a.getD m d = b.getD m d := by
  intro m hm
  rcases Nat.lt_or_ge m j with h' | h'
  · exact h m h'
  · obtain rfl : m = j := by omega
    exact hj

set_option maxRecDepth 100000 in
set_option maxHeartbeats 2000000 in
theorem zequal_any (a1 : Option Addr) (l1 c1 : Nat) (ps : List Int) (a2 : Option Addr) (l2 c2 : Nat) (qs : List Int) (w : World) (hle : l1 ≤ 1000000) (R : Bool) (hR : R = true ↔ ps = qs) (hr1 : ZRow w a1 l1 ps) (hr2 : ZRow w a2 l2 qs) :
    Calls Tryz.prog 47 #[.slice a1 l1 c1, .slice a2 l2 c2] w fun e w' => e = .returned (.bool R) ∧ Below w.heap.size w w' := by
  have hl1 : Hid (ps.length = l1) := hr1.1
  have hl2 : Hid (qs.length = l2) := hr2.1
  by_cases hll : l1 = l2
  · subst hll
    have H : Hid (R = true ↔ ps = qs) := hR
    clear hR
    go_enter Tryz.func47, Tryz.ntmps47
    go_wp2
    go_loopw [13] (fun iv wr => ∃ j : Nat, j ≤ l1 ∧ iv = .int .i64 j ∧ Hid (∀ m, m < j → ps.getD m 0 = qs.getD m 0) ∧ Below w.heap.size w wr) (fun iv _ => l1 - (intOf iv).toNat)
    case atStart => exact ⟨0, by omega, rfl, (fun m hm => by omega : ∀ m, m < 0 → ps.getD m 0 = qs.getD m 0), Below.refl _ _⟩
    case round =>
      obtain ⟨j, hj, rfl, HM, hbel⟩ := hrel
      by_cases hlt : j < l1
      · obtain ⟨B, O, x, rfl, hx, q0⟩ := zget hr1 hbel hlt
        obtain ⟨B', O', x', rfl, hy, p0⟩ := zget hr2 hbel hlt
        have i0 : (0 : Int) ≤ (j : Int) := by omega
        have i1 : (j : Int) < (l1 : Int) := by omega
        by_cases hxy : ps.getD j 0 = qs.getD j 0
        · have HM2 : Hid (∀ m, m < j + 1 → ps.getD m 0 = qs.getD m 0) := (upto_more HM.out hxy : ∀ m, m < j + 1 → ps.getD m 0 = qs.getD m 0)
          rw [hx.out, hy.out] at hxy
          obtain rfl := hxy
          clear hx hy HM
          go_wp2
          go_quiet (fail)
          go_wp2
          go_roundw
          case rel => exact ⟨j + 1, by omega, by go_num, HM2, by first | exact hbel | exact hbel.drew | exact hbel.trans (below_drewN _ _ _)⟩
          case measure => simp [intOf]; omega
        · have HF : Hid (R = false) := (by
            cases hR : R with
            | false => rfl
            | true => exact absurd (by rw [H.out.mp hR]) hxy : R = false)
          rw [hx.out, hy.out] at hxy
          have hif : (x == x') = false := by simpa using hxy
          clear hx hy HM hxy
          go_wp2
          go_quiet (fail)
          go_wp2
          go_ret
          rw [HF.out]
          exact ⟨rfl, by first | exact hbel | exact hbel.drew | exact hbel.trans (below_drewN _ _ _)⟩
      · obtain rfl : j = l1 := by omega
        have HT : Hid (R = true) := (H.out.mpr (eq_of_getDs (d := 0) (by rw [hl1.out, hl2.out]) (fun m hm => HM.out m (by rw [hl1.out] at hm; exact hm))) : R = true)
        clear HM
        go_wp2
        go_ret
        rw [HT.out]
        exact ⟨rfl, hbel⟩
  · have HF : Hid (R = false) := (by
      cases h : R with
      | false => rfl
      | true => exact absurd (by have := congrArg List.length (hR.mp h); rw [hl1.out, hl2.out] at this; exact this) hll : R = false)
    have h3 : ¬ (l1 : Int) = (l2 : Int) := by omega
    clear hR
    go_enter Tryz.func47, Tryz.ntmps47
    go_wp2
    go_ret
    rw [HF.out]
    exact ⟨rfl, Below.refl _ _⟩
theorem munlike {x y x' y' : Int} (h : ¬ (((x, y) : (Int × Int)) = (x', y'))) : ∀ (α : Type) (X Y : α), (if x = x' then (if y = y' then X else Y) else Y) = Y := by
  intro α X Y
  by_cases h0 : x = x'
  case neg => rw [if_neg h0]
  rw [if_pos h0]
  by_cases h1 : y = y'
  case neg => rw [if_neg h1]
  rw [if_pos h1]
  exfalso; apply h; simp only [Prod.mk.injEq]; exact ⟨h0, h1⟩

set_option maxRecDepth 100000 in
set_option maxHeartbeats 2000000 in
theorem mequal_any (a1 : Option Addr) (l1 c1 : Nat) (ps : List (Int × Int)) (a2 : Option Addr) (l2 c2 : Nat) (qs : List (Int × Int)) (w : World) (hle : l1 ≤ 1000000) (R : Bool) (hR : R = true ↔ ps = qs) (hr1 : MRow w a1 l1 ps) (hr2 : MRow w a2 l2 qs) :
    Calls Tryz.prog 48 #[.slice a1 l1 c1, .slice a2 l2 c2] w fun e w' => e = .returned (.bool R) ∧ Below w.heap.size w w' := by
  have hl1 : Hid (ps.length = l1) := hr1.1
  have hl2 : Hid (qs.length = l2) := hr2.1
  by_cases hll : l1 = l2
  · subst hll
    have H : Hid (R = true ↔ ps = qs) := hR
    clear hR
    go_enter Tryz.func48, Tryz.ntmps48
    go_wp2
    go_loopw [13] (fun iv wr => ∃ j : Nat, j ≤ l1 ∧ iv = .int .i64 j ∧ Hid (∀ m, m < j → ps.getD m (0, 0) = qs.getD m (0, 0)) ∧ Below w.heap.size w wr) (fun iv _ => l1 - (intOf iv).toNat)
    case atStart => exact ⟨0, by omega, rfl, (fun m hm => by omega : ∀ m, m < 0 → ps.getD m (0, 0) = qs.getD m (0, 0)), Below.refl _ _⟩
    case round =>
      obtain ⟨j, hj, rfl, HM, hbel⟩ := hrel
      by_cases hlt : j < l1
      · obtain ⟨B, O, x, y, rfl, hx, q0, q1⟩ := mget hr1 hbel hlt
        obtain ⟨B', O', x', y', rfl, hy, p0, p1⟩ := mget hr2 hbel hlt
        have i0 : (0 : Int) ≤ (j : Int) := by omega
        have i1 : (j : Int) < (l1 : Int) := by omega
        by_cases hxy : ps.getD j (0, 0) = qs.getD j (0, 0)
        · have HM2 : Hid (∀ m, m < j + 1 → ps.getD m (0, 0) = qs.getD m (0, 0)) := (upto_more HM.out hxy : ∀ m, m < j + 1 → ps.getD m (0, 0) = qs.getD m (0, 0))
          rw [hx.out, hy.out] at hxy
          simp only [Prod.mk.injEq] at hxy
          obtain ⟨rfl, rfl⟩ := hxy
          clear hx hy HM
          go_wp2
          go_quiet (fail)
          go_wp2
          go_roundw
          case rel => exact ⟨j + 1, by omega, by go_num, HM2, by first | exact hbel | exact hbel.drew | exact hbel.trans (below_drewN _ _ _)⟩
          case measure => simp [intOf]; omega
        · have HF : Hid (R = false) := (by
            cases hR : R with
            | false => rfl
            | true => exact absurd (by rw [H.out.mp hR]) hxy : R = false)
          rw [hx.out, hy.out] at hxy
          have hif := munlike hxy
          clear hx hy HM hxy
          go_wp2
          go_quiet (fail)
          go_wp2
          go_ret
          rw [HF.out]
          exact ⟨rfl, by first | exact hbel | exact hbel.drew | exact hbel.trans (below_drewN _ _ _)⟩
      · obtain rfl : j = l1 := by omega
        have HT : Hid (R = true) := (H.out.mpr (eq_of_getDs (d := (0, 0)) (by rw [hl1.out, hl2.out]) (fun m hm => HM.out m (by rw [hl1.out] at hm; exact hm))) : R = true)
        clear HM
        go_wp2
        go_ret
        rw [HT.out]
        exact ⟨rfl, hbel⟩
  · have HF : Hid (R = false) := (by
      cases h : R with
      | false => rfl
      | true => exact absurd (by have := congrArg List.length (hR.mp h); rw [hl1.out, hl2.out] at this; exact this) hll : R = false)
    have h3 : ¬ (l1 : Int) = (l2 : Int) := by omega
    clear hR
    go_enter Tryz.func48, Tryz.ntmps48
    go_wp2
    go_ret
    rw [HF.out]
    exact ⟨rfl, Below.refl _ _⟩
theorem lunlike {x1 x2 x3 x1' x2' x3' : Int} {x4 x5 x4' x5' : ByteArray} (h : ¬ ((⟨x1, x2, x3, x4, x5⟩ : Lv.T) = ⟨x1', x2', x3', x4', x5'⟩)) : ∀ (α : Type) (X Y : α), (if x1 = x1' then (if x2 = x2' then (if x3 = x3' then (if x4.toList = x4'.toList then (if x5.toList = x5'.toList then X else Y) else Y) else Y) else Y) else Y) = Y := by
  intro α X Y
  by_cases h0 : x1 = x1'
  case neg => rw [if_neg h0]
  rw [if_pos h0]
  by_cases h1 : x2 = x2'
  case neg => rw [if_neg h1]
  rw [if_pos h1]
  by_cases h2 : x3 = x3'
  case neg => rw [if_neg h2]
  rw [if_pos h2]
  by_cases h3 : x4.toList = x4'.toList
  case neg => rw [if_neg h3]
  rw [if_pos h3]
  by_cases h4 : x5.toList = x5'.toList
  case neg => rw [if_neg h4]
  rw [if_pos h4]
  exfalso; apply h; simp only [Lv.T.mk.injEq]; exact ⟨h0, h1, h2, toList_inj h3, toList_inj h4⟩

set_option maxRecDepth 100000 in
set_option maxHeartbeats 2000000 in
theorem lequal_any (a1 : Option Addr) (l1 c1 : Nat) (ps : List Lv.T) (a2 : Option Addr) (l2 c2 : Nat) (qs : List Lv.T) (w : World) (hle : l1 ≤ 1000000) (R : Bool) (hR : R = true ↔ ps = qs) (hr1 : LRow w a1 l1 ps) (hr2 : LRow w a2 l2 qs) :
    Calls Tryz.prog 49 #[.slice a1 l1 c1, .slice a2 l2 c2] w fun e w' => e = .returned (.bool R) ∧ Below w.heap.size w w' := by
  have hl1 : Hid (ps.length = l1) := hr1.1
  have hl2 : Hid (qs.length = l2) := hr2.1
  by_cases hll : l1 = l2
  · subst hll
    have H : Hid (R = true ↔ ps = qs) := hR
    clear hR
    go_enter Tryz.func49, Tryz.ntmps49
    go_wp2
    go_loopw [13] (fun iv wr => ∃ j : Nat, j ≤ l1 ∧ iv = .int .i64 j ∧ Hid (∀ m, m < j → ps.getD m Lv.zero = qs.getD m Lv.zero) ∧ Below w.heap.size w wr) (fun iv _ => l1 - (intOf iv).toNat)
    case atStart => exact ⟨0, by omega, rfl, (fun m hm => by omega : ∀ m, m < 0 → ps.getD m Lv.zero = qs.getD m Lv.zero), Below.refl _ _⟩
    case round =>
      obtain ⟨j, hj, rfl, HM, hbel⟩ := hrel
      by_cases hlt : j < l1
      · obtain ⟨B, O, x1, x2, x3, x4, x5, rfl, hx, q0, q1, q2, q3, q4⟩ := lget hr1 hbel hlt
        obtain ⟨B', O', x1', x2', x3', x4', x5', rfl, hy, p0, p1, p2, p3, p4⟩ := lget hr2 hbel hlt
        have i0 : (0 : Int) ≤ (j : Int) := by omega
        have i1 : (j : Int) < (l1 : Int) := by omega
        by_cases hxy : ps.getD j Lv.zero = qs.getD j Lv.zero
        · have HM2 : Hid (∀ m, m < j + 1 → ps.getD m Lv.zero = qs.getD m Lv.zero) := (upto_more HM.out hxy : ∀ m, m < j + 1 → ps.getD m Lv.zero = qs.getD m Lv.zero)
          rw [hx.out, hy.out] at hxy
          simp only [Lv.T.mk.injEq] at hxy
          obtain ⟨rfl, rfl, rfl, rfl, rfl⟩ := hxy
          clear hx hy HM
          go_wp2
          go_quiet (fail)
          go_wp2
          go_roundw
          case rel => exact ⟨j + 1, by omega, by go_num, HM2, by first | exact hbel | exact hbel.drew | exact hbel.trans (below_drewN _ _ _)⟩
          case measure => simp [intOf]; omega
        · have HF : Hid (R = false) := (by
            cases hR : R with
            | false => rfl
            | true => exact absurd (by rw [H.out.mp hR]) hxy : R = false)
          rw [hx.out, hy.out] at hxy
          have hif := lunlike hxy
          clear hx hy HM hxy
          go_wp2
          go_quiet (fail)
          go_wp2
          go_ret
          rw [HF.out]
          exact ⟨rfl, by first | exact hbel | exact hbel.drew | exact hbel.trans (below_drewN _ _ _)⟩
      · obtain rfl : j = l1 := by omega
        have HT : Hid (R = true) := (H.out.mpr (eq_of_getDs (d := Lv.zero) (by rw [hl1.out, hl2.out]) (fun m hm => HM.out m (by rw [hl1.out] at hm; exact hm))) : R = true)
        clear HM
        go_wp2
        go_ret
        rw [HT.out]
        exact ⟨rfl, hbel⟩
  · have HF : Hid (R = false) := (by
      cases h : R with
      | false => rfl
      | true => exact absurd (by have := congrArg List.length (hR.mp h); rw [hl1.out, hl2.out] at this; exact this) hll : R = false)
    have h3 : ¬ (l1 : Int) = (l2 : Int) := by omega
    clear hR
    go_enter Tryz.func49, Tryz.ntmps49
    go_wp2
    go_ret
    rw [HF.out]
    exact ⟨rfl, Below.refl _ _⟩
theorem kunlike {x y z x' y' z' : Int} (h : ¬ (((x, y, z) : (Int × Int × Int)) = (x', y', z'))) : ∀ (α : Type) (X Y : α), (if x = x' then (if y = y' then (if z = z' then X else Y) else Y) else Y) = Y := by
  intro α X Y
  by_cases h0 : x = x'
  case neg => rw [if_neg h0]
  rw [if_pos h0]
  by_cases h1 : y = y'
  case neg => rw [if_neg h1]
  rw [if_pos h1]
  by_cases h2 : z = z'
  case neg => rw [if_neg h2]
  rw [if_pos h2]
  exfalso; apply h; simp only [Prod.mk.injEq]; exact ⟨h0, h1, h2⟩

set_option maxRecDepth 100000 in
set_option maxHeartbeats 2000000 in
theorem kequal_any (a1 : Option Addr) (l1 c1 : Nat) (ps : List (Int × Int × Int)) (a2 : Option Addr) (l2 c2 : Nat) (qs : List (Int × Int × Int)) (w : World) (hle : l1 ≤ 1000000) (R : Bool) (hR : R = true ↔ ps = qs) (hr1 : KRow w a1 l1 ps) (hr2 : KRow w a2 l2 qs) :
    Calls Tryz.prog 50 #[.slice a1 l1 c1, .slice a2 l2 c2] w fun e w' => e = .returned (.bool R) ∧ Below w.heap.size w w' := by
  have hl1 : Hid (ps.length = l1) := hr1.1
  have hl2 : Hid (qs.length = l2) := hr2.1
  by_cases hll : l1 = l2
  · subst hll
    have H : Hid (R = true ↔ ps = qs) := hR
    clear hR
    go_enter Tryz.func50, Tryz.ntmps50
    go_wp2
    go_loopw [13] (fun iv wr => ∃ j : Nat, j ≤ l1 ∧ iv = .int .i64 j ∧ Hid (∀ m, m < j → ps.getD m (0, 0, 0) = qs.getD m (0, 0, 0)) ∧ Below w.heap.size w wr) (fun iv _ => l1 - (intOf iv).toNat)
    case atStart => exact ⟨0, by omega, rfl, (fun m hm => by omega : ∀ m, m < 0 → ps.getD m (0, 0, 0) = qs.getD m (0, 0, 0)), Below.refl _ _⟩
    case round =>
      obtain ⟨j, hj, rfl, HM, hbel⟩ := hrel
      by_cases hlt : j < l1
      · obtain ⟨B, O, x, y, z, rfl, hx, q0, q1, q2⟩ := kget hr1 hbel hlt
        obtain ⟨B', O', x', y', z', rfl, hy, p0, p1, p2⟩ := kget hr2 hbel hlt
        have i0 : (0 : Int) ≤ (j : Int) := by omega
        have i1 : (j : Int) < (l1 : Int) := by omega
        by_cases hxy : ps.getD j (0, 0, 0) = qs.getD j (0, 0, 0)
        · have HM2 : Hid (∀ m, m < j + 1 → ps.getD m (0, 0, 0) = qs.getD m (0, 0, 0)) := (upto_more HM.out hxy : ∀ m, m < j + 1 → ps.getD m (0, 0, 0) = qs.getD m (0, 0, 0))
          rw [hx.out, hy.out] at hxy
          simp only [Prod.mk.injEq] at hxy
          obtain ⟨rfl, rfl, rfl⟩ := hxy
          clear hx hy HM
          go_wp2
          go_quiet (fail)
          go_wp2
          go_roundw
          case rel => exact ⟨j + 1, by omega, by go_num, HM2, by first | exact hbel | exact hbel.drew | exact hbel.trans (below_drewN _ _ _)⟩
          case measure => simp [intOf]; omega
        · have HF : Hid (R = false) := (by
            cases hR : R with
            | false => rfl
            | true => exact absurd (by rw [H.out.mp hR]) hxy : R = false)
          rw [hx.out, hy.out] at hxy
          have hif := kunlike hxy
          clear hx hy HM hxy
          go_wp2
          go_quiet (fail)
          go_wp2
          go_ret
          rw [HF.out]
          exact ⟨rfl, by first | exact hbel | exact hbel.drew | exact hbel.trans (below_drewN _ _ _)⟩
      · obtain rfl : j = l1 := by omega
        have HT : Hid (R = true) := (H.out.mpr (eq_of_getDs (d := (0, 0, 0)) (by rw [hl1.out, hl2.out]) (fun m hm => HM.out m (by rw [hl1.out] at hm; exact hm))) : R = true)
        clear HM
        go_wp2
        go_ret
        rw [HT.out]
        exact ⟨rfl, hbel⟩
  · have HF : Hid (R = false) := (by
      cases h : R with
      | false => rfl
      | true => exact absurd (by have := congrArg List.length (hR.mp h); rw [hl1.out, hl2.out] at this; exact this) hll : R = false)
    have h3 : ¬ (l1 : Int) = (l2 : Int) := by omega
    clear hR
    go_enter Tryz.func50, Tryz.ntmps50
    go_wp2
    go_ret
    rw [HF.out]
    exact ⟨rfl, Below.refl _ _⟩

set_option maxRecDepth 100000 in
set_option maxHeartbeats 8000000 in
theorem psame_any (s : List Int) (ms : List (Int × Int)) (ts : List Lv.T) (ks : List (Int × Int × Int)) (a1 : Option Addr) (n1 c1 : Nat) (a2 : Option Addr) (n2 c2 : Nat) (a3 : Option Addr) (n3 c3 : Nat) (a4 : Option Addr) (n4 c4 : Nat) (i1 i2 i3 i4 i5 i6 i7 : Int) (s2 : List Int) (ms2 : List (Int × Int)) (ts2 : List Lv.T) (ks2 : List (Int × Int × Int)) (b1 : Option Addr) (m1 d1 : Nat) (b2 : Option Addr) (m2 d2 : Nat) (b3 : Option Addr) (m3 d3 : Nat) (b4 : Option Addr) (m4 d4 : Nat) (j1 j2 j3 j4 j5 j6 j7 : Int) (w : World) (h : RIn w a1 n1 c1 a2 n2 c2 a3 n3 c3 a4 n4 c4 ⟨s, ms, ts, ks, i1, i2, i3, i4, i5, i6, i7⟩) (h' : RIn w b1 m1 d1 b2 m2 d2 b3 m3 d3 b4 m4 d4 ⟨s2, ms2, ts2, ks2, j1, j2, j3, j4, j5, j6, j7⟩) (R : Bool) (hR : R = true ↔ (⟨s, ms, ts, ks, i1, i2, i3, i4, i5, i6, i7⟩ : Ro.R) = ⟨s2, ms2, ts2, ks2, j1, j2, j3, j4, j5, j6, j7⟩) :
    Calls Tryz.prog 20 #[.agg #[.slice a1 n1 c1, .slice a2 n2 c2, .slice a3 n3 c3, .slice a4 n4 c4, .int .i64 i1, .int .i64 i2, .int .i64 i3, .int .i64 i4, .int .i64 i5, .int .i64 i6, .int .i64 i7], .agg #[.slice b1 m1 d1, .slice b2 m2 d2, .slice b3 m3 d3, .slice b4 m4 d4, .int .i64 j1, .int .i64 j2, .int .i64 j3, .int .i64 j4, .int .i64 j5, .int .i64 j6, .int .i64 j7]] w fun e w' => e = .returned (.bool R) ∧ Below w.heap.size w w' := by
  obtain ⟨r1, r2, r3, r4, _, _, _, _, n1b, n2b, n3b, n4b, _, _⟩ := h
  obtain ⟨t1, t2, t3, t4, _, _, _, _, _, _, _, _, _, _⟩ := h'
  dsimp only at r1 r2 r3 r4 t1 t2 t3 t4
  have he1 := fun (R : Bool) hR W (hb : Below w.heap.size w W) => zequal_any a1 n1 c1 s b1 m1 d1 s2 W (by omega) R hR (r1.below hb (Nat.le_refl _)) (t1.below hb (Nat.le_refl _))
  have he2 := fun (R : Bool) hR W (hb : Below w.heap.size w W) => mequal_any a2 n2 c2 ms b2 m2 d2 ms2 W (by omega) R hR (r2.below hb (Nat.le_refl _)) (t2.below hb (Nat.le_refl _))
  have he3 := fun (R : Bool) hR W (hb : Below w.heap.size w W) => lequal_any a3 n3 c3 ts b3 m3 d3 ts2 W (by omega) R hR (r3.below hb (Nat.le_refl _)) (t3.below hb (Nat.le_refl _))
  have he4 := fun (R : Bool) hR W (hb : Below w.heap.size w W) => kequal_any a4 n4 c4 ks b4 m4 d4 ks2 W (by omega) R hR (r4.below hb (Nat.le_refl _)) (t4.below hb (Nat.le_refl _))
  clear r1 r2 r3 r4 t1 t2 t3 t4 n1b n2b n3b n4b
  obtain ⟨U, hU⟩ : ∃ U, U = (w.alloc (.cells #[.slice a1 n1 c1, .slice a2 n2 c2, .slice a3 n3 c3, .slice a4 n4 c4, .int .i64 i1, .int .i64 i2, .int .i64 i3, .int .i64 i4, .int .i64 i5, .int .i64 i6, .int .i64 i7] 29)).alloc (.cells #[.slice b1 m1 d1, .slice b2 m2 d2, .slice b3 m3 d3, .slice b4 m4 d4, .int .i64 j1, .int .i64 j2, .int .i64 j3, .int .i64 j4, .int .i64 j5, .int .i64 j6, .int .i64 j7] 29) := ⟨_, rfl⟩
  have hbU : Below w.heap.size w U := by rw [hU]; exact below_two _ _ _
  have e0 : U.heap[w.heap.size]? = some (.cells #[.slice a1 n1 c1, .slice a2 n2 c2, .slice a3 n3 c3, .slice a4 n4 c4, .int .i64 i1, .int .i64 i2, .int .i64 i3, .int .i64 i4, .int .i64 i5, .int .i64 i6, .int .i64 i7] 29 (0, 0)) := by
    rw [hU]; exact (Below.heap_alloc _ _ _ (by simp)).trans (heap_alloc_new _ _)
  have e1 : U.heap[w.heap.size + 1]? = some (.cells #[.slice b1 m1 d1, .slice b2 m2 d2, .slice b3 m3 d3, .slice b4 m4 d4, .int .i64 j1, .int .i64 j2, .int .i64 j3, .int .i64 j4, .int .i64 j5, .int .i64 j6, .int .i64 j7] 29 (0, 0)) := by
    rw [hU]; have := heap_alloc_new (w.alloc (.cells #[.slice a1 n1 c1, .slice a2 n2 c2, .slice a3 n3 c3, .slice a4 n4 c4, .int .i64 i1, .int .i64 i2, .int .i64 i3, .int .i64 i4, .int .i64 i5, .int .i64 i6, .int .i64 i7] 29)) (.cells #[.slice b1 m1 d1, .slice b2 m2 d2, .slice b3 m3 d3, .slice b4 m4 d4, .int .i64 j1, .int .i64 j2, .int .i64 j3, .int .i64 j4, .int .i64 j5, .int .i64 j6, .int .i64 j7] 29); rwa [World.size_alloc] at this
  have HV : Hid (∀ W, Below U.heap.size U W → (∀ i, W.cell? ⟨w.heap.size, i, none⟩ = (#[.slice a1 n1 c1, .slice a2 n2 c2, .slice a3 n3 c3, .slice a4 n4 c4, .int .i64 i1, .int .i64 i2, .int .i64 i3, .int .i64 i4, .int .i64 i5, .int .i64 i6, .int .i64 i7] : Array Value)[i]?) ∧ ∀ i, W.cell? ⟨w.heap.size + 1, i, none⟩ = (#[.slice b1 m1 d1, .slice b2 m2 d2, .slice b3 m3 d3, .slice b4 m4 d4, .int .i64 j1, .int .i64 j2, .int .i64 j3, .int .i64 j4, .int .i64 j5, .int .i64 j6, .int .i64 j7] : Array Value)[i]?) := (fun W hb => ⟨(blkc ((hb.block _ (ob_ltB e0)).trans e0)).1, (blkc ((hb.block _ (ob_ltB e1)).trans e1)).1⟩ : ∀ W, _ → _)
  have HU : Hid (Below w.heap.size w U) := hbU
  have hUe : (w.alloc (.cells #[.slice a1 n1 c1, .slice a2 n2 c2, .slice a3 n3 c3, .slice a4 n4 c4, .int .i64 i1, .int .i64 i2, .int .i64 i3, .int .i64 i4, .int .i64 i5, .int .i64 i6, .int .i64 i7] 29)).alloc (.cells #[.slice b1 m1 d1, .slice b2 m2 d2, .slice b3 m3 d3, .slice b4 m4 d4, .int .i64 j1, .int .i64 j2, .int .i64 j3, .int .i64 j4, .int .i64 j5, .int .i64 j6, .int .i64 j7] 29) = U := hU.symm
  clear hU hbU e0 e1
  have xa0 := (HV.out U (Below.refl _ _)).1 0
  have xb0 := (HV.out U (Below.refl _ _)).2 0
  have HH : Hid (R = true ↔ (⟨s, ms, ts, ks, i1, i2, i3, i4, i5, i6, i7⟩ : Ro.R) = ⟨s2, ms2, ts2, ks2, j1, j2, j3, j4, j5, j6, j7⟩) := hR
  clear hR
  by_cases q0 : s = s2
  case neg =>
    have HR : Hid (R = false) := (Bool.eq_false_iff.mpr (fun hs => q0 (by have hsp := HH.out.mp hs; simp only [Ro.R.mk.injEq] at hsp; exact hsp.1)) : R = false)
    have c1 := he1 false (by simp [q0])
    clear q0 HH he1 he2 he3 he4
    go_enter Tryz.func20, Tryz.ntmps20
    go_wp2_with fail
    clear hUe xa0 xb0
    refine (c1 _ HU.out).mono ?_
    rintro e w1 ⟨rfl, hb1⟩
    obtain ⟨ca, cb⟩ := HV.out w1 hb1
    have ja1 := ca 1
    have jb1 := cb 1
    clear ca cb
    have hB := HU.out.trans (hb1.mono HU.out.size)
    go_wp2_with (first
      | (go_at_call 48; go_must (refine (c2 _ (HU.out.trans (hb1.mono HU.out.size))).mono ?_; rintro e w2 ⟨rfl, hb2⟩; have b2 := hb1.trans (hb2.mono hb1.size); have hB := HU.out.trans (b2.mono HU.out.size); obtain ⟨ca, cb⟩ := HV.out w2 b2; have ja2 := ca 2; have jb2 := cb 2; clear ca cb))
      | (go_at_call 49; go_must (refine (c3 _ (HU.out.trans (b2.mono HU.out.size))).mono ?_; rintro e w3 ⟨rfl, hb3⟩; have b3 := b2.trans (hb3.mono b2.size); have hB := HU.out.trans (b3.mono HU.out.size); obtain ⟨ca, cb⟩ := HV.out w3 b3; have ja3 := ca 3; have jb3 := cb 3; clear ca cb))
      | (go_at_call 50; go_must (refine (c4 _ (HU.out.trans (b3.mono HU.out.size))).mono ?_; rintro e w4 ⟨rfl, hb4⟩; have b4 := b3.trans (hb4.mono b3.size); have hB := HU.out.trans (b4.mono HU.out.size); obtain ⟨ca, cb⟩ := HV.out w4 b4; have ja4 := ca 4; have jb4 := cb 4; have ja5 := ca 5; have jb5 := cb 5; have ja6 := ca 6; have jb6 := cb 6; have ja7 := ca 7; have jb7 := cb 7; have ja8 := ca 8; have jb8 := cb 8; have ja9 := ca 9; have jb9 := cb 9; have ja10 := ca 10; have jb10 := cb 10; clear ca cb)))
    go_ret
    exact ⟨by rw [HR.out]; simp [*], hB⟩
  have c1 := he1 true (by simp [q0])
  clear he1
  have Q0 : Hid (s = s2) := q0
  clear q0
  by_cases q1 : ms = ms2
  case neg =>
    have HR : Hid (R = false) := (Bool.eq_false_iff.mpr (fun hs => q1 (by have hsp := HH.out.mp hs; simp only [Ro.R.mk.injEq] at hsp; exact hsp.2.1)) : R = false)
    have c2 := he2 false (by simp [q1])
    clear q1 HH he2 he3 he4
    go_enter Tryz.func20, Tryz.ntmps20
    go_wp2_with fail
    clear hUe xa0 xb0
    refine (c1 _ HU.out).mono ?_
    rintro e w1 ⟨rfl, hb1⟩
    obtain ⟨ca, cb⟩ := HV.out w1 hb1
    have ja1 := ca 1
    have jb1 := cb 1
    clear ca cb
    have hB := HU.out.trans (hb1.mono HU.out.size)
    go_wp2_with (first
      | (go_at_call 48; go_must (refine (c2 _ (HU.out.trans (hb1.mono HU.out.size))).mono ?_; rintro e w2 ⟨rfl, hb2⟩; have b2 := hb1.trans (hb2.mono hb1.size); have hB := HU.out.trans (b2.mono HU.out.size); obtain ⟨ca, cb⟩ := HV.out w2 b2; have ja2 := ca 2; have jb2 := cb 2; clear ca cb))
      | (go_at_call 49; go_must (refine (c3 _ (HU.out.trans (b2.mono HU.out.size))).mono ?_; rintro e w3 ⟨rfl, hb3⟩; have b3 := b2.trans (hb3.mono b2.size); have hB := HU.out.trans (b3.mono HU.out.size); obtain ⟨ca, cb⟩ := HV.out w3 b3; have ja3 := ca 3; have jb3 := cb 3; clear ca cb))
      | (go_at_call 50; go_must (refine (c4 _ (HU.out.trans (b3.mono HU.out.size))).mono ?_; rintro e w4 ⟨rfl, hb4⟩; have b4 := b3.trans (hb4.mono b3.size); have hB := HU.out.trans (b4.mono HU.out.size); obtain ⟨ca, cb⟩ := HV.out w4 b4; have ja4 := ca 4; have jb4 := cb 4; have ja5 := ca 5; have jb5 := cb 5; have ja6 := ca 6; have jb6 := cb 6; have ja7 := ca 7; have jb7 := cb 7; have ja8 := ca 8; have jb8 := cb 8; have ja9 := ca 9; have jb9 := cb 9; have ja10 := ca 10; have jb10 := cb 10; clear ca cb)))
    go_ret
    exact ⟨by rw [HR.out]; simp [*], hB⟩
  have c2 := he2 true (by simp [q1])
  clear he2
  have Q1 : Hid (ms = ms2) := q1
  clear q1
  by_cases q2 : ts = ts2
  case neg =>
    have HR : Hid (R = false) := (Bool.eq_false_iff.mpr (fun hs => q2 (by have hsp := HH.out.mp hs; simp only [Ro.R.mk.injEq] at hsp; exact hsp.2.2.1)) : R = false)
    have c3 := he3 false (by simp [q2])
    clear q2 HH he3 he4
    go_enter Tryz.func20, Tryz.ntmps20
    go_wp2_with fail
    clear hUe xa0 xb0
    refine (c1 _ HU.out).mono ?_
    rintro e w1 ⟨rfl, hb1⟩
    obtain ⟨ca, cb⟩ := HV.out w1 hb1
    have ja1 := ca 1
    have jb1 := cb 1
    clear ca cb
    have hB := HU.out.trans (hb1.mono HU.out.size)
    go_wp2_with (first
      | (go_at_call 48; go_must (refine (c2 _ (HU.out.trans (hb1.mono HU.out.size))).mono ?_; rintro e w2 ⟨rfl, hb2⟩; have b2 := hb1.trans (hb2.mono hb1.size); have hB := HU.out.trans (b2.mono HU.out.size); obtain ⟨ca, cb⟩ := HV.out w2 b2; have ja2 := ca 2; have jb2 := cb 2; clear ca cb))
      | (go_at_call 49; go_must (refine (c3 _ (HU.out.trans (b2.mono HU.out.size))).mono ?_; rintro e w3 ⟨rfl, hb3⟩; have b3 := b2.trans (hb3.mono b2.size); have hB := HU.out.trans (b3.mono HU.out.size); obtain ⟨ca, cb⟩ := HV.out w3 b3; have ja3 := ca 3; have jb3 := cb 3; clear ca cb))
      | (go_at_call 50; go_must (refine (c4 _ (HU.out.trans (b3.mono HU.out.size))).mono ?_; rintro e w4 ⟨rfl, hb4⟩; have b4 := b3.trans (hb4.mono b3.size); have hB := HU.out.trans (b4.mono HU.out.size); obtain ⟨ca, cb⟩ := HV.out w4 b4; have ja4 := ca 4; have jb4 := cb 4; have ja5 := ca 5; have jb5 := cb 5; have ja6 := ca 6; have jb6 := cb 6; have ja7 := ca 7; have jb7 := cb 7; have ja8 := ca 8; have jb8 := cb 8; have ja9 := ca 9; have jb9 := cb 9; have ja10 := ca 10; have jb10 := cb 10; clear ca cb)))
    go_ret
    exact ⟨by rw [HR.out]; simp [*], hB⟩
  have c3 := he3 true (by simp [q2])
  clear he3
  have Q2 : Hid (ts = ts2) := q2
  clear q2
  by_cases q3 : ks = ks2
  case neg =>
    have HR : Hid (R = false) := (Bool.eq_false_iff.mpr (fun hs => q3 (by have hsp := HH.out.mp hs; simp only [Ro.R.mk.injEq] at hsp; exact hsp.2.2.2.1)) : R = false)
    have c4 := he4 false (by simp [q3])
    clear q3 HH he4
    go_enter Tryz.func20, Tryz.ntmps20
    go_wp2_with fail
    clear hUe xa0 xb0
    refine (c1 _ HU.out).mono ?_
    rintro e w1 ⟨rfl, hb1⟩
    obtain ⟨ca, cb⟩ := HV.out w1 hb1
    have ja1 := ca 1
    have jb1 := cb 1
    clear ca cb
    have hB := HU.out.trans (hb1.mono HU.out.size)
    go_wp2_with (first
      | (go_at_call 48; go_must (refine (c2 _ (HU.out.trans (hb1.mono HU.out.size))).mono ?_; rintro e w2 ⟨rfl, hb2⟩; have b2 := hb1.trans (hb2.mono hb1.size); have hB := HU.out.trans (b2.mono HU.out.size); obtain ⟨ca, cb⟩ := HV.out w2 b2; have ja2 := ca 2; have jb2 := cb 2; clear ca cb))
      | (go_at_call 49; go_must (refine (c3 _ (HU.out.trans (b2.mono HU.out.size))).mono ?_; rintro e w3 ⟨rfl, hb3⟩; have b3 := b2.trans (hb3.mono b2.size); have hB := HU.out.trans (b3.mono HU.out.size); obtain ⟨ca, cb⟩ := HV.out w3 b3; have ja3 := ca 3; have jb3 := cb 3; clear ca cb))
      | (go_at_call 50; go_must (refine (c4 _ (HU.out.trans (b3.mono HU.out.size))).mono ?_; rintro e w4 ⟨rfl, hb4⟩; have b4 := b3.trans (hb4.mono b3.size); have hB := HU.out.trans (b4.mono HU.out.size); obtain ⟨ca, cb⟩ := HV.out w4 b4; have ja4 := ca 4; have jb4 := cb 4; have ja5 := ca 5; have jb5 := cb 5; have ja6 := ca 6; have jb6 := cb 6; have ja7 := ca 7; have jb7 := cb 7; have ja8 := ca 8; have jb8 := cb 8; have ja9 := ca 9; have jb9 := cb 9; have ja10 := ca 10; have jb10 := cb 10; clear ca cb)))
    go_ret
    exact ⟨by rw [HR.out]; simp [*], hB⟩
  have c4 := he4 true (by simp [q3])
  clear he4
  have Q3 : Hid (ks = ks2) := q3
  clear q3
  by_cases e1 : i1 = j1
  case neg =>
    have HR : Hid (R = false) := (Bool.eq_false_iff.mpr (fun hs => e1 (by have hsp := HH.out.mp hs; simp only [Ro.R.mk.injEq] at hsp; exact hsp.2.2.2.2.1)) : R = false)
    have eb1 : (i1 == j1) = false := by simpa using e1
    clear HH
    go_enter Tryz.func20, Tryz.ntmps20
    go_wp2_with fail
    clear hUe xa0 xb0
    refine (c1 _ HU.out).mono ?_
    rintro e w1 ⟨rfl, hb1⟩
    obtain ⟨ca, cb⟩ := HV.out w1 hb1
    have ja1 := ca 1
    have jb1 := cb 1
    clear ca cb
    have hB := HU.out.trans (hb1.mono HU.out.size)
    go_wp2_with (first
      | (go_at_call 48; go_must (refine (c2 _ (HU.out.trans (hb1.mono HU.out.size))).mono ?_; rintro e w2 ⟨rfl, hb2⟩; have b2 := hb1.trans (hb2.mono hb1.size); have hB := HU.out.trans (b2.mono HU.out.size); obtain ⟨ca, cb⟩ := HV.out w2 b2; have ja2 := ca 2; have jb2 := cb 2; clear ca cb))
      | (go_at_call 49; go_must (refine (c3 _ (HU.out.trans (b2.mono HU.out.size))).mono ?_; rintro e w3 ⟨rfl, hb3⟩; have b3 := b2.trans (hb3.mono b2.size); have hB := HU.out.trans (b3.mono HU.out.size); obtain ⟨ca, cb⟩ := HV.out w3 b3; have ja3 := ca 3; have jb3 := cb 3; clear ca cb))
      | (go_at_call 50; go_must (refine (c4 _ (HU.out.trans (b3.mono HU.out.size))).mono ?_; rintro e w4 ⟨rfl, hb4⟩; have b4 := b3.trans (hb4.mono b3.size); have hB := HU.out.trans (b4.mono HU.out.size); obtain ⟨ca, cb⟩ := HV.out w4 b4; have ja4 := ca 4; have jb4 := cb 4; have ja5 := ca 5; have jb5 := cb 5; have ja6 := ca 6; have jb6 := cb 6; have ja7 := ca 7; have jb7 := cb 7; have ja8 := ca 8; have jb8 := cb 8; have ja9 := ca 9; have jb9 := cb 9; have ja10 := ca 10; have jb10 := cb 10; clear ca cb)))
    go_ret
    exact ⟨by rw [HR.out]; simp [*], hB⟩
  subst e1
  by_cases e2 : i2 = j2
  case neg =>
    have HR : Hid (R = false) := (Bool.eq_false_iff.mpr (fun hs => e2 (by have hsp := HH.out.mp hs; simp only [Ro.R.mk.injEq] at hsp; exact hsp.2.2.2.2.2.1)) : R = false)
    have eb2 : (i2 == j2) = false := by simpa using e2
    clear HH
    go_enter Tryz.func20, Tryz.ntmps20
    go_wp2_with fail
    clear hUe xa0 xb0
    refine (c1 _ HU.out).mono ?_
    rintro e w1 ⟨rfl, hb1⟩
    obtain ⟨ca, cb⟩ := HV.out w1 hb1
    have ja1 := ca 1
    have jb1 := cb 1
    clear ca cb
    have hB := HU.out.trans (hb1.mono HU.out.size)
    go_wp2_with (first
      | (go_at_call 48; go_must (refine (c2 _ (HU.out.trans (hb1.mono HU.out.size))).mono ?_; rintro e w2 ⟨rfl, hb2⟩; have b2 := hb1.trans (hb2.mono hb1.size); have hB := HU.out.trans (b2.mono HU.out.size); obtain ⟨ca, cb⟩ := HV.out w2 b2; have ja2 := ca 2; have jb2 := cb 2; clear ca cb))
      | (go_at_call 49; go_must (refine (c3 _ (HU.out.trans (b2.mono HU.out.size))).mono ?_; rintro e w3 ⟨rfl, hb3⟩; have b3 := b2.trans (hb3.mono b2.size); have hB := HU.out.trans (b3.mono HU.out.size); obtain ⟨ca, cb⟩ := HV.out w3 b3; have ja3 := ca 3; have jb3 := cb 3; clear ca cb))
      | (go_at_call 50; go_must (refine (c4 _ (HU.out.trans (b3.mono HU.out.size))).mono ?_; rintro e w4 ⟨rfl, hb4⟩; have b4 := b3.trans (hb4.mono b3.size); have hB := HU.out.trans (b4.mono HU.out.size); obtain ⟨ca, cb⟩ := HV.out w4 b4; have ja4 := ca 4; have jb4 := cb 4; have ja5 := ca 5; have jb5 := cb 5; have ja6 := ca 6; have jb6 := cb 6; have ja7 := ca 7; have jb7 := cb 7; have ja8 := ca 8; have jb8 := cb 8; have ja9 := ca 9; have jb9 := cb 9; have ja10 := ca 10; have jb10 := cb 10; clear ca cb)))
    go_ret
    exact ⟨by rw [HR.out]; simp [*], hB⟩
  subst e2
  by_cases e3 : i3 = j3
  case neg =>
    have HR : Hid (R = false) := (Bool.eq_false_iff.mpr (fun hs => e3 (by have hsp := HH.out.mp hs; simp only [Ro.R.mk.injEq] at hsp; exact hsp.2.2.2.2.2.2.1)) : R = false)
    have eb3 : (i3 == j3) = false := by simpa using e3
    clear HH
    go_enter Tryz.func20, Tryz.ntmps20
    go_wp2_with fail
    clear hUe xa0 xb0
    refine (c1 _ HU.out).mono ?_
    rintro e w1 ⟨rfl, hb1⟩
    obtain ⟨ca, cb⟩ := HV.out w1 hb1
    have ja1 := ca 1
    have jb1 := cb 1
    clear ca cb
    have hB := HU.out.trans (hb1.mono HU.out.size)
    go_wp2_with (first
      | (go_at_call 48; go_must (refine (c2 _ (HU.out.trans (hb1.mono HU.out.size))).mono ?_; rintro e w2 ⟨rfl, hb2⟩; have b2 := hb1.trans (hb2.mono hb1.size); have hB := HU.out.trans (b2.mono HU.out.size); obtain ⟨ca, cb⟩ := HV.out w2 b2; have ja2 := ca 2; have jb2 := cb 2; clear ca cb))
      | (go_at_call 49; go_must (refine (c3 _ (HU.out.trans (b2.mono HU.out.size))).mono ?_; rintro e w3 ⟨rfl, hb3⟩; have b3 := b2.trans (hb3.mono b2.size); have hB := HU.out.trans (b3.mono HU.out.size); obtain ⟨ca, cb⟩ := HV.out w3 b3; have ja3 := ca 3; have jb3 := cb 3; clear ca cb))
      | (go_at_call 50; go_must (refine (c4 _ (HU.out.trans (b3.mono HU.out.size))).mono ?_; rintro e w4 ⟨rfl, hb4⟩; have b4 := b3.trans (hb4.mono b3.size); have hB := HU.out.trans (b4.mono HU.out.size); obtain ⟨ca, cb⟩ := HV.out w4 b4; have ja4 := ca 4; have jb4 := cb 4; have ja5 := ca 5; have jb5 := cb 5; have ja6 := ca 6; have jb6 := cb 6; have ja7 := ca 7; have jb7 := cb 7; have ja8 := ca 8; have jb8 := cb 8; have ja9 := ca 9; have jb9 := cb 9; have ja10 := ca 10; have jb10 := cb 10; clear ca cb)))
    go_ret
    exact ⟨by rw [HR.out]; simp [*], hB⟩
  subst e3
  by_cases e4 : i4 = j4
  case neg =>
    have HR : Hid (R = false) := (Bool.eq_false_iff.mpr (fun hs => e4 (by have hsp := HH.out.mp hs; simp only [Ro.R.mk.injEq] at hsp; exact hsp.2.2.2.2.2.2.2.1)) : R = false)
    have eb4 : (i4 == j4) = false := by simpa using e4
    clear HH
    go_enter Tryz.func20, Tryz.ntmps20
    go_wp2_with fail
    clear hUe xa0 xb0
    refine (c1 _ HU.out).mono ?_
    rintro e w1 ⟨rfl, hb1⟩
    obtain ⟨ca, cb⟩ := HV.out w1 hb1
    have ja1 := ca 1
    have jb1 := cb 1
    clear ca cb
    have hB := HU.out.trans (hb1.mono HU.out.size)
    go_wp2_with (first
      | (go_at_call 48; go_must (refine (c2 _ (HU.out.trans (hb1.mono HU.out.size))).mono ?_; rintro e w2 ⟨rfl, hb2⟩; have b2 := hb1.trans (hb2.mono hb1.size); have hB := HU.out.trans (b2.mono HU.out.size); obtain ⟨ca, cb⟩ := HV.out w2 b2; have ja2 := ca 2; have jb2 := cb 2; clear ca cb))
      | (go_at_call 49; go_must (refine (c3 _ (HU.out.trans (b2.mono HU.out.size))).mono ?_; rintro e w3 ⟨rfl, hb3⟩; have b3 := b2.trans (hb3.mono b2.size); have hB := HU.out.trans (b3.mono HU.out.size); obtain ⟨ca, cb⟩ := HV.out w3 b3; have ja3 := ca 3; have jb3 := cb 3; clear ca cb))
      | (go_at_call 50; go_must (refine (c4 _ (HU.out.trans (b3.mono HU.out.size))).mono ?_; rintro e w4 ⟨rfl, hb4⟩; have b4 := b3.trans (hb4.mono b3.size); have hB := HU.out.trans (b4.mono HU.out.size); obtain ⟨ca, cb⟩ := HV.out w4 b4; have ja4 := ca 4; have jb4 := cb 4; have ja5 := ca 5; have jb5 := cb 5; have ja6 := ca 6; have jb6 := cb 6; have ja7 := ca 7; have jb7 := cb 7; have ja8 := ca 8; have jb8 := cb 8; have ja9 := ca 9; have jb9 := cb 9; have ja10 := ca 10; have jb10 := cb 10; clear ca cb)))
    go_ret
    exact ⟨by rw [HR.out]; simp [*], hB⟩
  subst e4
  by_cases e5 : i5 = j5
  case neg =>
    have HR : Hid (R = false) := (Bool.eq_false_iff.mpr (fun hs => e5 (by have hsp := HH.out.mp hs; simp only [Ro.R.mk.injEq] at hsp; exact hsp.2.2.2.2.2.2.2.2.1)) : R = false)
    have eb5 : (i5 == j5) = false := by simpa using e5
    clear HH
    go_enter Tryz.func20, Tryz.ntmps20
    go_wp2_with fail
    clear hUe xa0 xb0
    refine (c1 _ HU.out).mono ?_
    rintro e w1 ⟨rfl, hb1⟩
    obtain ⟨ca, cb⟩ := HV.out w1 hb1
    have ja1 := ca 1
    have jb1 := cb 1
    clear ca cb
    have hB := HU.out.trans (hb1.mono HU.out.size)
    go_wp2_with (first
      | (go_at_call 48; go_must (refine (c2 _ (HU.out.trans (hb1.mono HU.out.size))).mono ?_; rintro e w2 ⟨rfl, hb2⟩; have b2 := hb1.trans (hb2.mono hb1.size); have hB := HU.out.trans (b2.mono HU.out.size); obtain ⟨ca, cb⟩ := HV.out w2 b2; have ja2 := ca 2; have jb2 := cb 2; clear ca cb))
      | (go_at_call 49; go_must (refine (c3 _ (HU.out.trans (b2.mono HU.out.size))).mono ?_; rintro e w3 ⟨rfl, hb3⟩; have b3 := b2.trans (hb3.mono b2.size); have hB := HU.out.trans (b3.mono HU.out.size); obtain ⟨ca, cb⟩ := HV.out w3 b3; have ja3 := ca 3; have jb3 := cb 3; clear ca cb))
      | (go_at_call 50; go_must (refine (c4 _ (HU.out.trans (b3.mono HU.out.size))).mono ?_; rintro e w4 ⟨rfl, hb4⟩; have b4 := b3.trans (hb4.mono b3.size); have hB := HU.out.trans (b4.mono HU.out.size); obtain ⟨ca, cb⟩ := HV.out w4 b4; have ja4 := ca 4; have jb4 := cb 4; have ja5 := ca 5; have jb5 := cb 5; have ja6 := ca 6; have jb6 := cb 6; have ja7 := ca 7; have jb7 := cb 7; have ja8 := ca 8; have jb8 := cb 8; have ja9 := ca 9; have jb9 := cb 9; have ja10 := ca 10; have jb10 := cb 10; clear ca cb)))
    go_ret
    exact ⟨by rw [HR.out]; simp [*], hB⟩
  subst e5
  by_cases e6 : i6 = j6
  case neg =>
    have HR : Hid (R = false) := (Bool.eq_false_iff.mpr (fun hs => e6 (by have hsp := HH.out.mp hs; simp only [Ro.R.mk.injEq] at hsp; exact hsp.2.2.2.2.2.2.2.2.2.1)) : R = false)
    have eb6 : (i6 == j6) = false := by simpa using e6
    clear HH
    go_enter Tryz.func20, Tryz.ntmps20
    go_wp2_with fail
    clear hUe xa0 xb0
    refine (c1 _ HU.out).mono ?_
    rintro e w1 ⟨rfl, hb1⟩
    obtain ⟨ca, cb⟩ := HV.out w1 hb1
    have ja1 := ca 1
    have jb1 := cb 1
    clear ca cb
    have hB := HU.out.trans (hb1.mono HU.out.size)
    go_wp2_with (first
      | (go_at_call 48; go_must (refine (c2 _ (HU.out.trans (hb1.mono HU.out.size))).mono ?_; rintro e w2 ⟨rfl, hb2⟩; have b2 := hb1.trans (hb2.mono hb1.size); have hB := HU.out.trans (b2.mono HU.out.size); obtain ⟨ca, cb⟩ := HV.out w2 b2; have ja2 := ca 2; have jb2 := cb 2; clear ca cb))
      | (go_at_call 49; go_must (refine (c3 _ (HU.out.trans (b2.mono HU.out.size))).mono ?_; rintro e w3 ⟨rfl, hb3⟩; have b3 := b2.trans (hb3.mono b2.size); have hB := HU.out.trans (b3.mono HU.out.size); obtain ⟨ca, cb⟩ := HV.out w3 b3; have ja3 := ca 3; have jb3 := cb 3; clear ca cb))
      | (go_at_call 50; go_must (refine (c4 _ (HU.out.trans (b3.mono HU.out.size))).mono ?_; rintro e w4 ⟨rfl, hb4⟩; have b4 := b3.trans (hb4.mono b3.size); have hB := HU.out.trans (b4.mono HU.out.size); obtain ⟨ca, cb⟩ := HV.out w4 b4; have ja4 := ca 4; have jb4 := cb 4; have ja5 := ca 5; have jb5 := cb 5; have ja6 := ca 6; have jb6 := cb 6; have ja7 := ca 7; have jb7 := cb 7; have ja8 := ca 8; have jb8 := cb 8; have ja9 := ca 9; have jb9 := cb 9; have ja10 := ca 10; have jb10 := cb 10; clear ca cb)))
    go_ret
    exact ⟨by rw [HR.out]; simp [*], hB⟩
  subst e6
  by_cases e7 : i7 = j7
  case neg =>
    have HR : Hid (R = false) := (Bool.eq_false_iff.mpr (fun hs => e7 (by have hsp := HH.out.mp hs; simp only [Ro.R.mk.injEq] at hsp; exact hsp.2.2.2.2.2.2.2.2.2.2)) : R = false)
    have eb7 : (i7 == j7) = false := by simpa using e7
    clear HH
    go_enter Tryz.func20, Tryz.ntmps20
    go_wp2_with fail
    clear hUe xa0 xb0
    refine (c1 _ HU.out).mono ?_
    rintro e w1 ⟨rfl, hb1⟩
    obtain ⟨ca, cb⟩ := HV.out w1 hb1
    have ja1 := ca 1
    have jb1 := cb 1
    clear ca cb
    have hB := HU.out.trans (hb1.mono HU.out.size)
    go_wp2_with (first
      | (go_at_call 48; go_must (refine (c2 _ (HU.out.trans (hb1.mono HU.out.size))).mono ?_; rintro e w2 ⟨rfl, hb2⟩; have b2 := hb1.trans (hb2.mono hb1.size); have hB := HU.out.trans (b2.mono HU.out.size); obtain ⟨ca, cb⟩ := HV.out w2 b2; have ja2 := ca 2; have jb2 := cb 2; clear ca cb))
      | (go_at_call 49; go_must (refine (c3 _ (HU.out.trans (b2.mono HU.out.size))).mono ?_; rintro e w3 ⟨rfl, hb3⟩; have b3 := b2.trans (hb3.mono b2.size); have hB := HU.out.trans (b3.mono HU.out.size); obtain ⟨ca, cb⟩ := HV.out w3 b3; have ja3 := ca 3; have jb3 := cb 3; clear ca cb))
      | (go_at_call 50; go_must (refine (c4 _ (HU.out.trans (b3.mono HU.out.size))).mono ?_; rintro e w4 ⟨rfl, hb4⟩; have b4 := b3.trans (hb4.mono b3.size); have hB := HU.out.trans (b4.mono HU.out.size); obtain ⟨ca, cb⟩ := HV.out w4 b4; have ja4 := ca 4; have jb4 := cb 4; have ja5 := ca 5; have jb5 := cb 5; have ja6 := ca 6; have jb6 := cb 6; have ja7 := ca 7; have jb7 := cb 7; have ja8 := ca 8; have jb8 := cb 8; have ja9 := ca 9; have jb9 := cb 9; have ja10 := ca 10; have jb10 := cb 10; clear ca cb)))
    go_ret
    exact ⟨by rw [HR.out]; simp [*], hB⟩
  subst e7
  have HR : Hid (R = true) := (HH.out.mpr (by rw [Q0.out, Q1.out, Q2.out, Q3.out]) : R = true)
  clear HH Q0 Q1 Q2 Q3
  go_enter Tryz.func20, Tryz.ntmps20
  go_wp2_with fail
  clear hUe xa0 xb0
  refine (c1 _ HU.out).mono ?_
  rintro e w1 ⟨rfl, hb1⟩
  obtain ⟨ca, cb⟩ := HV.out w1 hb1
  have ja1 := ca 1
  have jb1 := cb 1
  clear ca cb
  have hB := HU.out.trans (hb1.mono HU.out.size)
  go_wp2_with (first
    | (go_at_call 48; go_must (refine (c2 _ (HU.out.trans (hb1.mono HU.out.size))).mono ?_; rintro e w2 ⟨rfl, hb2⟩; have b2 := hb1.trans (hb2.mono hb1.size); have hB := HU.out.trans (b2.mono HU.out.size); obtain ⟨ca, cb⟩ := HV.out w2 b2; have ja2 := ca 2; have jb2 := cb 2; clear ca cb))
    | (go_at_call 49; go_must (refine (c3 _ (HU.out.trans (b2.mono HU.out.size))).mono ?_; rintro e w3 ⟨rfl, hb3⟩; have b3 := b2.trans (hb3.mono b2.size); have hB := HU.out.trans (b3.mono HU.out.size); obtain ⟨ca, cb⟩ := HV.out w3 b3; have ja3 := ca 3; have jb3 := cb 3; clear ca cb))
    | (go_at_call 50; go_must (refine (c4 _ (HU.out.trans (b3.mono HU.out.size))).mono ?_; rintro e w4 ⟨rfl, hb4⟩; have b4 := b3.trans (hb4.mono b3.size); have hB := HU.out.trans (b4.mono HU.out.size); obtain ⟨ca, cb⟩ := HV.out w4 b4; have ja4 := ca 4; have jb4 := cb 4; have ja5 := ca 5; have jb5 := cb 5; have ja6 := ca 6; have jb6 := cb 6; have ja7 := ca 7; have jb7 := cb 7; have ja8 := ca 8; have jb8 := cb 8; have ja9 := ca 9; have jb9 := cb 9; have ja10 := ca 10; have jb10 := cb 10; clear ca cb)))
  go_ret
  exact ⟨by rw [HR.out]; simp [*], hB⟩

set_option maxRecDepth 100000 in
set_option maxHeartbeats 8000000 in
theorem rsame17_any (s : List Int) (ms : List (Int × Int)) (ts : List Lv.T) (ks : List (Int × Int × Int)) (a1 : Option Addr) (n1 c1 : Nat) (a2 : Option Addr) (n2 c2 : Nat) (a3 : Option Addr) (n3 c3 : Nat) (a4 : Option Addr) (n4 c4 : Nat) (i1 i2 i3 i4 i5 i6 i7 : Int) (s2 : List Int) (ms2 : List (Int × Int)) (ts2 : List Lv.T) (ks2 : List (Int × Int × Int)) (b1 : Option Addr) (m1 d1 : Nat) (b2 : Option Addr) (m2 d2 : Nat) (b3 : Option Addr) (m3 d3 : Nat) (b4 : Option Addr) (m4 d4 : Nat) (j1 j2 j3 j4 j5 j6 j7 : Int) (w : World) (h : RIn w a1 n1 c1 a2 n2 c2 a3 n3 c3 a4 n4 c4 ⟨s, ms, ts, ks, i1, i2, i3, i4, i5, i6, i7⟩) (h' : RIn w b1 m1 d1 b2 m2 d2 b3 m3 d3 b4 m4 d4 ⟨s2, ms2, ts2, ks2, j1, j2, j3, j4, j5, j6, j7⟩) (R : Bool) (hR : R = true ↔ (⟨s, ms, ts, ks, i1, i2, i3, i4, i5, i6, i7⟩ : Ro.R) = ⟨s2, ms2, ts2, ks2, j1, j2, j3, j4, j5, j6, j7⟩) :
    Calls Tryz.prog 14 #[.agg #[.slice a1 n1 c1, .slice a2 n2 c2, .slice a3 n3 c3, .slice a4 n4 c4, .int .i64 i1, .int .i64 i2, .int .i64 i3, .int .i64 i4, .int .i64 i5, .int .i64 i6, .int .i64 i7], .agg #[.slice b1 m1 d1, .slice b2 m2 d2, .slice b3 m3 d3, .slice b4 m4 d4, .int .i64 j1, .int .i64 j2, .int .i64 j3, .int .i64 j4, .int .i64 j5, .int .i64 j6, .int .i64 j7]] w fun e w' => e = .returned (.bool R) ∧ Below w.heap.size w w' := by
  obtain ⟨r1, r2, r3, r4, _, _, _, _, n1b, n2b, n3b, n4b, _, _⟩ := h
  obtain ⟨t1, t2, t3, t4, _, _, _, _, _, _, _, _, _, _⟩ := h'
  dsimp only at r1 r2 r3 r4 t1 t2 t3 t4
  have he1 := fun (R : Bool) hR W (hb : Below w.heap.size w W) => zints_any a1 n1 c1 s b1 m1 d1 s2 W (by omega) (r1.below hb (Nat.le_refl _)) (t1.below hb (Nat.le_refl _)) R hR
  have HH : Hid (R = true ↔ (⟨s, ms, ts, ks, i1, i2, i3, i4, i5, i6, i7⟩ : Ro.R) = ⟨s2, ms2, ts2, ks2, j1, j2, j3, j4, j5, j6, j7⟩) := hR
  have R2 : Hid (MRow w a2 n2 ms) := r2
  have S2 : Hid (MRow w b2 m2 ms2) := t2
  have R3 : Hid (LRow w a3 n3 ts) := r3
  have S3 : Hid (LRow w b3 m3 ts2) := t3
  have R4 : Hid (KRow w a4 n4 ks) := r4
  have S4 : Hid (KRow w b4 m4 ks2) := t4
  clear hR r1 r2 r3 r4 t1 t2 t3 t4 n1b n2b n3b n4b
  obtain ⟨U, hU⟩ : ∃ U, U = (w.alloc (.cells #[.slice a1 n1 c1, .slice a2 n2 c2, .slice a3 n3 c3, .slice a4 n4 c4, .int .i64 i1, .int .i64 i2, .int .i64 i3, .int .i64 i4, .int .i64 i5, .int .i64 i6, .int .i64 i7] 29)).alloc (.cells #[.slice b1 m1 d1, .slice b2 m2 d2, .slice b3 m3 d3, .slice b4 m4 d4, .int .i64 j1, .int .i64 j2, .int .i64 j3, .int .i64 j4, .int .i64 j5, .int .i64 j6, .int .i64 j7] 29) := ⟨_, rfl⟩
  have hbU : Below w.heap.size w U := by rw [hU]; exact below_two _ _ _
  have e0 : U.heap[w.heap.size]? = some (.cells #[.slice a1 n1 c1, .slice a2 n2 c2, .slice a3 n3 c3, .slice a4 n4 c4, .int .i64 i1, .int .i64 i2, .int .i64 i3, .int .i64 i4, .int .i64 i5, .int .i64 i6, .int .i64 i7] 29 (0, 0)) := by
    rw [hU]; exact (Below.heap_alloc _ _ _ (by simp)).trans (heap_alloc_new _ _)
  have e1 : U.heap[w.heap.size + 1]? = some (.cells #[.slice b1 m1 d1, .slice b2 m2 d2, .slice b3 m3 d3, .slice b4 m4 d4, .int .i64 j1, .int .i64 j2, .int .i64 j3, .int .i64 j4, .int .i64 j5, .int .i64 j6, .int .i64 j7] 29 (0, 0)) := by
    rw [hU]; have := heap_alloc_new (w.alloc (.cells #[.slice a1 n1 c1, .slice a2 n2 c2, .slice a3 n3 c3, .slice a4 n4 c4, .int .i64 i1, .int .i64 i2, .int .i64 i3, .int .i64 i4, .int .i64 i5, .int .i64 i6, .int .i64 i7] 29)) (.cells #[.slice b1 m1 d1, .slice b2 m2 d2, .slice b3 m3 d3, .slice b4 m4 d4, .int .i64 j1, .int .i64 j2, .int .i64 j3, .int .i64 j4, .int .i64 j5, .int .i64 j6, .int .i64 j7] 29); rwa [World.size_alloc] at this
  have HV : Hid (∀ W, Below U.heap.size U W → (∀ i, W.cell? ⟨w.heap.size, i, none⟩ = (#[.slice a1 n1 c1, .slice a2 n2 c2, .slice a3 n3 c3, .slice a4 n4 c4, .int .i64 i1, .int .i64 i2, .int .i64 i3, .int .i64 i4, .int .i64 i5, .int .i64 i6, .int .i64 i7] : Array Value)[i]?) ∧ ∀ i, W.cell? ⟨w.heap.size + 1, i, none⟩ = (#[.slice b1 m1 d1, .slice b2 m2 d2, .slice b3 m3 d3, .slice b4 m4 d4, .int .i64 j1, .int .i64 j2, .int .i64 j3, .int .i64 j4, .int .i64 j5, .int .i64 j6, .int .i64 j7] : Array Value)[i]?) := (fun W hb => ⟨(blkc ((hb.block _ (ob_ltB e0)).trans e0)).1, (blkc ((hb.block _ (ob_ltB e1)).trans e1)).1⟩ : ∀ W, _ → _)
  have HU : Hid (Below w.heap.size w U) := hbU
  have hUe : (w.alloc (.cells #[.slice a1 n1 c1, .slice a2 n2 c2, .slice a3 n3 c3, .slice a4 n4 c4, .int .i64 i1, .int .i64 i2, .int .i64 i3, .int .i64 i4, .int .i64 i5, .int .i64 i6, .int .i64 i7] 29)).alloc (.cells #[.slice b1 m1 d1, .slice b2 m2 d2, .slice b3 m3 d3, .slice b4 m4 d4, .int .i64 j1, .int .i64 j2, .int .i64 j3, .int .i64 j4, .int .i64 j5, .int .i64 j6, .int .i64 j7] 29) = U := hU.symm
  clear hU hbU e0 e1
  have xa0 := (HV.out U (Below.refl _ _)).1 0
  have xb0 := (HV.out U (Below.refl _ _)).2 0
  by_cases q0 : s = s2
  case neg =>
    have HR : Hid (R = false) := (Bool.eq_false_iff.mpr (fun hs => q0 (by have hsp := HH.out.mp hs; simp only [Ro.R.mk.injEq] at hsp; exact hsp.1)) : R = false)
    have c1 := he1 false (by simp [q0])
    clear q0 HH he1
    go_enter Tryz.func14, Tryz.ntmps14
    go_wp2_with fail
    clear hUe xa0 xb0
    refine (c1 _ HU.out).mono ?_
    rintro e w1 ⟨rfl, hb1⟩
    obtain ⟨ca, cb⟩ := HV.out w1 hb1
    have ja1 := ca 1
    have jb1 := cb 1
    have ja2 := ca 2
    have jb2 := cb 2
    have ja3 := ca 3
    have jb3 := cb 3
    clear ca cb
    go_wp2
    go_ret
    exact ⟨(by rw [HR.out]; try rfl), HU.out.trans (hb1.mono HU.out.size)⟩
  have c1 := he1 true (by simp [q0])
  clear he1
  have Q0 : Hid (s = s2) := q0
  clear q0
  by_cases q2 : n2 = m2
  case neg =>
    have HR : Hid (R = false) := (Bool.eq_false_iff.mpr (fun hs => q2 (by have hsp := HH.out.mp hs; simp only [Ro.R.mk.injEq] at hsp; rw [← R2.out.1, ← S2.out.1, hsp.2.1])) : R = false)
    have f1 : ((n2 : Int) == (m2 : Int)) = false := by simpa using (by omega : ¬ ((n2 : Int) = (m2 : Int)))
    have f2 : ¬ ((n2 : Int) = (m2 : Int)) := by omega
    clear HH
    go_enter Tryz.func14, Tryz.ntmps14
    go_wp2_with fail
    clear hUe xa0 xb0
    refine (c1 _ HU.out).mono ?_
    rintro e w1 ⟨rfl, hb1⟩
    obtain ⟨ca, cb⟩ := HV.out w1 hb1
    have ja1 := ca 1
    have jb1 := cb 1
    have ja2 := ca 2
    have jb2 := cb 2
    have ja3 := ca 3
    have jb3 := cb 3
    clear ca cb
    go_wp2
    go_ret
    exact ⟨(by rw [HR.out]; try rfl), HU.out.trans (hb1.mono HU.out.size)⟩
  subst q2
  by_cases q3 : n3 = m3
  case neg =>
    have HR : Hid (R = false) := (Bool.eq_false_iff.mpr (fun hs => q3 (by have hsp := HH.out.mp hs; simp only [Ro.R.mk.injEq] at hsp; rw [← R3.out.1, ← S3.out.1, hsp.2.2.1])) : R = false)
    have f1 : ((n3 : Int) == (m3 : Int)) = false := by simpa using (by omega : ¬ ((n3 : Int) = (m3 : Int)))
    have f2 : ¬ ((n3 : Int) = (m3 : Int)) := by omega
    clear HH
    go_enter Tryz.func14, Tryz.ntmps14
    go_wp2_with fail
    clear hUe xa0 xb0
    refine (c1 _ HU.out).mono ?_
    rintro e w1 ⟨rfl, hb1⟩
    obtain ⟨ca, cb⟩ := HV.out w1 hb1
    have ja1 := ca 1
    have jb1 := cb 1
    have ja2 := ca 2
    have jb2 := cb 2
    have ja3 := ca 3
    have jb3 := cb 3
    clear ca cb
    go_wp2
    go_ret
    exact ⟨(by rw [HR.out]; try rfl), HU.out.trans (hb1.mono HU.out.size)⟩
  subst q3
  by_cases q4 : n4 = m4
  case neg =>
    have HR : Hid (R = false) := (Bool.eq_false_iff.mpr (fun hs => q4 (by have hsp := HH.out.mp hs; simp only [Ro.R.mk.injEq] at hsp; rw [← R4.out.1, ← S4.out.1, hsp.2.2.2.1])) : R = false)
    have f1 : ((n4 : Int) == (m4 : Int)) = false := by simpa using (by omega : ¬ ((n4 : Int) = (m4 : Int)))
    have f2 : ¬ ((n4 : Int) = (m4 : Int)) := by omega
    clear HH
    go_enter Tryz.func14, Tryz.ntmps14
    go_wp2_with fail
    clear hUe xa0 xb0
    refine (c1 _ HU.out).mono ?_
    rintro e w1 ⟨rfl, hb1⟩
    obtain ⟨ca, cb⟩ := HV.out w1 hb1
    have ja1 := ca 1
    have jb1 := cb 1
    have ja2 := ca 2
    have jb2 := cb 2
    have ja3 := ca 3
    have jb3 := cb 3
    clear ca cb
    go_wp2
    go_ret
    exact ⟨(by rw [HR.out]; try rfl), HU.out.trans (hb1.mono HU.out.size)⟩
  subst q4
  go_enter Tryz.func14, Tryz.ntmps14
  go_wp2_with fail
  clear hUe xa0 xb0
  refine (c1 _ HU.out).mono ?_
  rintro e w1 ⟨rfl, hb1⟩
  obtain ⟨ca, cb⟩ := HV.out w1 hb1
  have ja0 := ca 0
  have jb0 := cb 0
  have ja1 := ca 1
  have jb1 := cb 1
  have ja2 := ca 2
  have jb2 := cb 2
  have ja3 := ca 3
  have jb3 := cb 3
  have ja4 := ca 4
  have jb4 := cb 4
  have ja5 := ca 5
  have jb5 := cb 5
  have ja6 := ca 6
  have jb6 := cb 6
  have ja7 := ca 7
  have jb7 := cb 7
  have ja8 := ca 8
  have jb8 := cb 8
  have ja9 := ca 9
  have jb9 := cb 9
  have ja10 := ca 10
  have jb10 := cb 10
  clear ca cb
  clear c1
  have HB1 : Hid (Below U.heap.size U w1) := hb1
  clear hb1
  have b01 : ((n2 : Int) == (n2 : Int)) = true := by simp
  have b02 : ((n3 : Int) == (n3 : Int)) = true := by simp
  have b03 : ((n4 : Int) == (n4 : Int)) = true := by simp
  go_wp2
  go_loopw [5] (fun iv wr => ∃ j : Nat, j ≤ n2 ∧ iv = .int .i64 j ∧ Hid (∀ m, m < j → ms.getD m (0, 0) = ms2.getD m (0, 0)) ∧ Hid (Below U.heap.size U wr)) (fun iv _ => n2 - (intOf iv).toNat)
  case atStart => exact ⟨0, by omega, rfl, (fun m hm => by omega : ∀ m, m < 0 → ms.getD m (0, 0) = ms2.getD m (0, 0)), HB1⟩
  case round =>
    obtain ⟨j, hj, rfl, HM, HW1⟩ := hrel
    clear HB1 ja0 jb0 ja1 jb1 ja2 jb2 ja3 jb3 ja4 jb4 ja5 jb5 ja6 jb6 ja7 jb7 ja8 jb8 ja9 jb9 ja10 jb10
    obtain ⟨ca, cb⟩ := HV.out wr HW1.out
    have ja1 := ca 1
    have jb1 := cb 1
    by_cases hlt : j < n2
    · have hbw := HU.out.trans (HW1.out.mono HU.out.size)
      obtain ⟨b, off, x, y, rfl, hx, q0, q1⟩ := mget R2.out hbw hlt
      obtain ⟨b', off', x', y', rfl, hx', t0, t1⟩ := mget S2.out hbw hlt
      have i0 : (0 : Int) ≤ (j : Int) := by omega
      have i5 : (j : Int) < (n2 : Int) := by omega
      by_cases hxx : ms.getD j (0, 0) = ms2.getD j (0, 0)
      · have HM2 : Hid (∀ m, m < j + 1 → ms.getD m (0, 0) = ms2.getD m (0, 0)) := (upto_more HM.out hxx : ∀ m, m < j + 1 → ms.getD m (0, 0) = ms2.getD m (0, 0))
        rw [hx.out, hx'.out] at hxx
        obtain ⟨rfl, rfl⟩ := Prod.mk.inj hxx
        clear hx hx' ca cb hbw HM HH
        go_wp2_with fail
        go_quiet (fail)
        go_wp2
        go_roundw
        case rel => exact ⟨j + 1, by omega, by go_num, HM2, (HW1.out.trans (below_drewN _ _ _) : Below _ _ _)⟩
        case measure => simp [intOf]; omega
      · have HR : Hid (R = false) := (Bool.eq_false_iff.mpr (fun hs => hxx (by have hsp := HH.out.mp hs; simp only [Ro.R.mk.injEq] at hsp; rw [hsp.2.1])) : R = false)
        rw [hx.out, hx'.out] at hxx
        have hif := munlike hxx
        clear hx hx' hxx ca cb hbw HM HH
        go_wp2_with fail
        go_quiet (fail)
        go_wp2
        go_ret
        exact ⟨(by rw [HR.out]; try rfl), HU.out.trans (((HW1.out.trans (below_drewN _ _ _)) : Below U.heap.size U _).mono HU.out.size)⟩
    · obtain rfl : j = n2 := by omega
      have Q1 : Hid (ms = ms2) := (eq_of_getDs (d := (0, 0)) (R2.out.1.trans S2.out.1.symm) (fun m hm => HM.out m (by rw [R2.out.1] at hm; exact hm)) : ms = ms2)
      have ja0 := ca 0
      have jb0 := cb 0
      have ja2 := ca 2
      have jb2 := cb 2
      have ja3 := ca 3
      have jb3 := cb 3
      have ja4 := ca 4
      have jb4 := cb 4
      have ja5 := ca 5
      have jb5 := cb 5
      have ja6 := ca 6
      have jb6 := cb 6
      have ja7 := ca 7
      have jb7 := cb 7
      have ja8 := ca 8
      have jb8 := cb 8
      have ja9 := ca 9
      have jb9 := cb 9
      have ja10 := ca 10
      have jb10 := cb 10
      clear ca cb HM
      go_wp2
      go_loopw [6] (fun iv wr => ∃ j : Nat, j ≤ n3 ∧ iv = .int .i64 j ∧ Hid (∀ m, m < j → ts.getD m Lv.zero = ts2.getD m Lv.zero) ∧ Hid (Below U.heap.size U wr)) (fun iv _ => n3 - (intOf iv).toNat)
      case atStart => exact ⟨0, by omega, rfl, (fun m hm => by omega : ∀ m, m < 0 → ts.getD m Lv.zero = ts2.getD m Lv.zero), HW1⟩
      case round =>
        obtain ⟨j, hj, rfl, HM, HW2⟩ := hrel
        clear HW1 ja0 jb0 ja1 jb1 ja2 jb2 ja3 jb3 ja4 jb4 ja5 jb5 ja6 jb6 ja7 jb7 ja8 jb8 ja9 jb9 ja10 jb10
        obtain ⟨ca, cb⟩ := HV.out wr HW2.out
        have ja2 := ca 2
        have jb2 := cb 2
        by_cases hlt : j < n3
        · have hbw := HU.out.trans (HW2.out.mono HU.out.size)
          obtain ⟨b, off, x1, x2, x3, x4, x5, rfl, hx, q0, q1, q2, q3, q4⟩ := lget R3.out hbw hlt
          obtain ⟨b', off', x1', x2', x3', x4', x5', rfl, hx', t0, t1, t2, t3, t4⟩ := lget S3.out hbw hlt
          have i0 : (0 : Int) ≤ (j : Int) := by omega
          have i5 : (j : Int) < (n3 : Int) := by omega
          by_cases hxx : ts.getD j Lv.zero = ts2.getD j Lv.zero
          · have HM2 : Hid (∀ m, m < j + 1 → ts.getD m Lv.zero = ts2.getD m Lv.zero) := (upto_more HM.out hxx : ∀ m, m < j + 1 → ts.getD m Lv.zero = ts2.getD m Lv.zero)
            rw [hx.out, hx'.out] at hxx
            obtain ⟨rfl, rfl, rfl, rfl, rfl⟩ := Lv.T.mk.inj hxx
            clear hx hx' ca cb hbw HM HH
            go_wp2_with fail
            go_quiet (fail)
            go_wp2
            go_roundw
            case rel => exact ⟨j + 1, by omega, by go_num, HM2, (HW2.out.trans (below_drewN _ _ _) : Below _ _ _)⟩
            case measure => simp [intOf]; omega
          · have HR : Hid (R = false) := (Bool.eq_false_iff.mpr (fun hs => hxx (by have hsp := HH.out.mp hs; simp only [Ro.R.mk.injEq] at hsp; rw [hsp.2.2.1])) : R = false)
            rw [hx.out, hx'.out] at hxx
            have hif := lunlike hxx
            clear hx hx' hxx ca cb hbw HM HH
            go_wp2_with fail
            go_quiet (fail)
            go_wp2
            go_ret
            exact ⟨(by rw [HR.out]; try rfl), HU.out.trans (((HW2.out.trans (below_drewN _ _ _)) : Below U.heap.size U _).mono HU.out.size)⟩
        · obtain rfl : j = n3 := by omega
          have Q2 : Hid (ts = ts2) := (eq_of_getDs (d := Lv.zero) (R3.out.1.trans S3.out.1.symm) (fun m hm => HM.out m (by rw [R3.out.1] at hm; exact hm)) : ts = ts2)
          have ja0 := ca 0
          have jb0 := cb 0
          have ja1 := ca 1
          have jb1 := cb 1
          have ja3 := ca 3
          have jb3 := cb 3
          have ja4 := ca 4
          have jb4 := cb 4
          have ja5 := ca 5
          have jb5 := cb 5
          have ja6 := ca 6
          have jb6 := cb 6
          have ja7 := ca 7
          have jb7 := cb 7
          have ja8 := ca 8
          have jb8 := cb 8
          have ja9 := ca 9
          have jb9 := cb 9
          have ja10 := ca 10
          have jb10 := cb 10
          clear ca cb HM
          go_wp2
          go_loopw [7] (fun iv wr => ∃ j : Nat, j ≤ n4 ∧ iv = .int .i64 j ∧ Hid (∀ m, m < j → ks.getD m (0, 0, 0) = ks2.getD m (0, 0, 0)) ∧ Hid (Below U.heap.size U wr)) (fun iv _ => n4 - (intOf iv).toNat)
          case atStart => exact ⟨0, by omega, rfl, (fun m hm => by omega : ∀ m, m < 0 → ks.getD m (0, 0, 0) = ks2.getD m (0, 0, 0)), HW2⟩
          case round =>
            obtain ⟨j, hj, rfl, HM, HW3⟩ := hrel
            clear HW2 ja0 jb0 ja1 jb1 ja2 jb2 ja3 jb3 ja4 jb4 ja5 jb5 ja6 jb6 ja7 jb7 ja8 jb8 ja9 jb9 ja10 jb10
            obtain ⟨ca, cb⟩ := HV.out wr HW3.out
            have ja3 := ca 3
            have jb3 := cb 3
            by_cases hlt : j < n4
            · have hbw := HU.out.trans (HW3.out.mono HU.out.size)
              obtain ⟨b, off, x, y, z, rfl, hx, q0, q1, q2⟩ := kget R4.out hbw hlt
              obtain ⟨b', off', x', y', z', rfl, hx', t0, t1, t2⟩ := kget S4.out hbw hlt
              have i0 : (0 : Int) ≤ (j : Int) := by omega
              have i5 : (j : Int) < (n4 : Int) := by omega
              by_cases hxx : ks.getD j (0, 0, 0) = ks2.getD j (0, 0, 0)
              · have HM2 : Hid (∀ m, m < j + 1 → ks.getD m (0, 0, 0) = ks2.getD m (0, 0, 0)) := (upto_more HM.out hxx : ∀ m, m < j + 1 → ks.getD m (0, 0, 0) = ks2.getD m (0, 0, 0))
                rw [hx.out, hx'.out] at hxx
                obtain ⟨rfl, hyz⟩ := Prod.mk.inj hxx
                obtain ⟨rfl, rfl⟩ := Prod.mk.inj hyz
                clear hx hx' ca cb hbw HM HH
                go_wp2_with fail
                go_quiet (fail)
                go_wp2
                go_roundw
                case rel => exact ⟨j + 1, by omega, by go_num, HM2, (HW3.out.trans (below_drewN _ _ _) : Below _ _ _)⟩
                case measure => simp [intOf]; omega
              · have HR : Hid (R = false) := (Bool.eq_false_iff.mpr (fun hs => hxx (by have hsp := HH.out.mp hs; simp only [Ro.R.mk.injEq] at hsp; rw [hsp.2.2.2.1])) : R = false)
                rw [hx.out, hx'.out] at hxx
                have hif := kunlike hxx
                clear hx hx' hxx ca cb hbw HM HH
                go_wp2_with fail
                go_quiet (fail)
                go_wp2
                go_ret
                exact ⟨(by rw [HR.out]; try rfl), HU.out.trans (((HW3.out.trans (below_drewN _ _ _)) : Below U.heap.size U _).mono HU.out.size)⟩
            · obtain rfl : j = n4 := by omega
              have Q3 : Hid (ks = ks2) := (eq_of_getDs (d := (0, 0, 0)) (R4.out.1.trans S4.out.1.symm) (fun m hm => HM.out m (by rw [R4.out.1] at hm; exact hm)) : ks = ks2)
              have ja0 := ca 0
              have jb0 := cb 0
              have ja1 := ca 1
              have jb1 := cb 1
              have ja2 := ca 2
              have jb2 := cb 2
              have ja4 := ca 4
              have jb4 := cb 4
              have ja5 := ca 5
              have jb5 := cb 5
              have ja6 := ca 6
              have jb6 := cb 6
              have ja7 := ca 7
              have jb7 := cb 7
              have ja8 := ca 8
              have jb8 := cb 8
              have ja9 := ca 9
              have jb9 := cb 9
              have ja10 := ca 10
              have jb10 := cb 10
              clear ca cb HM
              by_cases e1 : i1 = j1
              case neg =>
                have HR : Hid (R = false) := (Bool.eq_false_iff.mpr (fun hs => e1 (by have hsp := HH.out.mp hs; simp only [Ro.R.mk.injEq] at hsp; exact hsp.2.2.2.2.1)) : R = false)
                have eb1 : (i1 == j1) = false := by simpa using e1
                clear HH
                go_wp2
                go_ret
                exact ⟨by rw [HR.out]; simp [*], HU.out.trans (HW3.out.mono HU.out.size)⟩
              subst e1
              by_cases e2 : i2 = j2
              case neg =>
                have HR : Hid (R = false) := (Bool.eq_false_iff.mpr (fun hs => e2 (by have hsp := HH.out.mp hs; simp only [Ro.R.mk.injEq] at hsp; exact hsp.2.2.2.2.2.1)) : R = false)
                have eb2 : (i2 == j2) = false := by simpa using e2
                clear HH
                go_wp2
                go_ret
                exact ⟨by rw [HR.out]; simp [*], HU.out.trans (HW3.out.mono HU.out.size)⟩
              subst e2
              by_cases e3 : i3 = j3
              case neg =>
                have HR : Hid (R = false) := (Bool.eq_false_iff.mpr (fun hs => e3 (by have hsp := HH.out.mp hs; simp only [Ro.R.mk.injEq] at hsp; exact hsp.2.2.2.2.2.2.1)) : R = false)
                have eb3 : (i3 == j3) = false := by simpa using e3
                clear HH
                go_wp2
                go_ret
                exact ⟨by rw [HR.out]; simp [*], HU.out.trans (HW3.out.mono HU.out.size)⟩
              subst e3
              by_cases e4 : i4 = j4
              case neg =>
                have HR : Hid (R = false) := (Bool.eq_false_iff.mpr (fun hs => e4 (by have hsp := HH.out.mp hs; simp only [Ro.R.mk.injEq] at hsp; exact hsp.2.2.2.2.2.2.2.1)) : R = false)
                have eb4 : (i4 == j4) = false := by simpa using e4
                clear HH
                go_wp2
                go_ret
                exact ⟨by rw [HR.out]; simp [*], HU.out.trans (HW3.out.mono HU.out.size)⟩
              subst e4
              by_cases e5 : i5 = j5
              case neg =>
                have HR : Hid (R = false) := (Bool.eq_false_iff.mpr (fun hs => e5 (by have hsp := HH.out.mp hs; simp only [Ro.R.mk.injEq] at hsp; exact hsp.2.2.2.2.2.2.2.2.1)) : R = false)
                have eb5 : (i5 == j5) = false := by simpa using e5
                clear HH
                go_wp2
                go_ret
                exact ⟨by rw [HR.out]; simp [*], HU.out.trans (HW3.out.mono HU.out.size)⟩
              subst e5
              by_cases e6 : i6 = j6
              case neg =>
                have HR : Hid (R = false) := (Bool.eq_false_iff.mpr (fun hs => e6 (by have hsp := HH.out.mp hs; simp only [Ro.R.mk.injEq] at hsp; exact hsp.2.2.2.2.2.2.2.2.2.1)) : R = false)
                have eb6 : (i6 == j6) = false := by simpa using e6
                clear HH
                go_wp2
                go_ret
                exact ⟨by rw [HR.out]; simp [*], HU.out.trans (HW3.out.mono HU.out.size)⟩
              subst e6
              by_cases e7 : i7 = j7
              case neg =>
                have HR : Hid (R = false) := (Bool.eq_false_iff.mpr (fun hs => e7 (by have hsp := HH.out.mp hs; simp only [Ro.R.mk.injEq] at hsp; exact hsp.2.2.2.2.2.2.2.2.2.2)) : R = false)
                have eb7 : (i7 == j7) = false := by simpa using e7
                clear HH
                go_wp2
                go_ret
                exact ⟨by rw [HR.out]; simp [*], HU.out.trans (HW3.out.mono HU.out.size)⟩
              subst e7
              have HR : Hid (R = true) := (HH.out.mpr (by rw [Q0.out, Q1.out, Q2.out, Q3.out]) : R = true)
              clear HH Q0 Q1 Q2 Q3
              go_wp2
              go_ret
              exact ⟨by rw [HR.out]; simp [*], HU.out.trans (HW3.out.mono HU.out.size)⟩
end Go.Proofs.YtmodogmjfbcddaaGreat
