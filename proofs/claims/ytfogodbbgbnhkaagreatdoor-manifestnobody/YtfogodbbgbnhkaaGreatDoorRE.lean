/- Whether a roster may be: the program's Check. -/
import Derived.Test.YtfogodbbgbnhkaaGreatDoorRD
namespace Go.Proofs.YtfogodbbgbnhkaaGreatDoor
open Go.RowKit

theorem box11 {w W : World} {v0 v1 v2 v3 v4 v5 v6 v7 v8 v9 v10 : Value} {e : TypeId} (hb : Below (w.alloc (.cells #[v0, v1, v2, v3, v4, v5, v6, v7, v8, v9, v10] e)).heap.size (w.alloc (.cells #[v0, v1, v2, v3, v4, v5, v6, v7, v8, v9, v10] e)) W) :
    W.cell? ⟨w.heap.size, 0, none⟩ = some v0 ∧ W.cell? ⟨w.heap.size, 1, none⟩ = some v1 ∧ W.cell? ⟨w.heap.size, 2, none⟩ = some v2 ∧ W.cell? ⟨w.heap.size, 3, none⟩ = some v3 ∧ W.cell? ⟨w.heap.size, 4, none⟩ = some v4 ∧ W.cell? ⟨w.heap.size, 5, none⟩ = some v5 ∧ W.cell? ⟨w.heap.size, 6, none⟩ = some v6 ∧ W.cell? ⟨w.heap.size, 7, none⟩ = some v7 ∧ W.cell? ⟨w.heap.size, 8, none⟩ = some v8 ∧ W.cell? ⟨w.heap.size, 9, none⟩ = some v9 ∧ W.cell? ⟨w.heap.size, 10, none⟩ = some v10 := by
  have h : ∀ i, W.cell? ⟨w.heap.size, i, none⟩ = _ := fun i => (hb.cell (p := ⟨w.heap.size, i, none⟩) (by simp)).trans (cell_new w _ e i)
  exact ⟨h 0, h 1, h 2, h 3, h 4, h 5, h 6, h 7, h 8, h 9, h 10⟩

set_option maxRecDepth 100000 in
set_option maxHeartbeats 2000000 in
theorem rstills_any (a : Option Addr) (n c : Nat) (l : List (Int × Int × Int)) (mark : Int) (w : World) (hn : n ≤ 1000000) (hr : KRow w a n l) (R : Bool) (hR : R = Ro.stillsMay l mark) :
    Calls Tryz.prog 61 #[.slice a n c, .int .i64 mark] w fun e w' => e = .returned (.bool R) ∧ Below w.heap.size w w' := by
  have hll : Hid (l.length = n) := hr.1
  by_cases h : 4 < n
  · have d1 : decide ((4 : Int) < (n : Int)) = true := by simp; omega
    have HR2 : Hid (R = false) := (by rw [hR, Ro.stillsMay, hll.out]; simp [show ¬ n ≤ 4 by omega] : _ = _)
    clear hR
    go_enter Tryz.func61, Tryz.ntmps61
    go_wp2
    go_ret
    exact ⟨by rw [HR2.out]; rfl, Below.refl _ _⟩
  · have d1 : decide ((4 : Int) < (n : Int)) = false := by simp; omega
    have HR : Hid (R = ((l.drop 0).all (fun x => decide (x.2.1 ≤ mark) && Ro.cnt x.2.2) && (Ro.rise (l.map (·.2.1)) && Ro.differ (l.map (·.1))))) := (by rw [hR, Ro.stillsMay, hll.out]; simp [show n ≤ 4 by omega] : _ = _)
    have hnum := fun W hW => rkidxs a n c l W hn (hr.below hW (Nat.le_refl _))
    have hnum2 := fun W hW => rknums a n c l W hn (hr.below hW (Nat.le_refl _))
    have hm1 : (l.map (·.2.1)).length = n := by rw [List.length_map]; exact hr.1
    have hm2 : (l.map (·.1)).length = n := by rw [List.length_map]; exact hr.1
    unfold ZRes at hnum hnum2
    rw [hm1] at hnum
    rw [hm2] at hnum2
    have hri := fun g c W h => rrise_any g n c (l.map (·.2.1)) W hn h (Ro.rise (l.map (·.2.1))) rfl
    have hdi := fun g c W h => rdiffer_any g n c (l.map (·.1)) hn W h (Ro.differ (l.map (·.1))) rfl
    generalize l.map (·.1) = M2 at *
    generalize l.map (·.2.1) = M at *
    have hcn := fun z W => rcnt_any z (Ro.cnt z) rfl W
    clear hR hm1 hm2 h
    go_enter Tryz.func61, Tryz.ntmps61
    go_wp2
    go_loopw [12] (fun i wr => ∃ (k : Nat), k ≤ n ∧ i = .int .i64 k ∧ Hid (R = ((l.drop k).all (fun x => decide (x.2.1 ≤ mark) && Ro.cnt x.2.2) && (Ro.rise M && Ro.differ M2))) ∧ Below w.heap.size w wr) (fun i _ => n - (intOf i).toNat)
    case atStart => exact ⟨0, by omega, rfl, HR, Below.refl _ _⟩
    case round =>
      obtain ⟨k, hk, rfl, H, hbel⟩ := hrel
      by_cases hlt : k < n
      · obtain ⟨b, off, x, y, z, rfl, hx, q0, q1, q2⟩ := kget hr hbel hlt
        have hk' : k < l.length := by rw [hll.out]; exact hlt
        have H2 : Hid (R = (((decide (y ≤ mark) && Ro.cnt z) && (l.drop (k + 1)).all (fun x => decide (x.2.1 ≤ mark) && Ro.cnt x.2.2)) && (Ro.rise M && Ro.differ M2))) := (by rw [H.out, gdrop (0, 0, 0) hk', hx.out]; rfl : R = _)
        have i0 : (0 : Int) ≤ (k : Int) := by omega
        have i1 : (k : Int) < (n : Int) := by omega
        have hcz := fun W => hcn z W
        have c0 := cell_new wr #[.int .i64 x, .int .i64 y, .int .i64 z] 66
        have hb2 := hbel.alloc hbel.size (.cells #[.int .i64 x, .int .i64 y, .int .i64 z] 66)
        clear hx H HR hcn hnum hnum2 hri hdi
        by_cases h1 : mark < y
        · have HF : Hid (R = false) := (by rw [H2.out]; simp [Int.not_le.mpr h1] : R = false)
          have d2 : decide (mark < y) = true := by simpa using h1
          clear H2
          go_wp2_with (go_at_call 119; go_must (refine (hcz _).mono ?_; rintro e w3 ⟨rfl, rfl⟩))
          go_ret
          exact ⟨by rw [HF.out]; rfl, hb2⟩
        · have d2 : decide (mark < y) = false := by simpa using h1
          cases hq : Ro.cnt z with
          | false =>
            have HF : Hid (R = false) := (by rw [H2.out, hq]; simp : R = false)
            rw [hq] at hcz
            clear H2 hq
            go_wp2_with (go_at_call 119; go_must (refine (hcz _).mono ?_; rintro e w3 ⟨rfl, rfl⟩))
            go_ret
            exact ⟨by rw [HF.out]; rfl, hb2⟩
          | true =>
            have H3 : Hid (R = ((l.drop (k + 1)).all (fun x => decide (x.2.1 ≤ mark) && Ro.cnt x.2.2) && (Ro.rise M && Ro.differ M2))) := (by rw [H2.out, hq]; simp [Int.not_lt.mp h1] : R = _)
            rw [hq] at hcz
            clear H2 hq
            go_wp2_with (go_at_call 119; go_must (refine (hcz _).mono ?_; rintro e w3 ⟨rfl, rfl⟩))
            go_roundw
            case rel => exact ⟨k + 1, by omega, by go_num, H3, hb2⟩
            case measure => simp [intOf]; omega
      · obtain rfl : k = n := by omega
        have HE : Hid (R = (Ro.rise M && Ro.differ M2)) := (by rw [H.out, List.drop_of_length_le (by rw [hll.out]; exact Nat.le_refl _)]; rfl : R = _)
        clear H HR hcn
        generalize Ro.differ M2 = q2 at *
        generalize Ro.rise M = q1 at *
        cases q1 with
        | false =>
          go_wp2_with (first
            | (go_at_call 120; go_must (refine (hnum _ hbel).mono ?_; rintro e w1 ⟨g1, gc1, rfl, hown1, hb1⟩; have hB1 := hbel.trans (hb1.mono hbel.size)))
            | (go_at_call 111; go_must (refine (hri _ _ _ (trow_of_owns zeE hown1 (by omega) (by omega))).mono ?_; rintro e w2 ⟨rfl, hb2⟩; have hB2 := hB1.trans (hb2.mono hB1.size))))
          go_ret
          exact ⟨by rw [HE.out]; rfl, hB2⟩
        | true =>
          go_wp2_with (first
            | (go_at_call 120; first
                | (have := hB2; refine (hnum2 _ hB2).mono ?_; rintro e w3 ⟨g3, gc3, rfl, hown3, hb3⟩; have hB3 := hB2.trans (hb3.mono hB2.size))
                | (go_must (refine (hnum _ hbel).mono ?_; rintro e w1 ⟨g1, gc1, rfl, hown1, hb1⟩; have hB1 := hbel.trans (hb1.mono hbel.size))))
            | (go_at_call 111; go_must (refine (hri _ _ _ (trow_of_owns zeE hown1 (by omega) (by omega))).mono ?_; rintro e w2 ⟨rfl, hb2⟩; have hB2 := hB1.trans (hb2.mono hB1.size)))
            | (go_at_call 115; go_must (refine (hdi _ _ _ (trow_of_owns zeE hown3 (by omega) (by omega))).mono ?_; rintro e w4 ⟨rfl, hb4⟩; have hB4 := hB3.trans (hb4.mono hB3.size))))
          go_ret
          exact ⟨by rw [HE.out]; rfl, hB4⟩

set_option maxRecDepth 100000 in
set_option maxHeartbeats 2000000 in
theorem rplace_any (a1 : Option Addr) (n1 c1 : Nat) (a2 : Option Addr) (n2 c2 : Nat) (a3 : Option Addr) (n3 c3 : Nat) (a4 : Option Addr) (n4 c4 : Nat) (i1 i2 i3 i4 i5 i6 i7 : Int) (w : World) (q : Bool) (hq : q = ((Ro.cnt i2 && Ro.cnt i3) || (decide (i2 = 0) && decide (i3 = 0)))) :
    Calls Tryz.prog 123 #[.agg #[.slice a1 n1 c1, .slice a2 n2 c2, .slice a3 n3 c3, .slice a4 n4 c4, .int .i64 i1, .int .i64 i2, .int .i64 i3, .int .i64 i4, .int .i64 i5, .int .i64 i6, .int .i64 i7]] w fun e w' => e = .returned (.bool q) ∧ Below w.heap.size w w' := by
  have hbx := box11 (Below.refl _ (w.alloc (.cells #[.slice a1 n1 c1, .slice a2 n2 c2, .slice a3 n3 c3, .slice a4 n4 c4, .int .i64 i1, .int .i64 i2, .int .i64 i3, .int .i64 i4, .int .i64 i5, .int .i64 i6, .int .i64 i7] 34)))
  obtain ⟨k0, k1, k2, k3, k4, k5, k6, k7, k8, k9, k10⟩ := hbx
  have hc2 := fun W => rcnt_any i2 (Ro.cnt i2) rfl W
  have hc3 := fun W => rcnt_any i3 (Ro.cnt i3) rfl W
  generalize Ro.cnt i2 = b2 at *
  generalize Ro.cnt i3 = b3 at *
  have HQ : Hid (q = ((b2 && b3) || (decide (i2 = 0) && decide (i3 = 0)))) := hq
  have tok : Hid (0 = 0) := (rfl : 0 = 0)
  clear hq k0 k1 k2 k3 k4 k7 k8 k9 k10
  by_cases z2 : i2 = 0
  · subst z2
    by_cases z3 : i3 = 0
    · subst z3
      rcases b2 with _ | _ <;> rcases b3 with _ | _
      · go_enter Tryz.func123, Tryz.ntmps123
        go_wp2_with (go_at_call 119; first | (clear tok; refine (hc2 _).mono ?_; rintro e w2 ⟨rfl, rfl⟩) | (refine (hc3 _).mono ?_; rintro e w2 ⟨rfl, rfl⟩))
        go_ret
        exact ⟨by rw [HQ.out]; simp, below_alloc _ _⟩
      · go_enter Tryz.func123, Tryz.ntmps123
        go_wp2_with (go_at_call 119; first | (clear tok; refine (hc2 _).mono ?_; rintro e w2 ⟨rfl, rfl⟩) | (refine (hc3 _).mono ?_; rintro e w2 ⟨rfl, rfl⟩))
        go_ret
        exact ⟨by rw [HQ.out]; simp, below_alloc _ _⟩
      · go_enter Tryz.func123, Tryz.ntmps123
        go_wp2_with (go_at_call 119; first | (clear tok; refine (hc2 _).mono ?_; rintro e w2 ⟨rfl, rfl⟩) | (refine (hc3 _).mono ?_; rintro e w2 ⟨rfl, rfl⟩))
        go_ret
        exact ⟨by rw [HQ.out]; simp, below_alloc _ _⟩
      · go_enter Tryz.func123, Tryz.ntmps123
        go_wp2_with (go_at_call 119; first | (clear tok; refine (hc2 _).mono ?_; rintro e w2 ⟨rfl, rfl⟩) | (refine (hc3 _).mono ?_; rintro e w2 ⟨rfl, rfl⟩))
        go_ret
        exact ⟨by rw [HQ.out]; simp, below_alloc _ _⟩
    · have e3 : (i3 == 0) = false := by simpa using z3
      rcases b2 with _ | _ <;> rcases b3 with _ | _
      · go_enter Tryz.func123, Tryz.ntmps123
        go_wp2_with (go_at_call 119; first | (clear tok; refine (hc2 _).mono ?_; rintro e w2 ⟨rfl, rfl⟩) | (refine (hc3 _).mono ?_; rintro e w2 ⟨rfl, rfl⟩))
        go_ret
        exact ⟨by rw [HQ.out]; simp [z3], below_alloc _ _⟩
      · go_enter Tryz.func123, Tryz.ntmps123
        go_wp2_with (go_at_call 119; first | (clear tok; refine (hc2 _).mono ?_; rintro e w2 ⟨rfl, rfl⟩) | (refine (hc3 _).mono ?_; rintro e w2 ⟨rfl, rfl⟩))
        go_ret
        exact ⟨by rw [HQ.out]; simp [z3], below_alloc _ _⟩
      · go_enter Tryz.func123, Tryz.ntmps123
        go_wp2_with (go_at_call 119; first | (clear tok; refine (hc2 _).mono ?_; rintro e w2 ⟨rfl, rfl⟩) | (refine (hc3 _).mono ?_; rintro e w2 ⟨rfl, rfl⟩))
        go_ret
        exact ⟨by rw [HQ.out]; simp [z3], below_alloc _ _⟩
      · go_enter Tryz.func123, Tryz.ntmps123
        go_wp2_with (go_at_call 119; first | (clear tok; refine (hc2 _).mono ?_; rintro e w2 ⟨rfl, rfl⟩) | (refine (hc3 _).mono ?_; rintro e w2 ⟨rfl, rfl⟩))
        go_ret
        exact ⟨by rw [HQ.out]; simp [z3], below_alloc _ _⟩
  · have e2 : (i2 == 0) = false := by simpa using z2
    rcases b2 with _ | _ <;> rcases b3 with _ | _
    · go_enter Tryz.func123, Tryz.ntmps123
      go_wp2_with (go_at_call 119; first | (clear tok; refine (hc2 _).mono ?_; rintro e w2 ⟨rfl, rfl⟩) | (refine (hc3 _).mono ?_; rintro e w2 ⟨rfl, rfl⟩))
      go_ret
      exact ⟨by rw [HQ.out]; simp [z2], below_alloc _ _⟩
    · go_enter Tryz.func123, Tryz.ntmps123
      go_wp2_with (go_at_call 119; first | (clear tok; refine (hc2 _).mono ?_; rintro e w2 ⟨rfl, rfl⟩) | (refine (hc3 _).mono ?_; rintro e w2 ⟨rfl, rfl⟩))
      go_ret
      exact ⟨by rw [HQ.out]; simp [z2], below_alloc _ _⟩
    · go_enter Tryz.func123, Tryz.ntmps123
      go_wp2_with (go_at_call 119; first | (clear tok; refine (hc2 _).mono ?_; rintro e w2 ⟨rfl, rfl⟩) | (refine (hc3 _).mono ?_; rintro e w2 ⟨rfl, rfl⟩))
      go_ret
      exact ⟨by rw [HQ.out]; simp [z2], below_alloc _ _⟩
    · go_enter Tryz.func123, Tryz.ntmps123
      go_wp2_with (go_at_call 119; first | (clear tok; refine (hc2 _).mono ?_; rintro e w2 ⟨rfl, rfl⟩) | (refine (hc3 _).mono ?_; rintro e w2 ⟨rfl, rfl⟩))
      go_ret
      exact ⟨by rw [HQ.out]; simp [z2], below_alloc _ _⟩

set_option maxRecDepth 100000 in
set_option maxHeartbeats 4000000 in
theorem rrest_any (a1 : Option Addr) (n1 c1 : Nat) (a2 : Option Addr) (n2 c2 : Nat) (a3 : Option Addr) (n3 c3 : Nat) (a4 : Option Addr) (n4 c4 : Nat) (i1 i2 i3 i4 i5 i6 i7 : Int) (w : World) (b1 b2 b3 b4 b5 b6 b7 : Bool) (h1 : b1 = Ro.cnt i1) (h2 : b2 = Ro.cz i7) (h3 : b3 = ((Ro.cnt i2 && Ro.cnt i3) || (decide (i2 = 0) && decide (i3 = 0)))) (h4 : b4 = decide (i2 ≤ i7)) (h5 : b5 = Ro.cz i4) (h6 : b6 = Ro.cz i5) (h7 : b7 = Ro.cz i6) (q : Bool) (hq : q = (b1 && (b2 && (b3 && (b4 && (b5 && (b6 && b7))))))) :
    Calls Tryz.prog 62 #[.agg #[.slice a1 n1 c1, .slice a2 n2 c2, .slice a3 n3 c3, .slice a4 n4 c4, .int .i64 i1, .int .i64 i2, .int .i64 i3, .int .i64 i4, .int .i64 i5, .int .i64 i6, .int .i64 i7]] w fun e w' => e = .returned (.bool q) ∧ Below w.heap.size w w' := by
  have hbx := fun W h => @box11 w W (.slice a1 n1 c1) (.slice a2 n2 c2) (.slice a3 n3 c3) (.slice a4 n4 c4) (.int .i64 i1) (.int .i64 i2) (.int .i64 i3) (.int .i64 i4) (.int .i64 i5) (.int .i64 i6) (.int .i64 i7) 34 h
  obtain ⟨k0, k1, k2, k3, k4, k5, k6, k7, k8, k9, k10⟩ := hbx _ (Below.refl _ _)
  have HB : Hid (Below w.heap.size w (w.alloc (.cells #[.slice a1 n1 c1, .slice a2 n2 c2, .slice a3 n3 c3, .slice a4 n4 c4, .int .i64 i1, .int .i64 i2, .int .i64 i3, .int .i64 i4, .int .i64 i5, .int .i64 i6, .int .i64 i7] 34))) := below_alloc _ _
  have hc1 := fun W => rcnt_any i1 b1 h1 W
  have hc2 := fun W => rcz_any i7 b2 h2 W
  have hc3 := fun W => rplace_any a1 n1 c1 a2 n2 c2 a3 n3 c3 a4 n4 c4 i1 i2 i3 i4 i5 i6 i7 W b3 h3
  have hc5 := fun W => rcz_any i4 b5 h5 W
  have hc6 := fun W => rcz_any i5 b6 h6 W
  have hc7 := fun W => rcz_any i6 b7 h7 W
  have HQ : Hid (q = (b1 && (b2 && (b3 && (b4 && (b5 && (b6 && b7))))))) := hq
  have d4 : decide (i2 ≤ i7) = b4 := h4.symm
  have HV : Hid (∀ W, Below (w.alloc (.cells #[.slice a1 n1 c1, .slice a2 n2 c2, .slice a3 n3 c3, .slice a4 n4 c4, .int .i64 i1, .int .i64 i2, .int .i64 i3, .int .i64 i4, .int .i64 i5, .int .i64 i6, .int .i64 i7] 34)).heap.size (w.alloc (.cells #[.slice a1 n1 c1, .slice a2 n2 c2, .slice a3 n3 c3, .slice a4 n4 c4, .int .i64 i1, .int .i64 i2, .int .i64 i3, .int .i64 i4, .int .i64 i5, .int .i64 i6, .int .i64 i7] 34)) W → _) := (hbx : ∀ W, Below (w.alloc (.cells #[.slice a1 n1 c1, .slice a2 n2 c2, .slice a3 n3 c3, .slice a4 n4 c4, .int .i64 i1, .int .i64 i2, .int .i64 i3, .int .i64 i4, .int .i64 i5, .int .i64 i6, .int .i64 i7] 34)).heap.size (w.alloc (.cells #[.slice a1 n1 c1, .slice a2 n2 c2, .slice a3 n3 c3, .slice a4 n4 c4, .int .i64 i1, .int .i64 i2, .int .i64 i3, .int .i64 i4, .int .i64 i5, .int .i64 i6, .int .i64 i7] 34)) W → _)
  have ta : Hid (0 = 0) := (rfl : 0 = 0)
  have tb : Hid (0 = 0) := (rfl : 0 = 0)
  have tc : Hid (0 = 0) := (rfl : 0 = 0)
  clear hq h1 h2 h3 h4 h5 h6 h7 hbx
  cases b1 with
  | false =>
    go_enter Tryz.func62, Tryz.ntmps62
    go_wp2_with (first
      | (go_at_call 119; go_must (refine (hc1 _).mono ?_; rintro e w1 ⟨rfl, rfl⟩))
      | (go_at_call 123; go_must (refine (hc3 _).mono ?_; rintro e w3 ⟨rfl, hb3⟩; clear k0 k1 k2 k3 k4 k5 k6 k7 k8 k9 k10; obtain ⟨k0, k1, k2, k3, k4, k5, k6, k7, k8, k9, k10⟩ := HV.out _ hb3))
      | (go_at_call 122; first | (clear ta; refine (hc2 _).mono ?_; rintro e w2 ⟨rfl, rfl⟩) | (clear tb; refine (hc5 _).mono ?_; rintro e w2 ⟨rfl, rfl⟩) | (clear tc; refine (hc6 _).mono ?_; rintro e w2 ⟨rfl, rfl⟩) | (refine (hc7 _).mono ?_; rintro e w2 ⟨rfl, rfl⟩)))
    go_ret
    exact ⟨by rw [HQ.out]; rfl, HB.out⟩
  | true =>
    cases b2 with
    | false =>
      go_enter Tryz.func62, Tryz.ntmps62
      go_wp2_with (first
        | (go_at_call 119; go_must (refine (hc1 _).mono ?_; rintro e w1 ⟨rfl, rfl⟩))
        | (go_at_call 123; go_must (refine (hc3 _).mono ?_; rintro e w3 ⟨rfl, hb3⟩; clear k0 k1 k2 k3 k4 k5 k6 k7 k8 k9 k10; obtain ⟨k0, k1, k2, k3, k4, k5, k6, k7, k8, k9, k10⟩ := HV.out _ hb3))
        | (go_at_call 122; first | (clear ta; refine (hc2 _).mono ?_; rintro e w2 ⟨rfl, rfl⟩) | (clear tb; refine (hc5 _).mono ?_; rintro e w2 ⟨rfl, rfl⟩) | (clear tc; refine (hc6 _).mono ?_; rintro e w2 ⟨rfl, rfl⟩) | (refine (hc7 _).mono ?_; rintro e w2 ⟨rfl, rfl⟩)))
      go_ret
      exact ⟨by rw [HQ.out]; rfl, HB.out⟩
    | true =>
      cases b3 with
      | false =>
        go_enter Tryz.func62, Tryz.ntmps62
        go_wp2_with (first
          | (go_at_call 119; go_must (refine (hc1 _).mono ?_; rintro e w1 ⟨rfl, rfl⟩))
          | (go_at_call 123; go_must (refine (hc3 _).mono ?_; rintro e w3 ⟨rfl, hb3⟩; clear k0 k1 k2 k3 k4 k5 k6 k7 k8 k9 k10; obtain ⟨k0, k1, k2, k3, k4, k5, k6, k7, k8, k9, k10⟩ := HV.out _ hb3))
          | (go_at_call 122; first | (clear ta; refine (hc2 _).mono ?_; rintro e w2 ⟨rfl, rfl⟩) | (clear tb; refine (hc5 _).mono ?_; rintro e w2 ⟨rfl, rfl⟩) | (clear tc; refine (hc6 _).mono ?_; rintro e w2 ⟨rfl, rfl⟩) | (refine (hc7 _).mono ?_; rintro e w2 ⟨rfl, rfl⟩)))
        go_ret
        exact ⟨by rw [HQ.out]; rfl, HB.out.trans (hb3.mono HB.out.size)⟩
      | true =>
        cases b4 with
        | false =>
          go_enter Tryz.func62, Tryz.ntmps62
          go_wp2_with (first
            | (go_at_call 119; go_must (refine (hc1 _).mono ?_; rintro e w1 ⟨rfl, rfl⟩))
            | (go_at_call 123; go_must (refine (hc3 _).mono ?_; rintro e w3 ⟨rfl, hb3⟩; clear k0 k1 k2 k3 k4 k5 k6 k7 k8 k9 k10; obtain ⟨k0, k1, k2, k3, k4, k5, k6, k7, k8, k9, k10⟩ := HV.out _ hb3))
            | (go_at_call 122; first | (clear ta; refine (hc2 _).mono ?_; rintro e w2 ⟨rfl, rfl⟩) | (clear tb; refine (hc5 _).mono ?_; rintro e w2 ⟨rfl, rfl⟩) | (clear tc; refine (hc6 _).mono ?_; rintro e w2 ⟨rfl, rfl⟩) | (refine (hc7 _).mono ?_; rintro e w2 ⟨rfl, rfl⟩)))
          go_ret
          exact ⟨by rw [HQ.out]; rfl, HB.out.trans (hb3.mono HB.out.size)⟩
        | true =>
          cases b5 with
          | false =>
            go_enter Tryz.func62, Tryz.ntmps62
            go_wp2_with (first
              | (go_at_call 119; go_must (refine (hc1 _).mono ?_; rintro e w1 ⟨rfl, rfl⟩))
              | (go_at_call 123; go_must (refine (hc3 _).mono ?_; rintro e w3 ⟨rfl, hb3⟩; clear k0 k1 k2 k3 k4 k5 k6 k7 k8 k9 k10; obtain ⟨k0, k1, k2, k3, k4, k5, k6, k7, k8, k9, k10⟩ := HV.out _ hb3))
              | (go_at_call 122; first | (clear ta; refine (hc2 _).mono ?_; rintro e w2 ⟨rfl, rfl⟩) | (clear tb; refine (hc5 _).mono ?_; rintro e w2 ⟨rfl, rfl⟩) | (clear tc; refine (hc6 _).mono ?_; rintro e w2 ⟨rfl, rfl⟩) | (refine (hc7 _).mono ?_; rintro e w2 ⟨rfl, rfl⟩)))
            go_ret
            exact ⟨by rw [HQ.out]; rfl, HB.out.trans (hb3.mono HB.out.size)⟩
          | true =>
            cases b6 with
            | false =>
              go_enter Tryz.func62, Tryz.ntmps62
              go_wp2_with (first
                | (go_at_call 119; go_must (refine (hc1 _).mono ?_; rintro e w1 ⟨rfl, rfl⟩))
                | (go_at_call 123; go_must (refine (hc3 _).mono ?_; rintro e w3 ⟨rfl, hb3⟩; clear k0 k1 k2 k3 k4 k5 k6 k7 k8 k9 k10; obtain ⟨k0, k1, k2, k3, k4, k5, k6, k7, k8, k9, k10⟩ := HV.out _ hb3))
                | (go_at_call 122; first | (clear ta; refine (hc2 _).mono ?_; rintro e w2 ⟨rfl, rfl⟩) | (clear tb; refine (hc5 _).mono ?_; rintro e w2 ⟨rfl, rfl⟩) | (clear tc; refine (hc6 _).mono ?_; rintro e w2 ⟨rfl, rfl⟩) | (refine (hc7 _).mono ?_; rintro e w2 ⟨rfl, rfl⟩)))
              go_ret
              exact ⟨by rw [HQ.out]; rfl, HB.out.trans (hb3.mono HB.out.size)⟩
            | true =>
              cases b7 with
              | false =>
                go_enter Tryz.func62, Tryz.ntmps62
                go_wp2_with (first
                  | (go_at_call 119; go_must (refine (hc1 _).mono ?_; rintro e w1 ⟨rfl, rfl⟩))
                  | (go_at_call 123; go_must (refine (hc3 _).mono ?_; rintro e w3 ⟨rfl, hb3⟩; clear k0 k1 k2 k3 k4 k5 k6 k7 k8 k9 k10; obtain ⟨k0, k1, k2, k3, k4, k5, k6, k7, k8, k9, k10⟩ := HV.out _ hb3))
                  | (go_at_call 122; first | (clear ta; refine (hc2 _).mono ?_; rintro e w2 ⟨rfl, rfl⟩) | (clear tb; refine (hc5 _).mono ?_; rintro e w2 ⟨rfl, rfl⟩) | (clear tc; refine (hc6 _).mono ?_; rintro e w2 ⟨rfl, rfl⟩) | (refine (hc7 _).mono ?_; rintro e w2 ⟨rfl, rfl⟩)))
                go_ret
                exact ⟨by rw [HQ.out]; rfl, HB.out.trans (hb3.mono HB.out.size)⟩
              | true =>
                go_enter Tryz.func62, Tryz.ntmps62
                go_wp2_with (first
                  | (go_at_call 119; go_must (refine (hc1 _).mono ?_; rintro e w1 ⟨rfl, rfl⟩))
                  | (go_at_call 123; go_must (refine (hc3 _).mono ?_; rintro e w3 ⟨rfl, hb3⟩; clear k0 k1 k2 k3 k4 k5 k6 k7 k8 k9 k10; obtain ⟨k0, k1, k2, k3, k4, k5, k6, k7, k8, k9, k10⟩ := HV.out _ hb3))
                  | (go_at_call 122; first | (clear ta; refine (hc2 _).mono ?_; rintro e w2 ⟨rfl, rfl⟩) | (clear tb; refine (hc5 _).mono ?_; rintro e w2 ⟨rfl, rfl⟩) | (clear tc; refine (hc6 _).mono ?_; rintro e w2 ⟨rfl, rfl⟩) | (refine (hc7 _).mono ?_; rintro e w2 ⟨rfl, rfl⟩)))
                go_ret
                exact ⟨by rw [HQ.out]; rfl, HB.out.trans (hb3.mono HB.out.size)⟩

set_option maxRecDepth 100000 in
set_option maxHeartbeats 4000000 in
theorem rcheck_any (r : Ro.R) (a1 : Option Addr) (n1 c1 : Nat) (a2 : Option Addr) (n2 c2 : Nat) (a3 : Option Addr) (n3 c3 : Nat) (a4 : Option Addr) (n4 c4 : Nat) (w : World) (hn1 : n1 ≤ 1000000) (hn2 : n2 ≤ 1000000) (hn4 : n4 ≤ 1000000) (hc : n3 ≤ c3) (h1 : ZRow w a1 n1 r.segs) (h2 : MRow w a2 n2 r.moves) (h3 : LRow w a3 n3 r.tabs) (h4 : KRow w a4 n4 r.stills) (R : Int) (hR : R = if Ro.check r = true then 0 else 1) :
    Calls Tryz.prog 28 #[.agg #[.slice a1 n1 c1, .slice a2 n2 c2, .slice a3 n3 c3, .slice a4 n4 c4, .int .i64 r.log, .int .i64 r.index, .int .i64 r.term, .int .i64 r.ht, .int .i64 r.hv, .int .i64 r.hc, .int .i64 r.mark]] w fun e w' => e = .returned (.int .i64 R) ∧ Below w.heap.size w w' := by
  have hbx := fun W h => @box11 w W (.slice a1 n1 c1) (.slice a2 n2 c2) (.slice a3 n3 c3) (.slice a4 n4 c4) (.int .i64 r.log) (.int .i64 r.index) (.int .i64 r.term) (.int .i64 r.ht) (.int .i64 r.hv) (.int .i64 r.hc) (.int .i64 r.mark) 34 h
  have hb0 := below_alloc w (.cells #[.slice a1 n1 c1, .slice a2 n2 c2, .slice a3 n3 c3, .slice a4 n4 c4, .int .i64 r.log, .int .i64 r.index, .int .i64 r.term, .int .i64 r.ht, .int .i64 r.hv, .int .i64 r.hc, .int .i64 r.mark] 34)
  have s1 := fun W hW => rsegs_any a1 n1 c1 r.segs W hn1 (h1.below hW (Nat.le_refl _)) _ rfl
  have s2 := fun W hW => rmoves_any a2 n2 c2 r.moves a1 n1 c1 r.segs W hn2 hn1 (h2.below hW (Nat.le_refl _)) (h1.below hW (Nat.le_refl _)) _ rfl
  have s3 := fun R' hR' W hW => lcheck_any a3 n3 c3 r.tabs W hc (h3.below hW (Nat.le_refl _)) R' hR'
  have s4 := fun W hW => rstills_any a4 n4 c4 r.stills r.mark W hn4 (h4.below hW (Nat.le_refl _)) _ rfl
  have s5 := fun W => rrest_any a1 n1 c1 a2 n2 c2 a3 n3 c3 a4 n4 c4 r.log r.index r.term r.ht r.hv r.hc r.mark W _ _ _ _ _ _ _ rfl rfl rfl rfl rfl rfl rfl (Ro.restMay r) rfl
  have HR : Hid (R = if (Ro.segsMay r.segs && (Ro.movesMay r.moves r.segs && (Lv.may r.tabs && (Ro.stillsMay r.stills r.mark && Ro.restMay r)))) = true then 0 else 1) := (hR : R = _)
  generalize Ro.segsMay r.segs = b1 at *
  generalize Ro.movesMay r.moves r.segs = b2 at *
  generalize Lv.may r.tabs = b3 at *
  generalize Ro.stillsMay r.stills r.mark = b4 at *
  generalize Ro.restMay r = b5 at *
  obtain ⟨r1, r2, r3, r4, x1, x2, x3, x4, x5, x6, x7⟩ := r
  dsimp only at *
  clear hR h1 h2 h3 h4
  obtain ⟨k0, k1, k2, k3, k4, k5, k6, k7, k8, k9, k10⟩ := hbx _ (Below.refl _ _)
  have HV : Hid (∀ W, Below (w.alloc (.cells #[.slice a1 n1 c1, .slice a2 n2 c2, .slice a3 n3 c3, .slice a4 n4 c4, .int .i64 x1, .int .i64 x2, .int .i64 x3, .int .i64 x4, .int .i64 x5, .int .i64 x6, .int .i64 x7] 34)).heap.size (w.alloc (.cells #[.slice a1 n1 c1, .slice a2 n2 c2, .slice a3 n3 c3, .slice a4 n4 c4, .int .i64 x1, .int .i64 x2, .int .i64 x3, .int .i64 x4, .int .i64 x5, .int .i64 x6, .int .i64 x7] 34)) W → _) := (hbx : ∀ W, Below (w.alloc (.cells #[.slice a1 n1 c1, .slice a2 n2 c2, .slice a3 n3 c3, .slice a4 n4 c4, .int .i64 x1, .int .i64 x2, .int .i64 x3, .int .i64 x4, .int .i64 x5, .int .i64 x6, .int .i64 x7] 34)).heap.size (w.alloc (.cells #[.slice a1 n1 c1, .slice a2 n2 c2, .slice a3 n3 c3, .slice a4 n4 c4, .int .i64 x1, .int .i64 x2, .int .i64 x3, .int .i64 x4, .int .i64 x5, .int .i64 x6, .int .i64 x7] 34)) W → _)
  clear hbx
  cases b1 with
  | false =>
    go_enter Tryz.func28, Tryz.ntmps28
    go_wp2_with (first
      | (go_at_call 58; go_must (refine (s1 _ hb0).mono ?_; rintro e w2 ⟨rfl, hb2⟩; clear k0 k1 k2 k3 k4 k5 k6 k7 k8 k9 k10; obtain ⟨k0, k1, k2, k3, k4, k5, k6, k7, k8, k9, k10⟩ := HV.out _ hb2; have B2 := hb0.trans (hb2.mono hb0.size)))
      | (go_at_call 59; go_must (refine (s2 _ B2).mono ?_; rintro e w3 ⟨rfl, hb3⟩; have g3 := hb2.trans (hb3.mono hb2.size); clear k0 k1 k2 k3 k4 k5 k6 k7 k8 k9 k10; obtain ⟨k0, k1, k2, k3, k4, k5, k6, k7, k8, k9, k10⟩ := HV.out _ g3; have B3 := hb0.trans (g3.mono hb0.size)))
      | (go_at_call 60; go_must (refine (s3 _ rfl _ B3).mono ?_; rintro e w4 ⟨rfl, hb4⟩; have g4 := g3.trans (hb4.mono g3.size); clear k0 k1 k2 k3 k4 k5 k6 k7 k8 k9 k10; obtain ⟨k0, k1, k2, k3, k4, k5, k6, k7, k8, k9, k10⟩ := HV.out _ g4; have B4 := hb0.trans (g4.mono hb0.size)))
      | (go_at_call 61; go_must (refine (s4 _ B4).mono ?_; rintro e w5 ⟨rfl, hb5⟩; have g5 := g4.trans (hb5.mono g4.size); clear k0 k1 k2 k3 k4 k5 k6 k7 k8 k9 k10; obtain ⟨k0, k1, k2, k3, k4, k5, k6, k7, k8, k9, k10⟩ := HV.out _ g5; have B5 := hb0.trans (g5.mono hb0.size)))
      | (go_at_call 62; go_must (refine (s5 _).mono ?_; rintro e w6 ⟨rfl, hb6⟩; have B6 := B5.trans (hb6.mono B5.size))))
    go_ret
    exact ⟨by rw [HR.out]; rfl, B2⟩
  | true =>
    cases b2 with
    | false =>
      go_enter Tryz.func28, Tryz.ntmps28
      go_wp2_with (first
        | (go_at_call 58; go_must (refine (s1 _ hb0).mono ?_; rintro e w2 ⟨rfl, hb2⟩; clear k0 k1 k2 k3 k4 k5 k6 k7 k8 k9 k10; obtain ⟨k0, k1, k2, k3, k4, k5, k6, k7, k8, k9, k10⟩ := HV.out _ hb2; have B2 := hb0.trans (hb2.mono hb0.size)))
        | (go_at_call 59; go_must (refine (s2 _ B2).mono ?_; rintro e w3 ⟨rfl, hb3⟩; have g3 := hb2.trans (hb3.mono hb2.size); clear k0 k1 k2 k3 k4 k5 k6 k7 k8 k9 k10; obtain ⟨k0, k1, k2, k3, k4, k5, k6, k7, k8, k9, k10⟩ := HV.out _ g3; have B3 := hb0.trans (g3.mono hb0.size)))
        | (go_at_call 60; go_must (refine (s3 _ rfl _ B3).mono ?_; rintro e w4 ⟨rfl, hb4⟩; have g4 := g3.trans (hb4.mono g3.size); clear k0 k1 k2 k3 k4 k5 k6 k7 k8 k9 k10; obtain ⟨k0, k1, k2, k3, k4, k5, k6, k7, k8, k9, k10⟩ := HV.out _ g4; have B4 := hb0.trans (g4.mono hb0.size)))
        | (go_at_call 61; go_must (refine (s4 _ B4).mono ?_; rintro e w5 ⟨rfl, hb5⟩; have g5 := g4.trans (hb5.mono g4.size); clear k0 k1 k2 k3 k4 k5 k6 k7 k8 k9 k10; obtain ⟨k0, k1, k2, k3, k4, k5, k6, k7, k8, k9, k10⟩ := HV.out _ g5; have B5 := hb0.trans (g5.mono hb0.size)))
        | (go_at_call 62; go_must (refine (s5 _).mono ?_; rintro e w6 ⟨rfl, hb6⟩; have B6 := B5.trans (hb6.mono B5.size))))
      go_ret
      exact ⟨by rw [HR.out]; rfl, B3⟩
    | true =>
      cases b3 with
      | false =>
        go_enter Tryz.func28, Tryz.ntmps28
        go_wp2_with (first
          | (go_at_call 58; go_must (refine (s1 _ hb0).mono ?_; rintro e w2 ⟨rfl, hb2⟩; clear k0 k1 k2 k3 k4 k5 k6 k7 k8 k9 k10; obtain ⟨k0, k1, k2, k3, k4, k5, k6, k7, k8, k9, k10⟩ := HV.out _ hb2; have B2 := hb0.trans (hb2.mono hb0.size)))
          | (go_at_call 59; go_must (refine (s2 _ B2).mono ?_; rintro e w3 ⟨rfl, hb3⟩; have g3 := hb2.trans (hb3.mono hb2.size); clear k0 k1 k2 k3 k4 k5 k6 k7 k8 k9 k10; obtain ⟨k0, k1, k2, k3, k4, k5, k6, k7, k8, k9, k10⟩ := HV.out _ g3; have B3 := hb0.trans (g3.mono hb0.size)))
          | (go_at_call 60; go_must (refine (s3 _ rfl _ B3).mono ?_; rintro e w4 ⟨rfl, hb4⟩; have g4 := g3.trans (hb4.mono g3.size); clear k0 k1 k2 k3 k4 k5 k6 k7 k8 k9 k10; obtain ⟨k0, k1, k2, k3, k4, k5, k6, k7, k8, k9, k10⟩ := HV.out _ g4; have B4 := hb0.trans (g4.mono hb0.size)))
          | (go_at_call 61; go_must (refine (s4 _ B4).mono ?_; rintro e w5 ⟨rfl, hb5⟩; have g5 := g4.trans (hb5.mono g4.size); clear k0 k1 k2 k3 k4 k5 k6 k7 k8 k9 k10; obtain ⟨k0, k1, k2, k3, k4, k5, k6, k7, k8, k9, k10⟩ := HV.out _ g5; have B5 := hb0.trans (g5.mono hb0.size)))
          | (go_at_call 62; go_must (refine (s5 _).mono ?_; rintro e w6 ⟨rfl, hb6⟩; have B6 := B5.trans (hb6.mono B5.size))))
        go_ret
        exact ⟨by rw [HR.out]; rfl, B4⟩
      | true =>
        cases b4 with
        | false =>
          go_enter Tryz.func28, Tryz.ntmps28
          go_wp2_with (first
            | (go_at_call 58; go_must (refine (s1 _ hb0).mono ?_; rintro e w2 ⟨rfl, hb2⟩; clear k0 k1 k2 k3 k4 k5 k6 k7 k8 k9 k10; obtain ⟨k0, k1, k2, k3, k4, k5, k6, k7, k8, k9, k10⟩ := HV.out _ hb2; have B2 := hb0.trans (hb2.mono hb0.size)))
            | (go_at_call 59; go_must (refine (s2 _ B2).mono ?_; rintro e w3 ⟨rfl, hb3⟩; have g3 := hb2.trans (hb3.mono hb2.size); clear k0 k1 k2 k3 k4 k5 k6 k7 k8 k9 k10; obtain ⟨k0, k1, k2, k3, k4, k5, k6, k7, k8, k9, k10⟩ := HV.out _ g3; have B3 := hb0.trans (g3.mono hb0.size)))
            | (go_at_call 60; go_must (refine (s3 _ rfl _ B3).mono ?_; rintro e w4 ⟨rfl, hb4⟩; have g4 := g3.trans (hb4.mono g3.size); clear k0 k1 k2 k3 k4 k5 k6 k7 k8 k9 k10; obtain ⟨k0, k1, k2, k3, k4, k5, k6, k7, k8, k9, k10⟩ := HV.out _ g4; have B4 := hb0.trans (g4.mono hb0.size)))
            | (go_at_call 61; go_must (refine (s4 _ B4).mono ?_; rintro e w5 ⟨rfl, hb5⟩; have g5 := g4.trans (hb5.mono g4.size); clear k0 k1 k2 k3 k4 k5 k6 k7 k8 k9 k10; obtain ⟨k0, k1, k2, k3, k4, k5, k6, k7, k8, k9, k10⟩ := HV.out _ g5; have B5 := hb0.trans (g5.mono hb0.size)))
            | (go_at_call 62; go_must (refine (s5 _).mono ?_; rintro e w6 ⟨rfl, hb6⟩; have B6 := B5.trans (hb6.mono B5.size))))
          go_ret
          exact ⟨by rw [HR.out]; rfl, B5⟩
        | true =>
          cases b5 with
          | false =>
            go_enter Tryz.func28, Tryz.ntmps28
            go_wp2_with (first
              | (go_at_call 58; go_must (refine (s1 _ hb0).mono ?_; rintro e w2 ⟨rfl, hb2⟩; clear k0 k1 k2 k3 k4 k5 k6 k7 k8 k9 k10; obtain ⟨k0, k1, k2, k3, k4, k5, k6, k7, k8, k9, k10⟩ := HV.out _ hb2; have B2 := hb0.trans (hb2.mono hb0.size)))
              | (go_at_call 59; go_must (refine (s2 _ B2).mono ?_; rintro e w3 ⟨rfl, hb3⟩; have g3 := hb2.trans (hb3.mono hb2.size); clear k0 k1 k2 k3 k4 k5 k6 k7 k8 k9 k10; obtain ⟨k0, k1, k2, k3, k4, k5, k6, k7, k8, k9, k10⟩ := HV.out _ g3; have B3 := hb0.trans (g3.mono hb0.size)))
              | (go_at_call 60; go_must (refine (s3 _ rfl _ B3).mono ?_; rintro e w4 ⟨rfl, hb4⟩; have g4 := g3.trans (hb4.mono g3.size); clear k0 k1 k2 k3 k4 k5 k6 k7 k8 k9 k10; obtain ⟨k0, k1, k2, k3, k4, k5, k6, k7, k8, k9, k10⟩ := HV.out _ g4; have B4 := hb0.trans (g4.mono hb0.size)))
              | (go_at_call 61; go_must (refine (s4 _ B4).mono ?_; rintro e w5 ⟨rfl, hb5⟩; have g5 := g4.trans (hb5.mono g4.size); clear k0 k1 k2 k3 k4 k5 k6 k7 k8 k9 k10; obtain ⟨k0, k1, k2, k3, k4, k5, k6, k7, k8, k9, k10⟩ := HV.out _ g5; have B5 := hb0.trans (g5.mono hb0.size)))
              | (go_at_call 62; go_must (refine (s5 _).mono ?_; rintro e w6 ⟨rfl, hb6⟩; have B6 := B5.trans (hb6.mono B5.size))))
            go_ret
            exact ⟨by rw [HR.out]; rfl, B6⟩
          | true =>
            go_enter Tryz.func28, Tryz.ntmps28
            go_wp2_with (first
              | (go_at_call 58; go_must (refine (s1 _ hb0).mono ?_; rintro e w2 ⟨rfl, hb2⟩; clear k0 k1 k2 k3 k4 k5 k6 k7 k8 k9 k10; obtain ⟨k0, k1, k2, k3, k4, k5, k6, k7, k8, k9, k10⟩ := HV.out _ hb2; have B2 := hb0.trans (hb2.mono hb0.size)))
              | (go_at_call 59; go_must (refine (s2 _ B2).mono ?_; rintro e w3 ⟨rfl, hb3⟩; have g3 := hb2.trans (hb3.mono hb2.size); clear k0 k1 k2 k3 k4 k5 k6 k7 k8 k9 k10; obtain ⟨k0, k1, k2, k3, k4, k5, k6, k7, k8, k9, k10⟩ := HV.out _ g3; have B3 := hb0.trans (g3.mono hb0.size)))
              | (go_at_call 60; go_must (refine (s3 _ rfl _ B3).mono ?_; rintro e w4 ⟨rfl, hb4⟩; have g4 := g3.trans (hb4.mono g3.size); clear k0 k1 k2 k3 k4 k5 k6 k7 k8 k9 k10; obtain ⟨k0, k1, k2, k3, k4, k5, k6, k7, k8, k9, k10⟩ := HV.out _ g4; have B4 := hb0.trans (g4.mono hb0.size)))
              | (go_at_call 61; go_must (refine (s4 _ B4).mono ?_; rintro e w5 ⟨rfl, hb5⟩; have g5 := g4.trans (hb5.mono g4.size); clear k0 k1 k2 k3 k4 k5 k6 k7 k8 k9 k10; obtain ⟨k0, k1, k2, k3, k4, k5, k6, k7, k8, k9, k10⟩ := HV.out _ g5; have B5 := hb0.trans (g5.mono hb0.size)))
              | (go_at_call 62; go_must (refine (s5 _).mono ?_; rintro e w6 ⟨rfl, hb6⟩; have B6 := B5.trans (hb6.mono B5.size))))
            go_ret
            exact ⟨by rw [HR.out]; rfl, B6⟩
end Go.Proofs.YtfogodbbgbnhkaaGreatDoor
