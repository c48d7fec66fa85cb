/- What the reference's Scan, Same and Sorted of items do. -/
import Derived.Test.YtpoocjffkhjeaaaTR3
import Derived.Deep.RegionWith
namespace Go.Proofs.Ytpoocjffkhjeaaa
open Go.RowKit

set_option maxRecDepth 100000 in
set_option maxHeartbeats 4000000 in
theorem iscan_any (w0 : World) (a : Option Addr) (len cap : Nat) (gs : List IH) (xs : List It.I) (lo hi : ByteArray) (most : Int) (w : World) (hlen : len ≤ 1000) (hr : TRow 8 ih ihz w a len gs) (hall : ItAll w0 gs xs) :
    Calls Try.prog 21 #[.slice a len cap, .string lo, .string hi, .int .i64 most] w (RowRes w w0 (It.scan xs (kb lo) (kb hi) most)) := by
  have hll : Hid (xs.length = len) := (hall.1.symm.trans hr.1 : xs.length = len)
  have Hall : Hid (ItAll w0 gs xs) := hall
  have hm0 := made_t (s := 8) (enc := ih) w (B := w.heap.size) (E := 40) (Nat.le_refl _) rfl
  have hb0 := below_alloc w (.cells #[] 40)
  obtain ⟨L, hL⟩ : ∃ L, L = It.scan xs (kb lo) (kb hi) most := ⟨_, rfl⟩
  rw [← hL]
  have HL : Hid (L = (xs.filter (It.inside (kb lo) (kb hi))).take most.toNat) := hL
  have hhi : hi.toList.isEmpty = decide (kb hi = []) := by rw [isEmpty_kb]; exact decide_eq_decide.mpr (kb_nil hi).symm
  clear hall hL
  obtain ⟨E0, hE0⟩ : ∃ E0, E0 = decide (kb hi = []) := ⟨_, rfl⟩
  rw [← hE0] at hhi
  have HE0 : Hid (E0 = decide (kb hi = [])) := hE0
  clear hE0
  go_enter Try.func21, Try.ntmps21
  go_wp2
  go_loopw [9, 10] (fun v i wr => ∃ (k m c : Nat) (g : Option Addr) (O : List IH) (P : List It.I), k ≤ len ∧ m ≤ k ∧ i = .int .i64 k ∧ v = .slice g m c ∧ m ≤ c ∧ (g = none → m = 0 ∧ c = 0) ∧ Hid (L = P ++ ((xs.drop k).filter (It.inside (kb lo) (kb hi))).take (most.toNat - m)) ∧ Hid (m ≤ most.toNat) ∧ Hid (P.length = m) ∧ Hid (ItAll w0 O P) ∧ wr.ownsRow w.heap.size 40 8 (.slice g m c) m (tcells ih O) ∧ Below w.heap.size w wr)
    (fun _ i _ => len - (intOf i).toNat)
  case atStart => exact ⟨0, 0, 0, _, [], [], by omega, by omega, rfl, rfl, by omega, (fun h => by cases h), (HL.out : L = [] ++ ((xs.drop 0).filter (It.inside (kb lo) (kb hi))).take (most.toNat - 0)), (Nat.zero_le _ : 0 ≤ most.toNat), (rfl : ([] : List It.I).length = 0), ItAll.nil _, hm0, hb0⟩
  case round =>
    obtain ⟨k, m, c, g, O, P, hk, hmk, rfl, rfl, hmc, hgn, H, HM, HP, HA, hown, hbel⟩ := hrel
    clear hm0 hb0 HL
    by_cases hlt : k < len ∧ (m : Int) < most
    · obtain ⟨bb, off, rfl, hc⟩ := hr.items (by omega)
      obtain ⟨y0, y1, y2, y3, y4, y5, y6, y7⟩ := (hc k hlt.1).below hbel (Nat.le_refl _)
      have hk' : k < xs.length := by rw [hll.out]; exact hlt.1
      have Hy : Hid (IsItem w0 (gs.getD k ihz) (xs.getD k It.zero)) := (Hall.out.2 k hk' : IsItem w0 (gs.getD k ihz) (xs.getD k It.zero))
      have hst : Hid (L = P ++ ((if It.inside (kb lo) (kb hi) (xs.getD k It.zero) = true then xs.getD k It.zero :: (xs.drop (k + 1)).filter (It.inside (kb lo) (kb hi)) else (xs.drop (k + 1)).filter (It.inside (kb lo) (kb hi)))).take (most.toNat - m)) := (by rw [H.out, It.getD_drop hk', List.filter_cons] : L = P ++ ((if It.inside (kb lo) (kb hi) (xs.getD k It.zero) = true then xs.getD k It.zero :: (xs.drop (k + 1)).filter (It.inside (kb lo) (kb hi)) else (xs.drop (k + 1)).filter (It.inside (kb lo) (kb hi)))).take (most.toNat - m))
      generalize gs.getD k ihz = q at *
      generalize xs.getD k It.zero = y at *
      have hl1 : Op.bytesLess q.key.toList lo.toList = Na.lt y.1 (kb lo) := by rw [less_kb, Hy.out.key]
      have hl2 : Op.bytesLess q.key.toList hi.toList = Na.lt y.1 (kb hi) := by rw [less_kb, Hy.out.key]
      have hins : Hid (It.inside (kb lo) (kb hi) y = (!Na.lt y.1 (kb lo) && (E0 || Na.lt y.1 (kb hi)))) := (by rw [HE0.out]; rfl : It.inside (kb lo) (kb hi) y = (!Na.lt y.1 (kb lo) && (E0 || Na.lt y.1 (kb hi))))
      generalize Na.lt y.1 (kb lo) = A at *
      generalize Na.lt y.1 (kb hi) = B at *
      rw [hins.out] at hst
      have i0 : (0 : Int) ≤ (k : Int) := by omega
      have i1 : (k : Int) < (len : Int) := by omega
      have i2 : decide ((m : Int) < most) = true := by simp [hlt.2]
      obtain ⟨j, hj⟩ : ∃ j, most.toNat - m = j + 1 := ⟨most.toNat - m - 1, by omega⟩
      have HM2 : Hid (m + 1 ≤ most.toNat) := (by omega : m + 1 ≤ most.toNat)
      have Hj : Hid (j = most.toNat - (m + 1)) := (by omega : j = most.toNat - (m + 1))
      have Hj2 : Hid (most.toNat - m = j + 1) := hj
      have hyes : Hid ((!A && (E0 || B)) = true → L = (P ++ [y]) ++ ((xs.drop (k + 1)).filter (It.inside (kb lo) (kb hi))).take (most.toNat - (m + 1))) := (fun h => by rw [hst.out, if_pos h, Hj2.out, List.take_succ_cons, Hj.out]; simp : (!A && (E0 || B)) = true → L = (P ++ [y]) ++ ((xs.drop (k + 1)).filter (It.inside (kb lo) (kb hi))).take (most.toNat - (m + 1)))
      have hno : Hid ((!A && (E0 || B)) = false → L = P ++ ((xs.drop (k + 1)).filter (It.inside (kb lo) (kb hi))).take (most.toNat - m)) := (fun h => by rw [hst.out, if_neg (by rw [h]; simp)] : (!A && (E0 || B)) = false → L = P ++ ((xs.drop (k + 1)).filter (It.inside (kb lo) (kb hi))).take (most.toNat - m))
      have HP2 : Hid ((P ++ [y]).length = m + 1) := (by rw [List.length_append, HP.out]; rfl : (P ++ [y]).length = m + 1)
      have HA2 : Hid (ItAll w0 (O ++ [q]) (P ++ [y])) := (HA.out.snoc Hy.out : ItAll w0 (O ++ [q]) (P ++ [y]))
      clear H hst hins hc hk' hj
      cases A with
      | true =>
        have H2 : Hid (L = P ++ ((xs.drop (k + 1)).filter (It.inside (kb lo) (kb hi))).take (most.toNat - m)) := hno.out rfl
        clear hyes hno
        go_wp2
        go_roundw
        case rel => exact ⟨k + 1, m, c, g, O, P, by omega, by omega, by go_num, rfl, hmc, hgn, H2, HM, HP, HA, hown, hbel⟩
        case measure => simp [intOf]; omega
      | false =>
        cases E0 with
        | true =>
          have H2 : Hid (L = (P ++ [y]) ++ ((xs.drop (k + 1)).filter (It.inside (kb lo) (kb hi))).take (most.toNat - (m + 1))) := hyes.out rfl
          clear hyes hno
          go_wp2_with (at_builtin; go_must (refine append_t itemE ihE (w0 := w) (B := w.heap.size) rfl (.tmp 44) (.tmp 49) rfl _ _ _ rfl (hown.alloc _) (some ⟨_, 0, none⟩) 1 1 [q] rfl (lit_item wr q rfl) (fun h => by cases h) (by omega) (hbel.alloc hbel.size _) (hbel.alloc hbel.size _).size ?_; intro a2 c2 w2 hc2 hn2 _ hown2 hb2 _))
          go_roundw
          case rel => exact ⟨k + 1, m + 1, c2, a2, _, _, by omega, by omega, by go_num, rfl, hc2, hn2, H2, HM2, HP2, HA2, hown2, hb2⟩
          case measure => simp [intOf]; omega
        | false =>
          cases B with
          | true =>
            have H2 : Hid (L = (P ++ [y]) ++ ((xs.drop (k + 1)).filter (It.inside (kb lo) (kb hi))).take (most.toNat - (m + 1))) := hyes.out rfl
            clear hyes hno
            go_wp2_with (at_builtin; go_must (refine append_t itemE ihE (w0 := w) (B := w.heap.size) rfl (.tmp 44) (.tmp 49) rfl _ _ _ rfl (hown.alloc _) (some ⟨_, 0, none⟩) 1 1 [q] rfl (lit_item wr q rfl) (fun h => by cases h) (by omega) (hbel.alloc hbel.size _) (hbel.alloc hbel.size _).size ?_; intro a2 c2 w2 hc2 hn2 _ hown2 hb2 _))
            go_roundw
            case rel => exact ⟨k + 1, m + 1, c2, a2, _, _, by omega, by omega, by go_num, rfl, hc2, hn2, H2, HM2, HP2, HA2, hown2, hb2⟩
            case measure => simp [intOf]; omega
          | false =>
            have H2 : Hid (L = P ++ ((xs.drop (k + 1)).filter (It.inside (kb lo) (kb hi))).take (most.toNat - m)) := hno.out rfl
            clear hyes hno
            go_wp2
            go_roundw
            case rel => exact ⟨k + 1, m, c, g, O, P, by omega, by omega, by go_num, rfl, hmc, hgn, H2, HM, HP, HA, hown, hbel⟩
            case measure => simp [intOf]; omega
    · obtain rfl : L = P := by
        rw [H.out]
        by_cases hkl : k < len
        · have : most.toNat - m = 0 := by have := HM.out; omega
          rw [this]; simp
        · rw [List.drop_of_length_le (by rw [hll.out]; omega)]; simp
      obtain rfl := HP.out
      by_cases hkl : k < len
      · have i1 : (k : Int) < (len : Int) := by omega
        have i2 : decide ((L.length : Int) < most) = false := by simp; omega
        clear H
        go_wp2
        go_ret
        exact ⟨g, c, O, rfl, hmc, hgn, trow_of_owns ihE hown (by omega) (by omega), HA.out, hbel⟩
      · have i1 : decide ((k : Int) < (len : Int)) = false := by simp; omega
        have i3 : decide (k < len) = false := by simp; omega
        clear H
        go_wp2
        go_ret
        exact ⟨g, c, O, rfl, hmc, hgn, trow_of_owns ihE hown (by omega) (by omega), HA.out, hbel⟩

theorem It.same_drop {xs ys : List It.I} (hl : xs.length = ys.length) {k : Nat} (hk : k < xs.length) : It.sameGo (xs.drop k) (ys.drop k) = (It.one (xs.getD k It.zero) (ys.getD k It.zero) && It.sameGo (xs.drop (k + 1)) (ys.drop (k + 1))) := by
  have e1 := It.getD_drop (l := xs) hk
  have e2 := It.getD_drop (l := ys) (k := k) (by omega)
  rw [e1, e2]; rfl

set_option maxRecDepth 100000 in
set_option maxHeartbeats 2000000 in
theorem isame_any (w0 w1 : World) (a : Option Addr) (len cap : Nat) (gs : List IH) (xs : List It.I) (a' : Option Addr) (len' cap' : Nat) (gs' : List IH) (ys : List It.I) (w : World) (hr : TRow 8 ih ihz w a len gs) (hall : ItAll w0 gs xs) (hr' : TRow 8 ih ihz w a' len' gs') (hall' : ItAll w1 gs' ys) (hw0 : Below w0.heap.size w0 w) (hw1 : Below w1.heap.size w1 w) :
    Calls Try.prog 12 #[.slice a len cap, .slice a' len' cap'] w fun e w' => e = .returned (.bool (It.sameGo xs ys)) ∧ Below w.heap.size w w' := by
  have hll : Hid (xs.length = len) := (hall.1.symm.trans hr.1 : xs.length = len)
  have hll' : Hid (ys.length = len') := (hall'.1.symm.trans hr'.1 : ys.length = len')
  have hlb := hr.2.1
  have hlb' := hr'.2.1
  obtain ⟨R, hR⟩ : ∃ R, R = It.sameGo xs ys := ⟨_, rfl⟩
  rw [← hR]
  by_cases hne : len = len'
  · subst hne
    have HR : Hid (R = It.sameGo (xs.drop 0) (ys.drop 0)) := hR
    have Hall : Hid (ItAll w0 gs xs) := hall
    have Hall' : Hid (ItAll w1 gs' ys) := hall'
    have d1 : ((len : Int) != (len : Int)) = false := by simp
    clear hR hall hall'
    go_enter Try.func12, Try.ntmps12
    go_wp2
    go_loopw [5] (fun i wr => ∃ k : Nat, k ≤ len ∧ i = .int .i64 k ∧ Hid (R = It.sameGo (xs.drop k) (ys.drop k)) ∧ Below w.heap.size w wr) (fun i _ => len - (intOf i).toNat)
    case atStart => exact ⟨0, by omega, rfl, HR, Below.refl _ _⟩
    case round =>
      obtain ⟨k, hk, rfl, H, hbel⟩ := hrel
      clear HR
      by_cases hlt : k < len
      · obtain ⟨bb, off, rfl, hc⟩ := hr.items (by omega)
        obtain ⟨bb', off', rfl, hc'⟩ := hr'.items (by omega)
        obtain ⟨y0, y1, y2, y3, y4, y5, y6, y7⟩ := (hc k hlt).below hbel (Nat.le_refl _)
        obtain ⟨z0, z1, z2, z3, z4, z5, z6, z7⟩ := (hc' k hlt).below hbel (Nat.le_refl _)
        have hk' : k < xs.length := by rw [hll.out]; exact hlt
        have Hy := Hall.out.2 k hk'
        have Hz := Hall'.out.2 k (by rw [hll'.out]; exact hlt)
        have hst : Hid (R = (It.one (xs.getD k It.zero) (ys.getD k It.zero) && It.sameGo (xs.drop (k + 1)) (ys.drop (k + 1)))) := (by rw [H.out]; exact It.same_drop (by rw [hll.out, hll'.out]) hk' : R = (It.one (xs.getD k It.zero) (ys.getD k It.zero) && It.sameGo (xs.drop (k + 1)) (ys.drop (k + 1))))
        have hone := fun W (hW : Below w.heap.size w W) => ione_any _ _ _ _ W (Hy.below (hw0.trans (hW.mono hw0.size)) (Nat.le_refl _)) (Hz.below (hw1.trans (hW.mono hw1.size)) (Nat.le_refl _))
        generalize gs.getD k ihz = q at *
        generalize gs'.getD k ihz = q' at *
        generalize It.one (xs.getD k It.zero) (ys.getD k It.zero) = B at *
        obtain ⟨key, dead, far, qa, qn, qc, ⟨p1, p2, p3, p4⟩⟩ := q
        obtain ⟨key', dead', far', qa', qn', qc', ⟨p1', p2', p3', p4'⟩⟩ := q'
        simp only at y0 y1 y2 y3 y4 y5 y6 y7 z0 z1 z2 z3 z4 z5 z6 z7 hone
        have i0 : (0 : Int) ≤ (k : Int) := by omega
        have i1 : (k : Int) < (len : Int) := by omega
        clear H hc hc' hk' Hy Hz
        cases B with
        | true =>
          have H2 : Hid (R = It.sameGo (xs.drop (k + 1)) (ys.drop (k + 1))) := hst.out
          clear hst
          go_wp2_with fail
          go_region_with (go_at_call 19; refine (hone _ (hbel.drew)).mono ?_; rintro e w2 ⟨rfl, hb2⟩)
          all_goals
            go_wp2
            go_roundw
            case rel => exact ⟨k + 1, by omega, by go_num, H2, hbel.trans ((below_of_drew hb2).mono hbel.size)⟩
            case measure => simp [intOf]; omega
        | false =>
          obtain rfl : R = false := hst.out
          clear hst
          go_wp2_with fail
          go_region_with (go_at_call 19; refine (hone _ (hbel.drew)).mono ?_; rintro e w2 ⟨rfl, hb2⟩)
          all_goals
            go_wp2
            go_ret
            exact ⟨rfl, hbel.trans ((below_of_drew hb2).mono hbel.size)⟩
      · obtain rfl : k = len := by omega
        obtain rfl : R = true := by rw [H.out, List.drop_of_length_le (by rw [hll.out]; omega), List.drop_of_length_le (by rw [hll'.out]; omega)]; rfl
        go_wp2
        go_ret
        exact ⟨rfl, hbel⟩
  · have d1 : ((len : Int) != (len' : Int)) = true := by simp; omega
    have d2 : (len != len') = true := by simp; omega
    obtain rfl : R = false := by
      rw [hR]
      cases h : It.sameGo xs ys with
      | false => rfl
      | true => exact absurd (by rw [← hll.out, ← hll'.out, (It.sameGo_iff xs ys).mp h]) hne
    clear hR hall hall'
    go_enter Try.func12, Try.ntmps12
    go_wp2
    go_ret
    exact ⟨rfl, Below.refl _ _⟩
end Go.Proofs.Ytpoocjffkhjeaaa
