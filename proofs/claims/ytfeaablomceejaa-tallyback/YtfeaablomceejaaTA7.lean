/- The law TallyBack, given what is asked of the program. -/
import Derived.Test.YtfeaablomceejaaTA6
namespace Go.Proofs.Ytfeaablomceejaa
open Go.RowKit

theorem Ta.points_reverse {ps : List Po.P} (h : Ta.points ps = true) : Ta.points ps.reverse = true := List.all_eq_true.mpr (fun p hp => List.all_eq_true.mp h p (List.mem_reverse.mp hp))
theorem take_rev {ps : List Po.P} {q : Nat} (hq : q < ps.length) : (ps.drop q).reverse = (ps.drop (q + 1)).reverse ++ [ps.getD q Po.zero] := by
  rw [List.drop_eq_getElem_cons hq, List.reverse_cons, show ps.getD q Po.zero = ps[q] by simp [hq]]
theorem PRow.fits {w : World} {a : Option Addr} {n : Nat} {ps : List Po.P} (h : PRow w a n ps) : ∀ p ∈ ps, Po.Fits p := fun p hp => by
  obtain ⟨i, hi, rfl⟩ := List.mem_iff_getElem.mp hp
  have hl := h.1
  obtain ⟨b, off, _, hc⟩ := h.at (by omega)
  have := (hc i (by omega)).2.2.2.2
  rw [show ps.getD i Po.zero = ps[i] by simp [hi]] at this
  exact this
theorem lit_point (w : World) (p : Po.P) {g : Nat} (hg : w.heap.size = g) : ∀ j u, (pcells [p])[j]? = some u → (w.alloc (.cells #[.int .i64 p.1, .int .i64 p.2.1, .int .i64 p.2.2.1, .int .u32 (p.2.2.2 : Nat)] 41)).cell? ((⟨g, 0, none⟩ : Addr).add j) = some u := fun j u hj => by
  subst hg
  rw [add_at, Nat.zero_add, cell_new]
  match j, hj with
  | 0, hj => exact hj
  | 1, hj => exact hj
  | 2, hj => exact hj
  | 3, hj => exact hj
  | j + 4, hj => simp [pcells] at hj

set_option maxRecDepth 100000 in
set_option maxHeartbeats 4000000 in
theorem taback_any (hC : TallyC) (a : Option Addr) (n c : Nat) (l : List Ta.S) (a' : Option Addr) (n' c' : Nat) (ps : List Po.P) (w : World) (hi : InS w a n c l) (hp : InP w a' n' c' ps) (hn : n ≤ 140737488355328) (hn' : n' ≤ 140737488355328) :
    Calls Try.prog 5 #[.slice a n c, .slice a' n' c'] w fun e w' => e = .returned (.bool true) ∧ Below w.heap.size w w' := by
  have hA := fun W => taawake hC.of hC.get W
  by_cases hl : n ≤ 100 ∧ n' ≤ 60
  · have hL := fun W => talightB a n c a' n' c' W true (by simp [hl]) hn hn'
    have hadd := fun W (h : Below w.heap.size w W) => hC.add a n c l a' n' c' ps W (by omega) (by omega) (hi.below h (Nat.le_refl _)) (hp.below h (Nat.le_refl _))
    by_cases hR : Ta.may l = true ∧ Ta.points ps = true ∧ Ta.may (Ta.add l ps) = true
    · obtain ⟨hm, hq, hw⟩ := hR
      have hal : (Ta.add l ps).length ≤ 1000 := by
        have := Ta.add_len ps l
        rw [hi.1.1, hp.1.1] at this
        omega
      have e1 : Ta.addR l ps = (0, Ta.add l ps) := by simp [Ta.addR, hm, hq, hw]
      have e2 : Ta.addR l ps.reverse = (0, Ta.add l ps) := by simp [Ta.addR, hm, Ta.points_reverse hq, Ta.add_reverse hm hq, hw]
      have e3 : Ta.subR (Ta.add l ps) ps = (0, l) := by simp [Ta.subR, hw, hq, Ta.sub_add hm hq]
      have hfit := hp.1.fits
      have hsub := fun (a1 : Option Addr) (k1 : Nat) W (h1 : InS W a1 (Ta.add l ps).length k1 (Ta.add l ps)) (h : Below w.heap.size w W) => hC.sub a1 _ k1 _ a' n' c' ps W hal (by omega) h1 (hp.below h (Nat.le_refl _))
      have hadd2 := fun (g k1 : Nat) W (h1 : InP W (some ⟨g, 0, none⟩) n' k1 ps.reverse) (h : Below w.heap.size w W) => hC.add a n c l (some ⟨g, 0, none⟩) n' k1 ps.reverse W (by omega) (by omega) (hi.below h (Nat.le_refl _)) h1
      rw [e1] at hadd
      rw [e3] at hsub
      rw [e2] at hadd2
      obtain rfl : n = l.length := hi.1.1.symm
      have hpl : Hid (ps.length = n') := hp.1.1
      have hsame := fun (a1 a2 : Option Addr) (k1 k2 : Nat) W h1 h2 => tsameB a1 l.length k1 a2 l.length k2 l W h1 h2
      have hsame2 := fun (a1 a2 : Option Addr) (k1 k2 : Nat) W h1 h2 => tsameB a1 (Ta.add l ps).length k1 a2 (Ta.add l ps).length k2 (Ta.add l ps) W h1 h2
      clear hm hq hw e1 e2 e3
      generalize Ta.add l ps = L at *
      go_enter Try.func5, Try.ntmps5
      go_wp2_with (first
        | (go_at_call 9; have := c0_1; go_must (refine (hadd _ c0_1).mono ?_; rintro e w2 ⟨a2, k2, rfl, hi2, hb2⟩; have c0_2 := c0_1.trans (hb2.mono c0_1.size); have c1_2 := hb2))
        | (go_at_call 7; go_must (refine (hL _).mono ?_; rintro e w1 ⟨rfl, hb1⟩; have c0_1 := hb1)))
      have hm0 := made_b w2 41 4 w2.heap.size rfl (Nat.le_refl _)
      have hz0 := below_alloc w2 (.cells #[] 41)
      go_loopw [7, 8] (fun v i wr => ∃ (q m g k : Nat) (z : Int) (O : List Po.P), q ≤ n' ∧ Hid (m + q = n') ∧ i = .int .i64 z ∧ Hid (z = (q : Int) - 1) ∧ v = .slice (some ⟨g, 0, none⟩) m k ∧ Hid (O = (ps.drop q).reverse) ∧ wr.ownsRow w2.heap.size 41 4 (.slice (some ⟨g, 0, none⟩) m k) m (pcells O) ∧ Below w2.heap.size w2 wr)
        (fun _ i _ => (intOf i + 1).toNat)
      case atStart => exact ⟨n', 0, w2.heap.size, 0, _, [], by omega, (by omega : 0 + n' = n'), rfl, (by omega : (n' : Int) - 1 = (n' : Int) - 1), rfl, (by rw [List.drop_of_length_le (by rw [hpl.out]; omega)]; rfl : ([] : List Po.P) = (ps.drop n').reverse), hm0, hz0⟩
      case round =>
        obtain ⟨q, m, g, k, z, O, hq, Hm, rfl, Hz, rfl, HO, hown, hbel⟩ := hrel
        clear hm0 hz0
        cases q with
        | zero =>
          obtain rfl : z = -1 := by have := Hz.out; omega
          obtain rfl : m = n' := by have := Hm.out; omega
          obtain rfl : O = ps.reverse := by rw [HO.out]; rfl
          obtain ⟨hpr, _, hck, _⟩ := prow_of_owns hown (fun p hp' => hfit p (List.mem_reverse.mp hp')) (by omega)
          have hip : InP wr (some ⟨g, 0, none⟩) m k ps.reverse := ⟨hpr, (fun h => by cases h), hck⟩
          have c0_3 : Below w.heap.size w wr := c0_2.trans (hbel.mono c0_2.size)
          have cx_3 : Below w2.heap.size w2 wr := hbel
          have cy_3 : Below wr.heap.size wr wr := Below.refl _ _
          clear Hm Hz HO hown hpl hfit
          go_wp2_with (first
            | (go_at_call 8; have := c0_7; go_must (refine (hA _).mono ?_; rintro e w8 ⟨rfl, hb8⟩; have c0_8 := c0_7.trans (hb8.mono c0_7.size); have cx_8 := cx_7.trans (hb8.mono cx_7.size); have cy_8 := cy_7.trans (hb8.mono cy_7.size); have c4_8 := c4_7.trans (hb8.mono c4_7.size); have c5_8 := c5_7.trans (hb8.mono c5_7.size); have c6_8 := c6_7.trans (hb8.mono c6_7.size); have c7_8 := hb8))
            | (go_at_call 16; have := c0_6; go_must (refine (hsame2 _ _ _ _ _ (hi5.1.below c5_6 (Nat.le_refl _)) (hi2.1.below cx_6 (Nat.le_refl _))).mono ?_; rintro e w7 ⟨rfl, hb7⟩; have c0_7 := c0_6.trans (hb7.mono c0_6.size); have cx_7 := cx_6.trans (hb7.mono cx_6.size); have cy_7 := cy_6.trans (hb7.mono cy_6.size); have c4_7 := c4_6.trans (hb7.mono c4_6.size); have c5_7 := c5_6.trans (hb7.mono c5_6.size); have c6_7 := hb7))
            | (go_at_call 16; have := c0_5; go_must (refine (hsame _ _ _ _ _ (hi4.1.below c4_5 (Nat.le_refl _)) (hi.1.below c0_5 (Nat.le_refl _))).mono ?_; rintro e w6 ⟨rfl, hb6⟩; have c0_6 := c0_5.trans (hb6.mono c0_5.size); have cx_6 := cx_5.trans (hb6.mono cx_5.size); have cy_6 := cy_5.trans (hb6.mono cy_5.size); have c4_6 := c4_5.trans (hb6.mono c4_5.size); have c5_6 := hb6))
            | (go_at_call 9; have := c0_4; go_must (refine (hadd2 _ _ _ (hip.below cy_4 (Nat.le_refl _)) c0_4).mono ?_; rintro e w5 ⟨a5, k5, rfl, hi5, hb5⟩; have c0_5 := c0_4.trans (hb5.mono c0_4.size); have cx_5 := cx_4.trans (hb5.mono cx_4.size); have cy_5 := cy_4.trans (hb5.mono cy_4.size); have c4_5 := hb5))
            | (go_at_call 18; go_must (refine (hsub _ _ _ (hi2.below cx_3 (Nat.le_refl _)) c0_3).mono ?_; rintro e w4 ⟨a4, k4, rfl, hi4, hb4⟩; have c0_4 := c0_3.trans (hb4.mono c0_3.size); have cx_4 := cx_3.trans (hb4.mono cx_3.size); have cy_4 := cy_3.trans (hb4.mono cy_3.size))))
          go_ret
          exact ⟨by simp, c0_8⟩
        | succ r =>
          obtain rfl : z = (r : Int) := by have := Hz.out; omega
          obtain ⟨b, off, rfl, hc⟩ := hp.1.at (by omega)
          obtain ⟨p0, p1, p2, p3, _⟩ := hc r (by omega)
          have hwr := c0_2.trans (hbel.mono c0_2.size)
          have q0 := (hwr.cell (p := ⟨b, off + r * 4, none⟩) (cell_lt p0)).trans p0
          have q1 := (hwr.cell (p := ⟨b, off + r * 4 + 1, none⟩) (cell_lt p1)).trans p1
          have q2 := (hwr.cell (p := ⟨b, off + r * 4 + 2, none⟩) (cell_lt p2)).trans p2
          have q3 := (hwr.cell (p := ⟨b, off + r * 4 + 3, none⟩) (cell_lt p3)).trans p3
          have HO2 : Hid (O ++ [ps.getD r Po.zero] = (ps.drop r).reverse) := (by rw [HO.out, take_rev (ps := ps) (q := r) (by rw [hpl.out]; omega)] : O ++ [ps.getD r Po.zero] = (ps.drop r).reverse)
          have hlp := lit_point wr (ps.getD r Po.zero) rfl
          generalize ps.getD r Po.zero = y at *
          have Hm2 : Hid (m + 1 + r = n') := (by have := Hm.out; omega : m + 1 + r = n')
          have hmb : m ≤ 1000 := by have := Hm.out; omega
          have i0 : (0 : Int) ≤ (r : Int) := by omega
          have i1 : (r : Int) < (n' : Int) := by omega
          clear Hm Hz HO p0 p1 p2 p3 hc hsub hadd2 hadd hsame hsame2
          go_wp2_with (at_builtin; go_must (refine append_pts (w0 := w2) (B := w2.heap.size) rfl (.tmp 35) (.tmp 40) rfl ⟨g, 0, none⟩ m k O rfl (hown.alloc _) ⟨wr.heap.size, 0, none⟩ 1 1 [y] rfl rfl hlp (by omega) (hbel.alloc hbel.size _) (hbel.alloc hbel.size _).size ?_; intro g3 k3 w3 _ hown3 hb3 _))
          go_roundw
          case rel => exact ⟨r, m + 1, g3, k3, _, _, by omega, Hm2, rfl, (by omega : (r : Int) - 1 = (r : Int) - 1), rfl, HO2, hown3, hb3⟩
          case measure => simp [intOf]
    · have hne : Hid ((Ta.addR l ps).1 ≠ 0) := (by
        unfold Ta.addR
        split
        · simp
        · split
          · simp
          · next h1 h2 =>
            exfalso
            apply hR
            simp only [not_or, Bool.not_eq_false] at h1 h2
            exact ⟨h1.1, h1.2, h2⟩ : (Ta.addR l ps).1 ≠ 0)
      generalize Ta.addR l ps = R at *
      obtain ⟨cd, L⟩ := R
      have hd : ((cd : Int) != 0) = true := by have : cd ≠ 0 := hne.out; simp; omega
      clear hR hne
      go_enter Try.func5, Try.ntmps5
      go_wp2_with (first
        | (go_at_call 8; have := c0_2; go_must (refine (hA _).mono ?_; rintro e w3 ⟨rfl, hb3⟩; have c0_3 := c0_2.trans (hb3.mono c0_2.size); have c1_3 := c1_2.trans (hb3.mono c1_2.size); have c2_3 := hb3))
        | (go_at_call 9; have := c0_1; go_must (refine (hadd _ c0_1).mono ?_; rintro e w2 ⟨a2, k2, rfl, hi2, hb2⟩; have c0_2 := c0_1.trans (hb2.mono c0_1.size); have c1_2 := hb2))
        | (go_at_call 7; go_must (refine (hL _).mono ?_; rintro e w1 ⟨rfl, hb1⟩; have c0_1 := hb1)))
      go_ret
      exact ⟨rfl, c0_3⟩
  · have hL := fun W => talightB a n c a' n' c' W false (by simp only [hl, decide_false]) hn hn'
    go_enter Try.func5, Try.ntmps5
    go_wp2_with (first
      | (go_at_call 8; have := c0_1; go_must (refine (hA _).mono ?_; rintro e w2 ⟨rfl, hb2⟩; have c0_2 := c0_1.trans (hb2.mono c0_1.size); have c1_2 := hb2))
      | (go_at_call 7; go_must (refine (hL _).mono ?_; rintro e w1 ⟨rfl, hb1⟩; have c0_1 := hb1)))
    go_ret
    exact ⟨rfl, c0_2⟩
end Go.Proofs.Ytfeaablomceejaa
