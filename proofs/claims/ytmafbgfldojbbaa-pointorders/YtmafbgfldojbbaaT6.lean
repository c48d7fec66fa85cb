/- What slices' symMerge does where the second stretch is one point. -/
import Derived.Test.YtmafbgfldojbbaaT5
namespace Go.Proofs.Ytmafbgfldojbbaa
open Go.RowKit

set_option maxRecDepth 100000 in
set_option maxHeartbeats 2000000 in
theorem symright_any (g n c : Nat) (P1 A P2 : List Po.P) (x : Po.P) (a m b : Nat) (w : World) (hn : n ≤ 1000000000) (h : PBlk w g n (P1 ++ (A ++ x :: P2))) (ha : a = P1.length) (hm : m = a + A.length) (hb : b = m + 1) (hA : 2 ≤ A.length) (hs : So.Sorted Po.less A) :
    Calls Try.prog 42 #[.slice (some ⟨g, 0, none⟩) n c, .int .i64 a, .int .i64 m, .int .i64 b, cmpv] w fun e w' => ∃ X, e = .returned (.tuple #[]) ∧ PBlk w' g n (P1 ++ X ++ P2) ∧ So.Stab Po.less (A ++ [x]) X ∧ So.Sorted Po.less X ∧ w.grownBy w' (some g) := by
  have hlen := h.len
  simp only [List.length_append, List.length_cons] at hlen
  have hbn : b ≤ n := by omega
  have ham : a < m := by omega
  have hmb : m < b := by omega
  have Ha : Hid (a = P1.length ∧ m = a + A.length ∧ b = m + 1) := (⟨ha, hm, hb⟩ : a = P1.length ∧ m = a + A.length ∧ b = m + 1)
  have j0 : IntKind.i64.wrap ((m : Int) - (a : Int)) = (m : Int) - (a : Int) := by rw [IntKind.wrap_i64]; omega
  have j1 : ((m : Int) - (a : Int) == 1) = false := by simp; omega
  have j2 : IntKind.i64.wrap ((b : Int) - (m : Int)) = 1 := by rw [IntKind.wrap_i64]; omega
  clear ha hm hb hlen hA
  go_enter Try.func42, Try.ntmps42
  go_wp2
  go_loopw [14, 15] (fun u v wr => ∃ i j : Nat, u = .int .i64 i ∧ v = .int .i64 j ∧ a ≤ i ∧ i ≤ j ∧ j ≤ m ∧ Hid ((i = a ∨ Po.less x (A.getD (i - a - 1) Po.zero) = false) ∧ (j = m ∨ Po.less x (A.getD (j - a) Po.zero) = true)) ∧ PBlk wr g n (P1 ++ (A ++ x :: P2)) ∧ w.grownBy wr (some g)) (fun u v _ => (intOf v).toNat - (intOf u).toNat)
  case atStart => exact ⟨a, m, rfl, rfl, by omega, by omega, by omega, (⟨.inl rfl, .inl rfl⟩ : (a = a ∨ _) ∧ (m = m ∨ _)), h, turned_refl w g⟩
  case round =>
    obtain ⟨i, j, rfl, rfl, hmi, hij, hjb, H, hblk, htu⟩ := hrel
    by_cases hlt : i < j
    · obtain ⟨hh, hhe⟩ : ∃ hh, hh = (i + j) / 2 := ⟨_, rfl⟩
      have hh1 : i ≤ hh := by omega
      have hh2 : hh < j := by omega
      have q0 : ((i : Int) + (j : Int)) / 2 = (hh : Int) := by rw [hhe]; exact half_nat i j
      have q1 : IntKind.i64.wrap ((i : Int) + (j : Int)) = (i : Int) + (j : Int) := by rw [IntKind.wrap_i64]; omega
      have q2 : IntKind.u64.wrap ((i : Int) + (j : Int)) = (i : Int) + (j : Int) := by rw [IntKind.wrap_u64]; omega
      have q3 : IntKind.i64.wrap (hh : Int) = (hh : Int) := by rw [IntKind.wrap_i64]; omega
      have i0 : (0 : Int) ≤ (hh : Int) := by omega
      have i1 : (hh : Int) < (n : Int) := by omega
      have i2 : (0 : Int) ≤ (m : Int) := by omega
      have i3 : (m : Int) < (n : Int) := by omega
      have eJ : (P1 ++ (A ++ x :: P2)).getD hh Po.zero = A.getD (hh - a) Po.zero := by
        obtain ⟨e1, e2, e3⟩ := Ha.out
        exact getD_off P1 A (x :: P2) hh (hh - a) (by omega) (by omega)
      have eI : (P1 ++ (A ++ x :: P2)).getD m Po.zero = x := by
        obtain ⟨e1, e2, e3⟩ := Ha.out
        rw [← List.append_assoc, show m = (P1 ++ A).length by rw [List.length_append]; omega]; exact getD_mid _ _ _
      have hcells : ∀ W, PBlk W g n (P1 ++ (A ++ x :: P2)) → PCell W g (m * 4) (x) ∧ PCell W g (hh * 4) (A.getD (hh - a) Po.zero) := fun W hb => by
        have h1 := hb.cell (m) (by omega)
        have h2 := hb.cell (hh) (by omega)
        rw [eI] at h1
        rw [eJ] at h2
        exact ⟨h1, h2⟩
      have hcm := fun W => pcompare_any (x) (A.getD (hh - a) Po.zero) W
      have Hcl : Hid (decide (pcmp (x) (A.getD (hh - a) Po.zero) < 0) = Po.less (x) (A.getD (hh - a) Po.zero)) := pcmp_less (x) (A.getD (hh - a) Po.zero)
      generalize pcmp (x) (A.getD (hh - a) Po.zero) = r at *
      have Hp : Hid (∀ t, t = hh - a → A.getD t Po.zero = A.getD (hh - a) Po.zero) := (fun t e => by rw [e] : ∀ t, t = hh - a → A.getD t Po.zero = A.getD (hh - a) Po.zero)
      clear eI eJ hhe
      generalize A.getD (hh - a) Po.zero = y at *
      obtain ⟨ps, pa, pl, pm⟩ := x
      obtain ⟨ys, ya, yl, ym⟩ := y
      simp only [PCell] at hcells
      simp only [pv] at hcm
      obtain ⟨⟨⟨p0, p1, p2, p3⟩, f0, f1, f2, f3⟩, ⟨⟨y0, y1, y2, y3⟩, z0, z1, z2, z3⟩⟩ := hcells wr hblk
      have Hcells : Hid (_) := hcells
      clear hcells
      by_cases hless : r < 0
      · go_wp2_with fail
        go_region_held3 (fun w' => w'.cell? ⟨g, m * 4, none⟩ = some (.int .i64 ps) ∧ w'.cell? ⟨g, m * 4 + 1, none⟩ = some (.int .i64 pa) ∧ w'.cell? ⟨g, m * 4 + 2, none⟩ = some (.int .i64 pl) ∧ w'.cell? ⟨g, m * 4 + 3, none⟩ = some (.int .u32 (pm : Nat)) ∧ w'.cell? ⟨g, hh * 4, none⟩ = some (.int .i64 ys) ∧ w'.cell? ⟨g, hh * 4 + 1, none⟩ = some (.int .i64 ya) ∧ w'.cell? ⟨g, hh * 4 + 2, none⟩ = some (.int .i64 yl) ∧ w'.cell? ⟨g, hh * 4 + 3, none⟩ = some (.int .u32 (ym : Nat))) (first | go_keep | (refine ⟨?_, ?_, ?_, ?_, ?_, ?_, ?_, ?_⟩ <;> assumption))
          ((go_at_call 28; refine (hcm _).mono ?_; rintro e w2 ⟨rfl, hbel2⟩; have hb2 := below_of_drew hbel2; have hblk3 := hblk.below hb2 hblk.lt; obtain ⟨⟨⟨a0, a1, a2, a3⟩, b0, b1, b2, b3⟩, ⟨⟨c0, c1, c2, c3⟩, d0, d1, d2, d3⟩⟩ := Hcells.out w2 hblk3))
        go_wp2
        go_roundw
        case rel => exact ⟨i, hh, rfl, rfl, hmi, by omega, by omega, (⟨H.out.1, .inr (by rw [Hp.out _ (by omega), ← Hcl.out]; simp [hless])⟩ : (i = a ∨ _) ∧ (hh = m ∨ _)), hblk3, htu.trans (turned_below hb2)⟩
        case measure => simp [intOf]; omega
      · have hd : decide (r < 0) = false := by simpa using hless
        go_wp2_with fail
        go_region_held3 (fun w' => w'.cell? ⟨g, m * 4, none⟩ = some (.int .i64 ps) ∧ w'.cell? ⟨g, m * 4 + 1, none⟩ = some (.int .i64 pa) ∧ w'.cell? ⟨g, m * 4 + 2, none⟩ = some (.int .i64 pl) ∧ w'.cell? ⟨g, m * 4 + 3, none⟩ = some (.int .u32 (pm : Nat)) ∧ w'.cell? ⟨g, hh * 4, none⟩ = some (.int .i64 ys) ∧ w'.cell? ⟨g, hh * 4 + 1, none⟩ = some (.int .i64 ya) ∧ w'.cell? ⟨g, hh * 4 + 2, none⟩ = some (.int .i64 yl) ∧ w'.cell? ⟨g, hh * 4 + 3, none⟩ = some (.int .u32 (ym : Nat))) (first | go_keep | (refine ⟨?_, ?_, ?_, ?_, ?_, ?_, ?_, ?_⟩ <;> assumption))
          ((go_at_call 28; refine (hcm _).mono ?_; rintro e w2 ⟨rfl, hbel2⟩; have hb2 := below_of_drew hbel2; have hblk3 := hblk.below hb2 hblk.lt; obtain ⟨⟨⟨a0, a1, a2, a3⟩, b0, b1, b2, b3⟩, ⟨⟨c0, c1, c2, c3⟩, d0, d1, d2, d3⟩⟩ := Hcells.out w2 hblk3))
        go_wp2
        go_roundw
        case rel => exact ⟨hh + 1, j, by go_num, rfl, by omega, by omega, hjb, (⟨.inr (by rw [Hp.out _ (by omega), ← Hcl.out]; exact hd), H.out.2⟩ : (hh + 1 = a ∨ _) ∧ (j = m ∨ _)), hblk3, htu.trans (turned_below hb2)⟩
        case measure => simp [intOf]; omega
    · obtain rfl : i = j := by omega
      obtain ⟨s, hs'⟩ : ∃ s, s = i - a := ⟨_, rfl⟩
      have hup := So.up_cross Po.less_sw x Po.zero hs s (by have := Ha.out; omega) (by
        rcases H.out.1 with e | e
        · left; omega
        · right; rw [hs']; exact e) (by
        rcases H.out.2 with e | e
        · left; have := Ha.out; omega
        · right; rw [hs']; exact e)
      have hfin := So.ins_mid Po.less_sw (X1 := A.take s) (X2 := A.drop s) (p := x) (by rw [List.take_append_drop]; exact hs) hup.1 hup.2
      rw [List.take_append_drop] at hfin
      have HI : Hid (i = a + s) := (by omega : i = a + s)
      have hsA : s ≤ A.length := by have := Ha.out; omega
      clear hup H hs' h hs
      go_wp2
      go_loopw [17] (fun u wr => ∃ k t : Nat, u = .int .i64 k ∧ Hid (k = i + t) ∧ s + t ≤ A.length ∧ PBlk wr g n (P1 ++ A.take (s + t) ++ x :: (A.drop (s + t) ++ P2)) ∧ w.grownBy wr (some g)) (fun u _ => (intOf u).toNat)
      case atStart =>
        refine ⟨m, m - i, rfl, (by omega : m = i + (m - i)), by have := Ha.out; have := HI.out; omega, ?_, htu⟩
        have : s + (m - i) = A.length := by have := Ha.out; have := HI.out; omega
        rw [this]; simpa using hblk
      case round =>
        obtain ⟨k, t, rfl, Hk, hts, hblk2, htu2⟩ := hrel
        by_cases hlt2 : 0 < t
        · obtain ⟨t, rfl⟩ : ∃ t', t = t' + 1 := ⟨t - 1, by omega⟩
          obtain ⟨Q, rfl⟩ : ∃ Q, k = Q + 1 := ⟨k - 1, by have := Hk.out; omega⟩
          have hki : (i : Int) < (Q : Int) + 1 := by have := Hk.out; omega
          have hkn : Q + 1 < n := by have := Hk.out; have := HI.out; have := Ha.out; omega
          have hat : A.drop (s + t) = A.getD (s + t) Po.zero :: A.drop (s + (t + 1)) := by rw [List.drop_eq_getElem_cons (by omega)]; simp [show s + t < A.length by omega, Nat.add_assoc]
          have hat2 : A.take (s + (t + 1)) = A.take (s + t) ++ [A.getD (s + t) Po.zero] := by rw [← Nat.add_assoc, List.take_succ_eq_append_getElem (by omega)]; simp [show s + t < A.length by omega]
          have hnext : ∀ W, PBlk W g n ((P1 ++ A.take (s + t)) ++ x :: A.getD (s + t) Po.zero :: (A.drop (s + (t + 1)) ++ P2)) → PBlk W g n (P1 ++ A.take (s + t) ++ x :: (A.drop (s + t) ++ P2)) := fun W h => by
            rw [hat]; simpa using h
          have hkl : Q = (P1 ++ A.take (s + t)).length := by have := Hk.out; have := HI.out; have := Ha.out; rw [List.length_append, List.length_take]; omega
          have hrow : P1 ++ A.take (s + (t + 1)) ++ x :: (A.drop (s + (t + 1)) ++ P2) = (P1 ++ A.take (s + t)) ++ A.getD (s + t) Po.zero :: x :: (A.drop (s + (t + 1)) ++ P2) := by rw [hat2]; simp
          rw [hrow] at hblk2
          have Hkl : Hid (_) := hkl
          have Hnext : Hid (_) := hnext
          clear hat hat2 hnext hkl hblk hrow
          generalize A.getD (s + t) Po.zero = y at *
          have fp : Po.Fits x := hblk2.fits _ (by simp)
          have fy : Po.Fits y := hblk2.fits _ (by simp)
          have hq := hblk2.cell Q (by omega)
          rw [show (P1 ++ A.take (s + t) ++ y :: x :: (A.drop (s + (t + 1)) ++ P2)).getD Q Po.zero = y by rw [Hkl.out]; exact getD_mid _ _ _] at hq
          have hp := hblk2.cell (Q + 1) (by omega)
          rw [show (P1 ++ A.take (s + t) ++ y :: x :: (A.drop (s + (t + 1)) ++ P2)).getD (Q + 1) Po.zero = x by rw [Hkl.out]; exact getD_next _ _ _ _] at hp
          have hfin2 : Hid (_) := hfin
          clear hfin
          obtain ⟨ps, pa, pl, pm⟩ := x
          obtain ⟨ys, ya, yl, ym⟩ := y
          simp only [PCell] at hp hq
          obtain ⟨⟨p0, p1, p2, p3⟩, f0, f1, f2, f3⟩ := hp
          obtain ⟨⟨y0, y1, y2, y3⟩, z0, z1, z2, z3⟩ := hq
          have i0 : IntKind.i64.wrap ((Q : Int) + 1) = (Q : Int) + 1 := by rw [IntKind.wrap_i64]; omega
          have i6 : IntKind.i64.wrap ((Q : Int) + 1 - 1) = (Q : Int) := by rw [IntKind.wrap_i64]; omega
          have i7 : IntKind.i64.wrap (Q : Int) = (Q : Int) := by rw [IntKind.wrap_i64]; omega
          have i1 : (0 : Int) ≤ (Q : Int) := by omega
          have i2 : (Q : Int) < (n : Int) := by omega
          have i3 : (0 : Int) ≤ (Q : Int) + 1 := by omega
          have i4 : (Q : Int) + 1 < (n : Int) := by omega
          have i5 : ((Q : Int) + 1).toNat = Q + 1 := by omega
          have hblk3 := hblk2
          go_wp2_with fail
          go_region
          have s1 := (hblk3.store (Q + 1) (by omega) (ys, ya, yl, ym) fy).store (Q) (by omega) (ps, pa, pl, pm) fp
          have s2 := (turned_four wr g ((Q + 1) * 4) ((Q + 1) * 4 + 1) ((Q + 1) * 4 + 2) ((Q + 1) * 4 + 3) (.int .i64 ys) (.int .i64 ya) (.int .i64 yl) (.int .u32 (ym : Nat))).trans (turned_four _ g (Q * 4) (Q * 4 + 1) (Q * 4 + 2) (Q * 4 + 3) (.int .i64 ps) (.int .i64 pa) (.int .i64 pl) (.int .u32 (pm : Nat)))
          rw [swap_near' _ _ _ _ Q (Q + 1) Hkl.out (by rw [Hkl.out])] at s1
          have s3 := Hnext.out _ s1
          clear p0 p1 p2 p3 f0 f1 f2 f3 y0 y1 y2 y3 z0 z1 z2 z3 s1
          generalize (((((((wr.setCell ⟨g, (Q + 1) * 4, none⟩ (.int .i64 ys)).setCell ⟨g, (Q + 1) * 4 + 1, none⟩ (.int .i64 ya)).setCell ⟨g, (Q + 1) * 4 + 2, none⟩ (.int .i64 yl)).setCell ⟨g, (Q + 1) * 4 + 3, none⟩ (.int .u32 (ym : Nat))).setCell ⟨g, Q * 4, none⟩ (.int .i64 ps)).setCell ⟨g, Q * 4 + 1, none⟩ (.int .i64 pa)).setCell ⟨g, Q * 4 + 2, none⟩ (.int .i64 pl)).setCell ⟨g, Q * 4 + 3, none⟩ (.int .u32 (pm : Nat)) = W5 at *
          go_wp2
          go_roundw
          case rel => exact ⟨Q, t, rfl, (by have := Hk.out; omega : Q = i + t), by omega, s3.of_block rfl, (htu2.trans s2).trans (turned_drew _ _)⟩
          case measure => simp [intOf]
        · obtain rfl : t = 0 := by omega
          have hki : ¬ i < k := by have := Hk.out; omega
          rw [Nat.add_zero] at hblk2
          go_wp2
          first | go_end0 | refine bodyPost_ret (results_none rfl _ _ _) rfl ?_
          first | exact ⟨A.take s ++ [x] ++ A.drop s, rfl, by simpa using hblk2, hfin.2, hfin.1, htu2⟩ | exact ⟨rfl, A.take s ++ [x] ++ A.drop s, by simpa using hblk2, hfin.2, hfin.1, htu2⟩
end Go.Proofs.Ytmafbgfldojbbaa
