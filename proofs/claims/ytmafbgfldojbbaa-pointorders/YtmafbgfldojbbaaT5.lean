/- What slices' symMerge does where one of the two stretches is one point. -/
import Derived.Test.YtmafbgfldojbbaaT4
namespace Go.Proofs.Ytmafbgfldojbbaa
open Go.RowKit

theorem getD_off (L1 B L3 : List Po.P) (i k : Nat) (hi : i = L1.length + k) (hk : k < B.length) : (L1 ++ (B ++ L3)).getD i Po.zero = B.getD k Po.zero := by
  subst hi
  simp [List.getElem?_append_right, List.getElem?_append_left hk]
theorem half_nat (i j : Nat) : ((i : Int) + (j : Int)) / 2 = (((i + j) / 2 : Nat) : Int) := by omega

set_option maxRecDepth 100000 in
set_option maxHeartbeats 2000000 in
theorem symleft_any (g n c : Nat) (P1 B P2 : List Po.P) (x : Po.P) (a m b : Nat) (w : World) (hn : n ≤ 1000000000) (h : PBlk w g n (P1 ++ x :: (B ++ P2))) (ha : a = P1.length) (hm : m = a + 1) (hb : b = m + B.length) (hs : So.Sorted Po.less B) :
    Calls Try.prog 42 #[.slice (some ⟨g, 0, none⟩) n c, .int .i64 a, .int .i64 m, .int .i64 b, cmpv] w fun e w' => ∃ X, e = .returned (.tuple #[]) ∧ PBlk w' g n (P1 ++ X ++ P2) ∧ So.Stab Po.less ([x] ++ B) X ∧ So.Sorted Po.less X ∧ w.grownBy w' (some g) := by
  have hlen := h.len
  simp only [List.length_append, List.length_cons] at hlen
  have hbn : b ≤ n := by omega
  have ham : a < m := by omega
  have hmb : m ≤ b := by omega
  have Ha : Hid (a = P1.length ∧ m = a + 1 ∧ b = m + B.length) := (⟨ha, hm, hb⟩ : a = P1.length ∧ m = a + 1 ∧ b = m + B.length)
  have j0 : IntKind.i64.wrap ((m : Int) - (a : Int)) = 1 := by rw [IntKind.wrap_i64]; omega
  clear ha hm hb hlen
  go_enter Try.func42, Try.ntmps42
  go_wp2
  go_loopw [10, 11] (fun u v wr => ∃ i j : Nat, u = .int .i64 i ∧ v = .int .i64 j ∧ m ≤ i ∧ i ≤ j ∧ j ≤ b ∧ Hid ((i = m ∨ Po.less (B.getD (i - m - 1) Po.zero) x = true) ∧ (j = b ∨ Po.less (B.getD (j - m) Po.zero) x = false)) ∧ PBlk wr g n (P1 ++ x :: (B ++ P2)) ∧ w.grownBy wr (some g)) (fun u v _ => (intOf v).toNat - (intOf u).toNat)
  case atStart => exact ⟨m, b, rfl, rfl, by omega, by omega, by omega, (⟨.inl rfl, .inl rfl⟩ : (m = m ∨ _) ∧ (b = b ∨ _)), h, turned_refl w g⟩
  case round =>
    obtain ⟨i, j, rfl, rfl, hmi, hij, hjb, H, hblk, htu⟩ := hrel
    by_cases hlt : i < j
    · obtain ⟨hh, hhe⟩ : ∃ hh, hh = (i + j) / 2 := ⟨_, rfl⟩
      have hh1 : i ≤ hh := by omega
      have hh2 : hh < j := by omega
      have q0 : ((i : Int) + (j : Int)) / 2 = (hh : Int) := by rw [hhe]; exact half_nat i j
      have q1 : IntKind.i64.wrap ((i : Int) + (j : Int)) = (i : Int) + (j : Int) := by rw [IntKind.wrap_i64]; omega
      have q2 : IntKind.u64.wrap ((i : Int) + (j : Int)) = (i : Int) + (j : Int) := by rw [IntKind.wrap_u64]; omega
      have q3 : IntKind.i64.wrap (hh : Int) = (hh : Int) := by rw [IntKind.wrap_i64]; omega
      have i0 : (0 : Int) ≤ (hh : Int) := by omega
      have i1 : (hh : Int) < (n : Int) := by omega
      have i2 : (0 : Int) ≤ (a : Int) := by omega
      have i3 : (a : Int) < (n : Int) := by omega
      have eI : (P1 ++ x :: (B ++ P2)).getD hh Po.zero = B.getD (hh - m) Po.zero := by
        obtain ⟨e1, e2, e3⟩ := Ha.out
        have := getD_off (P1 ++ [x]) B P2 hh (hh - m) (by simp; omega) (by omega)
        rw [← this]; simp
      have eJ : (P1 ++ x :: (B ++ P2)).getD a Po.zero = x := by
        obtain ⟨e1, e2, e3⟩ := Ha.out
        rw [e1]; exact getD_mid _ _ _
      have hcells : ∀ W, PBlk W g n (P1 ++ x :: (B ++ P2)) → PCell W g (hh * 4) (B.getD (hh - m) Po.zero) ∧ PCell W g (a * 4) (x) := fun W hb => by
        have h1 := hb.cell (hh) (by omega)
        have h2 := hb.cell (a) (by omega)
        rw [eI] at h1
        rw [eJ] at h2
        exact ⟨h1, h2⟩
      have hcm := fun W => pcompare_any (B.getD (hh - m) Po.zero) (x) W
      have Hcl : Hid (decide (pcmp (B.getD (hh - m) Po.zero) (x) < 0) = Po.less (B.getD (hh - m) Po.zero) (x)) := pcmp_less (B.getD (hh - m) Po.zero) (x)
      generalize pcmp (B.getD (hh - m) Po.zero) (x) = r at *
      have Hp : Hid (∀ t, t = hh - m → B.getD t Po.zero = B.getD (hh - m) Po.zero) := (fun t e => by rw [e] : ∀ t, t = hh - m → B.getD t Po.zero = B.getD (hh - m) Po.zero)
      clear eI eJ hhe
      generalize hpp : B.getD (hh - m) Po.zero = p at *
      have hxx : x = x := rfl
      clear hpp hxx
      obtain ⟨ps, pa, pl, pm⟩ := p
      obtain ⟨ys, ya, yl, ym⟩ := x
      simp only [PCell] at hcells
      simp only [pv] at hcm
      obtain ⟨⟨⟨p0, p1, p2, p3⟩, f0, f1, f2, f3⟩, ⟨⟨y0, y1, y2, y3⟩, z0, z1, z2, z3⟩⟩ := hcells wr hblk
      have Hcells : Hid (_) := hcells
      clear hcells
      by_cases hless : r < 0
      · go_wp2_with fail
        go_region_held3 (fun w' => w'.cell? ⟨g, hh * 4, none⟩ = some (.int .i64 ps) ∧ w'.cell? ⟨g, hh * 4 + 1, none⟩ = some (.int .i64 pa) ∧ w'.cell? ⟨g, hh * 4 + 2, none⟩ = some (.int .i64 pl) ∧ w'.cell? ⟨g, hh * 4 + 3, none⟩ = some (.int .u32 (pm : Nat)) ∧ w'.cell? ⟨g, a * 4, none⟩ = some (.int .i64 ys) ∧ w'.cell? ⟨g, a * 4 + 1, none⟩ = some (.int .i64 ya) ∧ w'.cell? ⟨g, a * 4 + 2, none⟩ = some (.int .i64 yl) ∧ w'.cell? ⟨g, a * 4 + 3, none⟩ = some (.int .u32 (ym : Nat))) (first | go_keep | (refine ⟨?_, ?_, ?_, ?_, ?_, ?_, ?_, ?_⟩ <;> assumption))
          ((go_at_call 28; refine (hcm _).mono ?_; rintro e w2 ⟨rfl, hbel2⟩; have hb2 := below_of_drew hbel2; have hblk3 := hblk.below hb2 hblk.lt; obtain ⟨⟨⟨a0, a1, a2, a3⟩, b0, b1, b2, b3⟩, ⟨⟨c0, c1, c2, c3⟩, d0, d1, d2, d3⟩⟩ := Hcells.out w2 hblk3))
        go_wp2
        go_roundw
        case rel => exact ⟨hh + 1, j, by go_num, rfl, by omega, by omega, hjb, (⟨.inr (by rw [Hp.out _ (by omega), ← Hcl.out]; simp [hless]), H.out.2⟩ : (hh + 1 = m ∨ _) ∧ (j = b ∨ _)), hblk3, htu.trans (turned_below hb2)⟩
        case measure => simp [intOf]; omega
      · have hd : decide (r < 0) = false := by simpa using hless
        go_wp2_with fail
        go_region_held3 (fun w' => w'.cell? ⟨g, hh * 4, none⟩ = some (.int .i64 ps) ∧ w'.cell? ⟨g, hh * 4 + 1, none⟩ = some (.int .i64 pa) ∧ w'.cell? ⟨g, hh * 4 + 2, none⟩ = some (.int .i64 pl) ∧ w'.cell? ⟨g, hh * 4 + 3, none⟩ = some (.int .u32 (pm : Nat)) ∧ w'.cell? ⟨g, a * 4, none⟩ = some (.int .i64 ys) ∧ w'.cell? ⟨g, a * 4 + 1, none⟩ = some (.int .i64 ya) ∧ w'.cell? ⟨g, a * 4 + 2, none⟩ = some (.int .i64 yl) ∧ w'.cell? ⟨g, a * 4 + 3, none⟩ = some (.int .u32 (ym : Nat))) (first | go_keep | (refine ⟨?_, ?_, ?_, ?_, ?_, ?_, ?_, ?_⟩ <;> assumption))
          ((go_at_call 28; refine (hcm _).mono ?_; rintro e w2 ⟨rfl, hbel2⟩; have hb2 := below_of_drew hbel2; have hblk3 := hblk.below hb2 hblk.lt; obtain ⟨⟨⟨a0, a1, a2, a3⟩, b0, b1, b2, b3⟩, ⟨⟨c0, c1, c2, c3⟩, d0, d1, d2, d3⟩⟩ := Hcells.out w2 hblk3))
        go_wp2
        go_roundw
        case rel => exact ⟨i, hh, rfl, rfl, hmi, by omega, by omega, (⟨H.out.1, .inr (by rw [Hp.out _ (by omega), ← Hcl.out]; exact hd)⟩ : (i = m ∨ _) ∧ (hh = b ∨ _)), hblk3, htu.trans (turned_below hb2)⟩
        case measure => simp [intOf]; omega
    · obtain rfl : i = j := by omega
      obtain ⟨s, hs'⟩ : ∃ s, s = i - m := ⟨_, rfl⟩
      have hlow := So.low_cross Po.less_sw x Po.zero hs s (by have := Ha.out; omega) (by
        rcases H.out.1 with e | e
        · left; omega
        · right; rw [hs']; exact e) (by
        rcases H.out.2 with e | e
        · left; have := Ha.out; omega
        · right; rw [hs']; exact e)
      have hfin := So.ins_first Po.less_sw (B1 := B.take s) (B2 := B.drop s) (x := x) (by rw [List.take_append_drop]; exact hs) hlow.1 hlow.2
      rw [List.take_append_drop] at hfin
      have HI : Hid (i = m + s) := (by omega : i = m + s)
      have hsB : s ≤ B.length := by have := Ha.out; omega
      have k0 : IntKind.i64.wrap ((i : Int) - 1) = (i : Int) - 1 := by rw [IntKind.wrap_i64]; omega
      clear hlow H hs' h hs
      go_wp2
      go_loopw [13] (fun u wr => ∃ k t : Nat, u = .int .i64 k ∧ Hid (k = a + t) ∧ t ≤ s ∧ PBlk wr g n (P1 ++ B.take t ++ x :: (B.drop t ++ P2)) ∧ w.grownBy wr (some g)) (fun u _ => i - (intOf u).toNat)
      case atStart => exact ⟨a, 0, rfl, (rfl : a = a + 0), by omega, by simpa using hblk, htu⟩
      case round =>
        obtain ⟨k, t, rfl, Hk, hts, hblk2, htu2⟩ := hrel
        by_cases hlt2 : t < s
        · have hki : (k : Int) < (i : Int) - 1 := by have := Hk.out; have := HI.out; have := Ha.out; omega
          have hkn : k + 1 < n := by have := Hk.out; have := HI.out; have := Ha.out; omega
          have hbt : B.drop t = B.getD t Po.zero :: B.drop (t + 1) := by rw [List.drop_eq_getElem_cons (by omega)]; simp [show t < B.length by omega]
          have hbt2 : B.take (t + 1) = B.take t ++ [B.getD t Po.zero] := by rw [List.take_succ_eq_append_getElem (by omega)]; simp [show t < B.length by omega]
          have hnext : ∀ W, PBlk W g n ((P1 ++ B.take t) ++ B.getD t Po.zero :: x :: (B.drop (t + 1) ++ P2)) → PBlk W g n (P1 ++ B.take (t + 1) ++ x :: (B.drop (t + 1) ++ P2)) := fun W h => by
            rw [hbt2]; simpa using h
          have hkl : k = (P1 ++ B.take t).length := by have := Hk.out; have := Ha.out; rw [List.length_append, List.length_take]; omega
          rw [hbt, List.cons_append] at hblk2
          have Hkl : Hid (_) := hkl
          have Hnext : Hid (_) := hnext
          clear hbt hbt2 hnext hkl hblk
          generalize B.getD t Po.zero = y at *
          generalize P1 ++ B.take t = K1 at *
          have fp : Po.Fits x := hblk2.fits _ (by simp)
          have fy : Po.Fits y := hblk2.fits _ (by simp)
          have hp := hblk2.cell k (by omega)
          rw [show (K1 ++ x :: y :: (B.drop (t + 1) ++ P2)).getD k Po.zero = x by rw [Hkl.out]; exact getD_mid _ _ _] at hp
          have hq := hblk2.cell (k + 1) (by omega)
          rw [show (K1 ++ x :: y :: (B.drop (t + 1) ++ P2)).getD (k + 1) Po.zero = y by rw [Hkl.out]; exact getD_next _ _ _ _] at hq
          have hfin2 : Hid (_) := hfin
          clear hfin
          obtain ⟨ps, pa, pl, pm⟩ := x
          obtain ⟨ys, ya, yl, ym⟩ := y
          simp only [PCell] at hp hq
          obtain ⟨⟨p0, p1, p2, p3⟩, f0, f1, f2, f3⟩ := hp
          obtain ⟨⟨y0, y1, y2, y3⟩, z0, z1, z2, z3⟩ := hq
          have i0 : IntKind.i64.wrap ((k : Int) + 1) = (k : Int) + 1 := by rw [IntKind.wrap_i64]; omega
          have i1 : (0 : Int) ≤ (k : Int) := by omega
          have i2 : (k : Int) < (n : Int) := by omega
          have i3 : (0 : Int) ≤ (k : Int) + 1 := by omega
          have i4 : (k : Int) + 1 < (n : Int) := by omega
          have i5 : ((k : Int) + 1).toNat = k + 1 := by omega
          have hblk3 := hblk2
          go_wp2_with fail
          go_region
          have s1 := (hblk3.store (k) (by omega) (ys, ya, yl, ym) fy).store (k + 1) (by omega) (ps, pa, pl, pm) fp
          have s2 := (turned_four wr g (k * 4) (k * 4 + 1) (k * 4 + 2) (k * 4 + 3) (.int .i64 ys) (.int .i64 ya) (.int .i64 yl) (.int .u32 (ym : Nat))).trans (turned_four _ g ((k + 1) * 4) ((k + 1) * 4 + 1) ((k + 1) * 4 + 2) ((k + 1) * 4 + 3) (.int .i64 ps) (.int .i64 pa) (.int .i64 pl) (.int .u32 (pm : Nat)))
          rw [swap_near _ _ _ _ k (k + 1) Hkl.out (by rw [Hkl.out])] at s1
          have s3 := Hnext.out _ s1
          clear p0 p1 p2 p3 f0 f1 f2 f3 y0 y1 y2 y3 z0 z1 z2 z3 s1
          generalize (((((((wr.setCell ⟨g, k * 4, none⟩ (.int .i64 ys)).setCell ⟨g, k * 4 + 1, none⟩ (.int .i64 ya)).setCell ⟨g, k * 4 + 2, none⟩ (.int .i64 yl)).setCell ⟨g, k * 4 + 3, none⟩ (.int .u32 (ym : Nat))).setCell ⟨g, (k + 1) * 4, none⟩ (.int .i64 ps)).setCell ⟨g, (k + 1) * 4 + 1, none⟩ (.int .i64 pa)).setCell ⟨g, (k + 1) * 4 + 2, none⟩ (.int .i64 pl)).setCell ⟨g, (k + 1) * 4 + 3, none⟩ (.int .u32 (pm : Nat)) = W5 at *
          go_wp2
          go_roundw
          case rel => exact ⟨k + 1, t + 1, by go_num, (by rw [Hk.out]; omega : k + 1 = a + (t + 1)), by omega, s3.of_block rfl, (htu2.trans s2).trans (turned_drew _ _)⟩
          case measure => simp [intOf]; omega
        · obtain rfl : t = s := by omega
          have hki : ¬ (k : Int) < (i : Int) - 1 := by have := Hk.out; have := HI.out; have := Ha.out; omega
          go_wp2
          first | go_end0 | refine bodyPost_ret (results_none rfl _ _ _) rfl ?_
          first | exact ⟨B.take t ++ [x] ++ B.drop t, rfl, by simpa using hblk2, hfin.2, hfin.1, htu2⟩ | exact ⟨rfl, B.take t ++ [x] ++ B.drop t, by simpa using hblk2, hfin.2, hfin.1, htu2⟩
end Go.Proofs.Ytmafbgfldojbbaa
