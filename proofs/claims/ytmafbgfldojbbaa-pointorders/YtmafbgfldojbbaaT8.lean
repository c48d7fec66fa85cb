/- What slices' symMerge does. -/
import Derived.Test.YtmafbgfldojbbaaT7
namespace Go.Proofs.Ytmafbgfldojbbaa
open Go.RowKit

set_option maxRecDepth 100000 in
set_option maxHeartbeats 4000000 in
theorem symmain_any (f : Nat) (ih : SymC f) (g n c : Nat) (P1 A B P2 : List Po.P) (a m b mid nn pp lo hi H : Nat) (w : World) (hN : SymN n a m b mid nn pp lo hi H A.length B.length P1.length) (hf : A.length + B.length ≤ f + 1) (h : PBlk w g n (P1 ++ (A ++ (B ++ P2)))) (sA : So.Sorted Po.less A) (sB : So.Sorted Po.less B) :
    Calls Try.prog 42 #[.slice (some ⟨g, 0, none⟩) n c, .int .i64 a, .int .i64 m, .int .i64 b, cmpv] w fun e w' => ∃ X, e = .returned (.tuple #[]) ∧ PBlk w' g n (P1 ++ X ++ P2) ∧ So.Stab Po.less (A ++ B) X ∧ So.Sorted Po.less X ∧ w.grownBy w' (some g) := by
  have hlen := h.len
  simp only [List.length_append, ← Nat.add_assoc] at hlen
  have htail := fun i h1 h2 HH => hN.tail (P2 := P2) ih hf hlen (i := i) h1 h2 sA sB HH
  have Htail : Hid (_) := htail
  have hstep := fun i j h1 h2 h3 => hN.step (P2 := P2) (i := i) (j := j) h1 h2 h3
  have Hstep : Hid (_) := hstep
  clear hlen htail hstep hf ih sA sB
  obtain ⟨j0, j1, j2, j3, j4, j5, j6, j7, j8, j9, j10, j11, j12⟩ := hN.start
  obtain ⟨t1, t2, hlh⟩ := hN.turn
  have hn := hN.hn
  clear hN
  by_cases hmm : mid < m
  · obtain ⟨j13, j14⟩ := t1 hmm
    have J14 : Hid (_) := j14
    clear t1 t2 j14
    go_enter Try.func42, Try.ntmps42
    go_wp2
    go_loopw [20, 21] (fun u v wr => ∃ i j : Nat, u = .int .i64 i ∧ v = .int .i64 j ∧ lo ≤ i ∧ i ≤ j ∧ j ≤ hi ∧ Hid ((i = lo ∨ Po.less (B.getD (H - (i - a)) Po.zero) (A.getD (i - a - 1) Po.zero) = false) ∧ (j = hi ∨ Po.less (B.getD (H - 1 - (j - a)) Po.zero) (A.getD (j - a) Po.zero) = true)) ∧ PBlk wr g n (P1 ++ (A ++ (B ++ P2))) ∧ w.grownBy wr (some g)) (fun u v _ => (intOf v).toNat - (intOf u).toNat)
    case atStart => exact ⟨lo, hi, rfl, val_int J14.out, Nat.le_refl _, hlh, Nat.le_refl _, (⟨.inl rfl, .inl rfl⟩ : (lo = lo ∨ _) ∧ (hi = hi ∨ _)), h, turned_refl w g⟩
    case round =>
      obtain ⟨i, j, rfl, rfl, hmi, hij, hjb, HH, hblk, htu⟩ := hrel
      by_cases hlt : i < j
      · obtain ⟨hh, ii, hh1, hh2, hHh, hah, q0, q1, q2, q3, q4, ⟨i0, i1, i2, i3⟩, hcells'⟩ := Hstep.out i j hmi hlt hjb
        have hcells := fun W => hcells' W g
        have hcm := fun W => pcompare_any (B.getD (H - 1 - (hh - a)) Po.zero) (A.getD (hh - a) Po.zero) W
        have Hcl : Hid (decide (pcmp (B.getD (H - 1 - (hh - a)) Po.zero) (A.getD (hh - a) Po.zero) < 0) = Po.less (B.getD (H - 1 - (hh - a)) Po.zero) (A.getD (hh - a) Po.zero)) := pcmp_less _ _
        have HpA : Hid (∀ t, t = hh - a → A.getD t Po.zero = A.getD (hh - a) Po.zero) := (fun t e => by rw [e] : ∀ t, t = hh - a → A.getD t Po.zero = A.getD (hh - a) Po.zero)
        have HpB : Hid (∀ t, t = H - 1 - (hh - a) → B.getD t Po.zero = B.getD (H - 1 - (hh - a)) Po.zero) := (fun t e => by rw [e] : ∀ t, t = H - 1 - (hh - a) → B.getD t Po.zero = B.getD (H - 1 - (hh - a)) Po.zero)
        clear hcells' Htail Hstep h
        generalize pcmp (B.getD (H - 1 - (hh - a)) Po.zero) (A.getD (hh - a) Po.zero) = r at *
        generalize A.getD (hh - a) Po.zero = y at *
        generalize B.getD (H - 1 - (hh - a)) Po.zero = p at *
        obtain ⟨ps, pa, pl, pm⟩ := p
        obtain ⟨ys, ya, yl, ym⟩ := y
        simp only [PCell] at hcells
        simp only [pv] at hcm
        obtain ⟨⟨⟨p0, p1, p2, p3⟩, f0, f1, f2, f3⟩, ⟨⟨y0, y1, y2, y3⟩, z0, z1, z2, z3⟩⟩ := hcells wr hblk
        have Hcells : Hid (_) := hcells
        clear hcells
        have HN1 : Hid (hh + 1 - a - 1 = hh - a ∧ H - (hh + 1 - a) = H - 1 - (hh - a)) := (by omega : hh + 1 - a - 1 = hh - a ∧ H - (hh + 1 - a) = H - 1 - (hh - a))
        have hl1 : lo ≤ hh + 1 := by omega
        have hl2 : hh + 1 ≤ j := by omega
        have hl3 : hh ≤ hi := by omega
        clear j0 j1 j2 j3 j4 j5 j6 j7 j8 j9 j10 j11 j12
        by_cases hless : r < 0
        · go_wp2_with fail
          go_region_held3 (fun w' => w'.cell? ⟨g, ii * 4, none⟩ = some (.int .i64 ps) ∧ w'.cell? ⟨g, ii * 4 + 1, none⟩ = some (.int .i64 pa) ∧ w'.cell? ⟨g, ii * 4 + 2, none⟩ = some (.int .i64 pl) ∧ w'.cell? ⟨g, ii * 4 + 3, none⟩ = some (.int .u32 (pm : Nat)) ∧ w'.cell? ⟨g, hh * 4, none⟩ = some (.int .i64 ys) ∧ w'.cell? ⟨g, hh * 4 + 1, none⟩ = some (.int .i64 ya) ∧ w'.cell? ⟨g, hh * 4 + 2, none⟩ = some (.int .i64 yl) ∧ w'.cell? ⟨g, hh * 4 + 3, none⟩ = some (.int .u32 (ym : Nat))) (first | go_keep | (refine ⟨?_, ?_, ?_, ?_, ?_, ?_, ?_, ?_⟩ <;> assumption))
            ((go_at_call 28; refine (hcm _).mono ?_; rintro e w2 ⟨rfl, hbel2⟩; have hb2 := below_of_drew hbel2; have hblk3 := hblk.below hb2 hblk.lt; obtain ⟨⟨⟨a0, a1, a2, a3⟩, b0, b1, b2, b3⟩, ⟨⟨c0, c1, c2, c3⟩, d0, d1, d2, d3⟩⟩ := Hcells.out w2 hblk3))
          go_wp2
          go_roundw
          case rel => exact ⟨i, hh, rfl, rfl, hmi, hh1, hl3, (⟨HH.out.1, .inr (by rw [HpA.out _ rfl, HpB.out _ rfl, ← Hcl.out]; simp [hless])⟩ : (i = lo ∨ _) ∧ (hh = hi ∨ _)), hblk3, htu.trans (turned_below hb2)⟩
          case measure => simp [intOf]; omega
        · have hd : decide (r < 0) = false := by simpa using hless
          go_wp2_with fail
          go_region_held3 (fun w' => w'.cell? ⟨g, ii * 4, none⟩ = some (.int .i64 ps) ∧ w'.cell? ⟨g, ii * 4 + 1, none⟩ = some (.int .i64 pa) ∧ w'.cell? ⟨g, ii * 4 + 2, none⟩ = some (.int .i64 pl) ∧ w'.cell? ⟨g, ii * 4 + 3, none⟩ = some (.int .u32 (pm : Nat)) ∧ w'.cell? ⟨g, hh * 4, none⟩ = some (.int .i64 ys) ∧ w'.cell? ⟨g, hh * 4 + 1, none⟩ = some (.int .i64 ya) ∧ w'.cell? ⟨g, hh * 4 + 2, none⟩ = some (.int .i64 yl) ∧ w'.cell? ⟨g, hh * 4 + 3, none⟩ = some (.int .u32 (ym : Nat))) (first | go_keep | (refine ⟨?_, ?_, ?_, ?_, ?_, ?_, ?_, ?_⟩ <;> assumption))
            ((go_at_call 28; refine (hcm _).mono ?_; rintro e w2 ⟨rfl, hbel2⟩; have hb2 := below_of_drew hbel2; have hblk3 := hblk.below hb2 hblk.lt; obtain ⟨⟨⟨a0, a1, a2, a3⟩, b0, b1, b2, b3⟩, ⟨⟨c0, c1, c2, c3⟩, d0, d1, d2, d3⟩⟩ := Hcells.out w2 hblk3))
          go_wp2
          go_roundw
          case rel => exact ⟨hh + 1, j, by go_num, rfl, hl1, hl2, hjb, (⟨.inr (by rw [HpA.out _ HN1.out.1, HpB.out _ HN1.out.2, ← Hcl.out]; exact hd), HH.out.2⟩ : (hh + 1 = lo ∨ _) ∧ (j = hi ∨ _)), hblk3, htu.trans (turned_below hb2)⟩
          case measure => simp [intOf]; omega
      · obtain rfl : i = j := by omega
        obtain ⟨en, A1, A2, B1, B2, q0, hA', HL', HR', HT', hrot', hleft', hright', Hjoin'⟩ := Htail.out i hmi hjb HH.out
        have hblkA := hA' wr g hblk
        have HL : Hid (_) := HL'
        have HR : Hid (_) := HR'
        have HT : Hid (_) := HT'
        have hrot : Hid (_) := hrot'
        have hleft : Hid (_) := hleft'
        have hright : Hid (_) := hright'
        have Hjoin : Hid (_) := Hjoin'
        clear hA' HL' HR' HT' hrot' hleft' hright' Hjoin' HH hblk Htail Hstep h j0 j1 j2 j3 j4 j5 j6 j7 j8 j9 j10 j11 j12
        by_cases b0 : i < m ∧ m < en
        · obtain ⟨b1, b2⟩ := b0
          by_cases c0 : a < i ∧ i < mid
          · obtain ⟨c1, c2⟩ := c0
            by_cases d0 : mid < en ∧ en < b
            · obtain ⟨d1, d2⟩ := d0
              go_wp2_with (first
                | (go_at_call 42; have := hblkL; go_must (refine (hright.out d1 d2 X1 _ _ _ hblkL).mono ?_; rintro e w4 ⟨X2, rfl, hblkF, st2, so2, htuF⟩))
                | (go_at_call 42; have := hblkR; go_must (refine (hleft.out c1 c2 _ _ _ hblkR).mono ?_; rintro e w3 ⟨X1, rfl, hblkL, st1, so1, htuL⟩))
                | (go_at_call 43; go_must (refine (hrot.out b1 b2 _ _ _ hblkA).mono ?_; rintro e w2 ⟨rfl, hblkR, htuR⟩)))
              all_goals have hj := Hjoin.out X1 X2 st1 so1 st2 so2
              all_goals (first | go_end0 | refine bodyPost_ret (results_none rfl _ _ _) rfl ?_)
              all_goals (first | exact ⟨X1 ++ X2, rfl, by simpa using hblkF, hj.2, hj.1, (((htu.trans htuR).trans htuL).trans htuF)⟩ | exact ⟨rfl, X1 ++ X2, by simpa using hblkF, hj.2, hj.1, (((htu.trans htuR).trans htuL).trans htuF)⟩)
            · go_wp2_with (first
                | (go_at_call 42; have := hblkR; go_must (refine (hleft.out c1 c2 _ _ _ hblkR).mono ?_; rintro e w3 ⟨X1, rfl, hblkL, st1, so1, htuL⟩))
                | (go_at_call 43; go_must (refine (hrot.out b1 b2 _ _ _ hblkA).mono ?_; rintro e w2 ⟨rfl, hblkR, htuR⟩)))
              all_goals have hj := Hjoin.out X1 (A2 ++ B2) st1 so1 (So.Stab.refl _ _) (HR.out d0)
              all_goals (first | go_end0 | refine bodyPost_ret (results_none rfl _ _ _) rfl ?_)
              all_goals (first | exact ⟨X1 ++ (A2 ++ B2), rfl, by simpa using hblkL, hj.2, hj.1, ((htu.trans htuR).trans htuL)⟩ | exact ⟨rfl, X1 ++ (A2 ++ B2), by simpa using hblkL, hj.2, hj.1, ((htu.trans htuR).trans htuL)⟩)
          · by_cases d0 : mid < en ∧ en < b
            · obtain ⟨d1, d2⟩ := d0
              go_wp2_with (first
                | (go_at_call 42; have := hblkR; go_must (refine (hright.out d1 d2 (A1 ++ B1) _ _ _ (by simpa using hblkR)).mono ?_; rintro e w4 ⟨X2, rfl, hblkF, st2, so2, htuF⟩))
                | (go_at_call 43; go_must (refine (hrot.out b1 b2 _ _ _ hblkA).mono ?_; rintro e w2 ⟨rfl, hblkR, htuR⟩)))
              all_goals have hj := Hjoin.out (A1 ++ B1) X2 (So.Stab.refl _ _) (HL.out c0) st2 so2
              all_goals (first | go_end0 | refine bodyPost_ret (results_none rfl _ _ _) rfl ?_)
              all_goals (first | exact ⟨(A1 ++ B1) ++ X2, rfl, by simpa using hblkF, hj.2, hj.1, ((htu.trans htuR).trans htuF)⟩ | exact ⟨rfl, (A1 ++ B1) ++ X2, by simpa using hblkF, hj.2, hj.1, ((htu.trans htuR).trans htuF)⟩)
            · go_wp2_with (first
                | (go_at_call 43; go_must (refine (hrot.out b1 b2 _ _ _ hblkA).mono ?_; rintro e w2 ⟨rfl, hblkR, htuR⟩)))
              all_goals have hj := Hjoin.out (A1 ++ B1) (A2 ++ B2) (So.Stab.refl _ _) (HL.out c0) (So.Stab.refl _ _) (HR.out d0)
              all_goals (first | go_end0 | refine bodyPost_ret (results_none rfl _ _ _) rfl ?_)
              all_goals (first | exact ⟨(A1 ++ B1) ++ (A2 ++ B2), rfl, by simpa using hblkR, hj.2, hj.1, (htu.trans htuR)⟩ | exact ⟨rfl, (A1 ++ B1) ++ (A2 ++ B2), by simpa using hblkR, hj.2, hj.1, (htu.trans htuR)⟩)
        · by_cases c0 : a < i ∧ i < mid
          · obtain ⟨c1, c2⟩ := c0
            by_cases d0 : mid < en ∧ en < b
            · obtain ⟨d1, d2⟩ := d0
              have hblkR := HT.out b0 wr g hblkA
              go_wp2_with (first
                | (go_at_call 42; have := hblkL; go_must (refine (hright.out d1 d2 X1 _ _ _ hblkL).mono ?_; rintro e w4 ⟨X2, rfl, hblkF, st2, so2, htuF⟩))
                | (go_at_call 42; have := hblkR; go_must (refine (hleft.out c1 c2 _ _ _ hblkR).mono ?_; rintro e w3 ⟨X1, rfl, hblkL, st1, so1, htuL⟩)))
              all_goals have hj := Hjoin.out X1 X2 st1 so1 st2 so2
              all_goals (first | go_end0 | refine bodyPost_ret (results_none rfl _ _ _) rfl ?_)
              all_goals (first | exact ⟨X1 ++ X2, rfl, by simpa using hblkF, hj.2, hj.1, ((htu.trans htuL).trans htuF)⟩ | exact ⟨rfl, X1 ++ X2, by simpa using hblkF, hj.2, hj.1, ((htu.trans htuL).trans htuF)⟩)
            · have hblkR := HT.out b0 wr g hblkA
              go_wp2_with (first
                | (go_at_call 42; have := hblkR; go_must (refine (hleft.out c1 c2 _ _ _ hblkR).mono ?_; rintro e w3 ⟨X1, rfl, hblkL, st1, so1, htuL⟩)))
              all_goals have hj := Hjoin.out X1 (A2 ++ B2) st1 so1 (So.Stab.refl _ _) (HR.out d0)
              all_goals (first | go_end0 | refine bodyPost_ret (results_none rfl _ _ _) rfl ?_)
              all_goals (first | exact ⟨X1 ++ (A2 ++ B2), rfl, by simpa using hblkL, hj.2, hj.1, (htu.trans htuL)⟩ | exact ⟨rfl, X1 ++ (A2 ++ B2), by simpa using hblkL, hj.2, hj.1, (htu.trans htuL)⟩)
          · by_cases d0 : mid < en ∧ en < b
            · obtain ⟨d1, d2⟩ := d0
              have hblkR := HT.out b0 wr g hblkA
              go_wp2_with (first
                | (go_at_call 42; have := hblkR; go_must (refine (hright.out d1 d2 (A1 ++ B1) _ _ _ (by simpa using hblkR)).mono ?_; rintro e w4 ⟨X2, rfl, hblkF, st2, so2, htuF⟩)))
              all_goals have hj := Hjoin.out (A1 ++ B1) X2 (So.Stab.refl _ _) (HL.out c0) st2 so2
              all_goals (first | go_end0 | refine bodyPost_ret (results_none rfl _ _ _) rfl ?_)
              all_goals (first | exact ⟨(A1 ++ B1) ++ X2, rfl, by simpa using hblkF, hj.2, hj.1, (htu.trans htuF)⟩ | exact ⟨rfl, (A1 ++ B1) ++ X2, by simpa using hblkF, hj.2, hj.1, (htu.trans htuF)⟩)
            · have hblkR := HT.out b0 wr g hblkA
              go_wp2
              all_goals have hj := Hjoin.out (A1 ++ B1) (A2 ++ B2) (So.Stab.refl _ _) (HL.out c0) (So.Stab.refl _ _) (HR.out d0)
              all_goals (first | go_end0 | refine bodyPost_ret (results_none rfl _ _ _) rfl ?_)
              all_goals (first | exact ⟨(A1 ++ B1) ++ (A2 ++ B2), rfl, by simpa using hblkR, hj.2, hj.1, htu⟩ | exact ⟨rfl, (A1 ++ B1) ++ (A2 ++ B2), by simpa using hblkR, hj.2, hj.1, htu⟩)
  · obtain ⟨j15, j16⟩ := t2 hmm
    have J15 : Hid (_) := j15
    have J16 : Hid (_) := j16
    clear t1 t2 j15 j16
    go_enter Try.func42, Try.ntmps42
    go_wp2
    go_loopw [20, 21] (fun u v wr => ∃ i j : Nat, u = .int .i64 i ∧ v = .int .i64 j ∧ lo ≤ i ∧ i ≤ j ∧ j ≤ hi ∧ Hid ((i = lo ∨ Po.less (B.getD (H - (i - a)) Po.zero) (A.getD (i - a - 1) Po.zero) = false) ∧ (j = hi ∨ Po.less (B.getD (H - 1 - (j - a)) Po.zero) (A.getD (j - a) Po.zero) = true)) ∧ PBlk wr g n (P1 ++ (A ++ (B ++ P2))) ∧ w.grownBy wr (some g)) (fun u v _ => (intOf v).toNat - (intOf u).toNat)
    case atStart => exact ⟨lo, hi, val_int J15.out, val_int J16.out, Nat.le_refl _, hlh, Nat.le_refl _, (⟨.inl rfl, .inl rfl⟩ : (lo = lo ∨ _) ∧ (hi = hi ∨ _)), h, turned_refl w g⟩
    case round =>
      obtain ⟨i, j, rfl, rfl, hmi, hij, hjb, HH, hblk, htu⟩ := hrel
      by_cases hlt : i < j
      · obtain ⟨hh, ii, hh1, hh2, hHh, hah, q0, q1, q2, q3, q4, ⟨i0, i1, i2, i3⟩, hcells'⟩ := Hstep.out i j hmi hlt hjb
        have hcells := fun W => hcells' W g
        have hcm := fun W => pcompare_any (B.getD (H - 1 - (hh - a)) Po.zero) (A.getD (hh - a) Po.zero) W
        have Hcl : Hid (decide (pcmp (B.getD (H - 1 - (hh - a)) Po.zero) (A.getD (hh - a) Po.zero) < 0) = Po.less (B.getD (H - 1 - (hh - a)) Po.zero) (A.getD (hh - a) Po.zero)) := pcmp_less _ _
        have HpA : Hid (∀ t, t = hh - a → A.getD t Po.zero = A.getD (hh - a) Po.zero) := (fun t e => by rw [e] : ∀ t, t = hh - a → A.getD t Po.zero = A.getD (hh - a) Po.zero)
        have HpB : Hid (∀ t, t = H - 1 - (hh - a) → B.getD t Po.zero = B.getD (H - 1 - (hh - a)) Po.zero) := (fun t e => by rw [e] : ∀ t, t = H - 1 - (hh - a) → B.getD t Po.zero = B.getD (H - 1 - (hh - a)) Po.zero)
        clear hcells' Htail Hstep h
        generalize pcmp (B.getD (H - 1 - (hh - a)) Po.zero) (A.getD (hh - a) Po.zero) = r at *
        generalize A.getD (hh - a) Po.zero = y at *
        generalize B.getD (H - 1 - (hh - a)) Po.zero = p at *
        obtain ⟨ps, pa, pl, pm⟩ := p
        obtain ⟨ys, ya, yl, ym⟩ := y
        simp only [PCell] at hcells
        simp only [pv] at hcm
        obtain ⟨⟨⟨p0, p1, p2, p3⟩, f0, f1, f2, f3⟩, ⟨⟨y0, y1, y2, y3⟩, z0, z1, z2, z3⟩⟩ := hcells wr hblk
        have Hcells : Hid (_) := hcells
        clear hcells
        have HN1 : Hid (hh + 1 - a - 1 = hh - a ∧ H - (hh + 1 - a) = H - 1 - (hh - a)) := (by omega : hh + 1 - a - 1 = hh - a ∧ H - (hh + 1 - a) = H - 1 - (hh - a))
        have hl1 : lo ≤ hh + 1 := by omega
        have hl2 : hh + 1 ≤ j := by omega
        have hl3 : hh ≤ hi := by omega
        clear j0 j1 j2 j3 j4 j5 j6 j7 j8 j9 j10 j11 j12
        by_cases hless : r < 0
        · go_wp2_with fail
          go_region_held3 (fun w' => w'.cell? ⟨g, ii * 4, none⟩ = some (.int .i64 ps) ∧ w'.cell? ⟨g, ii * 4 + 1, none⟩ = some (.int .i64 pa) ∧ w'.cell? ⟨g, ii * 4 + 2, none⟩ = some (.int .i64 pl) ∧ w'.cell? ⟨g, ii * 4 + 3, none⟩ = some (.int .u32 (pm : Nat)) ∧ w'.cell? ⟨g, hh * 4, none⟩ = some (.int .i64 ys) ∧ w'.cell? ⟨g, hh * 4 + 1, none⟩ = some (.int .i64 ya) ∧ w'.cell? ⟨g, hh * 4 + 2, none⟩ = some (.int .i64 yl) ∧ w'.cell? ⟨g, hh * 4 + 3, none⟩ = some (.int .u32 (ym : Nat))) (first | go_keep | (refine ⟨?_, ?_, ?_, ?_, ?_, ?_, ?_, ?_⟩ <;> assumption))
            ((go_at_call 28; refine (hcm _).mono ?_; rintro e w2 ⟨rfl, hbel2⟩; have hb2 := below_of_drew hbel2; have hblk3 := hblk.below hb2 hblk.lt; obtain ⟨⟨⟨a0, a1, a2, a3⟩, b0, b1, b2, b3⟩, ⟨⟨c0, c1, c2, c3⟩, d0, d1, d2, d3⟩⟩ := Hcells.out w2 hblk3))
          go_wp2
          go_roundw
          case rel => exact ⟨i, hh, rfl, rfl, hmi, hh1, hl3, (⟨HH.out.1, .inr (by rw [HpA.out _ rfl, HpB.out _ rfl, ← Hcl.out]; simp [hless])⟩ : (i = lo ∨ _) ∧ (hh = hi ∨ _)), hblk3, htu.trans (turned_below hb2)⟩
          case measure => simp [intOf]; omega
        · have hd : decide (r < 0) = false := by simpa using hless
          go_wp2_with fail
          go_region_held3 (fun w' => w'.cell? ⟨g, ii * 4, none⟩ = some (.int .i64 ps) ∧ w'.cell? ⟨g, ii * 4 + 1, none⟩ = some (.int .i64 pa) ∧ w'.cell? ⟨g, ii * 4 + 2, none⟩ = some (.int .i64 pl) ∧ w'.cell? ⟨g, ii * 4 + 3, none⟩ = some (.int .u32 (pm : Nat)) ∧ w'.cell? ⟨g, hh * 4, none⟩ = some (.int .i64 ys) ∧ w'.cell? ⟨g, hh * 4 + 1, none⟩ = some (.int .i64 ya) ∧ w'.cell? ⟨g, hh * 4 + 2, none⟩ = some (.int .i64 yl) ∧ w'.cell? ⟨g, hh * 4 + 3, none⟩ = some (.int .u32 (ym : Nat))) (first | go_keep | (refine ⟨?_, ?_, ?_, ?_, ?_, ?_, ?_, ?_⟩ <;> assumption))
            ((go_at_call 28; refine (hcm _).mono ?_; rintro e w2 ⟨rfl, hbel2⟩; have hb2 := below_of_drew hbel2; have hblk3 := hblk.below hb2 hblk.lt; obtain ⟨⟨⟨a0, a1, a2, a3⟩, b0, b1, b2, b3⟩, ⟨⟨c0, c1, c2, c3⟩, d0, d1, d2, d3⟩⟩ := Hcells.out w2 hblk3))
          go_wp2
          go_roundw
          case rel => exact ⟨hh + 1, j, by go_num, rfl, hl1, hl2, hjb, (⟨.inr (by rw [HpA.out _ HN1.out.1, HpB.out _ HN1.out.2, ← Hcl.out]; exact hd), HH.out.2⟩ : (hh + 1 = lo ∨ _) ∧ (j = hi ∨ _)), hblk3, htu.trans (turned_below hb2)⟩
          case measure => simp [intOf]; omega
      · obtain rfl : i = j := by omega
        obtain ⟨en, A1, A2, B1, B2, q0, hA', HL', HR', HT', hrot', hleft', hright', Hjoin'⟩ := Htail.out i hmi hjb HH.out
        have hblkA := hA' wr g hblk
        have HL : Hid (_) := HL'
        have HR : Hid (_) := HR'
        have HT : Hid (_) := HT'
        have hrot : Hid (_) := hrot'
        have hleft : Hid (_) := hleft'
        have hright : Hid (_) := hright'
        have Hjoin : Hid (_) := Hjoin'
        clear hA' HL' HR' HT' hrot' hleft' hright' Hjoin' HH hblk Htail Hstep h j0 j1 j2 j3 j4 j5 j6 j7 j8 j9 j10 j11 j12
        by_cases b0 : i < m ∧ m < en
        · obtain ⟨b1, b2⟩ := b0
          by_cases c0 : a < i ∧ i < mid
          · obtain ⟨c1, c2⟩ := c0
            by_cases d0 : mid < en ∧ en < b
            · obtain ⟨d1, d2⟩ := d0
              go_wp2_with (first
                | (go_at_call 42; have := hblkL; go_must (refine (hright.out d1 d2 X1 _ _ _ hblkL).mono ?_; rintro e w4 ⟨X2, rfl, hblkF, st2, so2, htuF⟩))
                | (go_at_call 42; have := hblkR; go_must (refine (hleft.out c1 c2 _ _ _ hblkR).mono ?_; rintro e w3 ⟨X1, rfl, hblkL, st1, so1, htuL⟩))
                | (go_at_call 43; go_must (refine (hrot.out b1 b2 _ _ _ hblkA).mono ?_; rintro e w2 ⟨rfl, hblkR, htuR⟩)))
              all_goals have hj := Hjoin.out X1 X2 st1 so1 st2 so2
              all_goals (first | go_end0 | refine bodyPost_ret (results_none rfl _ _ _) rfl ?_)
              all_goals (first | exact ⟨X1 ++ X2, rfl, by simpa using hblkF, hj.2, hj.1, (((htu.trans htuR).trans htuL).trans htuF)⟩ | exact ⟨rfl, X1 ++ X2, by simpa using hblkF, hj.2, hj.1, (((htu.trans htuR).trans htuL).trans htuF)⟩)
            · go_wp2_with (first
                | (go_at_call 42; have := hblkR; go_must (refine (hleft.out c1 c2 _ _ _ hblkR).mono ?_; rintro e w3 ⟨X1, rfl, hblkL, st1, so1, htuL⟩))
                | (go_at_call 43; go_must (refine (hrot.out b1 b2 _ _ _ hblkA).mono ?_; rintro e w2 ⟨rfl, hblkR, htuR⟩)))
              all_goals have hj := Hjoin.out X1 (A2 ++ B2) st1 so1 (So.Stab.refl _ _) (HR.out d0)
              all_goals (first | go_end0 | refine bodyPost_ret (results_none rfl _ _ _) rfl ?_)
              all_goals (first | exact ⟨X1 ++ (A2 ++ B2), rfl, by simpa using hblkL, hj.2, hj.1, ((htu.trans htuR).trans htuL)⟩ | exact ⟨rfl, X1 ++ (A2 ++ B2), by simpa using hblkL, hj.2, hj.1, ((htu.trans htuR).trans htuL)⟩)
          · by_cases d0 : mid < en ∧ en < b
            · obtain ⟨d1, d2⟩ := d0
              go_wp2_with (first
                | (go_at_call 42; have := hblkR; go_must (refine (hright.out d1 d2 (A1 ++ B1) _ _ _ (by simpa using hblkR)).mono ?_; rintro e w4 ⟨X2, rfl, hblkF, st2, so2, htuF⟩))
                | (go_at_call 43; go_must (refine (hrot.out b1 b2 _ _ _ hblkA).mono ?_; rintro e w2 ⟨rfl, hblkR, htuR⟩)))
              all_goals have hj := Hjoin.out (A1 ++ B1) X2 (So.Stab.refl _ _) (HL.out c0) st2 so2
              all_goals (first | go_end0 | refine bodyPost_ret (results_none rfl _ _ _) rfl ?_)
              all_goals (first | exact ⟨(A1 ++ B1) ++ X2, rfl, by simpa using hblkF, hj.2, hj.1, ((htu.trans htuR).trans htuF)⟩ | exact ⟨rfl, (A1 ++ B1) ++ X2, by simpa using hblkF, hj.2, hj.1, ((htu.trans htuR).trans htuF)⟩)
            · go_wp2_with (first
                | (go_at_call 43; go_must (refine (hrot.out b1 b2 _ _ _ hblkA).mono ?_; rintro e w2 ⟨rfl, hblkR, htuR⟩)))
              all_goals have hj := Hjoin.out (A1 ++ B1) (A2 ++ B2) (So.Stab.refl _ _) (HL.out c0) (So.Stab.refl _ _) (HR.out d0)
              all_goals (first | go_end0 | refine bodyPost_ret (results_none rfl _ _ _) rfl ?_)
              all_goals (first | exact ⟨(A1 ++ B1) ++ (A2 ++ B2), rfl, by simpa using hblkR, hj.2, hj.1, (htu.trans htuR)⟩ | exact ⟨rfl, (A1 ++ B1) ++ (A2 ++ B2), by simpa using hblkR, hj.2, hj.1, (htu.trans htuR)⟩)
        · by_cases c0 : a < i ∧ i < mid
          · obtain ⟨c1, c2⟩ := c0
            by_cases d0 : mid < en ∧ en < b
            · obtain ⟨d1, d2⟩ := d0
              have hblkR := HT.out b0 wr g hblkA
              go_wp2_with (first
                | (go_at_call 42; have := hblkL; go_must (refine (hright.out d1 d2 X1 _ _ _ hblkL).mono ?_; rintro e w4 ⟨X2, rfl, hblkF, st2, so2, htuF⟩))
                | (go_at_call 42; have := hblkR; go_must (refine (hleft.out c1 c2 _ _ _ hblkR).mono ?_; rintro e w3 ⟨X1, rfl, hblkL, st1, so1, htuL⟩)))
              all_goals have hj := Hjoin.out X1 X2 st1 so1 st2 so2
              all_goals (first | go_end0 | refine bodyPost_ret (results_none rfl _ _ _) rfl ?_)
              all_goals (first | exact ⟨X1 ++ X2, rfl, by simpa using hblkF, hj.2, hj.1, ((htu.trans htuL).trans htuF)⟩ | exact ⟨rfl, X1 ++ X2, by simpa using hblkF, hj.2, hj.1, ((htu.trans htuL).trans htuF)⟩)
            · have hblkR := HT.out b0 wr g hblkA
              go_wp2_with (first
                | (go_at_call 42; have := hblkR; go_must (refine (hleft.out c1 c2 _ _ _ hblkR).mono ?_; rintro e w3 ⟨X1, rfl, hblkL, st1, so1, htuL⟩)))
              all_goals have hj := Hjoin.out X1 (A2 ++ B2) st1 so1 (So.Stab.refl _ _) (HR.out d0)
              all_goals (first | go_end0 | refine bodyPost_ret (results_none rfl _ _ _) rfl ?_)
              all_goals (first | exact ⟨X1 ++ (A2 ++ B2), rfl, by simpa using hblkL, hj.2, hj.1, (htu.trans htuL)⟩ | exact ⟨rfl, X1 ++ (A2 ++ B2), by simpa using hblkL, hj.2, hj.1, (htu.trans htuL)⟩)
          · by_cases d0 : mid < en ∧ en < b
            · obtain ⟨d1, d2⟩ := d0
              have hblkR := HT.out b0 wr g hblkA
              go_wp2_with (first
                | (go_at_call 42; have := hblkR; go_must (refine (hright.out d1 d2 (A1 ++ B1) _ _ _ (by simpa using hblkR)).mono ?_; rintro e w4 ⟨X2, rfl, hblkF, st2, so2, htuF⟩)))
              all_goals have hj := Hjoin.out (A1 ++ B1) X2 (So.Stab.refl _ _) (HL.out c0) st2 so2
              all_goals (first | go_end0 | refine bodyPost_ret (results_none rfl _ _ _) rfl ?_)
              all_goals (first | exact ⟨(A1 ++ B1) ++ X2, rfl, by simpa using hblkF, hj.2, hj.1, (htu.trans htuF)⟩ | exact ⟨rfl, (A1 ++ B1) ++ X2, by simpa using hblkF, hj.2, hj.1, (htu.trans htuF)⟩)
            · have hblkR := HT.out b0 wr g hblkA
              go_wp2
              all_goals have hj := Hjoin.out (A1 ++ B1) (A2 ++ B2) (So.Stab.refl _ _) (HL.out c0) (So.Stab.refl _ _) (HR.out d0)
              all_goals (first | go_end0 | refine bodyPost_ret (results_none rfl _ _ _) rfl ?_)
              all_goals (first | exact ⟨(A1 ++ B1) ++ (A2 ++ B2), rfl, by simpa using hblkR, hj.2, hj.1, htu⟩ | exact ⟨rfl, (A1 ++ B1) ++ (A2 ++ B2), by simpa using hblkR, hj.2, hj.1, htu⟩)
end Go.Proofs.Ytmafbgfldojbbaa
