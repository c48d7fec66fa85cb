/- What slices' insertion sort does to a stretch of a block of points. -/
import Derived.Test.YtmafbgfldojbbaaT1
import Derived.Test.YtmafbgfldojbbaaQ4
namespace Go.Proofs.Ytmafbgfldojbbaa
open Go.RowKit

/-- compare, as a value -/
abbrev cmpv : Value := .func (.func 28) #[] #[]

set_option maxRecDepth 100000 in
set_option maxHeartbeats 1000000 in
theorem insort_any (g n c : Nat) (P1 S P2 : List Po.P) (a b : Nat) (w : World) (hn : n ≤ 1000000000) (h : PBlk w g n (P1 ++ S ++ P2)) (ha : a = P1.length) (hb : b = a + S.length) :
    Calls Try.prog 41 #[.slice (some ⟨g, 0, none⟩) n c, .int .i64 a, .int .i64 b, cmpv] w fun e w' => ∃ X, e = .returned (.tuple #[]) ∧ PBlk w' g n (P1 ++ X ++ P2) ∧ So.Stab Po.less S X ∧ So.Sorted Po.less X ∧ w.grownBy w' (some g) := by
  have hlen := h.len
  simp only [List.length_append] at hlen
  have Ha : Hid (a = P1.length) := ha
  have Hb : Hid (b = a + S.length) := hb
  have hbn : b ≤ n := by omega
  have hab : a ≤ b := by omega
  clear ha hb hlen
  go_enter Try.func41, Try.ntmps41
  go_wp2
  go_loopw [8] (fun v wr => ∃ (i k : Nat) (X : List Po.P), 1 ≤ k ∧ v = .int .i64 i ∧ Hid (i = a + k) ∧ Hid (X.length = (S.take k).length) ∧ PBlk wr g n (P1 ++ X ++ S.drop k ++ P2) ∧ So.Stab Po.less (S.take k) X ∧ So.Sorted Po.less X ∧ w.grownBy wr (some g) ∧ (k ≤ S.length ∨ k = 1)) (fun v _ => b - (intOf v).toNat)
  case atStart => exact ⟨a + 1, 1, S.take 1, by omega, by go_num, (rfl : a + 1 = a + 1), (rfl : (S.take 1).length = (S.take 1).length), by rw [List.append_assoc P1, List.take_append_drop]; exact h, So.Stab.refl _ _, So.sorted_short (by simp; omega), turned_refl w g, .inr rfl⟩
  case round =>
    obtain ⟨i, k, X, hk1, rfl, Hi, hXl, hblk, hst, hso, htu, hk2⟩ := hrel
    by_cases hlt : k < S.length
    · have HXk : Hid (X.length = k) := (by rw [hXl.out, List.length_take]; omega : X.length = k)
      have hib : i < b := by have := Hi.out; have := Hb.out; omega
      have Htk : Hid (S.take (k + 1) = S.take k ++ [S.getD k Po.zero]) := (by rw [List.take_succ_eq_append_getElem hlt]; simp [hlt] : S.take (k + 1) = S.take k ++ [S.getD k Po.zero])
      go_wp2
      go_loopw [9] (fun v wr => ∃ (j : Nat) (X1 X2 : List Po.P), X = X1 ++ X2 ∧ v = .int .i64 j ∧ Hid (j = a + X1.length) ∧ PBlk wr g n (P1 ++ X1 ++ S.getD k Po.zero :: (X2 ++ S.drop (k + 1) ++ P2)) ∧ (∀ q ∈ X2, Po.less (S.getD k Po.zero) q = true) ∧ w.grownBy wr (some g)) (fun v _ => (intOf v).toNat)
      case atStart =>
        refine ⟨i, X, [], by simp, rfl, (by rw [HXk.out, Hi.out] : i = a + X.length), ?_, by simp, htu⟩
        rw [show S.drop k = S.getD k Po.zero :: S.drop (k + 1) by simp [hlt]] at hblk
        simpa using hblk
      case round =>
        obtain ⟨j, X1, X2, rfl, rfl, Hj, hblk2, hX2, htu2⟩ := hrel
        by_cases hX1 : X1 = []
        · subst hX1
          generalize S.getD k Po.zero = p at *
          clear hXl hblk h htu hk2 hk1
          have hja : a = j := by rw [Hj.out]; simp
          subst hja
          go_wp2_with fail
          go_quiet (fail)
          go_wp2
          have hfin := So.ins_mid Po.less_sw (X1 := []) (X2 := X2) (p := p) hso (fun q hq => by cases hq) hX2
          go_roundw
          case rel =>
            refine ⟨i + 1, k + 1, [] ++ [p] ++ X2, by omega, by go_num, (by rw [Hi.out]; omega : i + 1 = a + (k + 1)), ?_, ?_, ?_, hfin.1, ?_, .inl (by omega)⟩
            · refine (?_ : ([] ++ [p] ++ X2).length = (S.take (k + 1)).length)
              have := HXk.out
              simp only [List.length_append, List.length_cons, List.length_nil, List.length_take] at this ⊢
              omega
            · have := hblk2.of_block (w' := wr.drewN nq) rfl
              simpa using this
            · rw [Htk.out]
              exact So.Stab.trans (So.Stab.app hst (So.Stab.refl _ _)) hfin.2
            · exact htu2.trans (turned_drewN _ _ _)
          case measure => simp [intOf]; omega
        · obtain ⟨Y, y, rfl⟩ : ∃ Y y, X1 = Y ++ [y] := ⟨X1.dropLast, X1.getLast hX1, (List.dropLast_concat_getLast hX1).symm⟩
          generalize S.getD k Po.zero = p at *
          have hrow : P1 ++ (Y ++ [y]) ++ p :: (X2 ++ S.drop (k + 1) ++ P2) = (P1 ++ Y) ++ y :: p :: (X2 ++ S.drop (k + 1) ++ P2) := by simp
          rw [hrow] at hblk2
          obtain ⟨Q, hQ⟩ : ∃ Q, Q = (P1 ++ Y).length := ⟨_, rfl⟩
          have hl2 := hblk2.len
          rw [List.length_append, ← hQ, List.length_cons, List.length_cons] at hl2
          have hQl : a ≤ Q := by rw [hQ, List.length_append, Ha.out]; omega
          have hjQ : j = Q + 1 := by rw [Hj.out, hQ, Ha.out]; simp; omega
          subst hjQ
          have hQn : Q + 1 < n := by omega
          have hcells : ∀ W, PBlk W g n (P1 ++ Y ++ y :: p :: (X2 ++ S.drop (k + 1) ++ P2)) → PCell W g (Q * 4) y ∧ PCell W g ((Q + 1) * 4) p := fun W hb => by
            have hy := hb.cell Q (by omega)
            rw [show (P1 ++ Y ++ y :: p :: (X2 ++ S.drop (k + 1) ++ P2)).getD Q Po.zero = y by rw [hQ]; exact getD_mid _ _ _] at hy
            have hp := hb.cell (Q + 1) (by omega)
            rw [show (P1 ++ Y ++ y :: p :: (X2 ++ S.drop (k + 1) ++ P2)).getD (Q + 1) Po.zero = p by rw [hQ]; exact getD_next _ _ _ _] at hp
            exact ⟨hy, hp⟩
          have hcm := fun W => pcompare_any p y W
          have Hcl : Hid (decide (pcmp p y < 0) = Po.less p y) := pcmp_less p y
          have HQ : Hid (Q = (P1 ++ Y).length) := hQ
          clear hQ hrow hl2 hXl hblk h hX1 htu hk2 hk1
          generalize pcmp p y = r at *
          obtain ⟨ps, pa, pl, pm⟩ := p
          obtain ⟨ys, ya, yl, ym⟩ := y
          simp only [PCell] at hcells
          simp only [pv] at hcm
          obtain ⟨⟨⟨y0, y1, y2, y3⟩, z0, z1, z2, z3⟩, ⟨⟨p0, p1, p2, p3⟩, f0, f1, f2, f3⟩⟩ := hcells wr hblk2
          have Hcells : Hid (_) := hcells
          clear hcells
          have i0 : IntKind.i64.wrap ((Q : Int) + 1) = (Q : Int) + 1 := by rw [IntKind.wrap_i64]; omega
          have i1 : IntKind.i64.wrap ((Q : Int) + 1 - 1) = (Q : Int) := by rw [IntKind.wrap_i64]; omega
          have i8 : IntKind.i64.wrap (Q : Int) = (Q : Int) := by rw [IntKind.wrap_i64]; omega
          have i2 : decide ((a : Int) < (Q : Int) + 1) = true := by simp; omega
          have i3 : (0 : Int) ≤ (Q : Int) := by omega
          have i4 : (Q : Int) < (n : Int) := by omega
          have i5 : (0 : Int) ≤ (Q : Int) + 1 := by omega
          have i6 : (Q : Int) + 1 < (n : Int) := by omega
          have i7 : ((Q : Int) + 1).toNat = Q + 1 := by omega
          by_cases hless : r < 0
          · go_wp2_with fail
            go_region_held3 (fun w' => w'.cell? ⟨g, Q * 4, none⟩ = some (.int .i64 ys) ∧ w'.cell? ⟨g, Q * 4 + 1, none⟩ = some (.int .i64 ya) ∧ w'.cell? ⟨g, Q * 4 + 2, none⟩ = some (.int .i64 yl) ∧ w'.cell? ⟨g, Q * 4 + 3, none⟩ = some (.int .u32 (ym : Nat)) ∧ w'.cell? ⟨g, (Q + 1) * 4, none⟩ = some (.int .i64 ps) ∧ w'.cell? ⟨g, (Q + 1) * 4 + 1, none⟩ = some (.int .i64 pa) ∧ w'.cell? ⟨g, (Q + 1) * 4 + 2, none⟩ = some (.int .i64 pl) ∧ w'.cell? ⟨g, (Q + 1) * 4 + 3, none⟩ = some (.int .u32 (pm : Nat))) (first | go_keep | (refine ⟨?_, ?_, ?_, ?_, ?_, ?_, ?_, ?_⟩ <;> assumption))
              ((go_at_call 28; refine (hcm _).mono ?_; rintro e w2 ⟨rfl, hbel2⟩; have hb2 := below_of_drew hbel2; have hblk3 := hblk2.below hb2 hblk2.lt; obtain ⟨⟨⟨a0, a1, a2, a3⟩, b0, b1, b2, b3⟩, ⟨⟨c0, c1, c2, c3⟩, d0, d1, d2, d3⟩⟩ := Hcells.out w2 hblk3))
            go_wp2_with fail
            clear y0 y1 y2 y3 z0 z1 z2 z3 p0 p1 p2 p3 f0 f1 f2 f3 hcm
            go_region
            have fy : Po.Fits (ys, ya, yl, ym) := hblk3.fits _ (by simp)
            have fp : Po.Fits (ps, pa, pl, pm) := hblk3.fits _ (by simp)
            have s1 := (hblk3.store (Q + 1) (by omega) (ys, ya, yl, ym) fy).store Q (by omega) (ps, pa, pl, pm) fp
            have s2 := (turned_four w2 g ((Q + 1) * 4) ((Q + 1) * 4 + 1) ((Q + 1) * 4 + 2) ((Q + 1) * 4 + 3) (.int .i64 ys) (.int .i64 ya) (.int .i64 yl) (.int .u32 (ym : Nat))).trans (turned_four _ g (Q * 4) (Q * 4 + 1) (Q * 4 + 2) (Q * 4 + 3) (.int .i64 ps) (.int .i64 pa) (.int .i64 pl) (.int .u32 (pm : Nat)))
            rw [swap_near' _ _ _ _ Q (Q + 1) HQ.out (by rw [HQ.out])] at s1
            clear a0 a1 a2 a3 b0 b1 b2 b3 c0 c1 c2 c3 d0 d1 d2 d3
            generalize (((((((w2.setCell ⟨g, (Q + 1) * 4, none⟩ (.int .i64 ys)).setCell ⟨g, (Q + 1) * 4 + 1, none⟩ (.int .i64 ya)).setCell ⟨g, (Q + 1) * 4 + 2, none⟩ (.int .i64 yl)).setCell ⟨g, (Q + 1) * 4 + 3, none⟩ (.int .u32 (ym : Nat))).setCell ⟨g, Q * 4, none⟩ (.int .i64 ps)).setCell ⟨g, Q * 4 + 1, none⟩ (.int .i64 pa)).setCell ⟨g, Q * 4 + 2, none⟩ (.int .i64 pl)).setCell ⟨g, Q * 4 + 3, none⟩ (.int .u32 (pm : Nat)) = W5 at *
            go_wp2
            go_roundw
            case rel =>
              refine ⟨Q, Y, (ys, ya, yl, ym) :: X2, by simp, rfl, (by rw [HQ.out, List.length_append, Ha.out] : Q = a + Y.length), ?_, ?_, ?_⟩
              · have := s1.of_block (w' := W5.drew) rfl
                simpa using this
              · intro q hq
                rcases List.mem_cons.mp hq with rfl | hq
                · rw [← Hcl.out]; simp [hless]
                · exact hX2 q hq
              · exact (htu2.trans ((turned_below hb2).trans s2)).trans (turned_drew _ _)
            case measure => simp [intOf]
          · have hd : decide (r < 0) = false := by simpa using hless
            go_wp2_with fail
            go_region_held3 (fun w' => w'.cell? ⟨g, Q * 4, none⟩ = some (.int .i64 ys) ∧ w'.cell? ⟨g, Q * 4 + 1, none⟩ = some (.int .i64 ya) ∧ w'.cell? ⟨g, Q * 4 + 2, none⟩ = some (.int .i64 yl) ∧ w'.cell? ⟨g, Q * 4 + 3, none⟩ = some (.int .u32 (ym : Nat)) ∧ w'.cell? ⟨g, (Q + 1) * 4, none⟩ = some (.int .i64 ps) ∧ w'.cell? ⟨g, (Q + 1) * 4 + 1, none⟩ = some (.int .i64 pa) ∧ w'.cell? ⟨g, (Q + 1) * 4 + 2, none⟩ = some (.int .i64 pl) ∧ w'.cell? ⟨g, (Q + 1) * 4 + 3, none⟩ = some (.int .u32 (pm : Nat))) (first | go_keep | (refine ⟨?_, ?_, ?_, ?_, ?_, ?_, ?_, ?_⟩ <;> assumption))
              ((go_at_call 28; refine (hcm _).mono ?_; rintro e w2 ⟨rfl, hbel2⟩; have hb2 := below_of_drew hbel2; have hblk3 := hblk2.below hb2 hblk2.lt; obtain ⟨⟨⟨a0, a1, a2, a3⟩, b0, b1, b2, b3⟩, ⟨⟨c0, c1, c2, c3⟩, d0, d1, d2, d3⟩⟩ := Hcells.out w2 hblk3))
            go_wp2
            have hfin := So.ins_mid Po.less_sw (X1 := (Y ++ [(ys, ya, yl, ym)])) (X2 := X2) (p := (ps, pa, pl, pm)) hso (fun q hq => by
              have hyp : Po.less (ps, pa, pl, pm) (ys, ya, yl, ym) = false := by rw [← Hcl.out]; exact hd
              rcases List.mem_append.mp hq with hq | hq
              · exact Po.less_sw.trans ((So.sorted_app.mp (So.sorted_app.mp hso).1).2.2 q hq _ (by simp)) hyp
              · simp only [List.mem_singleton] at hq; subst hq; exact hyp) hX2
            go_roundw
            case rel =>
              refine ⟨i + 1, k + 1, (Y ++ [(ys, ya, yl, ym)]) ++ [(ps, pa, pl, pm)] ++ X2, by omega, by go_num, (by rw [Hi.out]; omega : i + 1 = a + (k + 1)), ?_, ?_, ?_, hfin.1, ?_, .inl (by omega)⟩
              · refine (?_ : ((Y ++ [(ys, ya, yl, ym)]) ++ [(ps, pa, pl, pm)] ++ X2).length = (S.take (k + 1)).length)
                have := HXk.out
                simp only [List.length_append, List.length_cons, List.length_nil, List.length_take] at this ⊢
                omega
              · have := hblk3
                simpa using this
              · rw [Htk.out]
                exact So.Stab.trans (So.Stab.app hst (So.Stab.refl _ _)) hfin.2
              · exact htu2.trans (turned_below hb2)
            case measure => simp [intOf]; omega
    · have hnb : ¬ i < b := by have := Hi.out; have := Hb.out; omega
      have hS : S.take k = S := List.take_of_length_le (by omega)
      have hS2 : S.drop k = [] := List.drop_of_length_le (by omega)
      rw [hS] at hst
      rw [hS2, List.append_nil] at hblk
      clear hS hS2
      go_wp2
      first | go_end0 | refine bodyPost_ret (results_none rfl _ _ _) rfl ?_
      exact ⟨X, rfl, hblk, hst, hso, htu⟩
end Go.Proofs.Ytmafbgfldojbbaa
