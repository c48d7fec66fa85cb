/- What the program's 'a newer list and an older one as one' does. -/
import Derived.Test.YtchiilhdkbpboaaME
import Derived.Deep.LoopGhost
namespace Go.Proofs.Ytchiilhdkbpboaa
open Go.RowKit

/-- a slice of origins as it may come in; their items' bytes lie in an elder world -/
def SO (w0 w : World) (a : Option Addr) (n c : Nat) (os : List OH) (ys : List Mg.Y) : Prop := TRow 9 oe ohz w a n os ∧ OAll w0 os ys ∧ (a = none → n = 0 ∧ c = 0) ∧ n ≤ c
theorem SO.len {w0 w : World} {a : Option Addr} {n c : Nat} {os : List OH} {ys : List Mg.Y} (h : SO w0 w a n c os ys) : ys.length = n := h.2.1.1.symm.trans h.1.1
theorem SO.below {w0 w w' : World} {B : Nat} {a : Option Addr} {n c : Nat} {os : List OH} {ys : List Mg.Y} (h : SO w0 w a n c os ys) (hb : Below B w w') (hB : w.heap.size ≤ B) : SO w0 w' a n c os ys := ⟨h.1.below hb hB, h.2⟩
theorem SO.tail {w0 w : World} {b off n c : Nat} {os : List OH} {ys : List Mg.Y} (h : SO w0 w (some ⟨b, off, none⟩) n c os ys) (hn : 0 < n) : SO w0 w (some ⟨b, off + 9, none⟩) (n - 1) (c - 1) (os.drop 1) (ys.drop 1) := by
  have := h.1.drop 1 (by omega)
  exact ⟨this, h.2.1.drop 1, (fun h => by cases h), by have := h.2.2.2; omega⟩
theorem SO.end {w0 w : World} {n c : Nat} {os : List OH} {ys : List Mg.Y} {a' : Option Addr} (a : Option Addr) (h : SO w0 w a' n c os ys) (hn : n = 1) : SO w0 w a 0 0 (os.drop 1) (ys.drop 1) :=
  ⟨⟨by rw [List.length_drop, h.1.1]; omega, by omega, .inl rfl⟩, h.2.1.drop 1, (fun _ => ⟨rfl, rfl⟩), Nat.le_refl _⟩

set_option maxRecDepth 100000 in
set_option maxHeartbeats 4000000 in
theorem mjoin_any (w0 : World) (a : Option Addr) (n c : Nat) (os : List OH) (ys : List Mg.Y) (a' : Option Addr) (n' c' : Nat) (os' : List OH) (ys' : List Mg.Y) (w : World) (hS : SO w0 w a n c os ys) (hS' : SO w0 w a' n' c' os' ys') (hN : n + n' ≤ 100000000) :
    Calls Try.prog 33 #[.slice a n c, .slice a' n' c'] w (ORes w w0 (Mg.jn ys ys')) := by
  obtain ⟨i0, hi0, hz0, hz1, hz2⟩ := info_parts orgE.info
  have e1 : wrap64 ((n : Int) + (n' : Int)) = ((n + n' : Nat) : Int) := by unfold wrap64; omega
  obtain ⟨M, hM⟩ : ∃ M, M = n + n' := ⟨_, rfl⟩
  rw [← hM] at e1
  obtain ⟨R, hR⟩ : ∃ R, R = Mg.jn ys ys' := ⟨_, rfl⟩
  rw [← hR]
  have HR : Hid (R = [] ++ Mg.jn ys ys') := (hR : R = [] ++ Mg.jn ys ys')
  have HM : Hid (M = n + n') := hM
  have hMl : M ≤ 100000000 := by omega
  have HS : Hid (SO w0 w a n c os ys) := hS
  have HS' : Hid (SO w0 w a' n' c' os' ys') := hS'
  clear hR hM hS hS' hN
  go_enter Try.func33, Try.ntmps33
  go_wp2_with (at_make; go_must (refine wpList_make_own _ rfl _ _ 55 rfl w.heap.size 68 i0 _ 9 Try.underlying55 hi0 hz0 hz1 .i64 .i64 _ M rfl rfl e1 (by rw [hz2]; omega) (by unfold maxLen; omega) (Nat.le_refl _) ?_; intro w1 hmade hg1; have b1 : Below w.heap.size w w1 := (Below.refl _ _).grown hg1 (Nat.le_refl _) (fun _ h => by cases h)))
  have hown1 : w1.ownsRow w.heap.size 68 9 (.slice (some ⟨w.heap.size, 0, none⟩) 0 M) 0 (tcells oe []) := hmade
  clear hmade hg1 hi0 hz0 hz1 hz2
  clear e1
  obtain ⟨W1, hW1⟩ : ∃ W, W = w1 := ⟨_, rfl⟩
  subst hW1
  go_loopg [0, 1, 5] M (fun g s0 s1 s5 wx => ∃ (n1 c1 n2 c2 m co : Nat) (a1 a2 ao : Option Addr) (o1 o2 acc : List OH) (y1 y2 L : List Mg.Y), n1 + n2 = g ∧ m + g ≤ M ∧ s0 = .slice a1 n1 c1 ∧ s1 = .slice a2 n2 c2 ∧ s5 = .slice ao m co ∧ Hid (R = L ++ Mg.jn y1 y2) ∧ Hid (SO w0 w a1 n1 c1 o1 y1) ∧ Hid (SO w0 w a2 n2 c2 o2 y2) ∧ wx.ownsRow w.heap.size 68 9 (.slice ao m co) m (tcells oe acc) ∧ Hid (OAll w0 acc L) ∧ Hid (L.length = m) ∧ Below w.heap.size w wx)
  case atStart => exact ⟨n, c, n', c', 0, M, a, a', _, os, os', [], ys, ys', [], HM.out.symm, by omega, rfl, rfl, rfl, HR, HS, HS', hown1, (OAll.nil w0 : OAll w0 [] []), (rfl : ([] : List Mg.Y).length = 0), b1⟩
  case round =>
    obtain ⟨n1, c1, n2, c2, m, co, a1, a2, ao, o1, o2, acc, y1, y2, L, hg, hmg, rfl, rfl, rfl, HJ, H1, H2, hown, HO, Hm, hbel⟩ := hrel
    clear HR HS HS' hown1 b1 HM
    by_cases hz : 0 < n1 ∧ 0 < n2
    · obtain ⟨h1, h2⟩ := hz
      obtain ⟨g, rfl⟩ : ∃ g, gk = g + 1 := ⟨gk - 1, by omega⟩
      have d1 : decide (0 < (n1 : Int)) = true := by simp; omega
      have d2 : decide (0 < (n2 : Int)) = true := by simp; omega
      obtain ⟨b1, f1, rfl, hc1⟩ := H1.out.1.origins h1
      obtain ⟨b2, f2, rfl, hc2⟩ := H2.out.1.origins h2
      have hcc1 := H1.out.2.2.2
      have hcc2 := H2.out.2.2.2
      have hl1 := H1.out.len
      have hl2 := H2.out.len
      have hol1 := H1.out.1.1
      have hol2 := H2.out.1.1
      obtain ⟨x1, t1, rfl⟩ : ∃ x t, y1 = x :: t := by cases y1 with | nil => simp at hl1; omega | cons x t => exact ⟨x, t, rfl⟩
      obtain ⟨x2, t2, rfl⟩ : ∃ x t, y2 = x :: t := by cases y2 with | nil => simp at hl2; omega | cons x t => exact ⟨x, t, rfl⟩
      obtain ⟨q1, p1, rfl⟩ : ∃ x t, o1 = x :: t := by cases o1 with | nil => simp at hol1; omega | cons x t => exact ⟨x, t, rfl⟩
      obtain ⟨q2, p2, rfl⟩ : ∃ x t, o2 = x :: t := by cases o2 with | nil => simp at hol2; omega | cons x t => exact ⟨x, t, rfl⟩
      have I1 : Hid (IsO w0 q1 x1) := (by have := H1.out.2.1.2 0 (by simp); simpa using this : IsO w0 q1 x1)
      have I2 : Hid (IsO w0 q2 x2) := (by have := H2.out.2.1.2 0 (by simp); simpa using this : IsO w0 q2 x2)
      have D1 : Hid (∀ W, Below w.heap.size w W → OCells W b1 f1 q1) := (fun W hW => by have := (hc1 0 h1).below hW (Nat.le_refl _); simpa using this : ∀ W, Below w.heap.size w W → OCells W b1 f1 q1)
      have D2 : Hid (∀ W, Below w.heap.size w W → OCells W b2 f2 q2) := (fun W hW => by have := (hc2 0 h2).below hW (Nat.le_refl _); simpa using this : ∀ W, Below w.heap.size w W → OCells W b2 f2 q2)
      have T1 : Hid (SO w0 w (some ⟨b1, f1 + 9, none⟩) (n1 - 1) (c1 - 1) p1 t1) := H1.out.tail h1
      have T2 : Hid (SO w0 w (some ⟨b2, f2 + 9, none⟩) (n2 - 1) (c2 - 1) p2 t2) := H2.out.tail h2
      have E1 : Hid (c1 = 1 → ∀ a, SO w0 w a 0 0 p1 t1) := (fun h a => H1.out.end a (by omega) : c1 = 1 → ∀ a, SO w0 w a 0 0 p1 t1)
      have E2 : Hid (c2 = 1 → ∀ a, SO w0 w a 0 0 p2 t2) := (fun h a => H2.out.end a (by omega) : c2 = 1 → ∀ a, SO w0 w a 0 0 p2 t2)
      have qa : Op.bytesLess q1.h.key.toList q2.h.key.toList = Na.lt x1.1.1 x2.1.1 := by rw [less_kb, I1.out.1.key, I2.out.1.key]
      have qb : Op.bytesLess q2.h.key.toList q1.h.key.toList = Na.lt x2.1.1 x1.1.1 := by rw [less_kb, I1.out.1.key, I2.out.1.key]
      have qc : (q1.h.key.toList == q2.h.key.toList) = decide (x1.1.1 = x2.1.1) := str_eq _ (by rw [decide_eq_true_eq, I1.out.1.key, I2.out.1.key])
      have hsl1 : (1 : Int) ≤ (n1 : Int) := by omega
      have hsl2 : (1 : Int) ≤ (n2 : Int) := by omega
      have hsc1 : (1 : Int) ≤ (c1 : Int) := by omega
      have hsc2 : (1 : Int) ≤ (c2 : Int) := by omega
      have hnc1 : (n1 : Int) ≤ (c1 : Int) := by omega
      have hnc2 : (n2 : Int) ≤ (c2 : Int) := by omega
      have hn01 : (0 : Int) < (n1 : Int) := by omega
      have hn02 : (0 : Int) < (n2 : Int) := by omega
      obtain ⟨⟨k1, dd1, ff1, sa1, sn1, sc1, ⟨u1, u2, u3, u4⟩⟩, fr1⟩ := q1
      obtain ⟨⟨k2, dd2, ff2, sa2, sn2, sc2, ⟨v1, v2, v3, v4⟩⟩, fr2⟩ := q2
      have y0 := (D1.out wr hbel).1
      have z0 := (D2.out wr hbel).1
      simp only at y0 z0 qa qb qc
      clear hc1 hc2 hl1 hl2 hol1 hol2
      rcases It.lt_total x1.1.1 x2.1.1 with hl | hl | hl
      · have HJ2 : Hid (R = (L ++ [x1]) ++ Mg.jn t1 (x2 :: t2)) := (by rw [HJ.out, Mg.jn, if_pos hl, List.append_assoc]; rfl : R = (L ++ [x1]) ++ Mg.jn t1 (x2 :: t2))
        rw [hl] at qa
        rw [It.lt_asymm hl] at qb
        rw [decide_eq_false (It.lt_ne hl)] at qc
        clear HJ hl
        have HO2 : Hid (OAll w0 (acc ++ [(⟨⟨k1, dd1, ff1, sa1, sn1, sc1, (u1, u2, u3, u4)⟩, fr1⟩ : OH)]) (L ++ [x1])) := (HO.out.snoc I1.out : OAll w0 (acc ++ [(⟨⟨k1, dd1, ff1, sa1, sn1, sc1, (u1, u2, u3, u4)⟩, fr1⟩ : OH)]) (L ++ [x1]))
        have Hm2 : Hid ((L ++ [x1]).length = m + 1) := (by rw [List.length_append, Hm.out]; rfl : (L ++ [x1]).length = m + 1)
        by_cases hc1 : c1 = 1
        · have hn1 : n1 = 1 := by omega
          have TE : Hid (∀ a, SO w0 w a 0 0 p1 t1) := E1.out hc1
          subst hn1; subst hc1
          go_wp2_with fail
          go_quiet (fail)
          have hbV := hbel.trans (below_drewN _ _ nq)
          have hownV := owns_below hown (below_drewN _ _ nq)
          clear y0 z0 hbel hown
          generalize wr.drewN nq = V at *
          obtain ⟨y0, y1, y2, y3, y4, y5, y6, y7, y8⟩ := D1.out V hbV
          simp only at y0 y1 y2 y3 y4 y5 y6 y7 y8
          go_wp2_with (at_builtin; go_must (refine append_t orgE oeE (w0 := w) (B := w.heap.size) rfl (.tmp 38) (.tmp 42) rfl _ m acc rfl (hownV.alloc _) _ 1 1 [⟨⟨k1, dd1, ff1, sa1, sn1, sc1, (u1, u2, u3, u4)⟩, fr1⟩] rfl (lit_origin V ⟨⟨k1, dd1, ff1, sa1, sn1, sc1, (u1, u2, u3, u4)⟩, fr1⟩ rfl) (fun h => by cases h) (by omega) (hbV.alloc hbV.size _) (hbV.alloc hbV.size _).size ?_; intro a9 c9 w9 hc9 hn9 _ ho9 hb9 _))
          go_roundg g
          case rel => exact ⟨0, 0, n2, c2, m + 1, c9, _, _, a9, p1, _, _, t1, _, _, by omega, by omega, rfl, rfl, rfl, HJ2, TE.out _, H2, ho9, HO2, Hm2, hb9⟩
          case measure => omega
        · go_wp2_with fail
          go_quiet (fail)
          have hbV := hbel.trans (below_drewN _ _ nq)
          have hownV := owns_below hown (below_drewN _ _ nq)
          clear y0 z0 hbel hown
          generalize wr.drewN nq = V at *
          obtain ⟨y0, y1, y2, y3, y4, y5, y6, y7, y8⟩ := D1.out V hbV
          simp only at y0 y1 y2 y3 y4 y5 y6 y7 y8
          go_wp2_with (at_builtin; go_must (refine append_t orgE oeE (w0 := w) (B := w.heap.size) rfl (.tmp 38) (.tmp 42) rfl _ m acc rfl (hownV.alloc _) _ 1 1 [⟨⟨k1, dd1, ff1, sa1, sn1, sc1, (u1, u2, u3, u4)⟩, fr1⟩] rfl (lit_origin V ⟨⟨k1, dd1, ff1, sa1, sn1, sc1, (u1, u2, u3, u4)⟩, fr1⟩ rfl) (fun h => by cases h) (by omega) (hbV.alloc hbV.size _) (hbV.alloc hbV.size _).size ?_; intro a9 c9 w9 hc9 hn9 _ ho9 hb9 _))
          go_roundg g
          case rel => exact ⟨n1 - 1, c1 - 1, n2, c2, m + 1, c9, _, _, a9, p1, _, _, t1, _, _, by omega, by omega, rfl, rfl, rfl, HJ2, T1, H2, ho9, HO2, Hm2, hb9⟩
          case measure => omega
      · have HJ2 : Hid (R = L ++ Mg.jn (x1 :: t1) t2) := (by rw [HJ.out, Mg.jn, hl, It.lt_irrefl]; rfl : R = L ++ Mg.jn (x1 :: t1) t2)
        rw [hl, It.lt_irrefl] at qa
        rw [hl, It.lt_irrefl] at qb
        rw [decide_eq_true hl] at qc
        clear HJ hl
        by_cases hc1 : c2 = 1
        · have hn1 : n2 = 1 := by omega
          have TE : Hid (∀ a, SO w0 w a 0 0 p2 t2) := E2.out hc1
          subst hn1; subst hc1
          go_wp2_with fail
          go_quiet (fail)
          have hbV := hbel.trans (below_drewN _ _ nq)
          have hownV := owns_below hown (below_drewN _ _ nq)
          clear y0 z0 hbel hown
          generalize wr.drewN nq = V at *
          go_wp2
          go_roundg g
          case rel => exact ⟨n1, c1, 0, 0, m, co, _, _, ao, _, p2, acc, _, t2, L, by omega, by omega, rfl, rfl, rfl, HJ2, H1, TE.out _, hownV, HO, Hm, hbV⟩
          case measure => omega
        · go_wp2_with fail
          go_quiet (fail)
          have hbV := hbel.trans (below_drewN _ _ nq)
          have hownV := owns_below hown (below_drewN _ _ nq)
          clear y0 z0 hbel hown
          generalize wr.drewN nq = V at *
          go_wp2
          go_roundg g
          case rel => exact ⟨n1, c1, n2 - 1, c2 - 1, m, co, _, _, ao, _, p2, acc, _, t2, L, by omega, by omega, rfl, rfl, rfl, HJ2, H1, T2, hownV, HO, Hm, hbV⟩
          case measure => omega
      · have HJ2 : Hid (R = (L ++ [x2]) ++ Mg.jn (x1 :: t1) t2) := (by rw [HJ.out, Mg.jn, if_neg (by rw [It.lt_asymm hl]; simp), if_pos hl, List.append_assoc]; rfl : R = (L ++ [x2]) ++ Mg.jn (x1 :: t1) t2)
        rw [It.lt_asymm hl] at qa
        rw [hl] at qb
        rw [decide_eq_false (fun e => It.lt_ne hl e.symm)] at qc
        clear HJ hl
        have HO2 : Hid (OAll w0 (acc ++ [(⟨⟨k2, dd2, ff2, sa2, sn2, sc2, (v1, v2, v3, v4)⟩, fr2⟩ : OH)]) (L ++ [x2])) := (HO.out.snoc I2.out : OAll w0 (acc ++ [(⟨⟨k2, dd2, ff2, sa2, sn2, sc2, (v1, v2, v3, v4)⟩, fr2⟩ : OH)]) (L ++ [x2]))
        have Hm2 : Hid ((L ++ [x2]).length = m + 1) := (by rw [List.length_append, Hm.out]; rfl : (L ++ [x2]).length = m + 1)
        by_cases hc1 : c2 = 1
        · have hn1 : n2 = 1 := by omega
          have TE : Hid (∀ a, SO w0 w a 0 0 p2 t2) := E2.out hc1
          subst hn1; subst hc1
          go_wp2_with fail
          go_quiet (fail)
          have hbV := hbel.trans (below_drewN _ _ nq)
          have hownV := owns_below hown (below_drewN _ _ nq)
          clear y0 z0 hbel hown
          generalize wr.drewN nq = V at *
          obtain ⟨y0, y1, y2, y3, y4, y5, y6, y7, y8⟩ := D2.out V hbV
          simp only at y0 y1 y2 y3 y4 y5 y6 y7 y8
          go_wp2_with (at_builtin; go_must (refine append_t orgE oeE (w0 := w) (B := w.heap.size) rfl (.tmp 50) (.tmp 54) rfl _ m acc rfl (hownV.alloc _) _ 1 1 [⟨⟨k2, dd2, ff2, sa2, sn2, sc2, (v1, v2, v3, v4)⟩, fr2⟩] rfl (lit_origin V ⟨⟨k2, dd2, ff2, sa2, sn2, sc2, (v1, v2, v3, v4)⟩, fr2⟩ rfl) (fun h => by cases h) (by omega) (hbV.alloc hbV.size _) (hbV.alloc hbV.size _).size ?_; intro a9 c9 w9 hc9 hn9 _ ho9 hb9 _))
          go_roundg g
          case rel => exact ⟨n1, c1, 0, 0, m + 1, c9, _, _, a9, _, p2, _, _, t2, _, by omega, by omega, rfl, rfl, rfl, HJ2, H1, TE.out _, ho9, HO2, Hm2, hb9⟩
          case measure => omega
        · go_wp2_with fail
          go_quiet (fail)
          have hbV := hbel.trans (below_drewN _ _ nq)
          have hownV := owns_below hown (below_drewN _ _ nq)
          clear y0 z0 hbel hown
          generalize wr.drewN nq = V at *
          obtain ⟨y0, y1, y2, y3, y4, y5, y6, y7, y8⟩ := D2.out V hbV
          simp only at y0 y1 y2 y3 y4 y5 y6 y7 y8
          go_wp2_with (at_builtin; go_must (refine append_t orgE oeE (w0 := w) (B := w.heap.size) rfl (.tmp 50) (.tmp 54) rfl _ m acc rfl (hownV.alloc _) _ 1 1 [⟨⟨k2, dd2, ff2, sa2, sn2, sc2, (v1, v2, v3, v4)⟩, fr2⟩] rfl (lit_origin V ⟨⟨k2, dd2, ff2, sa2, sn2, sc2, (v1, v2, v3, v4)⟩, fr2⟩ rfl) (fun h => by cases h) (by omega) (hbV.alloc hbV.size _) (hbV.alloc hbV.size _).size ?_; intro a9 c9 w9 hc9 hn9 _ ho9 hb9 _))
          go_roundg g
          case rel => exact ⟨n1, c1, n2 - 1, c2 - 1, m + 1, c9, _, _, a9, _, p2, _, _, t2, _, by omega, by omega, rfl, rfl, rfl, HJ2, H1, T2, ho9, HO2, Hm2, hb9⟩
          case measure => omega
    · have hE : Hid (R = (L ++ y1) ++ y2) := (by
        have hl1 := H1.out.len
        have hl2 := H2.out.len
        rw [HJ.out, List.append_assoc]
        congr 1
        cases y1 with
        | nil => rw [Mg.jn]; rfl
        | cons x t =>
          cases y2 with
          | nil => rw [Mg.jn, List.append_nil]
          | cons x' t' => simp at hl1 hl2; omega : R = (L ++ y1) ++ y2)
      have A1 : Hid (OAll w0 ((acc ++ o1) ++ o2) ((L ++ y1) ++ y2)) := (HO.out.append H1.out.2.1).append H2.out.2.1
      have A2 : Hid (((L ++ y1) ++ y2).length = m + n1 + n2) := (by rw [List.length_append, List.length_append, Hm.out, H1.out.len, H2.out.len] : ((L ++ y1) ++ y2).length = m + n1 + n2)
      have N1 : Hid (a1 = none → n1 = 0 ∧ c1 = 0) := H1.out.2.2.1
      have N2 : Hid (a2 = none → n2 = 0 ∧ c2 = 0) := H2.out.2.2.1
      clear HJ HO Hm
      have d1 : decide (0 < (n1 : Int)) = decide (0 < n1) := by simp
      have d2 : decide (0 < (n2 : Int)) = decide (0 < n2) := by simp
      have hR1 := fun W (hW : Below w.heap.size w W) => H1.out.1.below hW (Nat.le_refl _)
      have hR2 := fun W (hW : Below w.heap.size w W) => H2.out.1.below hW (Nat.le_refl _)
      have HF : Hid (∀ (ao : Option Addr) (co : Nat) (W : World), W.ownsRow w.heap.size 68 9 (.slice ao (m + n1 + n2) co) (m + n1 + n2) (tcells oe ((acc ++ o1) ++ o2)) → Below w.heap.size w W → ORes w w0 R (.returned (.slice ao (m + n1 + n2) co)) W) := (fun ao co W h1 h2 => ores_some hE.out A2.out h1 A1.out h2 : ∀ (ao : Option Addr) (co : Nat) (W : World), W.ownsRow w.heap.size 68 9 (.slice ao (m + n1 + n2) co) (m + n1 + n2) (tcells oe ((acc ++ o1) ++ o2)) → Below w.heap.size w W → ORes w w0 R (.returned (.slice ao (m + n1 + n2) co)) W)
      clear hE A1 A2 H1 H2
      have hlim : m + n1 + n2 ≤ M := by omega
      by_cases hn1 : 0 < n1
      · have hn2 : n2 = 0 := by omega
        have e2 : decide (0 < n2) = false := by rw [hn2]; rfl
        have e3 : ¬ (0 < n2) := by omega
        rw [decide_eq_true hn1] at d1
        rw [e2] at d2
        clear hz hn2 hg hmg
        go_wp2_with (first
          | (at_builtin; have hq := hb5; go_must (refine append_t orgE oeE (w0 := w) (B := w.heap.size) rfl (.tmp 61) (.tmp 62) rfl _ (m + n1) (acc ++ o1) rfl ho5 a2 n2 c2 o2 rfl (hR2 _ hb5) N2.out (by omega) hb5 hb5.size ?_; intro a6 c6 w6 hc6 hn6 _ ho6 hb6 _))
          | (at_builtin; go_must (refine append_t orgE oeE (w0 := w) (B := w.heap.size) rfl (.tmp 58) (.tmp 59) rfl _ m acc rfl hown a1 n1 c1 o1 rfl (hR1 _ hbel) N1.out (by omega) hbel hbel.size ?_; intro a5 c5 w5 hc5 hn5 _ ho5 hb5 _)))
        go_ret
        exact HF.out _ _ _ ho6 hb6
      · have e1 : ¬ (0 < n1) := hn1
        rw [decide_eq_false hn1] at d1
        clear hz hg hmg
        go_wp2_with (first
          | (at_builtin; have hq := hb5; go_must (refine append_t orgE oeE (w0 := w) (B := w.heap.size) rfl (.tmp 61) (.tmp 62) rfl _ (m + n1) (acc ++ o1) rfl ho5 a2 n2 c2 o2 rfl (hR2 _ hb5) N2.out (by omega) hb5 hb5.size ?_; intro a6 c6 w6 hc6 hn6 _ ho6 hb6 _))
          | (at_builtin; go_must (refine append_t orgE oeE (w0 := w) (B := w.heap.size) rfl (.tmp 58) (.tmp 59) rfl _ m acc rfl hown a1 n1 c1 o1 rfl (hR1 _ hbel) N1.out (by omega) hbel hbel.size ?_; intro a5 c5 w5 hc5 hn5 _ ho5 hb5 _)))
        go_ret
        exact HF.out _ _ _ ho6 hb6
end Go.Proofs.Ytchiilhdkbpboaa
