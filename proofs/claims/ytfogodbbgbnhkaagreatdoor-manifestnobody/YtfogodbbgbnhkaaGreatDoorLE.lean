/- What a manifest tells; nobody's manifest. -/
import Derived.Test.YtfogodbbgbnhkaaGreatDoorZK
import Derived.Test.YtfogodbbgbnhkaaGreatDoorRows
import Derived.LaidMore
import Derived.Stop.LaidErr
import Derived.MakeChecks
namespace Go.Proofs.YtfogodbbgbnhkaaGreatDoor
open Go.RowKit

theorem zmade_yes {w : World} {m p : Nat} (h : w.cell? ⟨m, 0, none⟩ = some (.pointer (some ⟨p, 0, none⟩))) : Calls Tryz.prog 17 #[.pointer (some ⟨m, 0, none⟩)] w fun e w' => e = .returned (.bool true) ∧ w' = w := by
  go_enter Tryz.func17, Tryz.ntmps17
  go_wp2
  all_goals go_ret
  all_goals exact ⟨rfl, rfl⟩
theorem zmade_nil (w : World) : Calls Tryz.prog 17 #[.pointer none] w fun e w' => e = .returned (.bool false) ∧ w' = w := by
  go_enter Tryz.func17, Tryz.ntmps17
  go_wp2
  all_goals go_ret
  all_goals exact ⟨rfl, rfl⟩
theorem zmade_none {w : World} {m : Nat} (h : w.cell? ⟨m, 0, none⟩ = some (.pointer none)) : Calls Tryz.prog 17 #[.pointer (some ⟨m, 0, none⟩)] w fun e w' => e = .returned (.bool false) ∧ w' = w := by
  go_enter Tryz.func17, Tryz.ntmps17
  go_wp2
  all_goals go_ret
  all_goals exact ⟨rfl, rfl⟩

/-- a manifest that Open did not give -/
def NoMan (w : World) (a : Option Addr) : Prop := a = none ∨ ∃ m, a = some ⟨m, 0, none⟩ ∧ w.cell? ⟨m, 0, none⟩ = some (.pointer none)
theorem NoMan.keep {w w' : World} {a : Option Addr} (h : NoMan w a) (hb : Below w.heap.size w w') : NoMan w' a := by
  rcases h with h | ⟨m, h1, h2⟩
  · exact .inl h
  · exact .inr ⟨m, h1, (hb.cell (p := ⟨m, 0, none⟩) (cell_lt h2)).trans h2⟩
theorem zmade_no {w : World} {a : Option Addr} (h : NoMan w a) : Calls Tryz.prog 17 #[.pointer a] w fun e w' => e = .returned (.bool false) ∧ w' = w := by
  rcases h with rfl | ⟨m, rfl, h⟩
  · exact zmade_nil w
  · exact zmade_none h
theorem zbroken_no {w : World} {a : Option Addr} (h : NoMan w a) : Calls Tryz.prog 7 #[.pointer a] w fun e w' => e = .returned (.bool true) ∧ w' = w := by
  have hm := zmade_no h
  go_enter Tryz.func7, Tryz.ntmps7
  go_wp2_with (go_at_call 17; go_must (refine hm.mono ?_; rintro e w1 ⟨rfl, hw⟩; subst hw))
  all_goals go_ret
  all_goals exact ⟨rfl, rfl⟩
theorem zframes_no {w : World} {a : Option Addr} (h : NoMan w a) : Calls Tryz.prog 8 #[.pointer a] w fun e w' => e = .returned (.int .i64 0) ∧ w' = w := by
  have hm := zmade_no h
  go_enter Tryz.func8, Tryz.ntmps8
  go_wp2_with (go_at_call 17; go_must (refine hm.mono ?_; rintro e w1 ⟨rfl, hw⟩; subst hw))
  all_goals go_ret
  all_goals exact ⟨rfl, rfl⟩
theorem zturn_no {w : World} {a : Option Addr} (h : NoMan w a) (l : Option Addr) (n c : Nat) : Calls Tryz.prog 6 #[.pointer a, .slice l n c] w fun e w' => e = .returned (.int .i64 11) ∧ w' = w := by
  have hm := zbroken_no h
  go_enter Tryz.func6, Tryz.ntmps6
  go_wp2_with (go_at_call 7; go_must (refine hm.mono ?_; rintro e w1 ⟨rfl, hw⟩; subst hw))
  go_ret
  exact ⟨rfl, rfl⟩
set_option maxRecDepth 100000 in
set_option maxHeartbeats 1000000 in
theorem zroster_no {w : World} {a : Option Addr} (h : NoMan w a) : Calls Tryz.prog 10 #[.pointer a] w fun e w' => e = .returned (.agg #[.slice none 0 0, .slice none 0 0, .slice none 0 0, .slice none 0 0, .int .i64 0, .int .i64 0, .int .i64 0, .int .i64 0, .int .i64 0, .int .i64 0, .int .i64 0]) ∧ Below w.heap.size w w' := by
  have hb := below_alloc w (.cells #[.slice none 0 0, .slice none 0 0, .slice none 0 0, .slice none 0 0, .int .i64 0, .int .i64 0, .int .i64 0, .int .i64 0, .int .i64 0, .int .i64 0, .int .i64 0] 34)
  have hm := zmade_no (h.keep hb)
  have hQ := heap_alloc_new w (.cells #[.slice none 0 0, .slice none 0 0, .slice none 0 0, .slice none 0 0, .int .i64 0, .int .i64 0, .int .i64 0, .int .i64 0, .int .i64 0, .int .i64 0, .int .i64 0] 34)
  have y0 := (blkc hQ).1 0
  have y1 := (blkc hQ).1 1
  have y2 := (blkc hQ).1 2
  have y3 := (blkc hQ).1 3
  have y4 := (blkc hQ).1 4
  have y5 := (blkc hQ).1 5
  have y6 := (blkc hQ).1 6
  have y7 := (blkc hQ).1 7
  have y8 := (blkc hQ).1 8
  have y9 := (blkc hQ).1 9
  have y10 := (blkc hQ).1 10
  have f0 := (blkc hQ).2 0
  have f1 := (blkc hQ).2 1
  have f2 := (blkc hQ).2 2
  have f3 := (blkc hQ).2 3
  have f4 := (blkc hQ).2 4
  have f5 := (blkc hQ).2 5
  have f6 := (blkc hQ).2 6
  have f7 := (blkc hQ).2 7
  have f8 := (blkc hQ).2 8
  have f9 := (blkc hQ).2 9
  have f10 := (blkc hQ).2 10
  clear hQ
  go_enter Tryz.func10, Tryz.ntmps10
  go_wp2_with (go_at_call 17; go_must (refine hm.mono ?_; rintro e w1 ⟨rfl, hw⟩; rw [hw]; clear hw w1))
  refine bodyPost_ret (v := .agg #[.slice none 0 0, .slice none 0 0, .slice none 0 0, .slice none 0 0, .int .i64 0, .int .i64 0, .int .i64 0, .int .i64 0, .int .i64 0, .int .i64 0, .int .i64 0]) (by simp [results, Tryz.results10, go_sem, y0, y1, y2, y3, y4, y5, y6, y7, y8, y9, y10]) rfl ⟨rfl, hb⟩

theorem zbroken_yes {w : World} {m p fr : Nat} {a1 : Option Addr} {n1 c1 : Nat} {a2 : Option Addr} {n2 c2 : Nat} {a3 : Option Addr} {n3 c3 : Nat} {a4 : Option Addr} {n4 c4 : Nat} {X : Ro.R} (h : w.heap[m]? = some (.cells #[.pointer (some ⟨p, 0, none⟩), .slice a1 n1 c1, .slice a2 n2 c2, .slice a3 n3 c3, .slice a4 n4 c4, .int .i64 X.log, .int .i64 X.index, .int .i64 X.term, .int .i64 X.ht, .int .i64 X.hv, .int .i64 X.hc, .int .i64 X.mark, .int .i64 (fr : Int), .bool false] 36 (0, 0))) : Calls Tryz.prog 7 #[.pointer (some ⟨m, 0, none⟩)] w fun e w' => e = .returned (.bool false) ∧ w' = w := by
  have hm := zmade_yes (p := p) (w := w) (m := m) ((blkc h).1 0)
  have x3 := (blkc h).1 13
  go_enter Tryz.func7, Tryz.ntmps7
  go_wp2_with (go_at_call 17; go_must (refine hm.mono ?_; rintro e w1 ⟨rfl, hw⟩; subst hw))
  all_goals go_ret
  all_goals exact ⟨rfl, rfl⟩
theorem zframes_yes {w : World} {B m p fr : Nat} {X : Ro.R} (h : MaAt w B m p X fr) : Calls Tryz.prog 8 #[.pointer (some ⟨m, 0, none⟩)] w fun e w' => e = .returned (.int .i64 (fr : Int)) ∧ w' = w := by
  obtain ⟨a1, n1, c1, a2, n2, c2, a3, n3, c3, a4, n4, c4, h, _, _⟩ := h
  have hm := zmade_yes (p := p) (w := w) (m := m) ((blkc h).1 0)
  have x2 := (blkc h).1 12
  go_enter Tryz.func8, Tryz.ntmps8
  go_wp2_with (go_at_call 17; go_must (refine hm.mono ?_; rintro e w1 ⟨rfl, hw⟩; subst hw))
  all_goals go_ret
  all_goals exact ⟨rfl, rfl⟩

set_option maxRecDepth 100000 in
set_option maxHeartbeats 4000000 in
theorem zroster_yes {w : World} {B m p fr : Nat} {X : Ro.R} (h : MaAt w B m p X fr) (hX : Ro.apply X [] = (X, 0)) (l1 : X.segs.length ≤ 1000) (l2 : X.moves.length ≤ 1000) (l3 : X.tabs.length ≤ 1000) (l4 : X.stills.length ≤ 1000) (ht : ∀ t ∈ X.tabs, t.first.size ≤ 1000 ∧ t.last.size ≤ 1000) :
    Calls Tryz.prog 10 #[.pointer (some ⟨m, 0, none⟩)] w fun e w' => ∃ a1 n1 c1 a2 n2 c2 a3 n3 c3 a4 n4 c4, e = .returned (.agg #[.slice a1 n1 c1, .slice a2 n2 c2, .slice a3 n3 c3, .slice a4 n4 c4, .int .i64 X.log, .int .i64 X.index, .int .i64 X.term, .int .i64 X.ht, .int .i64 X.hv, .int .i64 X.hc, .int .i64 X.mark]) ∧ ROwn w.heap.size w' a1 n1 c1 a2 n2 c2 a3 n3 c3 a4 n4 c4 X ∧ Below w.heap.size w w' := by
  obtain ⟨a1, n1, c1, a2, n2, c2, a3, n3, c3, a4, n4, c4, h, hro, _⟩ := h
  have hlen := hro.len
  have hb := below_alloc w (.cells #[.slice none 0 0, .slice none 0 0, .slice none 0 0, .slice none 0 0, .int .i64 0, .int .i64 0, .int .i64 0, .int .i64 0, .int .i64 0, .int .i64 0, .int .i64 0] 34)
  have hm := (hb.block m (heap_lt h)).trans h
  have hmk := zmade_yes (p := p) (w := w.alloc (.cells #[.slice none 0 0, .slice none 0 0, .slice none 0 0, .slice none 0 0, .int .i64 0, .int .i64 0, .int .i64 0, .int .i64 0, .int .i64 0, .int .i64 0, .int .i64 0] 34)) (m := m) ((blkc hm).1 0)
  have hin := (hro.kept hb).rin (by omega) (by omega) (by omega) (by omega) ht
  obtain ⟨s, ms, ts, ks, i1, i2, i3, i4, i5, i6, i7⟩ := X
  have hap := rapply_any s ms ts ks a1 n1 c1 a2 n2 c2 a3 n3 c3 a4 n4 c4 i1 i2 i3 i4 i5 i6 i7 none 0 0 [] _ hin (TRow.nil _ _) (by omega)
  rw [hX] at hap
  unfold ApRes at hap
  have x1 := (blkc hm).1 1
  have x2 := (blkc hm).1 2
  have x3 := (blkc hm).1 3
  have x4 := (blkc hm).1 4
  have x5 := (blkc hm).1 5
  have x6 := (blkc hm).1 6
  have x7 := (blkc hm).1 7
  have x8 := (blkc hm).1 8
  have x9 := (blkc hm).1 9
  have x10 := (blkc hm).1 10
  have x11 := (blkc hm).1 11
  have hQ := heap_alloc_new w (.cells #[.slice none 0 0, .slice none 0 0, .slice none 0 0, .slice none 0 0, .int .i64 0, .int .i64 0, .int .i64 0, .int .i64 0, .int .i64 0, .int .i64 0, .int .i64 0] 34)
  clear hX hin hro hlen hm h ht l1 l2 l3 l4
  go_enter Tryz.func10, Tryz.ntmps10
  go_wp2_with (first
    | (go_at_call 17; go_must (refine hmk.mono ?_; rintro e w1 ⟨rfl, hw⟩; rw [hw]; clear hw w1))
    | (go_at_call 14; go_must (refine hap.mono ?_; rintro e w2 ⟨A1, N1, C1, A2, N2, C2, A3, N3, C3, A4, N4, C4, rfl, hro, hb2⟩; have hQ2 := (hb2.block _ (by simp)).trans hQ; have hne : ¬ (w.heap.size = w2.heap.size) := Nat.ne_of_lt (heap_lt hQ2); have y0 := (blkc hQ2).1 0; have y1 := (blkc hQ2).1 1; have y2 := (blkc hQ2).1 2; have y3 := (blkc hQ2).1 3; have y4 := (blkc hQ2).1 4; have y5 := (blkc hQ2).1 5; have y6 := (blkc hQ2).1 6; have y7 := (blkc hQ2).1 7; have y8 := (blkc hQ2).1 8; have y9 := (blkc hQ2).1 9; have y10 := (blkc hQ2).1 10; have f0 := (blkc hQ2).2 0; have f1 := (blkc hQ2).2 1; have f2 := (blkc hQ2).2 2; have f3 := (blkc hQ2).2 3; have f4 := (blkc hQ2).2 4; have f5 := (blkc hQ2).2 5; have f6 := (blkc hQ2).2 6; have f7 := (blkc hQ2).2 7; have f8 := (blkc hQ2).2 8; have f9 := (blkc hQ2).2 9; have f10 := (blkc hQ2).2 10; have hQ3 := (Below.heap_alloc w2 (.cells #[.slice A1 N1 C1, .slice A2 N2 C2, .slice A3 N3 C3, .slice A4 N4 C4, .int .i64 i1, .int .i64 i2, .int .i64 i3, .int .i64 i4, .int .i64 i5, .int .i64 i6, .int .i64 i7] 34) _ (heap_lt hQ2)).trans hQ2; have p0 := (blkc hQ3).1 0; have p1 := (blkc hQ3).1 1; have p2 := (blkc hQ3).1 2; have p3 := (blkc hQ3).1 3; have p4 := (blkc hQ3).1 4; have p5 := (blkc hQ3).1 5; have p6 := (blkc hQ3).1 6; have p7 := (blkc hQ3).1 7; have p8 := (blkc hQ3).1 8; have p9 := (blkc hQ3).1 9; have p10 := (blkc hQ3).1 10; have q0 := (blkc hQ3).2 0; have q1 := (blkc hQ3).2 1; have q2 := (blkc hQ3).2 2; have q3 := (blkc hQ3).2 3; have q4 := (blkc hQ3).2 4; have q5 := (blkc hQ3).2 5; have q6 := (blkc hQ3).2 6; have q7 := (blkc hQ3).2 7; have q8 := (blkc hQ3).2 8; have q9 := (blkc hQ3).2 9; have q10 := (blkc hQ3).2 10)))
  have hbw2 := hb.trans (hb2.mono hb.size)
  have hb3 := below_alloc w2 (.cells #[.slice A1 N1 C1, .slice A2 N2 C2, .slice A3 N3 C3, .slice A4 N4 C4, .int .i64 i1, .int .i64 i2, .int .i64 i3, .int .i64 i4, .int .i64 i5, .int .i64 i6, .int .i64 i7] 34)
  have hbw3 := hbw2.trans (hb3.mono hbw2.size)
  have hF : ((((((((((((w2.alloc (.cells #[.slice A1 N1 C1, .slice A2 N2 C2, .slice A3 N3 C3, .slice A4 N4 C4, .int .i64 i1, .int .i64 i2, .int .i64 i3, .int .i64 i4, .int .i64 i5, .int .i64 i6, .int .i64 i7] 34)).setCell ⟨w.heap.size, 0, none⟩ (.slice A1 N1 C1)).setCell ⟨w.heap.size, 1, none⟩ (.slice A2 N2 C2)).setCell ⟨w.heap.size, 2, none⟩ (.slice A3 N3 C3)).setCell ⟨w.heap.size, 3, none⟩ (.slice A4 N4 C4)).setCell ⟨w.heap.size, 4, none⟩ (.int .i64 i1)).setCell ⟨w.heap.size, 5, none⟩ (.int .i64 i2)).setCell ⟨w.heap.size, 6, none⟩ (.int .i64 i3)).setCell ⟨w.heap.size, 7, none⟩ (.int .i64 i4)).setCell ⟨w.heap.size, 8, none⟩ (.int .i64 i5)).setCell ⟨w.heap.size, 9, none⟩ (.int .i64 i6)).setCell ⟨w.heap.size, 10, none⟩ (.int .i64 i7)).heap[w.heap.size]? = some (.cells #[.slice A1 N1 C1, .slice A2 N2 C2, .slice A3 N3 C3, .slice A4 N4 C4, .int .i64 i1, .int .i64 i2, .int .i64 i3, .int .i64 i4, .int .i64 i5, .int .i64 i6, .int .i64 i7] 34 (0, 0)) := blk_all hQ3 [.slice A1 N1 C1, .slice A2 N2 C2, .slice A3 N3 C3, .slice A4 N4 C4, .int .i64 i1, .int .i64 i2, .int .i64 i3, .int .i64 i4, .int .i64 i5, .int .i64 i6, .int .i64 i7] rfl
  have hbF : Below w.heap.size w ((((((((((((w2.alloc (.cells #[.slice A1 N1 C1, .slice A2 N2 C2, .slice A3 N3 C3, .slice A4 N4 C4, .int .i64 i1, .int .i64 i2, .int .i64 i3, .int .i64 i4, .int .i64 i5, .int .i64 i6, .int .i64 i7] 34)).setCell ⟨w.heap.size, 0, none⟩ (.slice A1 N1 C1)).setCell ⟨w.heap.size, 1, none⟩ (.slice A2 N2 C2)).setCell ⟨w.heap.size, 2, none⟩ (.slice A3 N3 C3)).setCell ⟨w.heap.size, 3, none⟩ (.slice A4 N4 C4)).setCell ⟨w.heap.size, 4, none⟩ (.int .i64 i1)).setCell ⟨w.heap.size, 5, none⟩ (.int .i64 i2)).setCell ⟨w.heap.size, 6, none⟩ (.int .i64 i3)).setCell ⟨w.heap.size, 7, none⟩ (.int .i64 i4)).setCell ⟨w.heap.size, 8, none⟩ (.int .i64 i5)).setCell ⟨w.heap.size, 9, none⟩ (.int .i64 i6)).setCell ⟨w.heap.size, 10, none⟩ (.int .i64 i7)) := below_cells hbw3 (Nat.le_refl _) [.slice A1 N1 C1, .slice A2 N2 C2, .slice A3 N3 C3, .slice A4 N4 C4, .int .i64 i1, .int .i64 i2, .int .i64 i3, .int .i64 i4, .int .i64 i5, .int .i64 i6, .int .i64 i7]
  have hgr := turned_setL w.heap.size [.slice A1 N1 C1, .slice A2 N2 C2, .slice A3 N3 C3, .slice A4 N4 C4, .int .i64 i1, .int .i64 i2, .int .i64 i3, .int .i64 i4, .int .i64 i5, .int .i64 i6, .int .i64 i7] 0 (w2.alloc (.cells #[.slice A1 N1 C1, .slice A2 N2 C2, .slice A3 N3 C3, .slice A4 N4 C4, .int .i64 i1, .int .i64 i2, .int .i64 i3, .int .i64 i4, .int .i64 i5, .int .i64 i6, .int .i64 i7] 34))
  have hroF := rown_base ((hro.kept hb3).other hQ3 hgr) hb.size
  have d0 := (blkc hF).1 0
  have d1 := (blkc hF).1 1
  have d2 := (blkc hF).1 2
  have d3 := (blkc hF).1 3
  have d4 := (blkc hF).1 4
  have d5 := (blkc hF).1 5
  have d6 := (blkc hF).1 6
  have d7 := (blkc hF).1 7
  have d8 := (blkc hF).1 8
  have d9 := (blkc hF).1 9
  have d10 := (blkc hF).1 10
  refine bodyPost_ret (v := .agg #[.slice A1 N1 C1, .slice A2 N2 C2, .slice A3 N3 C3, .slice A4 N4 C4, .int .i64 i1, .int .i64 i2, .int .i64 i3, .int .i64 i4, .int .i64 i5, .int .i64 i6, .int .i64 i7]) (by simp [results, Tryz.results10, go_sem, d0, d1, d2, d3, d4, d5, d6, d7, d8, d9, d10]) rfl ⟨A1, N1, C1, A2, N2, C2, A3, N3, C3, A4, N4, C4, rfl, hroF, hbF⟩

set_option maxRecDepth 100000 in
set_option maxHeartbeats 4000000 in
/-- the first turn -/
theorem zTurn {w : World} {S : Nat → Prop} {B p m N cap n L : Nat} {ad : Option Addr} {D D1 D2 D3 : Dk.D} {E : List Ed.E} {body bs : List Nat} {X : Ro.R}
    (h : DK w p D S) (hma : MaAt w B m p Ro.first 0) (hSm : ¬ S m) (hS : ∀ k, S k → k < w.heap.size) (hz : Dk.find D sRoster = none) (hX : Ro.apply Ro.first E = (X, 0))
    (hr : ERow w ad N E) (hN : N ≤ 1000) (hN0 : 0 < N) (hg : Good E) (hb : Ed.put E = body) (hn : body.length = n) (hn1 : n ≤ 1000) (hsm : ∀ x ∈ body, x < 256) (hbs : Fr.all [(1, body)] = bs) (hL : bs.length = L) (hL0 : 0 < L) (hL1 : L ≤ 10000) (hbsm : ∀ x ∈ bs, x < 256)
    (e1 : Dk.append D sRoster bs = (D1, 0)) (e2 : Dk.sync D1 sRoster = (D2, 0)) (e3 : Dk.syncNames D2 = (D3, 0)) (q1 : D.turns.length ≤ 1000000) (q2 : D.last ≤ 1000000) (q3 : D.names.length ≤ 1000000) (q4 : D2.turns.length ≤ 1000000) :
    Calls Tryz.prog 6 #[.pointer (some ⟨m, 0, none⟩), .slice ad N cap] w fun e w' => e = .returned (.int .i64 0) ∧ DK w' p D3 (grow1 S w) ∧ OnlyIn (fun x => S x ∨ x = m) w w' := by
  obtain ⟨a1, n1, c1, a2, n2, c2, a3, n3, c3, a4, n4, c4, hm, hro, _⟩ := hma
  have hlen := hro.len
  have hbk := zbroken_yes (X := Ro.first) hm
  have hin := hro.rin (by rw [← hlen.1]; decide) (by rw [← hlen.2.1]; decide) (by rw [← hlen.2.2.1]; decide) (by rw [← hlen.2.2.2]; decide) (fun t ht => by cases ht)
  have hap := rapply_any [] [] [] [] a1 n1 c1 a2 n2 c2 a3 n3 c3 a4 n4 c4 1 0 0 0 0 0 0 ad N cap E w hin hr hN
  have hX1 : (Ro.apply ⟨[], [], [], [], 1, 0, 0, 0, 0, 0, 0⟩ E) = (X, 0) := hX
  simp only [hX1] at hap
  unfold ApRes at hap
  have hadd := fun W (hb' : Below w.heap.size w W) A1 N1 C1 A2 N2 C2 A3 N3 C3 A4 N4 C4 => zadd (a1 := A1) (n1 := N1) (c1 := C1) (a2 := A2) (n2 := N2) (c2 := C2) (a3 := A3) (n3 := N3) (c3 := C3) (a4 := A4) (n4 := N4) (c4 := C4) (i1 := X.log) (i2 := X.index) (i3 := X.term) (i4 := X.ht) (i5 := X.hv) (i6 := X.hc) (i7 := X.mark) (cap := cap) (h.on hb') ((hb'.block m (heap_lt hm)).trans hm) hSm (fun k hk => Nat.lt_of_lt_of_le (hS k hk) hb'.size) hz (hr.below hb' (Nat.le_refl _)) hg hb hn hn1 hsm hbs hL hL0 hL1 hbsm e1 e2 e3 q1 q2 q3 q4
  have x1 := (blkc hm).1 1
  have x2 := (blkc hm).1 2
  have x3 := (blkc hm).1 3
  have x4 := (blkc hm).1 4
  have x5 := (blkc hm).1 5
  have x6 := (blkc hm).1 6
  have x7 := (blkc hm).1 7
  have x8 := (blkc hm).1 8
  have x9 := (blkc hm).1 9
  have x10 := (blkc hm).1 10
  have x11 := (blkc hm).1 11
  have x12 := (blkc hm).1 12
  have hNz : ¬ ((N : Int) = 0) := by omega
  clear hX hX1 hin hro hlen hr hg hb hn hsm hbs hL hbsm e1 e2 e3 h
  go_enter Tryz.func6, Tryz.ntmps6
  go_wp2_with (first
    | (go_at_call 7; go_must (refine hbk.mono ?_; rintro e w1 ⟨rfl, hw⟩; rw [hw]; clear hw w1))
    | (go_at_call 16; have := hb2; go_must (refine (hadd _ (hb2.alloc hb2.size _) A1 N1 C1 A2 N2 C2 A3 N3 C3 A4 N4 C4).mono ?_; rintro e w3 ⟨rfl, hd3, ho3⟩))
    | (go_at_call 14; go_must (refine hap.mono ?_; rintro e w2 ⟨A1, N1, C1, A2, N2, C2, A3, N3, C3, A4, N4, C4, rfl, hro, hb2⟩; have hm2 := (hb2.block m (heap_lt hm)).trans hm; have hm3 := (Below.heap_alloc w2 (.cells #[.slice A1 N1 C1, .slice A2 N2 C2, .slice A3 N3 C3, .slice A4 N4 C4, .int .i64 X.log, .int .i64 X.index, .int .i64 X.term, .int .i64 X.ht, .int .i64 X.hv, .int .i64 X.hc, .int .i64 X.mark] 34) _ (heap_lt hm2)).trans hm2; have y12 := (blkc hm3).1 12)))
  go_ret
  have hbw := hb2.alloc hb2.size (.cells #[.slice A1 N1 C1, .slice A2 N2 C2, .slice A3 N3 C3, .slice A4 N4 C4, .int .i64 X.log, .int .i64 X.index, .int .i64 X.term, .int .i64 X.ht, .int .i64 X.hv, .int .i64 X.hc, .int .i64 X.mark] 34)
  exact ⟨rfl, hd3.keep (fun _ _ _ => rfl) (fun k _ hk => hk.imp id fun h => Nat.le_trans hbw.size h), (OnlyIn.of_below hbw).trans (ho3.mono fun _ _ h => .inl h)⟩
end Go.Proofs.YtfogodbbgbnhkaaGreatDoor

/- The example of a manifest, told by the law. -/
namespace Go.Proofs.YtfogodbbgbnhkaaGreatDoor
open Go.RowKit

set_option maxRecDepth 100000 in
theorem zrun_segs (W : World) (v0 v1 v2 v3 i1 i2 i3 i4 i5 i6 i7 : Value) (a : Option Addr) (n c : Nat) (h : v0 = .slice a n c) : Sem.run Tryz.prog (Instr.field 34 (.agg #[v0, v1, v2, v3, i1, i2, i3, i4, i5, i6, i7]) 0) W = .ok (.slice a n c) W := by
  subst h
  simp only [Instr.field, go_sem]
  rfl
theorem zlit (w : World) : ERow (w.alloc (.cells #[.int .i64 1, .int .i64 1, .int .i64 0, .int .i64 0, .int .i64 0, .int .i64 0, .int .i64 0, .int .i64 0, .int .i64 0, .int .i64 0, .string ⟨#[]⟩, .string ⟨#[]⟩] 52)) (some ⟨w.heap.size, 0, none⟩) 1 [zE] :=
  trow_lit w _ _ _ rfl (fun j v hj => by rw [← Array.getElem?_toList]; exact hj)

set_option maxRecDepth 100000 in
set_option maxHeartbeats 4000000 in
theorem zawake (w : World) : Calls Tryz.prog 5 #[] w fun e w' => e = .returned (.bool true) ∧ Below w.heap.size w w' := by
  have hnew := new_any 1000 w (by decide)
  obtain ⟨ps, m0, hsc⟩ := zscan
  have HOP := fun W p (h : DK W p (Dk.new 1000) (fun k => w.heap.size ≤ k)) => zopen_none h zn0 zf0 rfl
  have HTU := fun W p m B (h : DK W p (Dk.new 1000) (fun k => w.heap.size ≤ k ∧ k < B)) (hB : B ≤ W.heap.size) (hma : MaAt W B m p Ro.first 0) => zTurn (cap := 1) (h.on (below_alloc W (.cells #[.int .i64 1, .int .i64 1, .int .i64 0, .int .i64 0, .int .i64 0, .int .i64 0, .int .i64 0, .int .i64 0, .int .i64 0, .int .i64 0, .string ⟨#[]⟩, .string ⟨#[]⟩] 52))) (hma.keep (below_alloc W (.cells #[.int .i64 1, .int .i64 1, .int .i64 0, .int .i64 0, .int .i64 0, .int .i64 0, .int .i64 0, .int .i64 0, .int .i64 0, .int .i64 0, .string ⟨#[]⟩, .string ⟨#[]⟩] 52))) (fun hs => by obtain ⟨a1, n1, c1, a2, n2, c2, a3, n3, c3, a4, n4, c4, _, _, h3⟩ := hma; omega) (fun k hk => by have := hk.2; simp; omega) zf0 zapply (zlit W) (by omega) (by omega) zgood zput rfl (by decide) (by decide) zall rfl (by decide) (by decide) (by decide) zs1 zs2 zs3 (by decide) (by decide) (by decide) (by decide)
  have HCR := fun W p (T : Nat → Prop) (h : DK W p zD3 T) => crash_any h.tight (fun k hk => hk.2) 0 none 0 0 [] ⟨⟨rfl, by omega, .inl rfl⟩, (fun _ => ⟨rfl, rfl⟩), Nat.le_refl _⟩ (fun b o e => by cases e) (by decide) (by decide)
  rw [zs4] at HCR
  have HO2 := fun W p (T : Nat → Prop) (h : DK W p zD3 T) => zopen_one h.tight (fun k hk => hk.2) zn3 zf3 rfl (n := 9) rfl (by omega) (by omega) [1, 1, 1] ps hsc [zE] zgetE (by simp) (by decide) (N := 1) rfl (by omega) zsize zX zapply zD3 zD3 zs5 zs6 (by decide)
  have HRO := fun W B m p fr (h : MaAt W B m p zX fr) => zroster_yes h zapply0 (by decide) (by decide) (by decide) (by decide) (fun t ht => by cases ht)
  clear hsc
  go_enter Tryz.func5, Tryz.ntmps5
  go_wp2_with (first
    | (go_at_call 12; go_must (refine hnew.mono ?_; rintro e w1 ⟨p, rfl, h1, hb1⟩))
    | (go_at_call 11; have := h4; go_must (refine (HO2 _ _ _ h4).mono ?_; rintro e w5 ⟨x, rfl, hx5, ho5⟩))
    | (go_at_call 11; go_must (refine (HOP _ _ h1).mono ?_; rintro e w2 ⟨m, rfl, hma, hb2⟩))
    | (go_at_call 6; go_must (refine (HTU w2 p m w1.heap.size (h1.tight.on hb2) hb2.size hma).mono ?_; rintro e w3 ⟨rfl, h3, ho3⟩))
    | (go_at_call 13; go_must (refine (HCR _ _ _ h3).mono ?_; rintro e w4 ⟨rfl, h4, ho4⟩))
    | (go_at_call 10; go_must (refine (HRO _ _ _ _ _ hx5).mono ?_; rintro e w6 ⟨A1, N1, C1, A2, N2, C2, A3, N3, C3, A4, N4, C4, rfl, hro6, hb6⟩; have hN1 : 1 = N1 := hro6.len.1; subst hN1; have hfd := fun W => zrun_segs W (.slice A1 1 C1) (.slice A2 N2 C2) (.slice A3 N3 C3) (.slice A4 N4 C4) (.int .i64 zX.log) (.int .i64 zX.index) (.int .i64 zX.term) (.int .i64 zX.ht) (.int .i64 zX.hv) (.int .i64 zX.hc) (.int .i64 zX.mark) A1 1 C1 rfl; have hx6 := hx5.keep hb6))
    | (go_at_call 8; go_must (refine (zframes_yes hx6).mono ?_; rintro e w7 ⟨rfl, hw⟩; rw [hw]; clear hw w7)))
  go_ret
  obtain ⟨a1, n1, c1, a2, n2, c2, a3, n3, c3, a4, n4, c4, _, _, hmB⟩ := hma
  have b2 := hb1.trans (hb2.mono hb1.size)
  have b2a := b2.alloc b2.size (.cells #[.int .i64 1, .int .i64 1, .int .i64 0, .int .i64 0, .int .i64 0, .int .i64 0, .int .i64 0, .int .i64 0, .int .i64 0, .int .i64 0, .string ⟨#[]⟩, .string ⟨#[]⟩] 52)
  have b3 := b2a.trans (ho3.below b2a.size fun k hk => by
    rcases hk with hk | rfl
    · exact hk.1
    · exact Nat.le_trans hb1.size hmB)
  have b4 := b3.trans (ho4.below b3.size fun k hk => by
    rcases hk.1 with hk | hk
    · exact hk.1
    · exact Nat.le_trans b2a.size hk)
  have b5 := b4.trans (ho5.below b4.size fun k hk => by
    rcases hk.1 with hk | hk
    · rcases hk.1 with hk | hk
      · exact hk.1
      · exact Nat.le_trans b2a.size hk
    · exact Nat.le_trans b3.size hk)
  exact ⟨rfl, b5.trans (hb6.mono b5.size)⟩

theorem rin_zero (w : World) : RIn w none 0 0 none 0 0 none 0 0 none 0 0 Ro.zero := ⟨TRow.nil _ _, TRow.nil _ _, TRow.nil _ _, TRow.nil _ _, fun _ => ⟨rfl, rfl⟩, fun _ => ⟨rfl, rfl⟩, fun _ => ⟨rfl, rfl⟩, fun _ => ⟨rfl, rfl⟩, by omega, by omega, by omega, by omega, by omega, fun t h => by cases h⟩

set_option maxRecDepth 100000 in
set_option maxHeartbeats 4000000 in
theorem znobody (a : Option Addr) (len cap : Nat) (l : List Ed.E) (w : World) (hl : IsEdits w a len cap l) : Calls Tryz.prog 3 #[.slice a len cap] w fun e w' => e = .returned (.bool true) ∧ Below w.heap.size w w' := by
  have haw := fun W => zawake W
  have hsa := fun W => rsame_eq [] [] [] [] none 0 0 none 0 0 none 0 0 none 0 0 0 0 0 0 0 0 0 none 0 none 0 none 0 none 0 W (rin_zero W) (rin_zero W)
  have hon := fun W => zopen_nil W
  have hlg := elight_any a len cap l w hl.1 hl.2.2.2
  cases hlt : elgt l with
  | false =>
    rw [hlt] at hlg
    go_enter Tryz.func3, Tryz.ntmps3
    go_wp2_with (first
      | (go_at_call 4; go_must (refine hlg.mono ?_; rintro e w1 ⟨rfl, hw⟩; rw [hw]; clear hw w1))
      | (go_at_call 5; go_must (refine (haw _).mono ?_; rintro e w2 ⟨rfl, hb2⟩)))
    go_ret
    exact ⟨rfl, hb2⟩
  | true =>
    rw [hlt] at hlg
    go_enter Tryz.func3, Tryz.ntmps3
    go_wp2_with (go_at_call 4; go_must (refine hlg.mono ?_; rintro e w1 ⟨rfl, hw⟩; rw [hw]; clear hw w1))
    clear hlg
    go_loopw [3] (fun kv wr => ∃ k : Nat, k ≤ 2 ∧ kv = .int .i64 k ∧ Below w.heap.size w wr) (fun kv _ => 2 - (intOf kv).toNat)
    case atStart => exact ⟨0, by omega, rfl, Below.refl _ _⟩
    case round =>
      obtain ⟨k, hk, rfl, hbw⟩ := hrel
      by_cases h0 : k = 0
      · subst h0
        have hN : NoMan wr none := .inl rfl
        go_wp2_with (first
          | (go_at_call 6; go_must (refine (zturn_no hN _ _ _).mono ?_; rintro e w1 ⟨rfl, hw⟩; rw [hw]; clear hw w1))
          | (go_at_call 7; go_must (refine (zbroken_no hN).mono ?_; rintro e w1 ⟨rfl, hw⟩; rw [hw]; clear hw w1))
          | (go_at_call 8; go_must (refine (zframes_no hN).mono ?_; rintro e w1 ⟨rfl, hw⟩; rw [hw]; clear hw w1))
          | (go_at_call 10; go_must (refine (zroster_no hN).mono ?_; rintro e w1 ⟨rfl, hb1⟩))
          | (go_at_call 9; go_must (refine (hsa _).mono ?_; rintro e w2 ⟨rfl, hb2⟩)))
        have hb3 := hbw.trans (hb1.mono hbw.size)
        exact ⟨⟨1, by omega, rfl, hb3.trans (hb2.mono hb3.size)⟩, by simp [intOf]⟩
      · by_cases h1 : k = 1
        · subst h1
          have hN : NoMan (wr.alloc (.cells #[.pointer none, .slice none 0 0, .slice none 0 0, .slice none 0 0, .slice none 0 0, .int .i64 0, .int .i64 0, .int .i64 0, .int .i64 0, .int .i64 0, .int .i64 0, .int .i64 0, .int .i64 0, .bool false] 36)) (some ⟨wr.heap.size, 0, none⟩) := .inr ⟨_, rfl, cell_new wr _ _ 0⟩
          go_wp2_with (first
            | (go_at_call 6; go_must (refine (zturn_no hN _ _ _).mono ?_; rintro e w1 ⟨rfl, hw⟩; rw [hw]; clear hw w1))
            | (go_at_call 7; go_must (refine (zbroken_no hN).mono ?_; rintro e w1 ⟨rfl, hw⟩; rw [hw]; clear hw w1))
            | (go_at_call 8; go_must (refine (zframes_no hN).mono ?_; rintro e w1 ⟨rfl, hw⟩; rw [hw]; clear hw w1))
            | (go_at_call 10; go_must (refine (zroster_no hN).mono ?_; rintro e w1 ⟨rfl, hb1⟩))
            | (go_at_call 9; go_must (refine (hsa _).mono ?_; rintro e w2 ⟨rfl, hb2⟩)))
          have hb0 := hbw.alloc hbw.size (.cells #[.pointer none, .slice none 0 0, .slice none 0 0, .slice none 0 0, .slice none 0 0, .int .i64 0, .int .i64 0, .int .i64 0, .int .i64 0, .int .i64 0, .int .i64 0, .int .i64 0, .int .i64 0, .bool false] 36)
          have hb3 := hb0.trans (hb1.mono hb0.size)
          exact ⟨⟨2, by omega, rfl, hb3.trans (hb2.mono hb3.size)⟩, by simp [intOf]⟩
        · obtain rfl : k = 2 := by omega
          have hzd := fun (W : World) => zopen_zero (heap_alloc_new W (.cells #[.int .i64 0, .map none, .int .i64 0, .int .i64 0, .map none, .map none, .slice none 0 0, .int .i64 0, .int .i64 0, .bool false] 48))
          go_wp2_with (first
            | (go_at_call 11; have := hbz; go_must (refine (hzd _).mono ?_; rintro e w2 ⟨rfl, hw⟩; rw [hw]; clear hw w2))
            | (go_at_call 11; go_must (refine (hon _).mono ?_; rintro e w1 ⟨rfl, hw⟩; rw [hw]; clear hw w1; have hbz := hbw.alloc hbw.size (.cells #[.int .i64 0, .map none, .int .i64 0, .int .i64 0, .map none, .map none, .slice none 0 0, .int .i64 0, .int .i64 0, .bool false] 48)))
            | (go_at_call 5; go_must (refine (haw _).mono ?_; rintro e w3 ⟨rfl, hb3⟩)))
          go_ret
          exact ⟨rfl, hbz.trans (hb3.mono hbz.size)⟩
end Go.Proofs.YtfogodbbgbnhkaaGreatDoor

/- The world that the program's own initialisers leave meets what the rows list of the library's tables (where a law's road reads none of them). -/
namespace Go.Proofs.YtfogodbbgbnhkaaGreatDoor
open Go.RowKit

theorem door_met (os : Os) (args : Array Value) : laidMetH Tryz.prog Rows.manifestNobodyRow.laid ((World.doorLaid Tryz.prog 24 os).forCall (fun _ _ => 0) ⟨#[], args, []⟩).memory :=
  laidMetH_of_parts3 (fuel := 8) (laidMet_of_run' 8 (by kernel_rfl) (by kernel_rfl)) (by kernel_rfl) (by kernel_rfl)
end Go.Proofs.YtfogodbbgbnhkaaGreatDoor
