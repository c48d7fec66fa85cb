/- The reference's Add. -/
import Derived.Test.YtnoknmnbfkdccaaGreatDoorVXe
import Derived.Test.YtnoknmnbfkdccaaGreatDoorIG
namespace Go.Proofs.YtnoknmnbfkdccaaGreatDoor
open Go.RowKit Go.Shelf

theorem valsE : Elem 32 48 1 24 (.slice none 0 0) := ⟨Tryz.underlying32, by kernel_rfl, rfl, by decide, by decide⟩
theorem log_cells {W : World} {g : Nat} {c0 c1 : Value} (h : W.heap[g]? = some (.cells #[c0, c1] 34 (0, 0))) : W.cell? ⟨g, 0, none⟩ = some c0 ∧ W.cell? ⟨g, 1, none⟩ = some c1 ∧ W.frozen? ⟨g, 0, none⟩ = false ∧ W.frozen? ⟨g, 1, none⟩ = false :=
  ⟨(Go.Joins.cell_of_block h 0).trans rfl, (Go.Joins.cell_of_block h 1).trans rfl, Go.Joins.unfrozen_of_block h 0, Go.Joins.unfrozen_of_block h 1⟩
/-- a log as an argument, and one to be told, as they lie at the beginning -/
theorem two_logs {w W0 W1 : World} {c0 c1 : Value} (hW0 : W0 = w.alloc (.cells #[c0, c1] 34)) (hW1 : W1 = W0.alloc (.cells #[.slice none 0 0, .slice none 0 0] 34)) :
    W1.heap.size = w.heap.size + 2 ∧ Below w.heap.size w W1 ∧ (∀ W, Below W1.heap.size W1 W → W.heap[w.heap.size + 1]? = some (.cells #[.slice none 0 0, .slice none 0 0] 34 (0, 0))) ∧ ∀ W, Below W1.heap.size W1 W → (W.cell? ⟨w.heap.size, 0, none⟩ = some c0 ∧ W.cell? ⟨w.heap.size, 1, none⟩ = some c1) ∧ (W.cell? ⟨w.heap.size + 1, 0, none⟩ = some (.slice none 0 0) ∧ W.cell? ⟨w.heap.size + 1, 1, none⟩ = some (.slice none 0 0) ∧ W.frozen? ⟨w.heap.size + 1, 0, none⟩ = false ∧ W.frozen? ⟨w.heap.size + 1, 1, none⟩ = false) := by
  have b0 := below_alloc w (.cells #[c0, c1] 34)
  have q0 := heap_alloc_new w (.cells #[c0, c1] 34)
  rw [← hW0] at b0 q0
  have b1 := below_alloc W0 (.cells #[.slice none 0 0, .slice none 0 0] 34)
  have q1 := heap_alloc_new W0 (.cells #[.slice none 0 0, .slice none 0 0] 34)
  have z0 : W0.heap.size = w.heap.size + 1 := by rw [hW0]; simp
  rw [← hW1, z0] at q1
  rw [← hW1] at b1
  have z1 : W1.heap.size = w.heap.size + 2 := by rw [hW1]; simp [z0]
  have hg : ∀ W, Below W1.heap.size W1 W → W.heap[w.heap.size + 1]? = some (.cells #[.slice none 0 0, .slice none 0 0] 34 (0, 0)) := fun W hW => (hW.block (w.heap.size + 1) (by omega)).trans q1
  refine ⟨z1, b0.trans (b1.mono b0.size), hg, fun W hW => ?_⟩
  have f0 := (hW.block w.heap.size (by omega)).trans ((b1.block _ (by omega)).trans q0)
  exact ⟨⟨(log_cells f0).1, (log_cells f0).2.1⟩, log_cells (hg W hW)⟩
section
variable {B : Nat} {w : World} {sa va : Option Addr} {sn sc vc : Nat} {segs : List Int} {vals : List (List (List Nat))}
set_option maxRecDepth 100000 in
set_option maxHeartbeats 1000000 in
theorem vrefadd_bad (h : RL B w sa sn sc va vc segs vals) (hn : sn ≤ 1000) (s : Int) (hm : Vl.may (segs ++ [s]) = false) :
    Calls Tryz.prog 31 #[.agg #[.slice sa sn sc, .slice va sn vc], .int .i64 s] w fun e w' => e = .returned (.tuple #[.agg #[.slice sa sn sc, .slice va sn vc], .int .i64 1]) ∧ Below w.heap.size w w' := by
  obtain ⟨W0, hW0⟩ : ∃ W0, W0 = w.alloc (.cells #[.slice sa sn sc, .slice va sn vc] 34) := ⟨_, rfl⟩
  obtain ⟨W1, hW1⟩ : ∃ W1, W1 = W0.alloc (.cells #[.slice none 0 0, .slice none 0 0] 34) := ⟨_, rfl⟩
  obtain ⟨z1, B1, _, hc⟩ := two_logs hW0 hW1
  have hC : Hid (∀ W, Below W1.heap.size W1 W → (W.cell? ⟨w.heap.size, 0, none⟩ = some (.slice sa sn sc) ∧ W.cell? ⟨w.heap.size, 1, none⟩ = some (.slice va sn vc)) ∧ (W.cell? ⟨w.heap.size + 1, 0, none⟩ = some (.slice none 0 0) ∧ W.cell? ⟨w.heap.size + 1, 1, none⟩ = some (.slice none 0 0) ∧ W.frozen? ⟨w.heap.size + 1, 0, none⟩ = false ∧ W.frozen? ⟨w.heap.size + 1, 1, none⟩ = false)) := hc
  have hsr : ∀ W, Below W1.heap.size W1 W → ZRow W sa sn segs := fun W hW => h.sr.below (B1.trans (hW.mono B1.size)) (Nat.le_refl _)
  have hsz := h.sz
  have hmy := fun W A C (ho : W.ownsRow W1.heap.size 3 1 (.slice A (sn + 1) C) (sn + 1) (tcells ze (segs ++ [s]))) => refmay_any A (sn + 1) C (segs ++ [s]) W (by omega) (trow_of_owns zeE ho (by omega) (by omega)) false hm.symm
  have bz : Below W1.heap.size W1 (W1.alloc (.cells #[] 3)) := below_alloc _ _
  obtain ⟨⟨k0, k1⟩, k2, k3, k4, k5⟩ := hc _ bz
  rw [hW1, hW0] at k0 k1 k2 k3 k4 k5
  clear hm hc
  go_enter Tryz.func31, Tryz.ntmps31
  go_wp2_with (first
    | (at_builtin; rw [← hW0, ← hW1]; refine append_t intZ zeE (w0 := W1) (B := W1.heap.size) rfl (.tmp 7) (.tmp 9) rfl _ 0 [] rfl (made_t W1 (Nat.le_refl _) (by omega)) sa sn sc segs rfl (hsr _ bz) hsz.1 (by omega) bz (by simp) ?_; intro A2 C2 w2 _ _ _ ho2 hb2 hs2; rw [Nat.zero_add, List.nil_append] at ho2; rw [Nat.zero_add])
    | (at_builtin; refine append_t intZ zeE (w0 := W1) (B := W1.heap.size) rfl (.tmp 10) (.tmp 12) rfl _ sn segs rfl (ho2.alloc _) (some ⟨w2.heap.size, 0, none⟩) 1 1 [s] rfl (lit_z w2 s rfl) (fun h => by cases h) (by omega) (bal hb2 _) (by simp; have := hb2.size; omega) ?_; intro A3 C3 w3 _ _ _ ho3 hb3 hs3)
    | (go_at_call 9; go_must (refine (hmy _ A3 C3 ho3).mono ?_; rintro e w4 ⟨rfl, q, hw4⟩; have hb4 : Below W1.heap.size W1 w4 := hw4 ▸ bdr hb3 q; clear hw4; obtain ⟨⟨r0, r1⟩, r2, r3, r4, r5⟩ := hC.out w4 hb4)))
  have B4 := B1.trans (hb4.mono B1.size)
  exact bodyPost_ret (v := .tuple #[.agg #[.slice sa sn sc, .slice va sn vc], .int .i64 1]) (by simp [results, Tryz.results31, go_sem, r2, r3]) rfl ⟨rfl, (B4.setCell (p := ⟨w.heap.size + 1, 0, none⟩) (by simp) _).setCell (p := ⟨w.heap.size + 1, 1, none⟩) (by simp) _⟩
theorem snoc_get {α : Type} (l : List α) (x d : α) (i : Nat) (n : Nat) (hl : l.length = n) (hi : i < n + 1) : (i < n ∧ (l ++ [x]).getD i d = l.getD i d) ∨ (i = n ∧ (l ++ [x]).getD i d = x) := by
  rcases Nat.lt_or_ge i n with h | h
  · refine .inl ⟨h, ?_⟩
    simp only [List.getD_eq_getElem?_getD]; rw [List.getElem?_append_left (by omega)]
  · obtain rfl : i = n := by omega
    refine .inr ⟨rfl, ?_⟩
    subst hl; simp
theorem own_low {w : World} {B e s n c b o : Nat} {a : Option Addr} {xs : List Value} (h : w.ownsRow B e s (.slice a n c) n xs) (ha : a = some ⟨b, o, none⟩) : B ≤ b := by
  rcases h.2 with ⟨e, _⟩ | ⟨g, cap, cur, e, hg, _⟩
  · simp only [Value.slice.injEq] at e; rw [e.1] at ha; cases ha
  · simp only [Value.slice.injEq] at e; rw [e.1] at ha; simp only [Option.some.injEq, Addr.mk.injEq] at ha; omega
theorem lit_vs (w : World) {g : Nat} (hg : w.heap.size = g) : TRow 1 vhe vhz (w.alloc (.cells #[.slice none 0 0] 48)) (some ⟨g, 0, none⟩) 1 [vhz] :=
  trow_lit w _ _ _ hg (fun j u hj => by
    match j, hj with
    | 0, hj => exact hj
    | j + 1, hj => simp [vhe] at hj)
/-- a log out of two rows of its own -/
theorem RL.of {W : World} {B1 : Nat} {A V : Option Addr} {n C VC : Nat} {s2 : List Int} {vals2 : List (List (List Nat))} {rows : List VH} (ho : W.ownsRow B1 3 1 (.slice A n C) n (tcells ze s2)) (hv : W.ownsRow B1 48 1 (.slice V n VC) n (tcells vhe rows))
    (hn : n ≤ 1000000) (ha : (A = none → n = 0 ∧ C = 0) ∧ n ≤ C) (hb : (V = none → n = 0 ∧ VC = 0) ∧ n ≤ VC) (hl : vals2.length = n) (h3 : ∀ i, i < n → SV B W (rows.getD i vhz) (vals2.getD i [])) : RL B W A n C V VC s2 vals2 := by
  have r1 := trow_of_owns (d := (0 : Int)) zeE ho (by omega) (by omega)
  exact ⟨r1, ha, Ap.own ho, ⟨rows, trow_of_owns vhE hv (by omega) (by omega), hl, h3⟩, hb, Ap.own hv, hl.trans r1.1.symm⟩
set_option maxRecDepth 100000 in
set_option maxHeartbeats 1000000 in
theorem vrefadd_any (h : RL B w sa sn sc va vc segs vals) (hB : B ≤ w.heap.size) (hn : sn ≤ 1000) (s : Int) (hm : Vl.may (segs ++ [s]) = true) :
    Calls Tryz.prog 31 #[.agg #[.slice sa sn sc, .slice va sn vc], .int .i64 s] w fun e w' => ∃ A C V VC, e = .returned (.tuple #[.agg #[.slice A (sn + 1) C, .slice V (sn + 1) VC], .int .i64 0]) ∧ RL B w' A (sn + 1) C V VC (segs ++ [s]) (vals ++ [[]]) ∧ Below w.heap.size w w' ∧ ∀ b o, A = some ⟨b, o, none⟩ → w.heap.size ≤ b := by
  obtain ⟨W0, hW0⟩ : ∃ W0, W0 = w.alloc (.cells #[.slice sa sn sc, .slice va sn vc] 34) := ⟨_, rfl⟩
  obtain ⟨W1, hW1⟩ : ∃ W1, W1 = W0.alloc (.cells #[.slice none 0 0, .slice none 0 0] 34) := ⟨_, rfl⟩
  obtain ⟨z1, B1, hres, hc⟩ := two_logs hW0 hW1
  have hC : Hid (∀ W, Below W1.heap.size W1 W → (W.cell? ⟨w.heap.size, 0, none⟩ = some (.slice sa sn sc) ∧ W.cell? ⟨w.heap.size, 1, none⟩ = some (.slice va sn vc)) ∧ (W.cell? ⟨w.heap.size + 1, 0, none⟩ = some (.slice none 0 0) ∧ W.cell? ⟨w.heap.size + 1, 1, none⟩ = some (.slice none 0 0) ∧ W.frozen? ⟨w.heap.size + 1, 0, none⟩ = false ∧ W.frozen? ⟨w.heap.size + 1, 1, none⟩ = false)) := hc
  have hRH : Hid (∀ W, Below W1.heap.size W1 W → W.heap[w.heap.size + 1]? = some (.cells #[.slice none 0 0, .slice none 0 0] 34 (0, 0))) := hres
  have hsr : ∀ W, Below W1.heap.size W1 W → ZRow W sa sn segs := fun W hW => h.sr.below (B1.trans (hW.mono B1.size)) (Nat.le_refl _)
  obtain ⟨rows, hv1, hv2, hv3⟩ := h.vr
  have hrl : Hid (rows.length = sn) := hv1.1
  have hvr : ∀ W, Below W1.heap.size W1 W → TRow 1 vhe vhz W va sn rows := fun W hW => hv1.below (B1.trans (hW.mono B1.size)) (Nat.le_refl _)
  have hSV : Hid (∀ W, Below w.heap.size w W → ∀ i, i < sn → SV B W (rows.getD i vhz) (vals.getD i [])) := (fun W hW i hi => (hv3 i hi).wy (P := fun _ => False) (Wy.of_below hB hW) : ∀ W, Below w.heap.size w W → ∀ i, i < sn → SV B W (rows.getD i vhz) (vals.getD i []))
  have hVL : Hid (vals.length = sn) := hv2
  have hsz := h.sz
  have hvz := h.vz
  have hmy := fun W A C (ho : W.ownsRow W1.heap.size 3 1 (.slice A (sn + 1) C) (sn + 1) (tcells ze (segs ++ [s]))) => refmay_any A (sn + 1) C (segs ++ [s]) W (by omega) (trow_of_owns zeE ho (by omega) (by omega)) true hm.symm
  have bz : Below W1.heap.size W1 (W1.alloc (.cells #[] 3)) := below_alloc _ _
  obtain ⟨⟨k0, k1⟩, k2, k3, k4, k5⟩ := hc _ bz
  rw [hW1, hW0] at k0 k1 k2 k3 k4 k5
  clear hm hc hres h hv1 hv2 hv3
  go_enter Tryz.func31, Tryz.ntmps31
  go_wp2_with (first
    | (at_builtin; rw [← hW0, ← hW1]; refine append_t intZ zeE (w0 := W1) (B := W1.heap.size) rfl (.tmp 7) (.tmp 9) rfl _ 0 [] rfl (made_t W1 (Nat.le_refl _) (by omega)) sa sn sc segs rfl (hsr _ bz) hsz.1 (by omega) bz (by simp) ?_; intro A2 C2 w2 _ _ _ ho2 hb2 hs2; rw [Nat.zero_add, List.nil_append] at ho2; rw [Nat.zero_add])
    | (at_builtin; refine append_t intZ zeE (w0 := W1) (B := W1.heap.size) rfl (.tmp 10) (.tmp 12) rfl _ sn segs rfl (ho2.alloc _) (some ⟨w2.heap.size, 0, none⟩) 1 1 [s] rfl (lit_z w2 s rfl) (fun h => by cases h) (by omega) (bal hb2 _) (by simp; have := hb2.size; omega) ?_; intro A3 C3 w3 hl3 hn3 _ ho3 hb3 hs3)
    | (go_at_call 9; go_must (refine (hmy _ A3 C3 ho3).mono ?_; rintro e w4 ⟨rfl, q, hw4⟩; have hb4 : Below W1.heap.size W1 w4 := hw4 ▸ bdr hb3 q; have ho4 := owns_below ho3 (show Below w3.heap.size w3 w4 from hw4 ▸ below_drewN _ _ _); clear hw4; obtain ⟨⟨r0, r1⟩, r2, r3, r4, r5⟩ := hC.out _ (bal hb4 (.cells #[] 48))))
    | (at_builtin; refine append_tg valsE vhE (w0 := W1) (B := W1.heap.size) rfl (.tmp 19) (.tmp 21) rfl _ 0 [] rfl (made_t w4 hb4.size rfl) va sn vc rows rfl (hvr _ (bal hb4 _)) hvz.1 (by omega) (bal hb4 _) (by simp; have := hb4.size; omega) ?_; intro A5 C5 w5 hg5 _ _ _ ho5 hb5 hs5; rw [Nat.zero_add, List.nil_append] at ho5; rw [Nat.zero_add])
    | (at_builtin; refine append_tg valsE vhE (w0 := W1) (B := W1.heap.size) rfl (.tmp 22) (.tmp 23) rfl _ sn rows rfl (ho5.alloc _) (some ⟨w5.heap.size, 0, none⟩) 1 1 [vhz] rfl (lit_vs w5 rfl) (fun h => by cases h) (by omega) (bal hb5 _) (by simp; have := hb5.size; omega) ?_; intro A6 C6 w6 hg6 hl6 hn6 _ ho6 hb6 hs6; obtain ⟨_, x2, x3, x4, x5⟩ := hC.out w6 hb6))
  have hm4 : (w4.alloc (.cells #[] 48)).ownsRow W1.heap.size 48 1 (.slice (some ⟨w4.heap.size, 0, none⟩) 0 0) 0 (tcells vhe []) := made_t w4 hb4.size rfl
  have i5 := (ho4.alloc (.cells #[] 48)).kept hg5 (own_apart (ho4.alloc (.cells #[] 48)) hm4 (by decide))
  have i6 := (i5.alloc (.cells #[.slice none 0 0] 48)).kept hg6 (own_apart (i5.alloc (.cells #[.slice none 0 0] 48)) (ho5.alloc (.cells #[.slice none 0 0] 48)) (by decide))
  have hr6 := hRH.out w6 hb6
  have i7 := i6.kept (turned_set w6 (w.heap.size + 1) 0 (.slice A3 (sn + 1) C3)) (.inr (vobr hr6 i6 (by decide)).symm)
  have j7 := ho6.kept (turned_set w6 (w.heap.size + 1) 0 (.slice A3 (sn + 1) C3)) (.inr (vobr hr6 ho6 (by decide)).symm)
  have hr7 := Go.Joins.block_setCell hr6 (.slice A3 (sn + 1) C3) (i := 0)
  have i8 := i7.kept (turned_set _ (w.heap.size + 1) 1 (.slice A6 (sn + 1) C6)) (.inr (vobr hr7 i7 (by decide)).symm)
  have j8 := j7.kept (turned_set _ (w.heap.size + 1) 1 (.slice A6 (sn + 1) C6)) (.inr (vobr hr7 j7 (by decide)).symm)
  have B6 := B1.trans (hb6.mono B1.size)
  have B8 := (B6.setCell (p := ⟨w.heap.size + 1, 0, none⟩) (by simp) (.slice A3 (sn + 1) C3)).setCell (p := ⟨w.heap.size + 1, 1, none⟩) (by simp) (.slice A6 (sn + 1) C6)
  refine bodyPost_ret (v := .tuple #[.agg #[.slice A3 (sn + 1) C3, .slice A6 (sn + 1) C6], .int .i64 0]) (by simp [results, Tryz.results31, go_sem, x2, x3]) rfl ⟨A3, C3, A6, C6, rfl, RL.of i8 j8 (by omega) ⟨hn3, hl3⟩ ⟨hn6, hl6⟩ (by rw [List.length_append, hVL.out]; rfl) (fun i hi => ?_), B8, fun b o e => Nat.le_trans (by omega) (own_low i8 e)⟩
  rcases snoc_get rows vhz vhz i sn hrl.out hi with ⟨g1, g2⟩ | ⟨g1, g2⟩
  · rcases snoc_get vals [] [] i sn hVL.out hi with ⟨_, g4⟩ | ⟨g3, _⟩
    · rw [g2, g4]; exact hSV.out _ B8 i g1
    · omega
  · rcases snoc_get vals [] [] i sn hVL.out hi with ⟨g3, _⟩ | ⟨_, g4⟩
    · omega
    · rw [g2, g4]; exact SV.nil
end
end Go.Proofs.YtnoknmnbfkdccaaGreatDoor

/- The reference's Put where nothing is put. -/
namespace Go.Proofs.YtnoknmnbfkdccaaGreatDoor
open Go.RowKit Go.Shelf

/-- a log as an argument, another and a point to be told -/
theorem three_logs {w W0 W1 W2 : World} {c0 c1 d0 d1 p0 p1 p2 p3 : Value} (hW0 : W0 = w.alloc (.cells #[c0, c1] 34)) (hW1 : W1 = W0.alloc (.cells #[d0, d1] 34)) (hW2 : W2 = W1.alloc (.cells #[p0, p1, p2, p3] 42)) :
    W2.heap.size = w.heap.size + 3 ∧ Below w.heap.size w W2 ∧ W2.heap[w.heap.size]? = some (.cells #[c0, c1] 34 (0, 0)) ∧ W2.heap[w.heap.size + 1]? = some (.cells #[d0, d1] 34 (0, 0)) ∧ W2.heap[w.heap.size + 2]? = some (.cells #[p0, p1, p2, p3] 42 (0, 0)) := by
  have q0 := heap_alloc_new w (.cells #[c0, c1] 34)
  have b0 := below_alloc w (.cells #[c0, c1] 34)
  have q1 := heap_alloc_new W0 (.cells #[d0, d1] 34)
  have b1 := below_alloc W0 (.cells #[d0, d1] 34)
  have b2 := below_alloc W1 (.cells #[p0, p1, p2, p3] 42)
  have q2 := heap_alloc_new W1 (.cells #[p0, p1, p2, p3] 42)
  have s0 : W0.heap.size = w.heap.size + 1 := by rw [hW0]; simp
  have s1 : W1.heap.size = w.heap.size + 2 := by rw [hW1]; simp [s0]
  rw [← hW0] at q0 b0
  rw [← hW1] at b1 q1
  rw [← hW2] at b2 q2
  rw [s1] at q2
  rw [s0] at q1
  exact ⟨by rw [hW2]; simp [s1], b0.trans ((b1.trans (b2.mono b1.size)).mono b0.size), (b2.block _ (by omega)).trans ((b1.block _ (by omega)).trans q0), (b2.block _ (by omega)).trans q1, q2⟩
section
variable {w : World} {sa va : Option Addr} {sn sc vc : Nat}
set_option maxRecDepth 100000 in
set_option maxHeartbeats 1000000 in
theorem vrefput_none (h : VH) :
    Calls Tryz.prog 28 #[.agg #[.slice sa 0 sc, .slice va 0 vc], .slice h.a h.n h.c] w fun e w' => e = .returned (.tuple #[.agg #[.slice sa 0 sc, .slice va 0 vc], pv Po.zero, .int .i64 11]) ∧ Below w.heap.size w w' := by
  obtain ⟨z2, B2, g0, g1, g2⟩ := three_logs (w := w) (c0 := .slice sa 0 sc) (c1 := .slice va 0 vc) (d0 := .slice none 0 0) (d1 := .slice none 0 0) (p0 := .int .i64 0) (p1 := .int .i64 0) (p2 := .int .i64 0) (p3 := .int .u32 0) rfl rfl rfl
  obtain ⟨_, B3, _, f1, f2⟩ := three_logs (w := w) (c0 := .slice sa 0 sc) (c1 := .slice va 0 vc) (d0 := .slice sa 0 sc) (d1 := .slice va 0 vc) (p0 := .int .i64 0) (p1 := .int .i64 0) (p2 := .int .i64 0) (p3 := .int .u32 0) rfl rfl rfl
  obtain ⟨k0, k1, _, _⟩ := log_cells g0
  obtain ⟨r0, r1, r2, r3⟩ := log_cells g1
  obtain ⟨x0, x1, _, _⟩ := log_cells f1
  obtain ⟨p0, p1, p2, p3, pf⟩ := pbox_cells (q := Po.zero) g2
  obtain ⟨y0, y1, y2, y3, _⟩ := pbox_cells (q := Po.zero) f2
  have pf0 := pf 0; have pf1 := pf 1; have pf2 := pf 2; have pf3 := pf 3
  simp only [Po.zero] at p0 p1 p2 p3 y0 y1 y2 y3
  clear g0 g1 g2 f1 f2 pf z2 B2
  go_enter Tryz.func28, Tryz.ntmps28
  go_wp2
  exact bodyPost_ret (v := .tuple #[.agg #[.slice sa 0 sc, .slice va 0 vc], pv Po.zero, .int .i64 11]) (by simp [results, Tryz.results28, go_sem, x0, x1, y0, y1, y2, y3, pv, Po.zero]) rfl ⟨rfl, B3⟩
set_option maxRecDepth 100000 in
set_option maxHeartbeats 1000000 in
theorem vrefput_big (h : VH) (hn : 0 < sn) (hb : 4096 < h.n) :
    Calls Tryz.prog 28 #[.agg #[.slice sa sn sc, .slice va sn vc], .slice h.a h.n h.c] w fun e w' => e = .returned (.tuple #[.agg #[.slice sa sn sc, .slice va sn vc], pv Po.zero, .int .i64 6]) ∧ Below w.heap.size w w' := by
  obtain ⟨z2, B2, g0, g1, g2⟩ := three_logs (w := w) (c0 := .slice sa sn sc) (c1 := .slice va sn vc) (d0 := .slice none 0 0) (d1 := .slice none 0 0) (p0 := .int .i64 0) (p1 := .int .i64 0) (p2 := .int .i64 0) (p3 := .int .u32 0) rfl rfl rfl
  obtain ⟨_, B3, _, f1, f2⟩ := three_logs (w := w) (c0 := .slice sa sn sc) (c1 := .slice va sn vc) (d0 := .slice sa sn sc) (d1 := .slice va sn vc) (p0 := .int .i64 0) (p1 := .int .i64 0) (p2 := .int .i64 0) (p3 := .int .u32 0) rfl rfl rfl
  obtain ⟨k0, k1, _, _⟩ := log_cells g0
  obtain ⟨r0, r1, r2, r3⟩ := log_cells g1
  obtain ⟨x0, x1, _, _⟩ := log_cells f1
  obtain ⟨p0, p1, p2, p3, pf⟩ := pbox_cells (q := Po.zero) g2
  obtain ⟨y0, y1, y2, y3, _⟩ := pbox_cells (q := Po.zero) f2
  have pf0 := pf 0; have pf1 := pf 1; have pf2 := pf 2; have pf3 := pf 3
  simp only [Po.zero] at p0 p1 p2 p3 y0 y1 y2 y3
  clear g0 g1 g2 f1 f2 pf z2 B2
  have i1 : ¬ ((sn : Int) = 0) := by omega
  have i2 : ((sn : Int) == 0) = false := by simp; omega
  have i3 : decide ((4096 : Int) < (h.n : Int)) = true := by simp; omega
  have i4 : (4096 : Int) < (h.n : Int) := by omega
  go_enter Tryz.func28, Tryz.ntmps28
  go_wp2
  exact bodyPost_ret (v := .tuple #[.agg #[.slice sa sn sc, .slice va sn vc], pv Po.zero, .int .i64 6]) (by simp [results, Tryz.results28, go_sem, x0, x1, y0, y1, y2, y3, pv, Po.zero]) rfl ⟨rfl, B3⟩
end
end Go.Proofs.YtnoknmnbfkdccaaGreatDoor
