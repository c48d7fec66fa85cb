/- What slices.DeleteFunc over shares does, with isEmpty. -/
import Derived.Test.YtfeaablomceejaaTB7
namespace Go.Proofs.Ytfeaablomceejaa
open Go.RowKit

set_option maxRecDepth 100000 in
set_option maxHeartbeats 4000000 in
theorem tdelete_any (a : Option Addr) (n c B : Nat) (l : List Ta.S) (w : World) (hn : n ≤ 1000000) (hown : w.ownsRow B 47 2 (.slice a n c) n (tcells se l)) (hB : B ≤ w.heap.size) :
    Calls Try.prog 28 #[.slice a n c, temptyv] w fun e w' => ∃ a' c', e = .returned (.slice a' (Ta.keep l).length c') ∧ w'.ownsRow B 47 2 (.slice a' (Ta.keep l).length c') (Ta.keep l).length (tcells se (Ta.keep l)) ∧ Below B w w' := by
  have hl : l.length = n := by have := hown.1; rw [tcells_length seE] at this; omega
  have hll : Hid (l.length = n) := hl
  have hix := tindex_any a n c l w hn (trow_of_owns seE hown (by omega) (by omega))
  obtain ⟨K, hK⟩ : ∃ K, K = Ta.keep l := ⟨_, rfl⟩
  rw [← hK]
  have HK : Hid (K = Ta.keep l) := hK
  have hne1 : ∀ k : Nat, (((k : Nat) : Int) == -1) = false := fun k => beq_eq_false_iff_ne.2 (by omega)
  clear hK hl
  go_enter Try.func28, Try.ntmps28
  go_wp2_with (go_at_call 35; go_must (refine hix.mono ?_; rintro e w1 ⟨r, rfl, hf, hb1⟩; have hown1 := own_kept hown hb1; have hbB := (Below.refl B w).trans (hb1.mono hB); clear hix hown hb1; rcases hf with ⟨rfl, hall⟩ | ⟨k0, rfl, hk0, hz, hbef⟩))
  · go_ret
    have e1 : K = l := by rw [HK.out, Ta.keep_all hall]
    subst e1
    obtain rfl := hll.out
    exact ⟨a, c, rfl, hown1, hbB⟩
  · have hd := Ta.del_start (l := l) (by rw [hll.out]; exact hk0) hz hbef
    have HD : Hid (Ta.Del l k0 (k0 + 1) l) := hd
    obtain ⟨g, rfl⟩ := town_blk hown1 (by omega)
    have hgb := own_lt hown1
    have hnc : n ≤ c := by
      obtain ⟨_, _, e, _, h⟩ := t_shape hown1
      simp only [Value.slice.injEq] at e
      omega
    clear hd hz hbef hne1
    go_wp2
    go_loopw [5, 6, 7] (fun u v _ wr => ∃ (i j : Nat) (cur : List Ta.S), u = .int .i64 i ∧ v = .int .i64 j ∧ i < j ∧ j ≤ n ∧ Hid (Ta.Del l i j cur) ∧ wr.ownsRow B 47 2 (.slice (some ⟨g, 0, none⟩) n c) n (tcells se cur) ∧ Below B w wr ∧ B ≤ wr.heap.size) (fun _ v _ _ => n - (intOf v).toNat)
    case atStart => exact ⟨k0, k0 + 1, l, rfl, by go_num, by omega, by omega, HD, hown1, hbB, Nat.le_trans hB hbB.size⟩
    case round =>
      obtain ⟨i, j, cur, rfl, rfl, hij, hjn, D, hown, hbel, hBw⟩ := hrel
      clear hown1 hbB HD
      by_cases hlt : j < n
      · have hjl : j < l.length := by rw [hll.out]; exact hlt
        have hcl : cur.length = n := by rw [D.out.len]; exact hll.out
        obtain ⟨t0, t1⟩ := tcells_at2 (l := cur) (j := j) (by omega)
        obtain ⟨y0, z0⟩ := own_cells hown t0
        obtain ⟨y1, z1⟩ := own_cells hown t1
        rw [Ta.del_at D.out] at y0 y1
        have Hs : Hid ((l.getD j (0, 0)).2 = 0 → Ta.Del l i (j + 1) cur) := (fun h => Ta.del_skip D.out hjl h : (l.getD j (0, 0)).2 = 0 → Ta.Del l i (j + 1) cur)
        have Hk : Hid ((l.getD j (0, 0)).2 ≠ 0 → Ta.Del l (i + 1) (j + 1) (cur.set i (l.getD j (0, 0)))) := (fun h => Ta.del_keep D.out hjl h : (l.getD j (0, 0)).2 ≠ 0 → Ta.Del l (i + 1) (j + 1) (cur.set i (l.getD j (0, 0))))
        have hem := fun r hr W => temptyB (l.getD j (0, 0)) r hr W
        have HC : Hid (i < cur.length) := (by omega : i < cur.length)
        generalize l.getD j (0, 0) = x at *
        obtain ⟨x1, x2⟩ := x
        simp only [sv] at y0 y1 hem Hs Hk
        have i0 : (0 : Int) ≤ (j : Int) := by omega
        have i1 : (j : Int) < (n : Int) := by omega
        have i2 : (0 : Int) ≤ (i : Int) := by omega
        have i3 : (i : Int) < (n : Int) := by omega
        have hb2 := hbel.alloc hBw (.cells #[.int .i64 x1, .int .i64 x2] 47)
        have hown2 := hown.alloc (.cells #[.int .i64 x1, .int .i64 x2] 47)
        have s0 := cell_new wr #[.int .i64 x1, .int .i64 x2] 47 0
        have s1 := cell_new wr #[.int .i64 x1, .int .i64 x2] 47 1
        have HW : Hid (∀ W, Below (wr.alloc (.cells #[.int .i64 x1, .int .i64 x2] 47)).heap.size (wr.alloc (.cells #[.int .i64 x1, .int .i64 x2] 47)) W → W.cell? ⟨wr.heap.size, 0, none⟩ = some (.int .i64 x1) ∧ W.cell? ⟨wr.heap.size, 1, none⟩ = some (.int .i64 x2)) := (fun W hW => ⟨(hW.cell (p := ⟨wr.heap.size, 0, none⟩) (by simp)).trans s0, (hW.cell (p := ⟨wr.heap.size, 1, none⟩) (by simp)).trans s1⟩ : ∀ W, Below (wr.alloc (.cells #[.int .i64 x1, .int .i64 x2] 47)).heap.size (wr.alloc (.cells #[.int .i64 x1, .int .i64 x2] 47)) W → W.cell? ⟨wr.heap.size, 0, none⟩ = some (.int .i64 x1) ∧ W.cell? ⟨wr.heap.size, 1, none⟩ = some (.int .i64 x2))
        have HI : Hid (∀ W : World, W.ownsRow B 47 2 (.slice (some ⟨g, 0, none⟩) n c) n (tcells se cur) → ∃ u v, (W.cell? ⟨g, i * 2, none⟩ = some u ∧ W.frozen? ⟨g, i * 2, none⟩ = false) ∧ (W.cell? ⟨g, i * 2 + 1, none⟩ = some v ∧ W.frozen? ⟨g, i * 2 + 1, none⟩ = false)) := (fun W hW => by
          obtain ⟨q0, q1⟩ := tcells_at2 (l := cur) (j := i) HC.out
          exact ⟨_, _, own_cells hW q0, own_cells hW q1⟩ : ∀ W : World, W.ownsRow B 47 2 (.slice (some ⟨g, 0, none⟩) n c) n (tcells se cur) → ∃ u v, (W.cell? ⟨g, i * 2, none⟩ = some u ∧ W.frozen? ⟨g, i * 2, none⟩ = false) ∧ (W.cell? ⟨g, i * 2 + 1, none⟩ = some v ∧ W.frozen? ⟨g, i * 2 + 1, none⟩ = false))
        clear t0 t1 hcl hjl D hown hbel
        by_cases hx2 : x2 = 0
        · have hem1 := fun W => hem true (by simp [hx2]) W
          have H2 : Hid (Ta.Del l i (j + 1) cur) := Hs.out hx2
          clear hem hx2 Hs Hk HI
          go_wp2_with (go_at_call 29; go_must (refine (hem1 _).mono ?_; rintro e w2 ⟨rfl, hb3⟩))
          go_roundw
          case rel => exact ⟨i, j + 1, cur, rfl, by go_num, by omega, by omega, H2, own_kept hown2 hb3, hb2.trans (hb3.mono (Nat.le_trans hB hb2.size)), Nat.le_trans hB (hb2.trans (hb3.mono (Nat.le_trans hB hb2.size))).size⟩
          case measure => simp [intOf]; omega
        · have hem1 := fun W => hem false (by simp [hx2]) W
          have H2 : Hid (Ta.Del l (i + 1) (j + 1) (cur.set i (x1, x2))) := Hk.out hx2
          clear hem hx2 Hs Hk
          go_wp2_with (go_at_call 29; go_must (refine (hem1 _).mono ?_; rintro e w2 ⟨rfl, hb3⟩; have hown3 := own_kept hown2 hb3; have hb4 := hb2.trans (hb3.mono (Nat.le_trans hB hb2.size)); obtain ⟨s2, s3⟩ := HW.out w2 hb3; obtain ⟨o0, o1, ⟨f0, f1⟩, ⟨f2, f3⟩⟩ := HI.out w2 hown3; clear hown2 hb2 s0 s1 y0 y1 z0 z1))
          have hst := own_store (own_store hown3 (i * 2) (.int .i64 x1)) (i * 2 + 1) (.int .i64 x2)
          rw [tcells_set_both x1 x2 cur i HC.out] at hst
          have hbs := (hb4.grown (turned_set w2 g (i * 2) (.int .i64 x1)) (Nat.le_trans hB hb4.size) (fun k hk => by cases hk; exact hgb.2)).grown (turned_set (w2.setCell ⟨g, i * 2, none⟩ (.int .i64 x1)) g (i * 2 + 1) (.int .i64 x2)) (Nat.le_trans hB (by simpa using hb4.size)) (fun k hk => by cases hk; exact hgb.2)
          go_roundw
          case rel => exact ⟨i + 1, j + 1, cur.set i (x1, x2), by go_num, by go_num, by omega, by omega, H2, hst, hbs, Nat.le_trans hB hbs.size⟩
          case measure => simp [intOf]; omega
      · obtain rfl : j = n := by omega
        have hcl : cur.length = j := by rw [D.out.len]; exact hll.out
        have hcells : ∀ t, t < j * 2 → (wr.cell? ⟨g, t, none⟩).isSome = true ∧ wr.frozen? ⟨g, t, none⟩ = false := fun t ht => by
          have h1 : t < (tcells se cur).length := by rw [tcells_length seE, hcl]; exact ht
          have h2 := own_cells hown (j := t) (v := (tcells se cur)[t]) (List.getElem?_eq_getElem h1)
          exact ⟨by rw [h2.1]; rfl, h2.2⟩
        have hclr : ∀ ty, (Builtin.clear_ #[22] ty #[.slice (some ⟨g, i * 2, none⟩) (j - i) (c - i)]).run Try.prog wr = .ok (.tuple #[]) (wr.setCells g (i * 2) (Builtin.zeroCells (Value.agg #[.int .i64 0, .int .i64 0]).cells (j - i)).toList) :=
          fun ty => run_clear2 wr ty g (i * 2) (j - i) (c - i) (by omega) (fun t ht => (hcells (i * 2 + t) (by omega)).1) (fun t ht => (hcells (i * 2 + t) (by omega)).2)
        have hfin := own_sets (Builtin.zeroCells (Value.agg #[.int .i64 0, .int .i64 0]).cells (j - i)).toList (i * 2) (Nat.le_refl _) (own_take hown (m := i) (by omega))
        have hbf := hbel.grown (turned_sets g (Builtin.zeroCells (Value.agg #[.int .i64 0, .int .i64 0]).cells (j - i)).toList (i * 2) wr) hBw (fun k hk => by cases hk; exact hgb.2)
        obtain ⟨d1, d2⟩ := Ta.del_end (l := l) (i := i) (cur := cur) (by rw [hll.out]; exact D.out)
        rw [tcells_take, d1] at hfin
        rw [← HK.out] at hfin d2
        generalize (Builtin.zeroCells (Value.agg #[.int .i64 0, .int .i64 0]).cells (j - i)).toList = Z at *
        have HF : Hid (World.ownsRow _ _ _ _ _ _ _) := hfin
        have HD2 : Hid (K.length = i) := d2
        clear hfin d1 d2 hcells hcl D
        go_wp2
        go_ret
        obtain rfl := HD2.out
        exact ⟨some ⟨g, 0, none⟩, c, rfl, HF.out, hbf⟩
end Go.Proofs.Ytfeaablomceejaa
