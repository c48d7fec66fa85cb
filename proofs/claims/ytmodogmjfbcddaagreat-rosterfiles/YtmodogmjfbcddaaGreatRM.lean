/- The program's do: an edit done to a roster. -/
import Derived.Test.YtmodogmjfbcddaaGreatRL
import Derived.Deep.RegionWith
namespace Go.Proofs.YtmodogmjfbcddaaGreat
open Go.RowKit

theorem grown_of_drew {W w1 : World} {row : Option Nat} (h : W.drew.grownBy w1 row) : W.grownBy w1 row := ⟨h.os, h.tape, h.output, h.size, h.block⟩
theorem own_drew {W : World} {B e s n : Nat} {v : Value} {xs : List Value} (h : W.ownsRow B e s v n xs) : W.drew.ownsRow B e s v n xs := h
theorem grow_nil (W : World) : Sort.grow W #[] = W := by simp [Sort.grow]

theorem rbs_any (a : Option Addr) (n c B : Nat) (l : List Int) (x : Int) (w : World) (hn : n ≤ 1000000) (hown : w.ownsRow B 3 1 (.slice a n c) n (tcells ze l)) (hp : l.Pairwise (· < ·)) :
    Calls Tryz.prog 92 #[.slice a n c, .int .i64 x] w fun e w' => e = .returned (.tuple #[.int .i64 ((l.countP (· < x) : Nat) : Int), .bool (decide (x ∈ l))]) ∧ Below w.heap.size w w' := by
  have hl : l.length = n := by have := hown.1; rw [tcells_length zeE] at this; omega
  cases n with
  | zero =>
    obtain rfl : l = [] := List.length_eq_zero_iff.mp hl
    refine (Tryz.slices_BinarySearch_int_empty a c x w).mono ?_
    rintro e w' ⟨rfl, rfl⟩
    exact ⟨rfl, Below.refl _ _⟩
  | succ n =>
    obtain ⟨g, rfl⟩ := town_blk hown (by omega)
    have hc : ∀ j, j < l.length → w.cell? ⟨g, 0 + j, none⟩ = some (.int .i64 (l.getD j 0)) := fun j hj => by
      have := tcells_get (d := (0 : Int)) zeE l j 0 hj (by omega)
      have h2 := (own_cells hown this).1
      rw [Nat.mul_one, Nat.add_zero] at h2
      rw [Nat.zero_add]; exact h2
    have ht : l.take (n + 1) = l := List.take_of_length_le (by omega)
    have hh := Tryz.slices_BinarySearch_int g 0 (n + 1) c l x w (by omega) (by omega) hc (by rw [ht]; exact Ro.lt_le hp)
    rw [ht] at hh
    refine hh.mono ?_
    rintro e w' ⟨rfl, q, rfl⟩
    exact ⟨by rw [List.contains_eq_mem], below_drewN _ _ _⟩
theorem rdelz_any (a : Option Addr) (n c B i j : Nat) (l : List Int) (w : World) (hn : n ≤ 1000000) (hown : w.ownsRow B 3 1 (.slice a n c) n (tcells ze l)) (hi : i < n) (hj : j = i + 1) :
    Calls Tryz.prog 93 #[.slice a n c, .int .i64 i, .int .i64 j] w fun e w' => e = .returned (.slice a (n - 1) c) ∧ w'.ownsRow B 3 1 (.slice a (n - 1) c) (n - 1) (tcells ze (l.take i ++ l.drop (i + 1))) ∧ w.grownBy w' (Value.slice a n c).ownBlock := by
  have hl : l.length = n := by have := hown.1; rw [tcells_length zeE] at this; omega
  rcases hown.2 with ⟨e, h0⟩ | ⟨g, cap, cur, e, hBg, hg, h1, h2, h3, h4⟩
  · omega
  · simp only [Value.slice.injEq] at e
    obtain ⟨rfl, _, rfl⟩ := e
    subst hl hj
    rw [← encz_cells, Nat.mul_one] at h4
    refine (Tryz.slices_Delete_int g 0 c i (i + 1) l w (holds_of_block_i hg h4) h1 (by unfold maxLen at h2; omega) (by omega) (by omega)).mono ?_
    rintro e w' ⟨rfl, q, rfl⟩
    have e1 : i + 1 - i = 1 := by omega
    rw [e1]
    have hs : (l.take i ++ l.drop (i + 1) ++ List.replicate 1 0).length = l.length := by simp; omega
    have ho := ownsRow_sorted_i (base := B) (n := q) (os := #[]) hs hBg hg h1 h2 h3
    rw [grow_nil] at ho
    have hgr := grownBy_sorted_i (w := w) (g := g) (n := q) (os := #[]) (l.take i ++ l.drop (i + 1) ++ List.replicate 1 0).toArray
    rw [grow_nil] at hgr
    have ht := own_take ho (m := l.length - 1) (by omega)
    have hm : ((l.take i ++ l.drop (i + 1) ++ List.replicate 1 0).map encZ).take ((l.length - 1) * 1) = tcells ze (l.take i ++ l.drop (i + 1)) := by
      rw [encz_cells, tcells_take_s zeE, List.take_append_of_le_length (by simp; omega), List.take_of_length_le (by simp; omega)]
    rw [hm] at ht
    exact ⟨rfl, ht, hgr⟩
theorem erase_at : ∀ {s : List Int} {x : Int}, s.Pairwise (· < ·) → x ∈ s → s.countP (· < x) < s.length ∧ s.take (s.countP (· < x)) ++ s.drop (s.countP (· < x) + 1) = s.erase x
  | [], _, _, h => by simp at h
  | y :: s, x, hp, h => by
    cases hp with
    | cons h1 h2 =>
      by_cases hxy : y = x
      · subst hxy
        have hz : s.countP (· < y) = 0 := List.countP_eq_zero.mpr (fun z hz => by have := h1 z hz; simp; omega)
        have hc : (y :: s).countP (· < y) = 0 := by rw [List.countP_cons_of_neg (by simp), hz]
        rw [hc]; simp
      · have hm : x ∈ s := by simpa [Ne.symm hxy] using h
        have hlt := h1 x hm
        obtain ⟨g1, g2⟩ := erase_at h2 hm
        have hc : (y :: s).countP (· < x) = s.countP (· < x) + 1 := List.countP_cons_of_pos (by simpa using hlt)
        rw [hc, List.take_succ_cons, List.drop_succ_cons, List.cons_append, g2, List.erase_cons_tail (by simpa using hxy)]
        exact ⟨by simp; omega, rfl⟩

set_option maxRecDepth 100000 in
set_option maxHeartbeats 2000000 in
theorem rdomove_any (B p : Nat) (s : List Int) (ms : List (Int × Int)) (ts : List Lv.T) (ks : List (Int × Int × Int)) (a1 : Option Addr) (n1 c1 : Nat) (a2 : Option Addr) (n2 c2 : Nat) (a3 : Option Addr) (n3 c3 : Nat) (a4 : Option Addr) (n4 c4 : Nat) (i1 i2 i3 i4 i5 i6 i7 : Int) (w : World) (h : RSt B p w ⟨s, ms, ts, ks, i1, i2, i3, i4, i5, i6, i7⟩ a1 n1 c1 a2 n2 c2 a3 n3 c3 a4 n4 c4) (hB : B ≤ w.heap.size) (hn1 : n1 ≤ 100000) (hn2 : n2 ≤ 100000) (hs : s.Pairwise (· < ·)) (hm : (ms.map (·.1)).Pairwise (· ≤ ·)) (x y : Int) :
    Calls Tryz.prog 58 #[.pointer (some ⟨p, 0, none⟩), .agg #[.int .i64 x, .int .i64 y]] w (DoRes B p w (decide (x ∈ s)) ⟨s.erase x, if y = 0 then ms else Ro.ins (·.1) (x, y) ms, ts, ks, i1, i2, i3, i4, i5, i6, i7⟩) := by
  obtain ⟨U, hU⟩ : ∃ U, U = w.alloc (.cells #[.int .i64 x, .int .i64 y] 53) := ⟨_, rfl⟩
  have hbU : Below w.heap.size w U := by rw [hU]; exact below_alloc _ _
  have hq : U.heap[w.heap.size]? = some (.cells #[.int .i64 x, .int .i64 y] 53 (0, 0)) := by rw [hU]; exact heap_alloc_new _ _
  have hS := h.below hbU
  have hpw : ¬ (p = w.heap.size) := by have := ob_ltB h.box; omega
  have HV : Hid (∀ W, Below U.heap.size U W → RSt B p W ⟨s, ms, ts, ks, i1, i2, i3, i4, i5, i6, i7⟩ a1 n1 c1 a2 n2 c2 a3 n3 c3 a4 n4 c4) := (fun W hb => hS.below hb : ∀ W, _ → _)
  have HM : Hid (∀ W, Below U.heap.size U W → W.heap[w.heap.size]? = some (.cells #[.int .i64 x, .int .i64 y] 53 (0, 0))) := (fun W hb => (hb.block _ (ob_ltB hq)).trans hq : ∀ W, _ → _)
  have x0 : U.cell? ⟨p, 0, none⟩ = some (.slice a1 n1 c1) := (blkc hS.box).1 0
  have y0 : U.cell? ⟨w.heap.size, 0, none⟩ = some (.int .i64 x) := (blkc hq).1 0
  have y1 := (blkc hq).1 1
  have hbs := fun W hb => rbs_any a1 n1 c1 B s x W (by omega) (HV.out W hb).own.o1 hs
  have HN : Hid (s.length = n1) := (h.own.len.1 : s.length = n1)
  have HU : Hid (Below w.heap.size w U) := hbU
  have hUe : w.alloc (.cells #[.int .i64 x, .int .i64 y] 53) = U := hU.symm
  have hBU : B ≤ U.heap.size := Nat.le_trans hB hbU.size
  have HE : Hid (x ∈ s → s.countP (· < x) < n1 ∧ s.take (s.countP (· < x)) ++ s.drop (s.countP (· < x) + 1) = s.erase x) := (fun hx => by rw [← HN.out]; exact erase_at hs hx : _ → _)
  generalize s.countP (· < x) = I at *
  clear hq hS hU hbU h hs
  by_cases hx : x ∈ s
  · obtain ⟨hI, hIe⟩ := HE.out hx
    have d : decide (x ∈ s) = true := by simpa using hx
    rw [d] at hbs ⊢
    have HIE : Hid (s.take I ++ s.drop (I + 1) = s.erase x) := hIe
    obtain ⟨J, hJ⟩ : ∃ J, J = I + 1 := ⟨_, rfl⟩
    have hj1 : IntKind.i64.wrap ((I : Int) + 1) = (J : Int) := by rw [IntKind.wrap_i64]; omega
    have hdl := fun W ho => rdelz_any a1 n1 c1 B I J s W (by omega) ho hI hJ
    clear hIe hx HE d hJ
    by_cases hy : y = 0
    · subst hy
      rw [if_pos rfl]
      go_enter Tryz.func58, Tryz.ntmps58
      go_wp2_with fail
      clear hUe
      go_region_held3 (fun W => W.cell? ⟨p, 0, none⟩ = some (.slice a1 n1 c1) ∧ W.cell? ⟨w.heap.size, 0, none⟩ = some (.int .i64 x)) (first | go_keep | (refine ⟨?_, ?_⟩ <;> assumption))
        ((go_at_call 92; go_must (refine (hbs _ (Below.refl _ _).drew).mono ?_; rintro e w1 ⟨rfl, b1⟩; have hb1 := below_of_drew b1; have hS1 := HV.out w1 hb1; have z0 : w1.cell? ⟨p, 0, none⟩ = some (.slice a1 n1 c1) := (blkc hS1.box).1 0; have zz0 : w1.cell? ⟨w.heap.size, 0, none⟩ = some (.int .i64 x) := (blkc (HM.out w1 hb1)).1 0)))
      all_goals
        go_wp2_with (go_at_call 93; go_must (refine (hdl _ hS1.own.o1).mono ?_; rintro e w3 ⟨rfl, hown3, hg3⟩; obtain ⟨bx3, st3, kp3, be3⟩ := hS1.turn1 (Nat.le_trans hBU hb1.size) hg3 hown3; have u0 := (blkc bx3).1 0; have uf := (blkc bx3).2 0; have hm3 := (hg3.block _ (ob_ltB (HM.out w1 hb1)) (obr_apart (HM.out w1 hb1) hS1.own.o1 (by decide))).trans (HM.out w1 hb1); have m1 := (blkc hm3).1 1; have ST3 : Hid (RSt B p _ _ a1 (n1 - 1) c1 a2 n2 c2 a3 n3 c3 a4 n4 c4) := st3; clear st3 bx3 hm3))
        go_ret
        rw [HIE.out] at ST3
        exact ⟨rfl, fun _ => ⟨a1, n1 - 1, c1, a2, n2, c2, a3, n3, c3, a4, n4, c4, ST3.out⟩, ((belowB HU.out hB).trans (belowB hb1 hBU)).trans be3, ((RKeep.below HU.out).trans (RKeep.below hb1)).trans kp3⟩
    · rw [if_neg hy]
      have hyb : (y == 0) = false := by simpa using hy
      have ham := fun W ho hW => ramong_m (·.1) 60 (by intro args w; rfl) (fun x y W => rmseg_any x y W) x y a2 n2 c2 B ms W (by omega) ho hW hm
      unfold InsResG at ham
      generalize Ro.ins (·.1) (x, y) ms = L at *
      clear hy hm
      go_enter Tryz.func58, Tryz.ntmps58
      go_wp2_with fail
      clear hUe
      go_region_held3 (fun W => W.cell? ⟨p, 0, none⟩ = some (.slice a1 n1 c1) ∧ W.cell? ⟨w.heap.size, 0, none⟩ = some (.int .i64 x)) (first | go_keep | (refine ⟨?_, ?_⟩ <;> assumption))
        ((go_at_call 92; go_must (refine (hbs _ (Below.refl _ _).drew).mono ?_; rintro e w1 ⟨rfl, b1⟩; have hb1 := below_of_drew b1; have hS1 := HV.out w1 hb1; have z0 : w1.cell? ⟨p, 0, none⟩ = some (.slice a1 n1 c1) := (blkc hS1.box).1 0; have zz0 : w1.cell? ⟨w.heap.size, 0, none⟩ = some (.int .i64 x) := (blkc (HM.out w1 hb1)).1 0)))
      all_goals
        go_wp2_with (go_at_call 93; go_must (refine (hdl _ hS1.own.o1).mono ?_; rintro e w3 ⟨rfl, hown3, hg3⟩; obtain ⟨bx3, st3, kp3, be3⟩ := hS1.turn1 (Nat.le_trans hBU hb1.size) hg3 hown3; have u0 := (blkc bx3).1 0; have uf := (blkc bx3).2 0; have u1 := (blkc bx3).1 1; have hm3 := (hg3.block _ (ob_ltB (HM.out w1 hb1)) (obr_apart (HM.out w1 hb1) hS1.own.o1 (by decide))).trans (HM.out w1 hb1); have m1 := (blkc hm3).1 1; have m0 := (blkc hm3).1 0; have ST3 : Hid (RSt B p _ _ a1 (n1 - 1) c1 a2 n2 c2 a3 n3 c3 a4 n4 c4) := st3; clear st3 bx3 hm3))
        have hB3 : B ≤ (w3.setCell ⟨p, 0, none⟩ (.slice a1 (n1 - 1) c1)).heap.size := Nat.le_trans hB (((belowB HU.out hB).trans (belowB hb1 hBU)).trans be3).size
        have hb33 := ((belowB HU.out hB).trans (belowB hb1 hBU)).trans be3
        have hk33 := ((RKeep.below (p := p) HU.out).trans (RKeep.below hb1)).trans kp3
        have v1 := (blkc ST3.out.box).1 1
        have v0 : (w3.setCell ⟨p, 0, none⟩ (.slice a1 (n1 - 1) c1)).cell? ⟨w.heap.size, 0, none⟩ = some (.int .i64 x) := (World.cell?_setCell_other _ _ _ _ (fun e => hpw (Addr.mk.inj e).1)).trans m0
        have v2 : (w3.setCell ⟨p, 0, none⟩ (.slice a1 (n1 - 1) c1)).cell? ⟨w.heap.size, 1, none⟩ = some (.int .i64 y) := (World.cell?_setCell_other _ _ _ _ (fun e => hpw (Addr.mk.inj e).1)).trans m1
        clear u0 uf u1 m0 m1 z0 hown3 hg3 kp3 be3
        generalize w3.setCell ⟨p, 0, none⟩ (.slice a1 (n1 - 1) c1) = V at *
        go_region_with
          ((go_at_call 94; go_must (refine (ham _ (own_drew ST3.out.own.o2) hB3).mono ?_; rintro e w5 ⟨a', c', rfl, hown5, hg5⟩; obtain ⟨bx5, st5, kp5, be5⟩ := ST3.out.turn2 hB3 (grown_of_drew hg5) hown5; have u1 := (blkc bx5).1 1; have uf := (blkc bx5).2 1; have ST5 : Hid (RSt B p _ _ a1 (n1 - 1) c1 a' L.length c' a3 n3 c3 a4 n4 c4) := st5; clear st5 bx5)))
        all_goals
          go_wp2
          go_ret
          rw [HIE.out] at ST5
          exact ⟨rfl, fun _ => ⟨a1, n1 - 1, c1, a', L.length, c', a3, n3, c3, a4, n4, c4, ST5.out⟩, hb33.trans be5, hk33.trans kp5⟩
  · have d : decide (x ∈ s) = false := by simpa using hx
    rw [d] at hbs ⊢
    generalize (if y = 0 then ms else Ro.ins (·.1) (x, y) ms) = MM at *
    clear hx HE d
    go_enter Tryz.func58, Tryz.ntmps58
    go_wp2_with fail
    clear hUe
    go_region_held3 (fun W => W.cell? ⟨p, 0, none⟩ = some (.slice a1 n1 c1) ∧ W.cell? ⟨w.heap.size, 0, none⟩ = some (.int .i64 x)) (first | go_keep | (refine ⟨?_, ?_⟩ <;> assumption))
      ((go_at_call 92; go_must (refine (hbs _ (Below.refl _ _).drew).mono ?_; rintro e w1 ⟨rfl, b1⟩; have hb1 := below_of_drew b1; have hS1 := HV.out w1 hb1; have z0 : w1.cell? ⟨p, 0, none⟩ = some (.slice a1 n1 c1) := (blkc hS1.box).1 0; have zz0 : w1.cell? ⟨w.heap.size, 0, none⟩ = some (.int .i64 x) := (blkc (HM.out w1 hb1)).1 0)))
    all_goals
      go_wp2
      go_ret
      exact ⟨rfl, fun h => (by cases h), (belowB HU.out hB).trans (belowB hb1 hBU), (RKeep.below HU.out).trans (RKeep.below hb1)⟩
end Go.Proofs.YtmodogmjfbcddaaGreat
