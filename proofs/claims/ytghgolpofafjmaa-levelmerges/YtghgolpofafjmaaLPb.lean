/- LevelPicks where something may be merged. -/
import Derived.Test.YtghgolpofafjmaaLPa
namespace Go.Proofs.Ytghgolpofafjmaa
open Go.RowKit
theorem ints_same (a1 : Option Addr) (l1 c1 : Nat) (a2 : Option Addr) (l2 c2 : Nat) (bs : List Nat) (w : World) (hr1 : Row .i64 w a1 l1 bs) (hr2 : Row .i64 w a2 l2 bs) :
    Calls Try.prog 14 #[.slice a1 l1 c1, .slice a2 l2 c2] w fun e w' => e = .returned (.bool true) ∧ ∃ n, w' = w.drewN n := by
  refine (ints_any a1 l1 c1 bs a2 l2 c2 bs w hr1 hr2).mono ?_
  rintro e w' ⟨rfl, h⟩
  exact ⟨by rw [decide_eq_true rfl], h⟩
/-- the program's job and the reference's are one -/
theorem pick_both (a : Option Addr) (n c : Nat) (l : List Lv.T) (base : Int) (w : World) (hr : LRow w a n l) (hnc : n ≤ c) (hnil : a = none → n = 0 ∧ c = 0) (hm : Lv.May l) (h1 : 1 ≤ base) (h2 : base ≤ 1048576) :
    ∃ (I : List Nat) (L : Int) (D B : Bool), B = decide (0 < L) ∧ I.length ≤ 1000 ∧ (∀ y ∈ I, y < lim .i64) ∧ (∀ V, Below w.heap.size w V → Calls Try.prog 18 #[.slice a n c, .int .i64 base] V (PRes V I L D B)) ∧ (∀ V, Below w.heap.size w V → Calls Try.prog 20 #[.slice a n c, .int .i64 base] V (JRes V I L D)) := by
  have hp := fun V (hV : Below w.heap.size w V) => lpick_any a n c l base V hnc (hr.below hV (Nat.le_refl _)) hnil hm h1 h2 _ rfl
  have hq := fun V (hV : Below w.heap.size w V) => rpick_any a n c l base V (hr.below hV (Nat.le_refl _)) hm h1 h2 _ rfl
  generalize Lv.pn (Lv.ord l) base = N at *
  by_cases h4 : N = 4
  · refine ⟨[], 0, false, false, rfl, by simp, by simp, fun V hV => (hp V hV).mono ?_, fun V hV => (hq V hV).mono ?_⟩
    · rintro e w' (⟨_, h⟩ | ⟨h, _⟩)
      · exact h
      · omega
    · rintro e w' (⟨_, h⟩ | ⟨h, _⟩)
      · exact h
      · omega
  · have hmo := hm.perm (Lv.ord_perm l)
    have hlD : (Lv.ord l).length ≤ 64 := hmo.len
    refine ⟨nm (Lv.inn (Lv.ord l) N), (N : Int) + 1, !Lv.hides (Lv.ord l) (Lv.inn (Lv.ord l) N) ((N : Int) + 1), true, (decide_eq_true (by omega)).symm, ?_, nm_small (fun x hx => hmo.one x (Lv.inn_sub hx)), fun V hV => (hp V hV).mono ?_, fun V hV => (hq V hV).mono ?_⟩
    · have e1 : (Lv.fr (Lv.ord l) N).length ≤ 64 := by
        unfold Lv.fr
        split
        · exact Nat.le_trans (lv_len _ _) hlD
        · exact Nat.le_trans (List.length_take_le ..) (by omega)
      have e2 := Nat.le_trans (filter_len (Lv.lv (Lv.ord l) ((N : Int) + 1)) (fun x => Lv.meet x (Lv.span (Lv.fr (Lv.ord l) N)))) (lv_len _ _)
      have e3 : (nm (Lv.inn (Lv.ord l) N)).length = (Lv.fr (Lv.ord l) N).length + ((Lv.lv (Lv.ord l) ((N : Int) + 1)).filter (fun x => Lv.meet x (Lv.span (Lv.fr (Lv.ord l) N)))).length := by
        rw [nm, List.length_map, Lv.inn, List.length_append]
      omega
    · rintro e w' (⟨h, _⟩ | ⟨_, h⟩)
      · exact absurd h h4
      · exact h
    · rintro e w' (⟨h, _⟩ | ⟨_, h⟩)
      · exact absurd h h4
      · exact h
set_option maxRecDepth 100000 in
set_option maxHeartbeats 1000000 in
theorem levelpicks_zero (a : Option Addr) (c : Nat) (l : List Lv.T) (base : Int) (w : World) (hi : IsTabs w a 0 c l) (hL : lgt l = true) (hm : Lv.May l) (h1 : 1 ≤ base) (h2 : base ≤ 1048576) :
    Calls Try.prog 4 #[.slice a 0 c, .int .i64 base] w fun e w' => e = .returned (.bool true) ∧ Below w.heap.size w w' := by
  obtain ⟨hr, hnil, hnc, hn⟩ := hi
  have hli := light_level a 0 c l w hr hn
  have haw := awake_level
  rw [hL] at hli
  have h80 : 0 ≤ 80 := by have := lgt_len hL; rw [hr.1] at this; exact this
  have hmay := fun V (hV : Below w.heap.size w V) => rmay_any a 0 c l V (by omega) (hr.below hV (Nat.le_refl _))
  rw [(Lv.may_iff l).mpr hm] at hmay
  obtain ⟨I, PL, PD, PB, hPB, hIl, hIs, hpk, hrp⟩ := pick_both a 0 c l base w hr hnc hnil hm h1 h2
  have hal := fun V (_ : Below w.heap.size w V) => lall_nil a c V
  have d1 : decide (base < 1) = false := decide_eq_false (by omega)
  have d2 : decide (1048576 < base) = false := decide_eq_false (by omega)
  go_enter Try.func4, Try.ntmps4
  go_wp2_with (first | (go_at_call 6; go_must (refine hli.mono ?_; rintro e w2 ⟨rfl, rfl⟩)) | (go_at_call 18; go_must (refine (hpk _ (Below.refl _ _)).mono ?_; rintro e w3 ⟨g3, c3, rfl, hown3, hb3⟩; have hj3 := heap_alloc_new w3 (oj (.slice g3 I.length c3) PL PD); have hB3 := hb3.alloc hb3.size (oj (.slice g3 I.length c3) PL PD))) | (go_at_call 19; go_must (refine (hal _ hB3).mono ?_; rintro e w4 ⟨g4, c4, rfl, hown4, hb4⟩; have hj4 := blk_alloc (blk_kept hj3 hb4) (oj (.slice g4 0 c4) 0 false); have hk4 := heap_alloc_new w4 (oj (.slice g4 0 c4) 0 false); have hB4 := (hB3.trans (hb4.mono hB3.size)); have hB5 := hB4.alloc hB4.size (oj (.slice g4 0 c4) 0 false); obtain ⟨⟨j0, j1, j2⟩, k0, k1, k2⟩ := jobs_kept hj4 hk4 (Below.refl _ _))) | (go_at_call 12; go_must (refine (hmay _ hB5).mono ?_; rintro e w5 ⟨rfl, hb5⟩; have hB6 := hB5.trans (hb5.mono hB5.size))) | (go_at_call 20; go_must (refine (hrp _ hB6).mono ?_; rintro e w6 ⟨g6, c6, rfl, hown6, hb6⟩; have hz6 := heap_alloc_new w6 (oj (.slice g6 I.length c6) PL PD); have hQ6 := hb5.trans (hb6.mono hb5.size); have hQ7 := hQ6.alloc hQ6.size (oj (.slice g6 I.length c6) PL PD); obtain ⟨⟨q0, q1, q2⟩, r0, r1, r2⟩ := jobs_kept hj4 hk4 hQ7; obtain ⟨⟨z0, z1, z2⟩, _⟩ := blk3 hz6)) | (go_at_call 14; go_must (have hC3 := below_alloc w3 (oj (.slice g3 I.length c3) PL PD); have hC4 := hC3.trans (hb4.mono hC3.size); have hC5 := hC4.alloc hC4.size (oj (.slice g4 0 c4) 0 false); have hC6 := hC5.trans (hQ7.mono hC5.size); refine (ints_same g3 _ c3 g6 _ c6 I _ (IRow.row ((nrow hown3 hIl).below hC6 (Nat.le_refl _)) hIs) (IRow.row ((nrow hown6 hIl).below (below_alloc _ _) (Nat.le_refl _)) hIs)).mono ?_; rintro e w7 ⟨rfl, n7, rfl⟩; have hQ8 := hQ7.trans (below_drewN _ _ n7); obtain ⟨⟨s0, s1, s2⟩, t0, t1, t2⟩ := jobs_kept hj4 hk4 hQ8)) | (go_at_call 7; go_must (refine (haw _).mono ?_; rintro e w8 ⟨rfl, hb8⟩)))
  go_ret
  have hX := hB5.trans (hQ8.mono hB5.size)
  exact ⟨rfl, hX.trans (hb8.mono hX.size)⟩
set_option maxRecDepth 100000 in
set_option maxHeartbeats 1000000 in
theorem levelpicks_more (a : Option Addr) (n c : Nat) (l : List Lv.T) (base : Int) (w : World) (hi : IsTabs w a (n + 1) c l) (hL : lgt l = true) (hm : Lv.May l) (h1 : 1 ≤ base) (h2 : base ≤ 1048576) :
    Calls Try.prog 4 #[.slice a (n + 1) c, .int .i64 base] w fun e w' => e = .returned (.bool true) ∧ Below w.heap.size w w' := by
  obtain ⟨hr, hnil, hnc, hn⟩ := hi
  have hli := light_level a (n + 1) c l w hr hn
  have haw := awake_level
  rw [hL] at hli
  have h80 : n + 1 ≤ 80 := by have := lgt_len hL; rw [hr.1] at this; exact this
  have hmay := fun V (hV : Below w.heap.size w V) => rmay_any a (n + 1) c l V (by omega) (hr.below hV (Nat.le_refl _))
  rw [(Lv.may_iff l).mpr hm] at hmay
  obtain ⟨I, PL, PD, PB, hPB, hIl, hIs, hpk, hrp⟩ := pick_both a (n + 1) c l base w hr hnc hnil hm h1 h2
  have hal := fun V (hV : Below w.heap.size w V) => lall_yes a n c l V hnc (hr.below hV (Nat.le_refl _)) hm
  have hll : Hid (l.length = n + 1) := hr.1
  have hmo := hm.perm (Lv.ord_perm l)
  have hs1 := nm_small (fun x hx => hmo.one x hx)
  have lnL : (Lv.ord l).length ≤ 1000 := by have := hmo.len; omega
  have lnD : (nm (Lv.ord l)).length ≤ 1000 := by rw [nm, List.length_map]; exact lnL
  have hro := fun V (hV : Below w.heap.size w V) => rord_any a (n + 1) c l V (by omega) (hr.below hV (Nat.le_refl _))
  rw [Lv.iord_ord hm] at hro
  have hn1 := fun A C V r => rnums_any A (Lv.ord l).length C (Lv.ord l) V (by omega) r (fun x hx => by have := (hmo.one x hx).n1; omega)
  have HZ : Hid (Lv.deepGo 1 l = Lv.deepGo 1 (l.drop 0)) := (rfl : Lv.deepGo 1 l = Lv.deepGo 1 (l.drop 0))
  clear hmo
  generalize Lv.deepGo 1 l = Z at *
  generalize nm (Lv.ord l) = ND at *
  generalize Lv.ord l = DD at *
  have d1 : decide (base < 1) = false := decide_eq_false (by omega)
  have d2 : decide (1048576 < base) = false := decide_eq_false (by omega)
  go_enter Try.func4, Try.ntmps4
  go_wp2_with (first | (go_at_call 6; go_must (refine hli.mono ?_; rintro e w2 ⟨rfl, rfl⟩)) | (go_at_call 18; go_must (refine (hpk _ (Below.refl _ _)).mono ?_; rintro e w3 ⟨g3, c3, rfl, hown3, hb3⟩; have hj3 := heap_alloc_new w3 (oj (.slice g3 I.length c3) PL PD); have hB3 := hb3.alloc hb3.size (oj (.slice g3 I.length c3) PL PD))) | (go_at_call 19; go_must (refine (hal _ hB3).mono ?_; rintro e w4 ⟨g4, c4, rfl, hown4, hb4⟩; have hj4 := blk_alloc (blk_kept hj3 hb4) (oj (.slice g4 ND.length c4) Z true); have hk4 := heap_alloc_new w4 (oj (.slice g4 ND.length c4) Z true); have hB4 := (hB3.trans (hb4.mono hB3.size)); have hB5 := hB4.alloc hB4.size (oj (.slice g4 ND.length c4) Z true); obtain ⟨⟨j0, j1, j2⟩, k0, k1, k2⟩ := jobs_kept hj4 hk4 (Below.refl _ _))) | (go_at_call 12; go_must (refine (hmay _ hB5).mono ?_; rintro e w5 ⟨rfl, hb5⟩; have hB6 := hB5.trans (hb5.mono hB5.size))) | (go_at_call 20; go_must (refine (hrp _ hB6).mono ?_; rintro e w6 ⟨g6, c6, rfl, hown6, hb6⟩; have hz6 := heap_alloc_new w6 (oj (.slice g6 I.length c6) PL PD); have hQ6 := hb5.trans (hb6.mono hb5.size); have hQ7 := hQ6.alloc hQ6.size (oj (.slice g6 I.length c6) PL PD); obtain ⟨⟨q0, q1, q2⟩, r0, r1, r2⟩ := jobs_kept hj4 hk4 hQ7; obtain ⟨⟨z0, z1, z2⟩, _⟩ := blk3 hz6)) | (go_at_call 14; go_must (have hC3 := below_alloc w3 (oj (.slice g3 I.length c3) PL PD); have hC4 := hC3.trans (hb4.mono hC3.size); have hC5 := hC4.alloc hC4.size (oj (.slice g4 ND.length c4) Z true); have hC6 := hC5.trans (hQ7.mono hC5.size); refine (ints_same g3 _ c3 g6 _ c6 I _ (IRow.row ((nrow hown3 hIl).below hC6 (Nat.le_refl _)) hIs) (IRow.row ((nrow hown6 hIl).below (below_alloc _ _) (Nat.le_refl _)) hIs)).mono ?_; rintro e w7 ⟨rfl, n7, rfl⟩; have hQ8 := hQ7.trans (below_drewN _ _ n7); obtain ⟨⟨s0, s1, s2⟩, t0, t1, t2⟩ := jobs_kept hj4 hk4 hQ8)))
  have hB8 : Below w2.heap.size w2 ((w6.alloc (oj (.slice g6 I.length c6) PL PD)).drewN n7) := hB5.trans (hQ8.mono hB5.size)
  have hN4 : ∀ V, Below w4.heap.size w4 V → IRow V g4 ND.length ND := fun V hV => (nrow hown4 lnD).below hV (Nat.le_refl _)
  have hk4b := below_alloc w4 (oj (.slice g4 ND.length c4) Z true)
  clear hown3 hown6 hb5 hb6 hQ6 hQ7 hB6 hz6 q0 q1 q2 r0 r1 r2 z0 z1 z2 j0 j1 j2 k0 k1 k2 hpk hrp hmay hal hj3
  generalize (w6.alloc (oj (.slice g6 I.length c6) PL PD)).drewN n7 = W7 at *
  go_loop [10, 11] (fun v i => ∃ (k : Nat) (d : Int), k ≤ n + 1 ∧ i = .int .i64 k ∧ v = .int .i64 d ∧ Hid (Z = Lv.deepGo d (l.drop k))) (fun _ i => n + 1 - (intOf i).toNat)
  case atStart => exact ⟨0, 1, by omega, rfl, rfl, HZ⟩
  case round =>
    obtain ⟨k, d, hk, rfl, rfl, H⟩ := hrel
    clear HZ
    by_cases hlt : k < n + 1
    · obtain ⟨b, off, x1, x2, x3, x4, x5, rfl, hx, q0, q1, q2, q3, q4⟩ := lget hr hB8 hlt
      have hk' : k < l.length := by rw [hll.out]; exact hlt
      have i0 : (0 : Int) ≤ (k : Int) := by omega
      have i1 : (k : Int) < (n : Int) + 1 := by omega
      have HS : Hid (Lv.deepGo d (l.drop k) = Lv.deepGo (if d < x2 then x2 else d) (l.drop (k + 1))) := (by rw [ldrop hk', hx.out]; rfl : Lv.deepGo d (l.drop k) = _)
      by_cases hd : d < x2
      · have dd : decide (d < x2) = true := decide_eq_true hd
        have H2 : Hid (Z = Lv.deepGo x2 (l.drop (k + 1))) := (by rw [H.out, HS.out, if_pos hd] : Z = Lv.deepGo x2 (l.drop (k + 1)))
        clear H HS hx
        go_wp2
        go_round
        case rel => exact ⟨k + 1, x2, by omega, by go_num, rfl, H2⟩
        case measure => simp [intOf]; omega
      · have dd : decide (d < x2) = false := decide_eq_false hd
        have H2 : Hid (Z = Lv.deepGo d (l.drop (k + 1))) := (by rw [H.out, HS.out, if_neg hd] : Z = Lv.deepGo d (l.drop (k + 1)))
        clear H HS hx
        go_wp2
        go_round
        case rel => exact ⟨k + 1, d, by omega, by go_num, rfl, H2⟩
        case measure => simp [intOf]; omega
    · obtain rfl : k = n + 1 := by omega
      obtain rfl : Z = d := by rw [H.out, List.drop_of_length_le (by rw [hll.out]; omega)]; rfl
      clear H
      have hkeep : Hid (∀ V, Below W7.heap.size W7 V → V.cell? ⟨w4.heap.size, 0, none⟩ = some (.slice g4 ND.length c4) ∧ V.cell? ⟨w4.heap.size, 1, none⟩ = some (.int .i64 Z) ∧ V.cell? ⟨w4.heap.size, 2, none⟩ = some (.bool true)) := (fun V hV => (jobs_kept hj4 hk4 (hQ8.trans (hV.mono hQ8.size))).2 : ∀ V, Below W7.heap.size W7 V → V.cell? ⟨w4.heap.size, 0, none⟩ = some (.slice g4 ND.length c4) ∧ V.cell? ⟨w4.heap.size, 1, none⟩ = some (.int .i64 Z) ∧ V.cell? ⟨w4.heap.size, 2, none⟩ = some (.bool true))
      have hN7 : Hid (∀ V, Below W7.heap.size W7 V → IRow V g4 ND.length ND) := (fun V hV => hN4 V (by have h5 := hk4b.trans (hQ8.mono hk4b.size); exact h5.trans (hV.mono h5.size)) : ∀ V, Below W7.heap.size W7 V → IRow V g4 ND.length ND)
      clear hN4 hj4 hk4 hQ8
      go_wp2_with fail
      go_region_held3 (fun w' => w'.cell? ⟨w4.heap.size, 0, none⟩ = some (.slice g4 (ND).length c4) ∧ w'.cell? ⟨w4.heap.size, 1, none⟩ = some (.int .i64 Z) ∧ w'.cell? ⟨w4.heap.size, 2, none⟩ = some (.bool true)) (first | go_keep | (refine ⟨?_, ?_, ?_⟩ <;> assumption))
        (first
          | ((go_at_call 16; go_must (refine (hro _ (by first | exact hB8 | exact hB8.drew)).mono ?_; rintro e w8 ⟨A8, C8, rfl, hown8, hb8'⟩; have hb8 : Below W7.heap.size W7 w8 := (by first | exact hb8' | exact below_of_drew hb8'); obtain ⟨u0, u1, u2⟩ := hkeep.out w8 hb8)))
          | ((go_at_call 15; go_must (refine (hn1 _ _ _ (by first | exact lrowD hown8 lnL | exact (lrowD hown8 lnL).below ((Below.refl _ _).drew) (Nat.le_refl _))).mono ?_; rintro e w9 ⟨A9, C9, rfl, hown9, hb9'⟩; have hb9a : Below w8.heap.size w8 w9 := (by first | exact hb9' | exact below_of_drew hb9'); have hb9 := hb8.trans (hb9a.mono hb8.size); obtain ⟨v0, v1, v2⟩ := hkeep.out w9 hb9)))
          | ((go_at_call 14; go_must (refine (ints_same g4 _ c4 _ _ _ ND _ (IRow.row (by first | exact hN7.out _ hb9 | exact hN7.out _ hb9.drew) hs1) (IRow.row (by first | exact nrow hown9 lnD | exact (nrow hown9 lnD).below ((Below.refl _ _).drew) (Nat.le_refl _)) hs1)).mono ?_; rintro e w10 ⟨rfl, n10, he10⟩; have hb10 : Below W7.heap.size W7 w10 := (by rw [he10]; first | exact hb9.trans (below_drewN _ _ n10) | exact hb9.drew.trans (below_drewN _ _ n10)); clear he10; obtain ⟨x0, x1, x2⟩ := hkeep.out w10 hb10)))
          | ((go_at_call 7; go_must (refine (haw _).mono ?_; rintro e w11 ⟨rfl, hb11'⟩; have hb11a : Below w10.heap.size w10 w11 := (by first | exact hb11' | exact below_of_drew hb11'); have hb11 := hb10.trans (hb11a.mono hb10.size); obtain ⟨y0, y1, y2⟩ := hkeep.out w11 hb11))))
      go_wp2
      go_ret
      exact ⟨rfl, hB8.trans (hb11.mono hB8.size)⟩

theorem levelpicks_any (a : Option Addr) (n c : Nat) (l : List Lv.T) (base : Int) (w : World) (hi : IsTabs w a n c l) :
    Calls Try.prog 4 #[.slice a n c, .int .i64 base] w fun e w' => e = .returned (.bool true) ∧ Below w.heap.size w w' := by
  cases hL : lgt l with
  | false => exact levelpicks_far a n c l base w hi hL
  | true =>
    cases hm : Lv.may l with
    | false => exact levelpicks_no a n c l base w hi hL hm
    | true =>
      have hm := (Lv.may_iff l).mp hm
      by_cases h1 : base < 1
      · exact levelpicks_low a n c l base w hi hL hm h1
      · by_cases h2 : 1048576 < base
        · exact levelpicks_high a n c l base w hi hL hm h2
        · rcases Nat.eq_zero_or_pos n with rfl | hn
          · exact levelpicks_zero a c l base w hi hL hm (by omega) (by omega)
          · obtain ⟨m, rfl⟩ : ∃ m, n = m + 1 := ⟨n - 1, by omega⟩
            exact levelpicks_more a m c l base w hi hL hm (by omega) (by omega)
end Go.Proofs.Ytghgolpofafjmaa
