/- LevelPicks: what the statement does at any input. -/
import Derived.Test.YtghgolpofafjmaaLZ
import Derived.Test.YtghgolpofafjmaaLW
namespace Go.Proofs.Ytghgolpofafjmaa
open Go.RowKit
set_option maxRecDepth 100000 in
set_option maxHeartbeats 400000 in
theorem levelpicks_far (a : Option Addr) (n c : Nat) (l : List Lv.T) (base : Int) (w : World) (hi : IsTabs w a n c l) (hL : lgt l = false) :
    Calls Try.prog 4 #[.slice a n c, .int .i64 base] w fun e w' => e = .returned (.bool true) ∧ Below w.heap.size w w' := by
  obtain ⟨hr, hnil, hnc, hn⟩ := hi
  have hli := light_level a n c l w hr hn
  have haw := awake_level
  rw [hL] at hli
  go_enter Try.func4, Try.ntmps4
  go_wp2_with (first | (go_at_call 6; go_must (refine hli.mono ?_; rintro e w2 ⟨rfl, rfl⟩)) | (go_at_call 7; go_must (refine (haw _).mono ?_; rintro e w3 ⟨rfl, hb3⟩)))
  go_ret
  exact ⟨rfl, hb3⟩
/-- two jobs that lie in memory -/
theorem jobs_kept {W0 V : World} {g h : Nat} {v u : Value} {n m : Int} {b d : Bool} (hg : W0.heap[g]? = some (oj v n b)) (hh : W0.heap[h]? = some (oj u m d)) (hb : Below W0.heap.size W0 V) :
    (V.cell? ⟨g, 0, none⟩ = some v ∧ V.cell? ⟨g, 1, none⟩ = some (.int .i64 n) ∧ V.cell? ⟨g, 2, none⟩ = some (.bool b)) ∧ V.cell? ⟨h, 0, none⟩ = some u ∧ V.cell? ⟨h, 1, none⟩ = some (.int .i64 m) ∧ V.cell? ⟨h, 2, none⟩ = some (.bool d) :=
  ⟨(blk3 (blk_kept hg hb)).1, (blk3 (blk_kept hh hb)).1⟩
set_option maxRecDepth 100000 in
set_option maxHeartbeats 1000000 in
theorem levelpicks_no (a : Option Addr) (n c : Nat) (l : List Lv.T) (base : Int) (w : World) (hi : IsTabs w a n c l) (hL : lgt l = true) (hm : Lv.may l = false) :
    Calls Try.prog 4 #[.slice a n c, .int .i64 base] w fun e w' => e = .returned (.bool true) ∧ Below w.heap.size w w' := by
  obtain ⟨hr, hnil, hnc, hn⟩ := hi
  have hli := light_level a n c l w hr hn
  have haw := awake_level
  rw [hL] at hli
  have h80 : n ≤ 80 := by have := lgt_len hL; rw [hr.1] at this; exact this
  have hmay := fun V (hV : Below w.heap.size w V) => rmay_any a n c l V (by omega) (hr.below hV (Nat.le_refl _))
  rw [hm] at hmay
  have hpk := fun V (hV : Below w.heap.size w V) => lpick_no a n c l base V hnc (hr.below hV (Nat.le_refl _)) hm
  have hal := fun V (hV : Below w.heap.size w V) => lall_no a n c l V hnc (hr.below hV (Nat.le_refl _)) hm
  have tok : Hid (0 = 0) := (rfl : 0 = 0)
  go_enter Try.func4, Try.ntmps4
  go_wp2_with (first | (go_at_call 6; go_must (refine hli.mono ?_; rintro e w2 ⟨rfl, rfl⟩)) | (go_at_call 18; go_must (refine (hpk _ (Below.refl _ _)).mono ?_; rintro e w3 ⟨g3, c3, rfl, hown3, hb3⟩; have hj3 := heap_alloc_new w3 (oj (.slice g3 0 c3) 0 false); have hB3 := hb3.alloc hb3.size (oj (.slice g3 0 c3) 0 false))) | (go_at_call 19; go_must (refine (hal _ hB3).mono ?_; rintro e w4 ⟨g4, c4, rfl, hown4, hb4⟩; have hj4 := blk_alloc (blk_kept hj3 hb4) (oj (.slice g4 0 c4) 0 false); have hk4 := heap_alloc_new w4 (oj (.slice g4 0 c4) 0 false); have hB4 := (hB3.trans (hb4.mono hB3.size)); have hB5 := hB4.alloc hB4.size (oj (.slice g4 0 c4) 0 false); obtain ⟨⟨j0, j1, j2⟩, k0, k1, k2⟩ := jobs_kept hj4 hk4 (Below.refl _ _))) | (go_at_call 12; first | (clear tok; go_must (refine (hmay _ hB5).mono ?_; rintro e w5 ⟨rfl, hb5⟩; obtain ⟨⟨q0, q1, q2⟩, r0, r1, r2⟩ := jobs_kept hj4 hk4 hb5; have hB6 := hB5.trans (hb5.mono hB5.size))) | go_must (refine (hmay _ hB6).mono ?_; rintro e w6 ⟨rfl, hb6⟩; have hB7 := hB6.trans (hb6.mono hB6.size))) | (go_at_call 7; go_must (refine (haw _).mono ?_; rintro e w7 ⟨rfl, hb7⟩)))
  go_ret
  exact ⟨rfl, hB7.trans (hb7.mono hB7.size)⟩
theorem lall_some (a : Option Addr) (n c : Nat) (l : List Lv.T) (w : World) (hr : LRow w a n l) (hnc : n ≤ c) (hm : Lv.May l) : ∃ I L D B, ∀ V, Below w.heap.size w V → Calls Try.prog 19 #[.slice a n c] V (PRes V I L D B) := by
  rcases Nat.eq_zero_or_pos n with rfl | h
  · exact ⟨[], 0, false, false, fun V _ => lall_nil a c V⟩
  · obtain ⟨m, rfl⟩ : ∃ m, n = m + 1 := ⟨n - 1, by omega⟩
    exact ⟨_, _, _, _, fun V hV => lall_yes a m c l V hnc (hr.below hV (Nat.le_refl _)) hm⟩
set_option maxRecDepth 100000 in
set_option maxHeartbeats 1000000 in
theorem levelpicks_low (a : Option Addr) (n c : Nat) (l : List Lv.T) (base : Int) (w : World) (hi : IsTabs w a n c l) (hL : lgt l = true) (hm : Lv.May l) (hb : base < 1) :
    Calls Try.prog 4 #[.slice a n c, .int .i64 base] w fun e w' => e = .returned (.bool true) ∧ Below w.heap.size w w' := by
  obtain ⟨hr, hnil, hnc, hn⟩ := hi
  have hli := light_level a n c l w hr hn
  have haw := awake_level
  rw [hL] at hli
  have h80 : n ≤ 80 := by have := lgt_len hL; rw [hr.1] at this; exact this
  have hmay := fun V (hV : Below w.heap.size w V) => rmay_any a n c l V (by omega) (hr.below hV (Nat.le_refl _))
  rw [(Lv.may_iff l).mpr hm] at hmay
  have hpk := fun V (hV : Below w.heap.size w V) => lpick_base a n c l base V hnc (hr.below hV (Nat.le_refl _)) ((Lv.may_iff l).mpr hm) (by omega)
  obtain ⟨I, KV, KD, KB, hal⟩ := lall_some a n c l w hr hnc hm
  have tok : Hid (0 = 0) := (rfl : 0 = 0)
  skip
  go_enter Try.func4, Try.ntmps4
  go_wp2_with (first | (go_at_call 6; go_must (refine hli.mono ?_; rintro e w2 ⟨rfl, rfl⟩)) | (go_at_call 18; go_must (refine (hpk _ (Below.refl _ _)).mono ?_; rintro e w3 ⟨g3, c3, rfl, hown3, hb3⟩; have hj3 := heap_alloc_new w3 (oj (.slice g3 0 c3) 0 false); have hB3 := hb3.alloc hb3.size (oj (.slice g3 0 c3) 0 false))) | (go_at_call 19; go_must (refine (hal _ hB3).mono ?_; rintro e w4 ⟨g4, c4, rfl, hown4, hb4⟩; have hj4 := blk_alloc (blk_kept hj3 hb4) (oj (.slice g4 I.length c4) KV KD); have hk4 := heap_alloc_new w4 (oj (.slice g4 I.length c4) KV KD); have hB4 := (hB3.trans (hb4.mono hB3.size)); have hB5 := hB4.alloc hB4.size (oj (.slice g4 I.length c4) KV KD); obtain ⟨⟨j0, j1, j2⟩, k0, k1, k2⟩ := jobs_kept hj4 hk4 (Below.refl _ _))) | (go_at_call 12; first | (clear tok; go_must (refine (hmay _ hB5).mono ?_; rintro e w5 ⟨rfl, hb5⟩; obtain ⟨⟨q0, q1, q2⟩, r0, r1, r2⟩ := jobs_kept hj4 hk4 hb5; have hB6 := hB5.trans (hb5.mono hB5.size))) | go_must (refine (hmay _ hB6).mono ?_; rintro e w6 ⟨rfl, hb6⟩; have hB7 := hB6.trans (hb6.mono hB6.size))) | (go_at_call 7; go_must (refine (haw _).mono ?_; rintro e w7 ⟨rfl, hb7⟩)))
  go_ret
  exact ⟨rfl, hB7.trans (hb7.mono hB7.size)⟩
set_option maxRecDepth 100000 in
set_option maxHeartbeats 1000000 in
theorem levelpicks_high (a : Option Addr) (n c : Nat) (l : List Lv.T) (base : Int) (w : World) (hi : IsTabs w a n c l) (hL : lgt l = true) (hm : Lv.May l) (hb : 1048576 < base) :
    Calls Try.prog 4 #[.slice a n c, .int .i64 base] w fun e w' => e = .returned (.bool true) ∧ Below w.heap.size w w' := by
  obtain ⟨hr, hnil, hnc, hn⟩ := hi
  have hli := light_level a n c l w hr hn
  have haw := awake_level
  rw [hL] at hli
  have h80 : n ≤ 80 := by have := lgt_len hL; rw [hr.1] at this; exact this
  have hmay := fun V (hV : Below w.heap.size w V) => rmay_any a n c l V (by omega) (hr.below hV (Nat.le_refl _))
  rw [(Lv.may_iff l).mpr hm] at hmay
  have hpk := fun V (hV : Below w.heap.size w V) => lpick_base a n c l base V hnc (hr.below hV (Nat.le_refl _)) ((Lv.may_iff l).mpr hm) (by omega)
  obtain ⟨I, KV, KD, KB, hal⟩ := lall_some a n c l w hr hnc hm
  have tok : Hid (0 = 0) := (rfl : 0 = 0)
  have hb2 : 1 ≤ base := by omega
  go_enter Try.func4, Try.ntmps4
  go_wp2_with (first | (go_at_call 6; go_must (refine hli.mono ?_; rintro e w2 ⟨rfl, rfl⟩)) | (go_at_call 18; go_must (refine (hpk _ (Below.refl _ _)).mono ?_; rintro e w3 ⟨g3, c3, rfl, hown3, hb3⟩; have hj3 := heap_alloc_new w3 (oj (.slice g3 0 c3) 0 false); have hB3 := hb3.alloc hb3.size (oj (.slice g3 0 c3) 0 false))) | (go_at_call 19; go_must (refine (hal _ hB3).mono ?_; rintro e w4 ⟨g4, c4, rfl, hown4, hb4⟩; have hj4 := blk_alloc (blk_kept hj3 hb4) (oj (.slice g4 I.length c4) KV KD); have hk4 := heap_alloc_new w4 (oj (.slice g4 I.length c4) KV KD); have hB4 := (hB3.trans (hb4.mono hB3.size)); have hB5 := hB4.alloc hB4.size (oj (.slice g4 I.length c4) KV KD); obtain ⟨⟨j0, j1, j2⟩, k0, k1, k2⟩ := jobs_kept hj4 hk4 (Below.refl _ _))) | (go_at_call 12; first | (clear tok; go_must (refine (hmay _ hB5).mono ?_; rintro e w5 ⟨rfl, hb5⟩; obtain ⟨⟨q0, q1, q2⟩, r0, r1, r2⟩ := jobs_kept hj4 hk4 hb5; have hB6 := hB5.trans (hb5.mono hB5.size))) | go_must (refine (hmay _ hB6).mono ?_; rintro e w6 ⟨rfl, hb6⟩; have hB7 := hB6.trans (hb6.mono hB6.size))) | (go_at_call 7; go_must (refine (haw _).mono ?_; rintro e w7 ⟨rfl, hb7⟩)))
  go_ret
  exact ⟨rfl, hB7.trans (hb7.mono hB7.size)⟩
end Go.Proofs.Ytghgolpofafjmaa
