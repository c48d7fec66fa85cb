/- The laws TreeHolds and TreeScans, given what is asked of the program. -/
import Derived.Test.YtpoocjffkhjeaaaTR6
namespace Go.Proofs.Ytpoocjffkhjeaaa
open Go.RowKit

theorem same_self (l : List It.I) : It.sameGo l l = true := (It.sameGo_iff l l).mpr rfl
theorem one_self (x : It.I) : It.one x x = true := (It.one_iff x x).mpr rfl

set_option maxRecDepth 100000 in
set_option maxHeartbeats 4000000 in
theorem trholds_any {T : World → Addr → List It.I → (Nat → Prop) → Prop} (hC : TreeC T) (a : Option Addr) (n c : Nat) (gs : List IH) (xs : List It.I) (s : ByteArray) (w : World) (hi : InI w a n c gs xs) (hs : s.size ≤ maxLen) :
    Calls Try.prog 3 #[.slice a n c, .string s] w fun e w' => e = .returned (.bool true) ∧ Below w.heap.size w w' := by
  unfold maxLen at hs
  have hA := fun W => trawake hC W
  by_cases hl : Fine gs n
  · have hL := trlightT a n c gs xs w hi.1 hl
    have hmade := fun W (h : Below w.heap.size w W) => made_any hC a n c gs xs W hl.1 (hi.below h (Nat.le_refl _))
    obtain ⟨hsm, hxl⟩ := hl.all hi.1
    have hLl : (It.all xs).length ≤ 1000 := Nat.le_trans (It.all_length xs) (by omega)
    have hall := fun W (h : Below w.heap.size w W) => iall_any w a n c gs xs W (by have := hl.1; omega) (hi.1.1.below h (Nat.le_refl _)) hi.1.2 h
    by_cases hk : s.size ≤ 200
    · have d1 : decide ((200 : Int) < (s.size : Int)) = false := by simp; omega
      have hta := fun (p : Addr) (S : Nat → Prop) W (h : T W p (It.all xs) S) => hC.all p (It.all xs) S W h hLl
      have htl := fun (p : Addr) (S : Nat → Prop) W (h : T W p (It.all xs) S) => hC.len p (It.all xs) S W h hLl
      have htw := fun (p : Addr) (S : Nat → Prop) W (h : T W p (It.all xs) S) => hC.weight p (It.all xs) S W h hLl
      have htg := fun (p : Addr) (S : Nat → Prop) W (h : T W p (It.all xs) S) => hC.get p (It.all xs) S s W h hLl (by omega)
      have hrw := fun (a' : Option Addr) (k : Nat) (hs : List IH) W (h1 : TRow 8 ih ihz W a' (It.all xs).length hs) (h2 : ItAll w hs (It.all xs)) => iweight_any w a' (It.all xs).length k hs (It.all xs) W hLl h1 h2 (fun x hx => by have := hsm x (It.all_mem hx).1; omega)
      have hrg := fun (a' : Option Addr) (k : Nat) (hs : List IH) W (h1 : TRow 8 ih ihz W a' (It.all xs).length hs) (h2 : ItAll w hs (It.all xs)) => iget_any w a' (It.all xs).length k hs (It.all xs) s W hLl h1 h2
      have hsame := fun (w0 : World) (a1 a2 : Option Addr) (k1 k2 : Nat) (h1 h2 : List IH) W r1 i1 r2 i2 b1 b2 => isame_any w0 w a1 (It.all xs).length k1 h1 (It.all xs) a2 (It.all xs).length k2 h2 (It.all xs) W r1 i1 r2 i2 b1 b2
      simp only [same_self] at hsame
      have hone := fun (h1 h2 : IH) W i1 i2 => ione_any h1 (It.get (It.all xs) (kb s)) h2 (It.get (It.all xs) (kb s)) W i1 i2
      simp only [one_self] at hone
      generalize It.all xs = L at *
      generalize It.get L (kb s) = X at *
      generalize It.weight L = WT at *
      clear hl hsm
      go_enter Try.func3, Try.ntmps3
      go_wp2_with (first
        | (go_at_call 9; have := c0_11; go_must (refine (hA _).mono ?_; rintro e w12 ⟨rfl, hb12⟩; have c0_12 := c0_11.trans (hb12.mono c0_11.size); have c1_12 := c1_11.trans (hb12.mono c1_11.size); have c2_12 := c2_11.trans (hb12.mono c2_11.size); have c3_12 := c3_11.trans (hb12.mono c3_11.size); have c4_12 := c4_11.trans (hb12.mono c4_11.size); have c5_12 := c5_11.trans (hb12.mono c5_11.size); have c6_12 := c6_11.trans (hb12.mono c6_11.size); have c7_12 := c7_11.trans (hb12.mono c7_11.size); have c8_12 := c8_11.trans (hb12.mono c8_11.size); have c9_12 := c9_11.trans (hb12.mono c9_11.size); have c10_12 := c10_11.trans (hb12.mono c10_11.size); have c11_12 := hb12))
        | (go_at_call 19; have := c0_10; go_must (refine (hone _ _ _ ((hi9.below c9_10 (Nat.le_refl _)).below (below_alloc _ _) (Nat.le_refl _)) ((hi10.below c0_10 (Nat.le_refl _)).below (below_alloc _ _) (Nat.le_refl _))).mono ?_; rintro e w11 ⟨rfl, hb11'⟩; have hb11 := (below_alloc w10 (.cells #[.string h10.key, .bool h10.dead, .bool h10.far, .slice h10.a h10.n h10.c, .int .i64 h10.p.1, .int .i64 h10.p.2.1, .int .i64 h10.p.2.2.1, .int .u32 (h10.p.2.2.2 : Nat)] 40)).trans (hb11'.mono (below_alloc w10 (.cells #[.string h10.key, .bool h10.dead, .bool h10.far, .slice h10.a h10.n h10.c, .int .i64 h10.p.1, .int .i64 h10.p.2.1, .int .i64 h10.p.2.2.1, .int .u32 (h10.p.2.2.2 : Nat)] 40)).size); have c0_11 := c0_10.trans (hb11.mono c0_10.size); have c1_11 := c1_10.trans (hb11.mono c1_10.size); have c2_11 := c2_10.trans (hb11.mono c2_10.size); have c3_11 := c3_10.trans (hb11.mono c3_10.size); have c4_11 := c4_10.trans (hb11.mono c4_10.size); have c5_11 := c5_10.trans (hb11.mono c5_10.size); have c6_11 := c6_10.trans (hb11.mono c6_10.size); have c7_11 := c7_10.trans (hb11.mono c7_10.size); have c8_11 := c8_10.trans (hb11.mono c8_10.size); have c9_11 := c9_10.trans (hb11.mono c9_10.size); have c10_11 := hb11; obtain ⟨⟨z0, z1, z2, z3, z4, z5, z6, z7⟩, _, _⟩ := eight_keep hb11'))
        | (go_at_call 18; have := c0_9; go_must (refine (hrg _ _ _ _ ((hr3.below c3_9 (Nat.le_refl _)).below (below_alloc _ _) (Nat.le_refl _)) hI3).mono ?_; rintro e w10 ⟨h10, rfl, hi10, hb10'⟩; have hb10 := (below_alloc w9 (.cells #[.string h9.key, .bool h9.dead, .bool h9.far, .slice h9.a h9.n h9.c, .int .i64 h9.p.1, .int .i64 h9.p.2.1, .int .i64 h9.p.2.2.1, .int .u32 (h9.p.2.2.2 : Nat)] 40)).trans (hb10'.mono (below_alloc w9 (.cells #[.string h9.key, .bool h9.dead, .bool h9.far, .slice h9.a h9.n h9.c, .int .i64 h9.p.1, .int .i64 h9.p.2.1, .int .i64 h9.p.2.2.1, .int .u32 (h9.p.2.2.2 : Nat)] 40)).size); have c0_10 := c0_9.trans (hb10.mono c0_9.size); have c1_10 := c1_9.trans (hb10.mono c1_9.size); have c2_10 := c2_9.trans (hb10.mono c2_9.size); have c3_10 := c3_9.trans (hb10.mono c3_9.size); have c4_10 := c4_9.trans (hb10.mono c4_9.size); have c5_10 := c5_9.trans (hb10.mono c5_9.size); have c6_10 := c6_9.trans (hb10.mono c6_9.size); have c7_10 := c7_9.trans (hb10.mono c7_9.size); have c8_10 := c8_9.trans (hb10.mono c8_9.size); have c9_10 := hb10; obtain ⟨⟨x0, x1, x2, x3, x4, x5, x6, x7⟩, hlt10, _⟩ := eight_keep hb10'; have X0 := fun o => ((below_alloc w10 o).cell (p := ⟨w9.heap.size, 0, none⟩) hlt10).trans x0; have X1 := fun o => ((below_alloc w10 o).cell (p := ⟨w9.heap.size, 1, none⟩) hlt10).trans x1; have X2 := fun o => ((below_alloc w10 o).cell (p := ⟨w9.heap.size, 2, none⟩) hlt10).trans x2; have X3 := fun o => ((below_alloc w10 o).cell (p := ⟨w9.heap.size, 3, none⟩) hlt10).trans x3; have X4 := fun o => ((below_alloc w10 o).cell (p := ⟨w9.heap.size, 4, none⟩) hlt10).trans x4; have X5 := fun o => ((below_alloc w10 o).cell (p := ⟨w9.heap.size, 5, none⟩) hlt10).trans x5; have X6 := fun o => ((below_alloc w10 o).cell (p := ⟨w9.heap.size, 6, none⟩) hlt10).trans x6; have X7 := fun o => ((below_alloc w10 o).cell (p := ⟨w9.heap.size, 7, none⟩) hlt10).trans x7; have hemp : h10.key.toList.isEmpty = !decide (X.1 ≠ []) := (by rw [isEmpty_kb, ← hi10.key]; by_cases e : h10.key = ⟨#[]⟩; simp [e, kb]; simp [e, kb_nil])))
        | (go_at_call 17; have := c0_8; go_must (refine (htg _ _ _ (hC.on hT2 c2_8)).mono ?_; rintro e w9 ⟨h9, rfl, hi9, hb9⟩; have c0_9 := c0_8.trans (hb9.mono c0_8.size); have c1_9 := c1_8.trans (hb9.mono c1_8.size); have c2_9 := c2_8.trans (hb9.mono c2_8.size); have c3_9 := c3_8.trans (hb9.mono c3_8.size); have c4_9 := c4_8.trans (hb9.mono c4_8.size); have c5_9 := c5_8.trans (hb9.mono c5_8.size); have c6_9 := c6_8.trans (hb9.mono c6_8.size); have c7_9 := c7_8.trans (hb9.mono c7_8.size); have c8_9 := hb9))
        | (go_at_call 16; have := c0_7; go_must (refine (hrw _ _ _ _ (hr3.below c3_7 (Nat.le_refl _)) hI3).mono ?_; rintro e w8 ⟨rfl, hb8⟩; have c0_8 := c0_7.trans (hb8.mono c0_7.size); have c1_8 := c1_7.trans (hb8.mono c1_7.size); have c2_8 := c2_7.trans (hb8.mono c2_7.size); have c3_8 := c3_7.trans (hb8.mono c3_7.size); have c4_8 := c4_7.trans (hb8.mono c4_7.size); have c5_8 := c5_7.trans (hb8.mono c5_7.size); have c6_8 := c6_7.trans (hb8.mono c6_7.size); have c7_8 := hb8))
        | (go_at_call 15; have := c0_6; go_must (refine (htw _ _ _ (hC.on hT2 c2_6)).mono ?_; rintro e w7 ⟨rfl, hb7⟩; have c0_7 := c0_6.trans (hb7.mono c0_6.size); have c1_7 := c1_6.trans (hb7.mono c1_6.size); have c2_7 := c2_6.trans (hb7.mono c2_6.size); have c3_7 := c3_6.trans (hb7.mono c3_6.size); have c4_7 := c4_6.trans (hb7.mono c4_6.size); have c5_7 := c5_6.trans (hb7.mono c5_6.size); have c6_7 := hb7))
        | (go_at_call 14; have := c0_5; go_must (refine (htl _ _ _ (hC.on hT2 c2_5)).mono ?_; rintro e w6 ⟨rfl, hb6⟩; have c0_6 := c0_5.trans (hb6.mono c0_5.size); have c1_6 := c1_5.trans (hb6.mono c1_5.size); have c2_6 := c2_5.trans (hb6.mono c2_5.size); have c3_6 := c3_5.trans (hb6.mono c3_5.size); have c4_6 := c4_5.trans (hb6.mono c4_5.size); have c5_6 := hb6))
        | (go_at_call 12; have := c0_4; go_must (refine (hsame w4 _ _ _ _ _ _ _ hi4.1.1 hi4.1.2 (hr3.below c3_4 (Nat.le_refl _)) hI3 (Below.refl _ _) c0_4).mono ?_; rintro e w5 ⟨rfl, hb5⟩; have c0_5 := c0_4.trans (hb5.mono c0_4.size); have c1_5 := c1_4.trans (hb5.mono c1_4.size); have c2_5 := c2_4.trans (hb5.mono c2_4.size); have c3_5 := c3_4.trans (hb5.mono c3_4.size); have c4_5 := hb5))
        | (go_at_call 13; have := c0_3; go_must (refine (hta _ _ _ (hC.on hT2 c2_3)).mono ?_; rintro e w4 ⟨a4, k4, hs4, rfl, hi4, hb4⟩; have c0_4 := c0_3.trans (hb4.mono c0_3.size); have c1_4 := c1_3.trans (hb4.mono c1_3.size); have c2_4 := c2_3.trans (hb4.mono c2_3.size); have c3_4 := hb4))
        | (go_at_call 11; have := c0_2; go_must (refine (hall _ c0_2).mono ?_; rintro e w3 ⟨a3, k3, hs3, rfl, _, _, hr3, hI3, hb3⟩; have c0_3 := c0_2.trans (hb3.mono c0_2.size); have c1_3 := c1_2.trans (hb3.mono c1_2.size); have c2_3 := hb3))
        | (go_at_call 10; have := c0_1; go_must (refine (hmade _ c0_1).mono ?_; rintro e w2 ⟨p, S, rfl, hT2, _, hb2⟩; have c0_2 := c0_1.trans (hb2.mono c0_1.size); have c1_2 := hb2))
        | (go_at_call 8; go_must (refine (hL).mono ?_; rintro e w1 ⟨rfl, hb1⟩; have c0_1 := hb1)))
      go_ret
      exact ⟨by simp, c0_12⟩
    · have d1 : decide ((200 : Int) < (s.size : Int)) = true := by simp; omega
      go_enter Try.func3, Try.ntmps3
      go_wp2_with (first
        | (go_at_call 9; have := c0_1; go_must (refine (hA _).mono ?_; rintro e w2 ⟨rfl, hb2⟩; have c0_2 := c0_1.trans (hb2.mono c0_1.size); have c1_2 := hb2))
        | (go_at_call 8; go_must (refine (hL).mono ?_; rintro e w1 ⟨rfl, hb1⟩; have c0_1 := hb1)))
      go_ret
      exact ⟨rfl, c0_2⟩
  · have hL := trlightF a n c gs xs w hi.1 hl
    go_enter Try.func3, Try.ntmps3
    go_wp2_with (first
      | (go_at_call 9; have := c0_1; go_must (refine (hA _).mono ?_; rintro e w2 ⟨rfl, hb2⟩; have c0_2 := c0_1.trans (hb2.mono c0_1.size); have c1_2 := hb2))
      | (go_at_call 8; go_must (refine (hL).mono ?_; rintro e w1 ⟨rfl, hb1⟩; have c0_1 := hb1)))
    go_ret
    exact ⟨rfl, c0_2⟩
end Go.Proofs.Ytpoocjffkhjeaaa
