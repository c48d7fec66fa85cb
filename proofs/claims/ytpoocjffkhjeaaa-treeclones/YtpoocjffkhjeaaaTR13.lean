/- The law TreeClones, given what is asked of the program. -/
import Derived.Test.YtpoocjffkhjeaaaTR9
namespace Go.Proofs.Ytpoocjffkhjeaaa
open Go.RowKit

/-- what is asked of nobody's trees: Z w p says that at p there is none -/
structure NobodyC (Z : World → Option Addr → Prop) : Prop where
  nil : ∀ w, Z w none
  zero : ∀ w : World, Z (w.alloc (.cells #[.bool false, .pointer none, .int .i64 0, .int .i64 0] 58)) (some ⟨w.heap.size, 0, none⟩)
  keep : ∀ {w w' : World} {p : Option Addr}, Z w p → Below w.heap.size w w' → Z w' p
  get : ∀ (p : Option Addr) (w : World), Z w p → Calls Try.prog 17 #[.pointer p, .string ⟨#[97]⟩] w fun e w' => ∃ h : IH, e = .returned (.tuple #[iv h, .bool false]) ∧ Below w.heap.size w w'
  put : ∀ (p : Option Addr) (w : World), Z w p → Calls Try.prog 23 #[.pointer p, .agg #[.string ⟨#[97]⟩, .bool false, .bool false, .slice none 0 0, .int .i64 0, .int .i64 0, .int .i64 0, .int .u32 0]] w fun e w' => e = .returned (.int .i64 1) ∧ Below w.heap.size w w'
  all : ∀ (p : Option Addr) (w : World), Z w p → Calls Try.prog 13 #[.pointer p] w fun e w' => ∃ a c, e = .returned (.slice a 0 c) ∧ Below w.heap.size w w'
  scan : ∀ (p : Option Addr) (w : World), Z w p → Calls Try.prog 20 #[.pointer p, .string ⟨#[]⟩, .string ⟨#[]⟩, .int .i64 5] w fun e w' => ∃ a c, e = .returned (.slice a 0 c) ∧ Below w.heap.size w w'
  len : ∀ (p : Option Addr) (w : World), Z w p → Calls Try.prog 14 #[.pointer p] w fun e w' => e = .returned (.int .i64 0) ∧ Below w.heap.size w w'
  weight : ∀ (p : Option Addr) (w : World), Z w p → Calls Try.prog 15 #[.pointer p] w fun e w' => e = .returned (.int .i64 0) ∧ Below w.heap.size w w'
  clone : ∀ (p : Option Addr) (w : World), Z w p → Calls Try.prog 29 #[.pointer p] w fun e w' => ∃ q, e = .returned (.pointer q) ∧ (∀ W, Below w'.heap.size w' W → Calls Try.prog 14 #[.pointer q] W fun e W' => e = .returned (.int .i64 0) ∧ Below W.heap.size W W') ∧ Below w.heap.size w w'

set_option maxRecDepth 100000 in
set_option maxHeartbeats 4000000 in
theorem trclones_any {T : World → Addr → List It.I → (Nat → Prop) → Prop} (hC : TreeC T) {Z : World → Option Addr → Prop} (hN : NobodyC Z) (a : Option Addr) (n c : Nat) (gs : List IH) (xs : List It.I) (b : Option Addr) (m d : Nat) (hs : List IH) (ys : List It.I) (w : World) (hx : InI w a n c gs xs) (hy : InI w b m d hs ys) :
    Calls Try.prog 7 #[.slice a n c, .slice b m d] w fun e w' => e = .returned (.bool true) ∧ Below w.heap.size w w' := by
  have hA := fun W => trawake hC W
  by_cases hl : Fine gs n
  · have hL := trlightT a n c gs xs w hx.1 hl
    by_cases hl2 : Fine hs m
    · have hL2 := fun W (h : Below w.heap.size w W) => trlightT b m d hs ys W (hy.1.below h (Nat.le_refl _)) hl2
      have hn := hl.1
      have hm := hl2.1
      have hmade := fun W (h : Below w.heap.size w W) => made_any hC a n c gs xs W hl.1 (hx.below h (Nat.le_refl _))
      have hLl : (It.all xs).length ≤ 100 := Nat.le_trans (It.all_length xs) (hl.all hx.1).2
      have hall := fun W (h : Below w.heap.size w W) => iall_any w a n c gs xs W (by omega) (hx.1.1.below h (Nat.le_refl _)) hx.1.2 h
      generalize It.all xs = L at *
      have hcl := fun (p : Addr) (S : Nat → Prop) W (h : T W p L S) => hC.clone p L S W h (by omega)
      have hsame := fun (w0 : World) (a1 a2 : Option Addr) (k1 k2 : Nat) (h1 h2 : List IH) W r1 i1 r2 i2 b1 b2 => isame_any w0 w a1 L.length k1 h1 L a2 L.length k2 h2 L W r1 i1 r2 i2 b1 b2
      simp only [same_self] at hsame
      have Hy : Hid (InI w b m d hs ys) := hy
      clear hl hl2 hx hy
      go_enter Try.func7, Try.ntmps7
      go_wp2_with (first
        | (go_at_call 29; have := hT3; go_must (refine (hcl _ _ _ hT3).mono ?_; rintro e w4 ⟨q, S4, rfl, hT4, hS4, hb4⟩; have c0_4 := c0_3.trans (hb4.mono c0_3.size)))
        | (go_at_call 10; have := c0_2; go_must (refine (hmade _ c0_2).mono ?_; rintro e w3 ⟨p, S3, rfl, hT3, hS3, hb3⟩; have c0_3 := c0_2.trans (hb3.mono c0_2.size)))
        | (go_at_call 8; have := hb1; go_must (refine (hL2 _ hb1).mono ?_; rintro e w2 ⟨rfl, hb2⟩; have c0_2 := hb1.trans (hb2.mono hb1.size)))
        | (go_at_call 8; go_must (refine hL.mono ?_; rintro e w1 ⟨rfl, hb1⟩)))
      have HS3 : Hid (w.heap.size ≤ p.block ∧ ¬ S4 p.block) := (⟨Nat.le_trans c0_2.size (hS3 _ (hC.head hT3)), fun h4 => by have hf := hC.foot hT3 _ (hC.head hT3); rcases hS4 _ h4 with h | h; exact h.2 rfl; omega⟩ : w.heap.size ≤ p.block ∧ ¬ S4 p.block)
      have hT3' := hC.on hT3 hb4
      clear hS3 hS4 hL hL2 hmade hcl hT3 hb1 hb2 hb3
      go_loopw [8] (fun i wr => ∃ (k : Nat) (S : Nat → Prop) (P : List It.I), k ≤ m ∧ i = .int .i64 k ∧ Hid (P.length ≤ 100 + k) ∧ T wr p P S ∧ T wr q L S4 ∧ Below w.heap.size w wr) (fun i _ => m - (intOf i).toNat)
      case atStart => exact ⟨0, S3, L, by omega, rfl, (by omega : L.length ≤ 100 + 0), hT3', hT4, c0_4⟩
      case round =>
        obtain ⟨k, S, P, hk, rfl, HP, hT, hTq, hbel⟩ := hrel
        clear hT4 hT3' c0_4 hb4
        by_cases hlt : k < m
        · obtain ⟨bb, off, rfl, hc⟩ := Hy.out.1.1.items (by omega)
          obtain ⟨y0, y1, y2, y3, y4, y5, y6, y7⟩ := (hc k hlt).below hbel (Nat.le_refl _)
          have Hi := Hy.out.1.item hlt
          have hput := fun W (hW : Below w.heap.size w W) (hT : T W p P S) => hC.puth p P S _ _ W hT (by have := HP.out; omega) (Hi.below hW (Nat.le_refl _))
          generalize hs.getD k ihz = g at *
          generalize ys.getD k It.zero = y at *
          obtain ⟨key, dead, far, qa, qn, qc, ⟨p1, p2, p3, p4⟩⟩ := g
          simp only at y0 y1 y2 y3 y4 y5 y6 y7 hput
          have i0 : (0 : Int) ≤ (k : Int) := by omega
          have i1 : (k : Int) < (m : Int) := by omega
          clear hc Hi
          go_wp2_with (go_at_call 23; go_must (refine (hput _ hbel hT).mono ?_; rintro e w5 ⟨S5, rfl, hT5, hS5, ho5⟩))
          have hw5 : Below w.heap.size w w5 := ho5.below (fun k hk => by rw [hk]; exact HS3.out.1) hbel hbel.size
          have hTq5 : T w5 q L S4 := hC.keep hTq (fun k h4 => ho5.block k (hC.foot hTq k h4) (fun hs => HS3.out.2 (hs ▸ h4))) ho5.size
          have HP5 : Hid ((if It.may y = true then It.put P y else P).length ≤ 100 + (k + 1)) := (by
            have h1 := HP.out
            split
            · have := It.putGo_len y false P; unfold It.put; omega
            · omega : (if It.may y = true then It.put P y else P).length ≤ 100 + (k + 1))
          generalize (if It.may y = true then It.put P y else P) = P5 at *
          go_roundw
          case rel => exact ⟨k + 1, S5, P5, by omega, by go_num, HP5, hT5, hTq5, hw5⟩
          case measure => simp [intOf]; omega
        · obtain rfl : k = m := by omega
          clear hT HS3 HP
          go_wp2_with fail
          go_loopw [9] (fun i wr => ∃ k : Nat, k ≤ 2 ∧ i = .int .i64 k ∧ T wr q L S4 ∧ Below w.heap.size w wr) (fun i _ => 2 - (intOf i).toNat)
          case atStart => exact ⟨0, by omega, rfl, hTq, hbel⟩
          case round =>
            obtain ⟨k, hk, rfl, hTr, hz⟩ := hrel
            clear hTq hbel
            rcases (by omega : k = 0 ∨ k = 1 ∨ k = 2) with rfl | rfl | rfl
            · have hZ := hN.nil wr
              go_wp2_with (first
                | (go_at_call 14; have := hclen; go_must (refine (hclen _ (Below.refl _ _)).mono ?_; rintro e z9 ⟨rfl, hb9⟩; have e9 := e8.trans (hb9.mono e8.size)))
                | (go_at_call 29; have := e7; go_must (refine (hN.clone _ _ hZ7).mono ?_; rintro e z8 ⟨pc, rfl, hclen, hb8⟩; have e8 := e7.trans (hb8.mono e7.size)))
                | (go_at_call 15; have := e6; go_must (refine (hN.weight _ _ hZ6).mono ?_; rintro e z7 ⟨rfl, hb7⟩; have e7 := e6.trans (hb7.mono e6.size); have hZ7 := hN.keep hZ6 hb7))
                | (go_at_call 14; have := e5; go_must (refine (hN.len _ _ hZ5).mono ?_; rintro e z6 ⟨rfl, hb6⟩; have e6 := e5.trans (hb6.mono e5.size); have hZ6 := hN.keep hZ5 hb6))
                | (go_at_call 20; have := e4; go_must (refine (hN.scan _ _ hZ4).mono ?_; rintro e z5 ⟨az5, cz5, rfl, hb5⟩; have e5 := e4.trans (hb5.mono e4.size); have hZ5 := hN.keep hZ4 hb5))
                | (go_at_call 13; have := e3; go_must (refine (hN.all _ _ hZ3).mono ?_; rintro e z4 ⟨az4, cz4, rfl, hb4⟩; have e4 := e3.trans (hb4.mono e3.size); have hZ4 := hN.keep hZ3 hb4))
                | (go_at_call 23; have := e2; go_must (refine (hN.put _ _ (hN.keep hZ2 (below_alloc _ _))).mono ?_; rintro e z3 ⟨rfl, hb3⟩; have e3 := (e2.alloc e2.size _).trans (hb3.mono (e2.alloc e2.size _).size); have hZ3 := hN.keep (hN.keep hZ2 (below_alloc _ _)) hb3))
                | (go_at_call 17; go_must (refine (hN.get _ _ hZ).mono ?_; rintro e z2 ⟨h2, rfl, hb2⟩; have e2 : Below wr.heap.size wr z2 := hb2; have hZ2 := hN.keep hZ hb2)))
              go_roundw
              case rel => exact ⟨_, by decide, rfl, hC.on hTr e9, hz.trans (e9.mono hz.size)⟩
              case measure => decide
            · have hZ := hN.zero wr
              go_wp2_with (first
                | (go_at_call 14; have := hclen; go_must (refine (hclen _ (Below.refl _ _)).mono ?_; rintro e z9 ⟨rfl, hb9⟩; have e9 := e8.trans (hb9.mono e8.size)))
                | (go_at_call 29; have := e7; go_must (refine (hN.clone _ _ hZ7).mono ?_; rintro e z8 ⟨pc, rfl, hclen, hb8⟩; have e8 := e7.trans (hb8.mono e7.size)))
                | (go_at_call 15; have := e6; go_must (refine (hN.weight _ _ hZ6).mono ?_; rintro e z7 ⟨rfl, hb7⟩; have e7 := e6.trans (hb7.mono e6.size); have hZ7 := hN.keep hZ6 hb7))
                | (go_at_call 14; have := e5; go_must (refine (hN.len _ _ hZ5).mono ?_; rintro e z6 ⟨rfl, hb6⟩; have e6 := e5.trans (hb6.mono e5.size); have hZ6 := hN.keep hZ5 hb6))
                | (go_at_call 20; have := e4; go_must (refine (hN.scan _ _ hZ4).mono ?_; rintro e z5 ⟨az5, cz5, rfl, hb5⟩; have e5 := e4.trans (hb5.mono e4.size); have hZ5 := hN.keep hZ4 hb5))
                | (go_at_call 13; have := e3; go_must (refine (hN.all _ _ hZ3).mono ?_; rintro e z4 ⟨az4, cz4, rfl, hb4⟩; have e4 := e3.trans (hb4.mono e3.size); have hZ4 := hN.keep hZ3 hb4))
                | (go_at_call 23; have := e2; go_must (refine (hN.put _ _ (hN.keep hZ2 (below_alloc _ _))).mono ?_; rintro e z3 ⟨rfl, hb3⟩; have e3 := (e2.alloc e2.size _).trans (hb3.mono (e2.alloc e2.size _).size); have hZ3 := hN.keep (hN.keep hZ2 (below_alloc _ _)) hb3))
                | (go_at_call 17; go_must (refine (hN.get _ _ hZ).mono ?_; rintro e z2 ⟨h2, rfl, hb2⟩; have e2 : Below wr.heap.size wr z2 := (below_alloc _ _).trans (hb2.mono (below_alloc _ _).size); have hZ2 := hN.keep hZ hb2)))
              go_roundw
              case rel => exact ⟨_, by decide, rfl, hC.on hTr e9, hz.trans (e9.mono hz.size)⟩
              case measure => decide
            · have hallT := fun W (h : T W q L S4) => hC.all q L S4 W h (by omega)
              go_wp2_with (first
                | (go_at_call 9; have := hb7; go_must (refine (hA _).mono ?_; rintro e w8 ⟨rfl, hb8⟩; have e8 := e7.trans (hb8.mono e7.size)))
                | (go_at_call 12; have := hb6; go_must (refine (hsame w5 _ _ _ _ _ _ _ (hi5.1.1.below hb6 (Nat.le_refl _)) hi5.1.2 hr6 hI6 hb6 e6).mono ?_; rintro e w7 ⟨rfl, hb7⟩; have e7 := e6.trans (hb7.mono e6.size)))
                | (go_at_call 11; have := hi5; go_must (refine (hall _ e5).mono ?_; rintro e w6 ⟨a6, k6, hs6, rfl, _, _, hr6, hI6, hb6⟩; have e6 := e5.trans (hb6.mono e5.size)))
                | (go_at_call 13; go_must (refine (hallT _ hTr).mono ?_; rintro e w5 ⟨a5, k5, hs5, rfl, hi5, hb5⟩; have e5 := hz.trans (hb5.mono hz.size))))
              go_ret
              exact ⟨by simp, e8⟩
    · have hL2 := fun W (h : Below w.heap.size w W) => trlightF b m d hs ys W (hy.1.below h (Nat.le_refl _)) hl2
      go_enter Try.func7, Try.ntmps7
      go_wp2_with (first
        | (go_at_call 9; have := c0_2; go_must (refine (hA _).mono ?_; rintro e w3 ⟨rfl, hb3⟩; have c0_3 := c0_2.trans (hb3.mono c0_2.size); have c1_3 := c1_2.trans (hb3.mono c1_2.size); have c2_3 := hb3))
        | (go_at_call 8; have := c0_1; go_must (refine (hL2 _ c0_1).mono ?_; rintro e w2 ⟨rfl, hb2⟩; have c0_2 := c0_1.trans (hb2.mono c0_1.size); have c1_2 := hb2))
        | (go_at_call 8; go_must (refine (hL).mono ?_; rintro e w1 ⟨rfl, hb1⟩; have c0_1 := hb1)))
      go_ret
      exact ⟨rfl, c0_3⟩
  · have hL := trlightF a n c gs xs w hx.1 hl
    go_enter Try.func7, Try.ntmps7
    go_wp2_with (first
      | (go_at_call 9; have := c0_1; go_must (refine (hA _).mono ?_; rintro e w2 ⟨rfl, hb2⟩; have c0_2 := c0_1.trans (hb2.mono c0_1.size); have c1_2 := hb2))
      | (go_at_call 8; go_must (refine (hL).mono ?_; rintro e w1 ⟨rfl, hb1⟩; have c0_1 := hb1)))
    go_ret
    exact ⟨rfl, c0_2⟩
end Go.Proofs.Ytpoocjffkhjeaaa
