/- The law CellHolds, given the program's contracts. -/
import Derived.Test.YtgmcjalcpgldhaaV6
namespace Go.Proofs.Ytgmcjalcpgldhaa
open Go.RowKit

set_option maxRecDepth 100000 in
set_option maxHeartbeats 1000000 in
theorem ceholds_long (hP : CPutC) (a : Option Addr) (n c : Nat) (p : Po.P) (z : Int) (w : World) (h : 5000 < n) :
    Calls Try.prog 6 #[.slice a n c, pv p, .int .i64 z] w fun e w' => e = .returned (.bool true) ∧ Below w.heap.size w w' := by
  have hA := fun w => ceawake hP w
  obtain ⟨s, y, l, m⟩ := p
  simp only [pv]
  have hb0 := below_alloc w (.cells #[.int .i64 s, .int .i64 y, .int .i64 l, .int .u32 (m : Nat)] 25)
  go_enter Try.func6, Try.ntmps6
  go_wp2_with (go_at_call 7; go_must (refine (hA _).mono ?_; rintro e w2 ⟨rfl, hbel2⟩))
  go_ret
  exact ⟨rfl, hb0.trans (hbel2.mono hb0.size)⟩

theorem fits_far (s y : Int) (n : Nat) (vs : List Nat) (h : vs.length = n) : Ce.fits (s, y, (n : Int), Crc.more 0 vs) vs = true := by simp [Ce.fits, h]
theorem crc_lt {vs : List Nat} (h : ∀ x ∈ vs, x < 256) : Crc.more 0 vs < 4294967296 := Crc.more_lt vs (by omega) h

set_option maxRecDepth 100000 in
set_option maxHeartbeats 4000000 in
theorem ceholds_any (hP : CPutC) (hN : CNearC) (hF : CFarC) (hT : CFitsC) (a : Option Addr) (n c : Nat) (vs : List Nat) (p : Po.P) (z : Int) (w : World) (hl : n ≤ 5000) (hr : Row .u8 w a n vs) (hnil : a = none → n = 0 ∧ c = 0) (hf : Po.Fits p) :
    Calls Try.prog 6 #[.slice a n c, pv p, .int .i64 z] w fun e w' => e = .returned (.bool true) ∧ Below w.heap.size w w' := by
  have hA := fun w => ceawake hP w
  have hvl : Hid (vs.length = n) := hr.1
  have hsm := hr.2.2.1
  have ht1 := fun W (h : Below w.heap.size w W) => hT p a n c vs W hf (hr.below h (Nat.le_refl _))
  have ht2 := fun W (h : Below w.heap.size w W) => cefits_any p a n c vs W (hr.below h (Nat.le_refl _))
  have hfar := fun W (h : Below w.heap.size w W) => hF p.1 p.2.1 a n c vs W hl hf.1 hf.2.1 (hr.below h (Nat.le_refl _))
  have hcrc := crc_lt hsm
  have ht3 := fun W (h : Below w.heap.size w W) => hT (p.1, p.2.1, (n : Int), Crc.more 0 vs) a n c vs W ⟨hf.1, hf.2.1, by simp only []; omega, hcrc⟩ (hr.below h (Nat.le_refl _))
  have ht4 := fun W (h : Below w.heap.size w W) => cefits_any (p.1, p.2.1, (n : Int), Crc.more 0 vs) a n c vs W (hr.below h (Nat.le_refl _))
  rw [fits_far _ _ n vs hr.1] at ht3 ht4
  have hss := fun a1 k c1 a2 c2 us W (h1 : Row .u8 W a1 k us) (h2 : Row .u8 W a2 k us) => cesame_any false a1 k c1 us Po.zero false a2 k c2 us Po.zero W h1 h2
  simp only [ce_same_self] at hss
  have hnear := fun a1 c1 W h h' => hN a1 n c1 z vs W hl h h'
  have hpm := fun W => pomay_any p.1 p.2.1 (n : Int) 0 W
  generalize Ce.fits p vs = r at *
  generalize Crc.more 0 vs = S at *
  obtain ⟨s, y, l, m⟩ := p
  simp only [cv, pv, Po.zero] at ht1 ht2 ht3 ht4 hfar hss hnear hpm ⊢
  have hk : Hid (∀ W, Below (w.alloc (.cells #[.int .i64 s, .int .i64 y, .int .i64 l, .int .u32 (m : Nat)] 25)).heap.size (w.alloc (.cells #[.int .i64 s, .int .i64 y, .int .i64 l, .int .u32 (m : Nat)] 25)) W → (W.cell? ⟨w.heap.size, 0, none⟩ = some (.int .i64 s) ∧ W.cell? ⟨w.heap.size, 1, none⟩ = some (.int .i64 y) ∧ W.cell? ⟨w.heap.size, 2, none⟩ = some (.int .i64 l) ∧ W.cell? ⟨w.heap.size, 3, none⟩ = some (.int .u32 (m : Nat))) ∧ w.heap.size < W.heap.size ∧ Below w.heap.size w W) := (fun W h => ⟨⟨(four_keep h).1, (four_keep h).2.1, (four_keep h).2.2.1, (four_keep h).2.2.2.1⟩, (four_keep h).2.2.2.2.1, (four_keep h).2.2.2.2.2⟩ : ∀ W, Below (w.alloc (.cells #[.int .i64 s, .int .i64 y, .int .i64 l, .int .u32 (m : Nat)] 25)).heap.size (w.alloc (.cells #[.int .i64 s, .int .i64 y, .int .i64 l, .int .u32 (m : Nat)] 25)) W → (W.cell? ⟨w.heap.size, 0, none⟩ = some (.int .i64 s) ∧ W.cell? ⟨w.heap.size, 1, none⟩ = some (.int .i64 y) ∧ W.cell? ⟨w.heap.size, 2, none⟩ = some (.int .i64 l) ∧ W.cell? ⟨w.heap.size, 3, none⟩ = some (.int .u32 (m : Nat))) ∧ w.heap.size < W.heap.size ∧ Below w.heap.size w W)
  have hb0 := below_alloc w (.cells #[.int .i64 s, .int .i64 y, .int .i64 l, .int .u32 (m : Nat)] 25)
  have hr2 := (hr.below hb0 (Nat.le_refl _)).below (below_alloc (w.alloc (.cells #[.int .i64 s, .int .i64 y, .int .i64 l, .int .u32 (m : Nat)] 25)) (.cells #[] 5)) (Nat.le_refl _)
  have hown0 := made_at (w.alloc (.cells #[.int .i64 s, .int .i64 y, .int .i64 l, .int .u32 (m : Nat)] 25)) 5 (w.alloc (.cells #[.int .i64 s, .int .i64 y, .int .i64 l, .int .u32 (m : Nat)] 25)).heap.size (b := w.heap.size + 1) (by simp) (by simp)
  have hbA := below_alloc (w.alloc (.cells #[.int .i64 s, .int .i64 y, .int .i64 l, .int .u32 (m : Nat)] 25)) (.cells #[] 5)
  have hln : decide ((5000 : Int) < (n : Int)) = false := by simp; omega
  by_cases h1 : (n : Int) ≤ z
  · by_cases h2 : n ≤ 32
    · have hnear1 : ∀ a1 c1 W, Row .u8 W a1 n vs → (a1 = none → n = 0 ∧ c1 = 0) → Calls Try.prog 17 #[.slice a1 n c1, .int .i64 z] W fun e w' => ∃ a' c', e = .returned (.tuple #[.agg #[.bool false, .slice a' n c', .int .i64 0, .int .i64 0, .int .i64 0, .int .u32 0], .bool true]) ∧ Row .u8 w' a' n vs ∧ Below W.heap.size W w' := fun a1 c1 W h h' => by
        refine (hnear a1 c1 W h h').mono ?_
        rintro e w' (⟨_, h⟩ | ⟨h, _⟩)
        · exact h
        · exact absurd ⟨h1, h2⟩ h
      clear hnear
      have hd1 : decide ((n : Int) ≤ z) = true := by simp; omega
      have hd2 : decide ((n : Int) ≤ 32) = true := by simp; omega
      cases hmay : Po.may (s, y, (n : Int), 0) with
      | false =>
        rw [hmay] at hpm
        have hfar1 : ∀ W, Below w.heap.size w W → Calls Try.prog 20 #[.int .i64 s, .int .i64 y, .slice a n c] W fun e w' => ∃ a' c', e = .returned (.tuple #[.agg #[.bool false, .slice a' 0 c', .int .i64 0, .int .i64 0, .int .i64 0, .int .u32 0], .int .i64 1]) ∧ Below W.heap.size W w' := fun W hW => by
          refine (hfar W hW).mono ?_
          rintro e w' (⟨h, h'⟩ | ⟨h, h'⟩)
          · rw [hmay] at h; cases h
          · exact h'
        clear hfar hmay
        go_enter Try.func6, Try.ntmps6
        go_wp2_with (first
          | (go_at_call 10; go_must (have := hbel2; refine (hss a2 n c2 a c vs _ (r2.below (below_alloc _ _) (Nat.le_refl _)) (hr.below (hw2.alloc hw2.size _) (Nat.le_refl _))).mono ?_; rintro e w3 ⟨rfl, hbel3⟩; have hB2a := hB2.alloc hB2.size (.cells #[.bool false, .slice a2 n c2, .int .i64 0, .int .i64 0, .int .i64 0, .int .u32 0] 27); have hB3 := hB2a.trans (hbel3.mono hB2a.size); obtain ⟨⟨k0, k1, k2, k3⟩, hlt3, hw3⟩ := hk.out w3 hB3))
          | (at_builtin; go_must (refine append_u8 (w0 := w.alloc (.cells #[.int .i64 s, .int .i64 y, .int .i64 l, .int .u32 (m : Nat)] 25)) (B := (w.alloc (.cells #[.int .i64 s, .int .i64 y, .int .i64 l, .int .u32 (m : Nat)] 25)).heap.size) rfl (.tmp 16) (.tmp 17) rfl _ 0 [] rfl hown0 a n c vs rfl hr2 hnil (by omega) hbA (by simp) ?_; intro a1 c1 w1 hown1 hbel1 hsz1; rw [Nat.zero_add, List.nil_append] at hown1; rw [Nat.zero_add]; obtain ⟨r1, n1, _⟩ := row_of_owns hown1 hsm (by omega)))
          | (go_at_call 17; go_must (refine (hnear1 _ _ _ r1 n1).mono ?_; rintro e w2 ⟨a2, c2, rfl, r2, hbel2⟩; have hB2 := hbel1.trans (hbel2.mono hbel1.size); obtain ⟨_, hlt2, hw2⟩ := hk.out w2 hB2)))
        go_region_held3 (fun w' => w'.cell? ⟨w.heap.size, 0, none⟩ = some (.int .i64 s) ∧ w'.cell? ⟨w.heap.size, 1, none⟩ = some (.int .i64 y) ∧ w'.cell? ⟨w.heap.size, 2, none⟩ = some (.int .i64 l) ∧ w'.cell? ⟨w.heap.size, 3, none⟩ = some (.int .u32 (m : Nat))) (first | go_keep | (refine ⟨?_, ?_, ?_, ?_⟩ <;> assumption))
          (first
            | ((go_at_call 19; have := hbel4; refine (ht2 _ hw4).mono ?_; rintro e w5 ⟨rfl, hbel5⟩; have hB5 := hB4.trans (hbel5.mono hB4.size); obtain ⟨⟨o0, o1, o2, o3⟩, hlt5, hw5⟩ := hk.out w5 hB5))
            | ((go_at_call 18; refine (ht1 _ hw3.drew).mono ?_; rintro e w4 ⟨rfl, hbel4'⟩; have hbel4 := below_of_drew hbel4'; have hB4 := hB3.trans (hbel4.mono hB3.size); obtain ⟨⟨i0, i1, i2, i3⟩, hlt4, hw4⟩ := hk.out w4 hB4)))
        go_wp2_with (first
          | (go_at_call 7; go_must (have := hbel8; refine (hA _).mono ?_; rintro e w9 ⟨rfl, hbel9⟩))
          | (go_at_call 10; go_must (have := hbel7; refine (hss a6 0 c6 none 0 [] _ (row_nil _ _ _) (row_nil _ _ _)).mono ?_; rintro e w8 ⟨rfl, hbel8⟩))
          | (go_at_call 21; go_must (have := hbel6; refine (hpm _).mono ?_; rintro e w7 ⟨rfl, hbel7⟩; obtain ⟨⟨v0, v1, v2, v3, v4, v5⟩, hlt7, h67⟩ := six_keep hbel7; have hB7 := hB6.trans (h67.mono hB6.size); obtain ⟨⟨q0, q1, q2, q3⟩, hltq, hw7⟩ := hk.out w7 hB7))
          | (go_at_call 20; go_must (refine (hfar1 _ hw5).mono ?_; rintro e w6 ⟨a6, c6, rfl, hbel6⟩; have hB6 := hB5.trans (hbel6.mono hB5.size); obtain ⟨⟨p0, p1, p2, p3⟩, hlt6, hw6⟩ := hk.out w6 hB6)))
        have hb8 := hw7.trans (hbel8.mono hw7.size)
        go_ret
        exact ⟨by simp, hb8.trans (hbel9.mono hb8.size)⟩
      | true =>
        rw [hmay] at hpm
        have hfar1 : ∀ W, Below w.heap.size w W → Calls Try.prog 20 #[.int .i64 s, .int .i64 y, .slice a n c] W fun e w' => ∃ a' c', e = .returned (.tuple #[.agg #[.bool true, .slice a' 0 c', .int .i64 s, .int .i64 y, .int .i64 (n : Nat), .int .u32 (S : Nat)], .int .i64 0]) ∧ Below W.heap.size W w' := fun W hW => by
          refine (hfar W hW).mono ?_
          rintro e w' (⟨h, h'⟩ | ⟨h, h'⟩)
          · exact h'
          · rw [hmay] at h; cases h
        clear hfar hmay
        go_enter Try.func6, Try.ntmps6
        go_wp2_with (first
          | (go_at_call 10; go_must (have := hbel2; refine (hss a2 n c2 a c vs _ (r2.below (below_alloc _ _) (Nat.le_refl _)) (hr.below (hw2.alloc hw2.size _) (Nat.le_refl _))).mono ?_; rintro e w3 ⟨rfl, hbel3⟩; have hB2a := hB2.alloc hB2.size (.cells #[.bool false, .slice a2 n c2, .int .i64 0, .int .i64 0, .int .i64 0, .int .u32 0] 27); have hB3 := hB2a.trans (hbel3.mono hB2a.size); obtain ⟨⟨k0, k1, k2, k3⟩, hlt3, hw3⟩ := hk.out w3 hB3))
          | (at_builtin; go_must (refine append_u8 (w0 := w.alloc (.cells #[.int .i64 s, .int .i64 y, .int .i64 l, .int .u32 (m : Nat)] 25)) (B := (w.alloc (.cells #[.int .i64 s, .int .i64 y, .int .i64 l, .int .u32 (m : Nat)] 25)).heap.size) rfl (.tmp 16) (.tmp 17) rfl _ 0 [] rfl hown0 a n c vs rfl hr2 hnil (by omega) hbA (by simp) ?_; intro a1 c1 w1 hown1 hbel1 hsz1; rw [Nat.zero_add, List.nil_append] at hown1; rw [Nat.zero_add]; obtain ⟨r1, n1, _⟩ := row_of_owns hown1 hsm (by omega)))
          | (go_at_call 17; go_must (refine (hnear1 _ _ _ r1 n1).mono ?_; rintro e w2 ⟨a2, c2, rfl, r2, hbel2⟩; have hB2 := hbel1.trans (hbel2.mono hbel1.size); obtain ⟨_, hlt2, hw2⟩ := hk.out w2 hB2)))
        go_region_held3 (fun w' => w'.cell? ⟨w.heap.size, 0, none⟩ = some (.int .i64 s) ∧ w'.cell? ⟨w.heap.size, 1, none⟩ = some (.int .i64 y) ∧ w'.cell? ⟨w.heap.size, 2, none⟩ = some (.int .i64 l) ∧ w'.cell? ⟨w.heap.size, 3, none⟩ = some (.int .u32 (m : Nat))) (first | go_keep | (refine ⟨?_, ?_, ?_, ?_⟩ <;> assumption))
          (first
            | ((go_at_call 19; have := hbel4; refine (ht2 _ hw4).mono ?_; rintro e w5 ⟨rfl, hbel5⟩; have hB5 := hB4.trans (hbel5.mono hB4.size); obtain ⟨⟨o0, o1, o2, o3⟩, hlt5, hw5⟩ := hk.out w5 hB5))
            | ((go_at_call 18; refine (ht1 _ hw3.drew).mono ?_; rintro e w4 ⟨rfl, hbel4'⟩; have hbel4 := below_of_drew hbel4'; have hB4 := hB3.trans (hbel4.mono hB3.size); obtain ⟨⟨i0, i1, i2, i3⟩, hlt4, hw4⟩ := hk.out w4 hB4)))
        go_wp2_with (first
          | (go_at_call 7; go_must (have := hbel9; refine (hA _).mono ?_; rintro e w10 ⟨rfl, hbel10⟩))
          | (go_at_call 18; go_must (have := hbel8; refine (ht3 _ hw8).mono ?_; rintro e w9 ⟨rfl, hbel9⟩))
          | (go_at_call 19; go_must (have := hbel7; refine (ht4 _ hw7).mono ?_; rintro e w8 ⟨rfl, hbel8⟩; have h78 := hbel7.trans (hbel8.mono hbel7.size); obtain ⟨⟨x0, x1, x2, x3, x4, x5⟩, hlt8, h68⟩ := six_keep h78; have hw8 := hw7.trans (hbel8.mono hw7.size)))
          | (go_at_call 21; go_must (have := hbel6; refine (hpm _).mono ?_; rintro e w7 ⟨rfl, hbel7⟩; obtain ⟨⟨v0, v1, v2, v3, v4, v5⟩, hlt7, h67⟩ := six_keep hbel7; have hB7 := hB6.trans (h67.mono hB6.size); obtain ⟨⟨q0, q1, q2, q3⟩, hltq, hw7⟩ := hk.out w7 hB7))
          | (go_at_call 20; go_must (refine (hfar1 _ hw5).mono ?_; rintro e w6 ⟨a6, c6, rfl, hbel6⟩; have hB6 := hB5.trans (hbel6.mono hB5.size); obtain ⟨⟨p0, p1, p2, p3⟩, hlt6, hw6⟩ := hk.out w6 hB6)))
        have hb9 := hw8.trans (hbel9.mono hw8.size)
        go_ret
        exact ⟨by simp, hb9.trans (hbel10.mono hb9.size)⟩
    · have hnear1 : ∀ a1 c1 W, Row .u8 W a1 n vs → (a1 = none → n = 0 ∧ c1 = 0) → Calls Try.prog 17 #[.slice a1 n c1, .int .i64 z] W fun e w' => ∃ a' c', e = .returned (.tuple #[.agg #[.bool false, .slice a' 0 c', .int .i64 0, .int .i64 0, .int .i64 0, .int .u32 0], .bool false]) ∧ Below W.heap.size W w' := fun a1 c1 W h h' => by
        refine (hnear a1 c1 W h h').mono ?_
        rintro e w' (⟨h, _⟩ | ⟨_, h⟩)
        · omega
        · exact h
      clear hnear
      have hd1 : decide ((n : Int) ≤ z) = true := by simp; omega
      have hd2 : decide ((n : Int) ≤ 32) = false := by simp; omega
      cases hmay : Po.may (s, y, (n : Int), 0) with
      | false =>
        rw [hmay] at hpm
        have hfar1 : ∀ W, Below w.heap.size w W → Calls Try.prog 20 #[.int .i64 s, .int .i64 y, .slice a n c] W fun e w' => ∃ a' c', e = .returned (.tuple #[.agg #[.bool false, .slice a' 0 c', .int .i64 0, .int .i64 0, .int .i64 0, .int .u32 0], .int .i64 1]) ∧ Below W.heap.size W w' := fun W hW => by
          refine (hfar W hW).mono ?_
          rintro e w' (⟨h, h'⟩ | ⟨h, h'⟩)
          · rw [hmay] at h; cases h
          · exact h'
        clear hfar hmay
        go_enter Try.func6, Try.ntmps6
        go_wp2_with (first
          | (go_at_call 10; go_must (have := hbel2; refine (hss a2 0 c2 none 0 [] _ (row_nil _ _ _) (row_nil _ _ _)).mono ?_; rintro e w3 ⟨rfl, hbel3⟩; have hB2a := hB2.alloc hB2.size (.cells #[.bool false, .slice a2 0 c2, .int .i64 0, .int .i64 0, .int .i64 0, .int .u32 0] 27); have hB3 := hB2a.trans (hbel3.mono hB2a.size); obtain ⟨⟨k0, k1, k2, k3⟩, hlt3, hw3⟩ := hk.out w3 hB3))
          | (at_builtin; go_must (refine append_u8 (w0 := w.alloc (.cells #[.int .i64 s, .int .i64 y, .int .i64 l, .int .u32 (m : Nat)] 25)) (B := (w.alloc (.cells #[.int .i64 s, .int .i64 y, .int .i64 l, .int .u32 (m : Nat)] 25)).heap.size) rfl (.tmp 16) (.tmp 17) rfl _ 0 [] rfl hown0 a n c vs rfl hr2 hnil (by omega) hbA (by simp) ?_; intro a1 c1 w1 hown1 hbel1 hsz1; rw [Nat.zero_add, List.nil_append] at hown1; rw [Nat.zero_add]; obtain ⟨r1, n1, _⟩ := row_of_owns hown1 hsm (by omega)))
          | (go_at_call 17; go_must (refine (hnear1 _ _ _ r1 n1).mono ?_; rintro e w2 ⟨a2, c2, rfl, hbel2⟩; have hB2 := hbel1.trans (hbel2.mono hbel1.size); obtain ⟨_, hlt2, hw2⟩ := hk.out w2 hB2)))
        go_region_held3 (fun w' => w'.cell? ⟨w.heap.size, 0, none⟩ = some (.int .i64 s) ∧ w'.cell? ⟨w.heap.size, 1, none⟩ = some (.int .i64 y) ∧ w'.cell? ⟨w.heap.size, 2, none⟩ = some (.int .i64 l) ∧ w'.cell? ⟨w.heap.size, 3, none⟩ = some (.int .u32 (m : Nat))) (first | go_keep | (refine ⟨?_, ?_, ?_, ?_⟩ <;> assumption))
          (first
            | ((go_at_call 19; have := hbel4; refine (ht2 _ hw4).mono ?_; rintro e w5 ⟨rfl, hbel5⟩; have hB5 := hB4.trans (hbel5.mono hB4.size); obtain ⟨⟨o0, o1, o2, o3⟩, hlt5, hw5⟩ := hk.out w5 hB5))
            | ((go_at_call 18; refine (ht1 _ hw3.drew).mono ?_; rintro e w4 ⟨rfl, hbel4'⟩; have hbel4 := below_of_drew hbel4'; have hB4 := hB3.trans (hbel4.mono hB3.size); obtain ⟨⟨i0, i1, i2, i3⟩, hlt4, hw4⟩ := hk.out w4 hB4)))
        go_wp2_with (first
          | (go_at_call 7; go_must (have := hbel8; refine (hA _).mono ?_; rintro e w9 ⟨rfl, hbel9⟩))
          | (go_at_call 10; go_must (have := hbel7; refine (hss a6 0 c6 none 0 [] _ (row_nil _ _ _) (row_nil _ _ _)).mono ?_; rintro e w8 ⟨rfl, hbel8⟩))
          | (go_at_call 21; go_must (have := hbel6; refine (hpm _).mono ?_; rintro e w7 ⟨rfl, hbel7⟩; obtain ⟨⟨v0, v1, v2, v3, v4, v5⟩, hlt7, h67⟩ := six_keep hbel7; have hB7 := hB6.trans (h67.mono hB6.size); obtain ⟨⟨q0, q1, q2, q3⟩, hltq, hw7⟩ := hk.out w7 hB7))
          | (go_at_call 20; go_must (refine (hfar1 _ hw5).mono ?_; rintro e w6 ⟨a6, c6, rfl, hbel6⟩; have hB6 := hB5.trans (hbel6.mono hB5.size); obtain ⟨⟨p0, p1, p2, p3⟩, hlt6, hw6⟩ := hk.out w6 hB6)))
        have hb8 := hw7.trans (hbel8.mono hw7.size)
        go_ret
        exact ⟨by simp, hb8.trans (hbel9.mono hb8.size)⟩
      | true =>
        rw [hmay] at hpm
        have hfar1 : ∀ W, Below w.heap.size w W → Calls Try.prog 20 #[.int .i64 s, .int .i64 y, .slice a n c] W fun e w' => ∃ a' c', e = .returned (.tuple #[.agg #[.bool true, .slice a' 0 c', .int .i64 s, .int .i64 y, .int .i64 (n : Nat), .int .u32 (S : Nat)], .int .i64 0]) ∧ Below W.heap.size W w' := fun W hW => by
          refine (hfar W hW).mono ?_
          rintro e w' (⟨h, h'⟩ | ⟨h, h'⟩)
          · exact h'
          · rw [hmay] at h; cases h
        clear hfar hmay
        go_enter Try.func6, Try.ntmps6
        go_wp2_with (first
          | (go_at_call 10; go_must (have := hbel2; refine (hss a2 0 c2 none 0 [] _ (row_nil _ _ _) (row_nil _ _ _)).mono ?_; rintro e w3 ⟨rfl, hbel3⟩; have hB2a := hB2.alloc hB2.size (.cells #[.bool false, .slice a2 0 c2, .int .i64 0, .int .i64 0, .int .i64 0, .int .u32 0] 27); have hB3 := hB2a.trans (hbel3.mono hB2a.size); obtain ⟨⟨k0, k1, k2, k3⟩, hlt3, hw3⟩ := hk.out w3 hB3))
          | (at_builtin; go_must (refine append_u8 (w0 := w.alloc (.cells #[.int .i64 s, .int .i64 y, .int .i64 l, .int .u32 (m : Nat)] 25)) (B := (w.alloc (.cells #[.int .i64 s, .int .i64 y, .int .i64 l, .int .u32 (m : Nat)] 25)).heap.size) rfl (.tmp 16) (.tmp 17) rfl _ 0 [] rfl hown0 a n c vs rfl hr2 hnil (by omega) hbA (by simp) ?_; intro a1 c1 w1 hown1 hbel1 hsz1; rw [Nat.zero_add, List.nil_append] at hown1; rw [Nat.zero_add]; obtain ⟨r1, n1, _⟩ := row_of_owns hown1 hsm (by omega)))
          | (go_at_call 17; go_must (refine (hnear1 _ _ _ r1 n1).mono ?_; rintro e w2 ⟨a2, c2, rfl, hbel2⟩; have hB2 := hbel1.trans (hbel2.mono hbel1.size); obtain ⟨_, hlt2, hw2⟩ := hk.out w2 hB2)))
        go_region_held3 (fun w' => w'.cell? ⟨w.heap.size, 0, none⟩ = some (.int .i64 s) ∧ w'.cell? ⟨w.heap.size, 1, none⟩ = some (.int .i64 y) ∧ w'.cell? ⟨w.heap.size, 2, none⟩ = some (.int .i64 l) ∧ w'.cell? ⟨w.heap.size, 3, none⟩ = some (.int .u32 (m : Nat))) (first | go_keep | (refine ⟨?_, ?_, ?_, ?_⟩ <;> assumption))
          (first
            | ((go_at_call 19; have := hbel4; refine (ht2 _ hw4).mono ?_; rintro e w5 ⟨rfl, hbel5⟩; have hB5 := hB4.trans (hbel5.mono hB4.size); obtain ⟨⟨o0, o1, o2, o3⟩, hlt5, hw5⟩ := hk.out w5 hB5))
            | ((go_at_call 18; refine (ht1 _ hw3.drew).mono ?_; rintro e w4 ⟨rfl, hbel4'⟩; have hbel4 := below_of_drew hbel4'; have hB4 := hB3.trans (hbel4.mono hB3.size); obtain ⟨⟨i0, i1, i2, i3⟩, hlt4, hw4⟩ := hk.out w4 hB4)))
        go_wp2_with (first
          | (go_at_call 7; go_must (have := hbel9; refine (hA _).mono ?_; rintro e w10 ⟨rfl, hbel10⟩))
          | (go_at_call 18; go_must (have := hbel8; refine (ht3 _ hw8).mono ?_; rintro e w9 ⟨rfl, hbel9⟩))
          | (go_at_call 19; go_must (have := hbel7; refine (ht4 _ hw7).mono ?_; rintro e w8 ⟨rfl, hbel8⟩; have h78 := hbel7.trans (hbel8.mono hbel7.size); obtain ⟨⟨x0, x1, x2, x3, x4, x5⟩, hlt8, h68⟩ := six_keep h78; have hw8 := hw7.trans (hbel8.mono hw7.size)))
          | (go_at_call 21; go_must (have := hbel6; refine (hpm _).mono ?_; rintro e w7 ⟨rfl, hbel7⟩; obtain ⟨⟨v0, v1, v2, v3, v4, v5⟩, hlt7, h67⟩ := six_keep hbel7; have hB7 := hB6.trans (h67.mono hB6.size); obtain ⟨⟨q0, q1, q2, q3⟩, hltq, hw7⟩ := hk.out w7 hB7))
          | (go_at_call 20; go_must (refine (hfar1 _ hw5).mono ?_; rintro e w6 ⟨a6, c6, rfl, hbel6⟩; have hB6 := hB5.trans (hbel6.mono hB5.size); obtain ⟨⟨p0, p1, p2, p3⟩, hlt6, hw6⟩ := hk.out w6 hB6)))
        have hb9 := hw8.trans (hbel9.mono hw8.size)
        go_ret
        exact ⟨by simp, hb9.trans (hbel10.mono hb9.size)⟩
  · have hnear1 : ∀ a1 c1 W, Row .u8 W a1 n vs → (a1 = none → n = 0 ∧ c1 = 0) → Calls Try.prog 17 #[.slice a1 n c1, .int .i64 z] W fun e w' => ∃ a' c', e = .returned (.tuple #[.agg #[.bool false, .slice a' 0 c', .int .i64 0, .int .i64 0, .int .i64 0, .int .u32 0], .bool false]) ∧ Below W.heap.size W w' := fun a1 c1 W h h' => by
      refine (hnear a1 c1 W h h').mono ?_
      rintro e w' (⟨h, _⟩ | ⟨_, h⟩)
      · omega
      · exact h
    clear hnear
    have hd1 : decide ((n : Int) ≤ z) = false := by simp; omega
    cases hmay : Po.may (s, y, (n : Int), 0) with
    | false =>
      rw [hmay] at hpm
      have hfar1 : ∀ W, Below w.heap.size w W → Calls Try.prog 20 #[.int .i64 s, .int .i64 y, .slice a n c] W fun e w' => ∃ a' c', e = .returned (.tuple #[.agg #[.bool false, .slice a' 0 c', .int .i64 0, .int .i64 0, .int .i64 0, .int .u32 0], .int .i64 1]) ∧ Below W.heap.size W w' := fun W hW => by
        refine (hfar W hW).mono ?_
        rintro e w' (⟨h, h'⟩ | ⟨h, h'⟩)
        · rw [hmay] at h; cases h
        · exact h'
      clear hfar hmay
      go_enter Try.func6, Try.ntmps6
      go_wp2_with (first
        | (go_at_call 10; go_must (have := hbel2; refine (hss a2 0 c2 none 0 [] _ (row_nil _ _ _) (row_nil _ _ _)).mono ?_; rintro e w3 ⟨rfl, hbel3⟩; have hB2a := hB2.alloc hB2.size (.cells #[.bool false, .slice a2 0 c2, .int .i64 0, .int .i64 0, .int .i64 0, .int .u32 0] 27); have hB3 := hB2a.trans (hbel3.mono hB2a.size); obtain ⟨⟨k0, k1, k2, k3⟩, hlt3, hw3⟩ := hk.out w3 hB3))
        | (at_builtin; go_must (refine append_u8 (w0 := w.alloc (.cells #[.int .i64 s, .int .i64 y, .int .i64 l, .int .u32 (m : Nat)] 25)) (B := (w.alloc (.cells #[.int .i64 s, .int .i64 y, .int .i64 l, .int .u32 (m : Nat)] 25)).heap.size) rfl (.tmp 16) (.tmp 17) rfl _ 0 [] rfl hown0 a n c vs rfl hr2 hnil (by omega) hbA (by simp) ?_; intro a1 c1 w1 hown1 hbel1 hsz1; rw [Nat.zero_add, List.nil_append] at hown1; rw [Nat.zero_add]; obtain ⟨r1, n1, _⟩ := row_of_owns hown1 hsm (by omega)))
        | (go_at_call 17; go_must (refine (hnear1 _ _ _ r1 n1).mono ?_; rintro e w2 ⟨a2, c2, rfl, hbel2⟩; have hB2 := hbel1.trans (hbel2.mono hbel1.size); obtain ⟨_, hlt2, hw2⟩ := hk.out w2 hB2)))
      go_region_held3 (fun w' => w'.cell? ⟨w.heap.size, 0, none⟩ = some (.int .i64 s) ∧ w'.cell? ⟨w.heap.size, 1, none⟩ = some (.int .i64 y) ∧ w'.cell? ⟨w.heap.size, 2, none⟩ = some (.int .i64 l) ∧ w'.cell? ⟨w.heap.size, 3, none⟩ = some (.int .u32 (m : Nat))) (first | go_keep | (refine ⟨?_, ?_, ?_, ?_⟩ <;> assumption))
        (first
          | ((go_at_call 19; have := hbel4; refine (ht2 _ hw4).mono ?_; rintro e w5 ⟨rfl, hbel5⟩; have hB5 := hB4.trans (hbel5.mono hB4.size); obtain ⟨⟨o0, o1, o2, o3⟩, hlt5, hw5⟩ := hk.out w5 hB5))
          | ((go_at_call 18; refine (ht1 _ hw3.drew).mono ?_; rintro e w4 ⟨rfl, hbel4'⟩; have hbel4 := below_of_drew hbel4'; have hB4 := hB3.trans (hbel4.mono hB3.size); obtain ⟨⟨i0, i1, i2, i3⟩, hlt4, hw4⟩ := hk.out w4 hB4)))
      go_wp2_with (first
        | (go_at_call 7; go_must (have := hbel8; refine (hA _).mono ?_; rintro e w9 ⟨rfl, hbel9⟩))
        | (go_at_call 10; go_must (have := hbel7; refine (hss a6 0 c6 none 0 [] _ (row_nil _ _ _) (row_nil _ _ _)).mono ?_; rintro e w8 ⟨rfl, hbel8⟩))
        | (go_at_call 21; go_must (have := hbel6; refine (hpm _).mono ?_; rintro e w7 ⟨rfl, hbel7⟩; obtain ⟨⟨v0, v1, v2, v3, v4, v5⟩, hlt7, h67⟩ := six_keep hbel7; have hB7 := hB6.trans (h67.mono hB6.size); obtain ⟨⟨q0, q1, q2, q3⟩, hltq, hw7⟩ := hk.out w7 hB7))
        | (go_at_call 20; go_must (refine (hfar1 _ hw5).mono ?_; rintro e w6 ⟨a6, c6, rfl, hbel6⟩; have hB6 := hB5.trans (hbel6.mono hB5.size); obtain ⟨⟨p0, p1, p2, p3⟩, hlt6, hw6⟩ := hk.out w6 hB6)))
      have hb8 := hw7.trans (hbel8.mono hw7.size)
      go_ret
      exact ⟨by simp, hb8.trans (hbel9.mono hb8.size)⟩
    | true =>
      rw [hmay] at hpm
      have hfar1 : ∀ W, Below w.heap.size w W → Calls Try.prog 20 #[.int .i64 s, .int .i64 y, .slice a n c] W fun e w' => ∃ a' c', e = .returned (.tuple #[.agg #[.bool true, .slice a' 0 c', .int .i64 s, .int .i64 y, .int .i64 (n : Nat), .int .u32 (S : Nat)], .int .i64 0]) ∧ Below W.heap.size W w' := fun W hW => by
        refine (hfar W hW).mono ?_
        rintro e w' (⟨h, h'⟩ | ⟨h, h'⟩)
        · exact h'
        · rw [hmay] at h; cases h
      clear hfar hmay
      go_enter Try.func6, Try.ntmps6
      go_wp2_with (first
        | (go_at_call 10; go_must (have := hbel2; refine (hss a2 0 c2 none 0 [] _ (row_nil _ _ _) (row_nil _ _ _)).mono ?_; rintro e w3 ⟨rfl, hbel3⟩; have hB2a := hB2.alloc hB2.size (.cells #[.bool false, .slice a2 0 c2, .int .i64 0, .int .i64 0, .int .i64 0, .int .u32 0] 27); have hB3 := hB2a.trans (hbel3.mono hB2a.size); obtain ⟨⟨k0, k1, k2, k3⟩, hlt3, hw3⟩ := hk.out w3 hB3))
        | (at_builtin; go_must (refine append_u8 (w0 := w.alloc (.cells #[.int .i64 s, .int .i64 y, .int .i64 l, .int .u32 (m : Nat)] 25)) (B := (w.alloc (.cells #[.int .i64 s, .int .i64 y, .int .i64 l, .int .u32 (m : Nat)] 25)).heap.size) rfl (.tmp 16) (.tmp 17) rfl _ 0 [] rfl hown0 a n c vs rfl hr2 hnil (by omega) hbA (by simp) ?_; intro a1 c1 w1 hown1 hbel1 hsz1; rw [Nat.zero_add, List.nil_append] at hown1; rw [Nat.zero_add]; obtain ⟨r1, n1, _⟩ := row_of_owns hown1 hsm (by omega)))
        | (go_at_call 17; go_must (refine (hnear1 _ _ _ r1 n1).mono ?_; rintro e w2 ⟨a2, c2, rfl, hbel2⟩; have hB2 := hbel1.trans (hbel2.mono hbel1.size); obtain ⟨_, hlt2, hw2⟩ := hk.out w2 hB2)))
      go_region_held3 (fun w' => w'.cell? ⟨w.heap.size, 0, none⟩ = some (.int .i64 s) ∧ w'.cell? ⟨w.heap.size, 1, none⟩ = some (.int .i64 y) ∧ w'.cell? ⟨w.heap.size, 2, none⟩ = some (.int .i64 l) ∧ w'.cell? ⟨w.heap.size, 3, none⟩ = some (.int .u32 (m : Nat))) (first | go_keep | (refine ⟨?_, ?_, ?_, ?_⟩ <;> assumption))
        (first
          | ((go_at_call 19; have := hbel4; refine (ht2 _ hw4).mono ?_; rintro e w5 ⟨rfl, hbel5⟩; have hB5 := hB4.trans (hbel5.mono hB4.size); obtain ⟨⟨o0, o1, o2, o3⟩, hlt5, hw5⟩ := hk.out w5 hB5))
          | ((go_at_call 18; refine (ht1 _ hw3.drew).mono ?_; rintro e w4 ⟨rfl, hbel4'⟩; have hbel4 := below_of_drew hbel4'; have hB4 := hB3.trans (hbel4.mono hB3.size); obtain ⟨⟨i0, i1, i2, i3⟩, hlt4, hw4⟩ := hk.out w4 hB4)))
      go_wp2_with (first
        | (go_at_call 7; go_must (have := hbel9; refine (hA _).mono ?_; rintro e w10 ⟨rfl, hbel10⟩))
        | (go_at_call 18; go_must (have := hbel8; refine (ht3 _ hw8).mono ?_; rintro e w9 ⟨rfl, hbel9⟩))
        | (go_at_call 19; go_must (have := hbel7; refine (ht4 _ hw7).mono ?_; rintro e w8 ⟨rfl, hbel8⟩; have h78 := hbel7.trans (hbel8.mono hbel7.size); obtain ⟨⟨x0, x1, x2, x3, x4, x5⟩, hlt8, h68⟩ := six_keep h78; have hw8 := hw7.trans (hbel8.mono hw7.size)))
        | (go_at_call 21; go_must (have := hbel6; refine (hpm _).mono ?_; rintro e w7 ⟨rfl, hbel7⟩; obtain ⟨⟨v0, v1, v2, v3, v4, v5⟩, hlt7, h67⟩ := six_keep hbel7; have hB7 := hB6.trans (h67.mono hB6.size); obtain ⟨⟨q0, q1, q2, q3⟩, hltq, hw7⟩ := hk.out w7 hB7))
        | (go_at_call 20; go_must (refine (hfar1 _ hw5).mono ?_; rintro e w6 ⟨a6, c6, rfl, hbel6⟩; have hB6 := hB5.trans (hbel6.mono hB5.size); obtain ⟨⟨p0, p1, p2, p3⟩, hlt6, hw6⟩ := hk.out w6 hB6)))
      have hb9 := hw8.trans (hbel9.mono hw8.size)
      go_ret
      exact ⟨by simp, hb9.trans (hbel10.mono hb9.size)⟩
end Go.Proofs.Ytgmcjalcpgldhaa
