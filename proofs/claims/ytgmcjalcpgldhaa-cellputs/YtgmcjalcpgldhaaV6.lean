/- The law CellPuts, given the program's contracts. -/
import Derived.Test.YtgmcjalcpgldhaaV5
namespace Go.Proofs.Ytgmcjalcpgldhaa
open Go.RowKit

/-- the reference's Put of a cell that may be -/
theorem ceput_any (f : Bool) (a : Option Addr) (n c : Nat) (bs : List Nat) (p : Po.P) (w : World) (hr : Row .u8 w a n bs) (hnil : a = none → n = 0 ∧ c = 0) (hf : Po.Fits p) (hmay : Ce.may (f, bs, p) = true) :
    Calls Try.prog 14 #[cv f a n c p] w (Made .u8 5 w (Ce.put (f, bs, p))) := by
  cases f with
  | true =>
    obtain ⟨rfl, hp⟩ := Ce.may_far.mp hmay
    have hn : n = 0 := by have := hr.1; simpa using this.symm
    subst hn
    have e : Ce.put (true, [], p) = 1 :: Po.put p := by simp [Ce.put]
    rw [e]
    exact ceput_far a c p w hp hf
  | false =>
    obtain ⟨hl, rfl⟩ := Ce.may_near.mp hmay
    have e : Ce.put (false, bs, Po.zero) = 0 :: (Va.one n ++ bs) := by simp [Ce.put, hr.1]
    rw [e]
    exact ceput_near a n c bs Po.zero w (by rw [← hr.1]; exact hl) hr hnil

set_option maxRecDepth 100000 in
set_option maxHeartbeats 1000000 in
theorem ceputs_long (hP : CPutC) (f : Bool) (a : Option Addr) (n c : Nat) (p : Po.P) (f' : Bool) (a' : Option Addr) (n' c' : Nat) (p' : Po.P) (w : World) (h : 200 < n ∨ 200 < n') :
    Calls Try.prog 3 #[cv f a n c p, cv f' a' n' c' p'] w fun e w' => e = .returned (.bool true) ∧ Below w.heap.size w w' := by
  have hA := fun w => ceawake hP w
  obtain ⟨s, y, l, m⟩ := p
  obtain ⟨s', y', l', m'⟩ := p'
  simp only [cv]
  have hb0 : Below w.heap.size w ((w.alloc (.cells #[.bool f, .slice a n c, .int .i64 s, .int .i64 y, .int .i64 l, .int .u32 (m : Nat)] 27)).alloc (.cells #[.bool f', .slice a' n' c', .int .i64 s', .int .i64 y', .int .i64 l', .int .u32 (m' : Nat)] 27)) := (below_alloc _ _).alloc (by simp) _
  by_cases h1 : 200 < n
  · go_enter Try.func3, Try.ntmps3
    go_wp2_with (go_at_call 7; go_must (refine (hA _).mono ?_; rintro e w2 ⟨rfl, hbel2⟩))
    go_ret
    exact ⟨rfl, hb0.trans (hbel2.mono hb0.size)⟩
  · have h2 : 200 < n' := by omega
    clear h
    go_enter Try.func3, Try.ntmps3
    go_wp2_with (go_at_call 7; go_must (refine (hA _).mono ?_; rintro e w2 ⟨rfl, hbel2⟩))
    go_ret
    exact ⟨rfl, hb0.trans (hbel2.mono hb0.size)⟩

set_option maxRecDepth 100000 in
set_option maxHeartbeats 4000000 in
theorem ceputs_any (hP : CPutC) (hC : CCheckC) (hS : CSameC) (f : Bool) (a : Option Addr) (n c : Nat) (bs : List Nat) (p : Po.P) (f' : Bool) (a' : Option Addr) (n' c' : Nat) (bs' : List Nat) (p' : Po.P) (w : World) (hr : Row .u8 w a n bs) (hnil : a = none → n = 0 ∧ c = 0) (hf : Po.Fits p) (hr' : Row .u8 w a' n' bs') (hl : n ≤ 200) (hl' : n' ≤ 200) :
    Calls Try.prog 3 #[cv f a n c p, cv f' a' n' c' p'] w fun e w' => e = .returned (.bool true) ∧ Below w.heap.size w w' := by
  have hA := fun w => ceawake hP w
  have hm := fun W => cemay_any f a n c bs p W hr.1 (by omega)
  have hc := fun W (h : Below w.heap.size w W) => hC f a n c bs p W (hr.below h (Nat.le_refl _)) hf
  have hs1 := fun W (h : Below w.heap.size w W) => hS f a n c bs p f' a' n' c' bs' p' W (by omega) (by omega) (hr.below h (Nat.le_refl _)) (hr'.below h (Nat.le_refl _))
  have hs2 := fun W (h : Below w.heap.size w W) => cesame_any f a n c bs p f' a' n' c' bs' p' W (hr.below h (Nat.le_refl _)) (hr'.below h (Nat.le_refl _))
  have hs3 := fun W (h : Below w.heap.size w W) => hS f a n c bs p f a n c bs p W (by omega) (by omega) (hr.below h (Nat.le_refl _)) (hr.below h (Nat.le_refl _))
  rw [ce_same_self] at hs3
  have hp := fun W (h : Below w.heap.size w W) => hP f a n c bs p W (hr.below h (Nat.le_refl _)) hnil hf
  have hrp := fun W (h : Below w.heap.size w W) hmay => ceput_any f a n c bs p W (hr.below h (Nat.le_refl _)) hnil hf hmay
  have hsm : ∀ u ∈ Ce.put (f, bs, p), u < lim .u8 := Ce.put_small hr.2.2.1
  have hql := fun h => Ce.put_len (c := (f, bs, p)) h
  generalize Ce.same (f, bs, p) (f', bs', p') = r at *
  obtain ⟨s, y, l, m⟩ := p
  obtain ⟨s', y', l', m'⟩ := p'
  simp only [cv] at hm hc hs1 hs2 hs3 hp hrp ⊢
  have hk : Hid (∀ W, Below ((w.alloc (.cells #[.bool f, .slice a n c, .int .i64 s, .int .i64 y, .int .i64 l, .int .u32 (m : Nat)] 27)).alloc (.cells #[.bool f', .slice a' n' c', .int .i64 s', .int .i64 y', .int .i64 l', .int .u32 (m' : Nat)] 27)).heap.size ((w.alloc (.cells #[.bool f, .slice a n c, .int .i64 s, .int .i64 y, .int .i64 l, .int .u32 (m : Nat)] 27)).alloc (.cells #[.bool f', .slice a' n' c', .int .i64 s', .int .i64 y', .int .i64 l', .int .u32 (m' : Nat)] 27)) W → (W.cell? ⟨w.heap.size, 0, none⟩ = some (.bool f) ∧ W.cell? ⟨w.heap.size, 1, none⟩ = some (.slice a n c) ∧ W.cell? ⟨w.heap.size, 2, none⟩ = some (.int .i64 s) ∧ W.cell? ⟨w.heap.size, 3, none⟩ = some (.int .i64 y) ∧ W.cell? ⟨w.heap.size, 4, none⟩ = some (.int .i64 l) ∧ W.cell? ⟨w.heap.size, 5, none⟩ = some (.int .u32 (m : Nat))) ∧ (W.cell? ⟨w.heap.size + 1, 0, none⟩ = some (.bool f') ∧ W.cell? ⟨w.heap.size + 1, 1, none⟩ = some (.slice a' n' c') ∧ W.cell? ⟨w.heap.size + 1, 2, none⟩ = some (.int .i64 s') ∧ W.cell? ⟨w.heap.size + 1, 3, none⟩ = some (.int .i64 y') ∧ W.cell? ⟨w.heap.size + 1, 4, none⟩ = some (.int .i64 l') ∧ W.cell? ⟨w.heap.size + 1, 5, none⟩ = some (.int .u32 (m' : Nat))) ∧ Below w.heap.size w W) := by
    refine (fun W h => ?_ : ∀ W, Below _ _ W → _)
    have hb0 : Below w.heap.size w ((w.alloc (.cells #[.bool f, .slice a n c, .int .i64 s, .int .i64 y, .int .i64 l, .int .u32 (m : Nat)] 27)).alloc (.cells #[.bool f', .slice a' n' c', .int .i64 s', .int .i64 y', .int .i64 l', .int .u32 (m' : Nat)] 27)) := (below_alloc _ _).alloc (by simp) _
    have h1 : Below (w.alloc (.cells #[.bool f, .slice a n c, .int .i64 s, .int .i64 y, .int .i64 l, .int .u32 (m : Nat)] 27)).heap.size (w.alloc (.cells #[.bool f, .slice a n c, .int .i64 s, .int .i64 y, .int .i64 l, .int .u32 (m : Nat)] 27)) W := (below_alloc _ _).trans (h.mono (by simp))
    obtain ⟨k1, _, _⟩ := six_keep h1
    obtain ⟨k2, _, _⟩ := six_keep h
    simp only [World.size_alloc] at k2
    exact ⟨k1, k2, hb0.trans (h.mono hb0.size)⟩
  have hd200 : decide ((200 : Int) < (n : Int)) = false := by simp; omega
  have hd201 : decide ((200 : Int) < (n' : Int)) = false := by simp; omega
  unfold CPutRes at hp
  clear hr hr' hf hnil
  cases hmay : Ce.may (f, bs, s, y, l, m) with
  | false =>
    rw [hmay] at hm hc
    have hp2 : ∀ W, Below w.heap.size w W → Calls Try.prog 8 #[.agg #[.bool f, .slice a n c, .int .i64 s, .int .i64 y, .int .i64 l, .int .u32 (m : Nat)]] W fun e w' => ∃ a c, e = .returned (.tuple #[.slice a 0 c, .int .i64 1]) ∧ Below W.heap.size W w' := fun W hW => by
      refine (hp W hW).mono ?_
      rintro e w' (⟨h, _⟩ | ⟨_, h⟩)
      · rw [hmay] at h; cases h
      · exact h
    have hc2 : ∀ W, Below w.heap.size w W → Calls Try.prog 12 #[.agg #[.bool f, .slice a n c, .int .i64 s, .int .i64 y, .int .i64 l, .int .u32 (m : Nat)]] W fun e w' => e = .returned (.int .i64 1) ∧ Below W.heap.size W w' := hc
    clear hp hc hmay hrp hql
    go_enter Try.func3, Try.ntmps3
    go_wp2_with (go_at_call 8; go_must (refine (hp2 _ ((below_alloc _ _).alloc (by simp) _)).mono ?_; rintro e w1 ⟨a1, c1, rfl, hbel1⟩; obtain ⟨⟨k0, k1, k2, k3, k4, k5⟩, ⟨k6, k7, k8, k9, k10, k11⟩, hw1⟩ := hk.out w1 hbel1))
    generalize ((w.alloc (.cells #[.bool f, .slice a n c, .int .i64 s, .int .i64 y, .int .i64 l, .int .u32 (m : Nat)] 27)).alloc (.cells #[.bool f', .slice a' n' c', .int .i64 s', .int .i64 y', .int .i64 l', .int .u32 (m' : Nat)] 27)) = W0 at *
    have h11 : Below w1.heap.size w1 w1 := Below.refl _ _
    go_region_held3 (fun w' => w'.cell? ⟨w.heap.size, 0, none⟩ = some (.bool f) ∧ w'.cell? ⟨w.heap.size, 1, none⟩ = some (.slice a n c) ∧ w'.cell? ⟨w.heap.size, 2, none⟩ = some (.int .i64 s) ∧ w'.cell? ⟨w.heap.size, 3, none⟩ = some (.int .i64 y) ∧ w'.cell? ⟨w.heap.size, 4, none⟩ = some (.int .i64 l) ∧ w'.cell? ⟨w.heap.size, 5, none⟩ = some (.int .u32 (m : Nat)) ∧ w'.cell? ⟨w.heap.size + 1, 0, none⟩ = some (.bool f') ∧ w'.cell? ⟨w.heap.size + 1, 1, none⟩ = some (.slice a' n' c') ∧ w'.cell? ⟨w.heap.size + 1, 2, none⟩ = some (.int .i64 s') ∧ w'.cell? ⟨w.heap.size + 1, 3, none⟩ = some (.int .i64 y') ∧ w'.cell? ⟨w.heap.size + 1, 4, none⟩ = some (.int .i64 l') ∧ w'.cell? ⟨w.heap.size + 1, 5, none⟩ = some (.int .u32 (m' : Nat))) (first | go_keep | (refine ⟨?_, ?_, ?_, ?_, ?_, ?_, ?_, ?_, ?_, ?_, ?_, ?_⟩ <;> assumption))
      (first
        | ((go_at_call 9; have := hbel3; refine (hs3 _ hw3).mono ?_; rintro e w4 ⟨rfl, hbel4⟩; have hB4 := hB3.trans (hbel4.mono hB3.size); have h14 := h13.trans (hbel4.mono h13.size); obtain ⟨⟨q0, q1, q2, q3, q4, q5⟩, ⟨q6, q7, q8, q9, q10, q11⟩, hw4⟩ := hk.out w4 hB4))
        | ((go_at_call 10; have := hbel2; refine (hs2 _ hw2).mono ?_; rintro e w3 ⟨rfl, hbel3⟩; have hB3 := hB2.trans (hbel3.mono hB2.size); have h13 := h12.trans (hbel3.mono h12.size); obtain ⟨⟨o0, o1, o2, o3, o4, o5⟩, ⟨o6, o7, o8, o9, o10, o11⟩, hw3⟩ := hk.out w3 hB3))
        | ((go_at_call 9; refine (hs1 _ (hw1.drew)).mono ?_; rintro e w2 ⟨rfl, hbel2'⟩; have hbel2 := below_of_drew hbel2'; have hB2 := hbel1.trans (hbel2.mono hbel1.size); have h12 : Below w1.heap.size w1 w2 := hbel2; obtain ⟨⟨i0, i1, i2, i3, i4, i5⟩, ⟨i6, i7, i8, i9, i10, i11⟩, hw2⟩ := hk.out w2 hB2)))
    go_wp2_with (first
      | (go_at_call 7; go_must (have := hbel6; refine (hA _).mono ?_; rintro e w7 ⟨rfl, hbel7⟩))
      | (go_at_call 12; go_must (have := hbel5; refine (hc2 _ hw5).mono ?_; rintro e w6 ⟨rfl, hbel6⟩))
      | (go_at_call 11; go_must (refine (hm _).mono ?_; rintro e w5 ⟨rfl, hbel5⟩; have hB5 := hB4.trans (hbel5.mono hB4.size); obtain ⟨⟨r0, r1, r2, r3, r4, r5⟩, ⟨r6, r7, r8, r9, r10, r11⟩, hw5⟩ := hk.out w5 hB5)))
    all_goals
      have hb6 := hw5.trans (hbel6.mono hw5.size)
      go_ret
      exact ⟨by simp, hb6.trans (hbel7.mono hb6.size)⟩
  | true =>
    rw [hmay] at hm hc
    have hp2 : ∀ W, Below w.heap.size w W → Calls Try.prog 8 #[.agg #[.bool f, .slice a n c, .int .i64 s, .int .i64 y, .int .i64 l, .int .u32 (m : Nat)]] W fun e w' => ∃ a' c', e = .returned (.tuple #[.slice a' (Ce.put (f, bs, s, y, l, m)).length c', .int .i64 0]) ∧ w'.ownsRow W.heap.size 5 1 (.slice a' (Ce.put (f, bs, s, y, l, m)).length c') (Ce.put (f, bs, s, y, l, m)).length (kcells .u8 (Ce.put (f, bs, s, y, l, m))) ∧ Below W.heap.size W w' := fun W hW => by
      refine (hp W hW).mono ?_
      rintro e w' (⟨_, h⟩ | ⟨h, _⟩)
      · exact h
      · rw [hmay] at h; cases h
    have hc2 : ∀ W, Below w.heap.size w W → Calls Try.prog 12 #[.agg #[.bool f, .slice a n c, .int .i64 s, .int .i64 y, .int .i64 l, .int .u32 (m : Nat)]] W fun e w' => e = .returned (.int .i64 0) ∧ Below W.heap.size W w' := hc
    have hrp2 := fun W h => hrp W h hmay
    have hql2 := hql hmay
    clear hp hc hmay hrp hql
    generalize Ce.put (f, bs, s, y, l, m) = q at *
    go_enter Try.func3, Try.ntmps3
    go_wp2_with (go_at_call 8; go_must (refine (hp2 _ ((below_alloc _ _).alloc (by simp) _)).mono ?_; rintro e w1 ⟨a1, c1, rfl, hown1, hbel1⟩; obtain ⟨⟨k0, k1, k2, k3, k4, k5⟩, ⟨k6, k7, k8, k9, k10, k11⟩, hw1⟩ := hk.out w1 hbel1))
    generalize ((w.alloc (.cells #[.bool f, .slice a n c, .int .i64 s, .int .i64 y, .int .i64 l, .int .u32 (m : Nat)] 27)).alloc (.cells #[.bool f', .slice a' n' c', .int .i64 s', .int .i64 y', .int .i64 l', .int .u32 (m' : Nat)] 27)) = W0 at *
    have h11 : Below w1.heap.size w1 w1 := Below.refl _ _
    go_region_held3 (fun w' => w'.cell? ⟨w.heap.size, 0, none⟩ = some (.bool f) ∧ w'.cell? ⟨w.heap.size, 1, none⟩ = some (.slice a n c) ∧ w'.cell? ⟨w.heap.size, 2, none⟩ = some (.int .i64 s) ∧ w'.cell? ⟨w.heap.size, 3, none⟩ = some (.int .i64 y) ∧ w'.cell? ⟨w.heap.size, 4, none⟩ = some (.int .i64 l) ∧ w'.cell? ⟨w.heap.size, 5, none⟩ = some (.int .u32 (m : Nat)) ∧ w'.cell? ⟨w.heap.size + 1, 0, none⟩ = some (.bool f') ∧ w'.cell? ⟨w.heap.size + 1, 1, none⟩ = some (.slice a' n' c') ∧ w'.cell? ⟨w.heap.size + 1, 2, none⟩ = some (.int .i64 s') ∧ w'.cell? ⟨w.heap.size + 1, 3, none⟩ = some (.int .i64 y') ∧ w'.cell? ⟨w.heap.size + 1, 4, none⟩ = some (.int .i64 l') ∧ w'.cell? ⟨w.heap.size + 1, 5, none⟩ = some (.int .u32 (m' : Nat))) (first | go_keep | (refine ⟨?_, ?_, ?_, ?_, ?_, ?_, ?_, ?_, ?_, ?_, ?_, ?_⟩ <;> assumption))
      (first
        | ((go_at_call 9; have := hbel3; refine (hs3 _ hw3).mono ?_; rintro e w4 ⟨rfl, hbel4⟩; have hB4 := hB3.trans (hbel4.mono hB3.size); have h14 := h13.trans (hbel4.mono h13.size); obtain ⟨⟨q0, q1, q2, q3, q4, q5⟩, ⟨q6, q7, q8, q9, q10, q11⟩, hw4⟩ := hk.out w4 hB4))
        | ((go_at_call 10; have := hbel2; refine (hs2 _ hw2).mono ?_; rintro e w3 ⟨rfl, hbel3⟩; have hB3 := hB2.trans (hbel3.mono hB2.size); have h13 := h12.trans (hbel3.mono h12.size); obtain ⟨⟨o0, o1, o2, o3, o4, o5⟩, ⟨o6, o7, o8, o9, o10, o11⟩, hw3⟩ := hk.out w3 hB3))
        | ((go_at_call 9; refine (hs1 _ (hw1.drew)).mono ?_; rintro e w2 ⟨rfl, hbel2'⟩; have hbel2 := below_of_drew hbel2'; have hB2 := hbel1.trans (hbel2.mono hbel1.size); have h12 : Below w1.heap.size w1 w2 := hbel2; obtain ⟨⟨i0, i1, i2, i3, i4, i5⟩, ⟨i6, i7, i8, i9, i10, i11⟩, hw2⟩ := hk.out w2 hB2)))
    go_wp2_with (first
      | (go_at_call 7; go_must (have := hown7; refine (hA _).mono ?_; rintro e w9 ⟨rfl, hbel9⟩))
      | (go_at_call 13; go_must (have := hown7; refine (bytes_any _ _ _ q _ _ _ q _ ((row_of_owns (owns_below (owns_below hown1 h16) hbel7) hsm (by omega)).1) ((row_of_owns hown7 hsm (by omega)).1)).mono ?_; rintro e w8 ⟨rfl, n8, rfl⟩))
      | (go_at_call 14; go_must (have := hbel6; refine (hrp2 _ hw6).mono ?_; rintro e w7 ⟨a7, c7, rfl, hown7, hbel7⟩))
      | (go_at_call 12; go_must (have := hbel5; refine (hc2 _ hw5).mono ?_; rintro e w6 ⟨rfl, hbel6⟩; have hB6 := hB5.trans (hbel6.mono hB5.size); have h16 := h15.trans (hbel6.mono h15.size); obtain ⟨⟨v0, v1, v2, v3, v4, v5⟩, ⟨v6, v7, v8, v9, v10, v11⟩, hw6⟩ := hk.out w6 hB6))
      | (go_at_call 11; go_must (refine (hm _).mono ?_; rintro e w5 ⟨rfl, hbel5⟩; have hB5 := hB4.trans (hbel5.mono hB4.size); have h15 := h14.trans (hbel5.mono h14.size); obtain ⟨⟨r0, r1, r2, r3, r4, r5⟩, ⟨r6, r7, r8, r9, r10, r11⟩, hw5⟩ := hk.out w5 hB5)))
    all_goals
      have hb7 := hw6.trans (hbel7.mono hw6.size)
      have hb8 := hb7.trans (below_drewN w.heap.size w7 n8)
      go_ret
      exact ⟨by simp, hb8.trans (hbel9.mono hb8.size)⟩
end Go.Proofs.Ytgmcjalcpgldhaa
