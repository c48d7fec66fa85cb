/- The laws CellReads and CellPuts, given the program's contracts. -/
import Derived.Test.YtgmcjalcpgldhaaV4
namespace Go.Proofs.Ytgmcjalcpgldhaa
open Go.RowKit

theorem code_put (x : Ce.C) : code (Ce.put x).length = 0 := by
  have := Ce.put_pos x
  unfold code; rw [if_neg (by omega)]

set_option maxRecDepth 100000 in
set_option maxHeartbeats 2000000 in
theorem cereads_dark (hP : CPutC) (f : Bool) (a : Option Addr) (n c : Nat) (bs : List Nat) (p : Po.P) (am : Option Addr) (len cap : Nat) (w : World) (hn : bs.length = n) (hn2 : n ≤ 1000000000000000000) (h : Ce.may (f, bs, p) = false ∨ 1000 < len) :
    Calls Try.prog 5 #[cv f a n c p, .slice am len cap] w fun e w' => e = .returned (.bool true) ∧ Below w.heap.size w w' := by
  have hA := fun w => ceawake hP w
  have hm := fun W => cemay_any f a n c bs p W hn hn2
  generalize Ce.may (f, bs, p) = M at *
  obtain ⟨s, y, l, m⟩ := p
  simp only [cv] at hm ⊢
  cases M with
  | false =>
    go_enter Try.func5, Try.ntmps5
    go_wp2_with (first
      | (go_at_call 7; go_must (have := hbel1; refine (hA _).mono ?_; rintro e w2 ⟨rfl, hbel2⟩))
      | (go_at_call 11; go_must (refine (hm _).mono ?_; rintro e w1 ⟨rfl, hbel1⟩)))
    obtain ⟨_, _, hb1⟩ := six_keep hbel1
    go_ret
    exact ⟨rfl, hb1.trans (hbel2.mono hb1.size)⟩
  | true =>
    have hl : 1000 < len := by
      rcases h with h | h
      · cases h
      · exact h
    clear h
    go_enter Try.func5, Try.ntmps5
    go_wp2_with (first
      | (go_at_call 7; go_must (have := hbel1; refine (hA _).mono ?_; rintro e w2 ⟨rfl, hbel2⟩))
      | (go_at_call 11; go_must (refine (hm _).mono ?_; rintro e w1 ⟨rfl, hbel1⟩)))
    obtain ⟨_, _, hb1⟩ := six_keep hbel1
    go_ret
    exact ⟨rfl, hb1.trans (hbel2.mono hb1.size)⟩

set_option maxRecDepth 100000 in
set_option maxHeartbeats 2000000 in
theorem cereads_any (hP : CPutC) (hG : CGetC) (f : Bool) (a : Option Addr) (n c : Nat) (bs : List Nat) (p : Po.P) (am : Option Addr) (len cap : Nat) (ms : List Nat) (w : World) (hr : Row .u8 w a n bs) (hnil : a = none → n = 0 ∧ c = 0) (hf : Po.Fits p) (hmay : Ce.may (f, bs, p) = true) (hl : len ≤ 1000) (hrm : Row .u8 w am len ms) (hnilm : am = none → len = 0 ∧ cap = 0) :
    Calls Try.prog 5 #[cv f a n c p, .slice am len cap] w fun e w' => e = .returned (.bool true) ∧ Below w.heap.size w w' := by
  have hA := fun w => ceawake hP w
  have hm := fun W => cemay_any f a n c bs p W hr.1 (by have := hr.2.1; omega)
  rw [hmay] at hm
  have hp : ∀ W, Below w.heap.size w W → Calls Try.prog 8 #[cv f a n c p] W fun e w' => ∃ a' c', e = .returned (.tuple #[.slice a' (Ce.put (f, bs, p)).length c', .int .i64 0]) ∧ w'.ownsRow W.heap.size 5 1 (.slice a' (Ce.put (f, bs, p)).length c') (Ce.put (f, bs, p)).length (kcells .u8 (Ce.put (f, bs, p))) ∧ Below W.heap.size W w' := fun W hW => by
    refine (hP f a n c bs p W (hr.below hW (Nat.le_refl _)) hnil hf).mono ?_
    rintro e w' (⟨_, h⟩ | ⟨h, _⟩)
    · exact h
    · rw [hmay] at h; cases h
  have hget : ∀ b k c' W, k = (Ce.put (f, bs, p)).length + len → Shape b k c' → k ≤ c' → Row .u8 W b k (Ce.put (f, bs, p) ++ ms) → Calls Try.prog 15 #[.slice b k c'] W fun e w' => ∃ a3 c3, e = .returned (.tuple #[cv f a3 n c3 p, .int .i64 ((Ce.put (f, bs, p)).length : Nat), .int .i64 0]) ∧ Row .u8 w' a3 n bs ∧ Below W.heap.size W w' := fun b k c' W hk h1 h2 h3 => by
    have hpl := Ce.put_len hmay
    refine (hG b k c' _ W h1 h2 (by omega) h3).mono ?_
    rintro e w' ⟨a3, c3, he, hr3, _, hb3⟩
    rw [Ce.get_put hmay hr.2.2.1 hf.2.2.2 ms hrm.2.2.1, code_put] at he
    rw [Ce.get_put hmay hr.2.2.1 hf.2.2.2 ms hrm.2.2.1] at hr3
    rw [show ((f, bs, p), (Ce.put (f, bs, p)).length).1.2.1.length = n from hr.1] at he hr3
    exact ⟨a3, c3, he, hr3, hb3⟩
  have hss := fun a1 c1 a2 c2 W (h1 : Row .u8 W a1 n bs) (h2 : Row .u8 W a2 n bs) => cesame_any f a1 n c1 bs p f a2 n c2 bs p W h1 h2
  rw [ce_same_self] at hss
  have hsm : ∀ u ∈ Ce.put (f, bs, p), u < lim .u8 := Ce.put_small hr.2.2.1
  have hql := Ce.put_len hmay
  obtain ⟨s, y, l, m⟩ := p
  simp only [cv] at hp hget hss hm ⊢
  clear hmay hf
  generalize Ce.put (f, bs, s, y, l, m) = q at *
  have hsm2 : ∀ u ∈ q ++ ms, u < lim .u8 := by intro u hu; rcases List.mem_append.mp hu with h | h; exact hsm u h; exact hrm.2.2.1 u h
  go_enter Try.func5, Try.ntmps5
  go_wp2_with (first
    | (go_at_call 7; go_must (have := hbel6; refine (hA _).mono ?_; rintro e w7 ⟨rfl, hbel7⟩))
    | (go_at_call 10; go_must (have := hbel5; refine (hss _ _ _ _ _ (hr.below (hb5.alloc hb5.size _) (Nat.le_refl _)) (r5.below (below_alloc _ _) (Nat.le_refl _))).mono ?_; rintro e w6 ⟨rfl, hbel6⟩))
    | (go_at_call 15; go_must (have := hown4; refine (hget _ _ _ _ rfl (own_shape hown4) (row_of_owns hown4 hsm2 (by omega)).2.2 (row_of_owns hown4 hsm2 (by omega)).1).mono ?_; rintro e w5 ⟨a5, c5, rfl, r5, hbel5⟩; have hB5 := hB4.trans (hbel5.mono hB4.size); obtain ⟨⟨z0, z1, z2, z3, z4, z5⟩, hlt5, hb5⟩ := six_keep hB5))
    | (at_builtin; have := hown3; go_must (refine append_u8 (w0 := w.alloc (.cells #[.bool f, .slice a n c, .int .i64 s, .int .i64 y, .int .i64 l, .int .u32 (m : Nat)] 27)) (B := (w.alloc (.cells #[.bool f, .slice a n c, .int .i64 s, .int .i64 y, .int .i64 l, .int .u32 (m : Nat)] 27)).heap.size) rfl (.tmp 27) (.tmp 28) rfl _ q.length q rfl hown3 am len cap ms rfl (hrm.below hb3 (Nat.le_refl _)) hnilm (by omega) hB3 hB3.size ?_; intro a4 c4 w4 hown4 hB4 hsz4))
    | (at_builtin; have := hown2; go_must (refine append_u8 (w0 := w.alloc (.cells #[.bool f, .slice a n c, .int .i64 s, .int .i64 y, .int .i64 l, .int .u32 (m : Nat)] 27)) (B := (w.alloc (.cells #[.bool f, .slice a n c, .int .i64 s, .int .i64 y, .int .i64 l, .int .u32 (m : Nat)] 27)).heap.size) rfl (.tmp 25) (.tmp 26) rfl _ 0 [] rfl (made_at w2 5 _ rfl hB2.size) a2 q.length c2 q rfl (hrow2.below (below_alloc _ _) (Nat.le_refl _)) hnil2 (by omega) (hB2.alloc hB2.size _) (by simp; have := hB2.size; simp at this; omega) ?_; intro a3 c3 w3 hown3 hB3 hsz3; rw [Nat.zero_add, List.nil_append] at hown3; rw [Nat.zero_add]; obtain ⟨_, _, hb3⟩ := six_keep hB3))
    | (go_at_call 8; go_must (have := hbel1; refine (hp _ hb1).mono ?_; rintro e w2 ⟨a2, c2, rfl, hown2, hbel2⟩; have hB2 := hbel1.trans (hbel2.mono hbel1.size); obtain ⟨hrow2, hnil2, hcap2⟩ := row_of_owns hown2 hsm (by omega)))
    | (go_at_call 11; go_must (refine (hm _).mono ?_; rintro e w1 ⟨rfl, hbel1⟩; obtain ⟨⟨t0, t1, t2, t3, t4, t5⟩, ht1, hb1⟩ := six_keep hbel1)))
  have hb5' := hb5.alloc hb5.size (.cells #[.bool f, .slice a5 n c5, .int .i64 s, .int .i64 y, .int .i64 l, .int .u32 (m : Nat)] 27)
  have hb6 := hb5'.trans (hbel6.mono hb5'.size)
  go_ret
  exact ⟨by simp, hb6.trans (hbel7.mono hb6.size)⟩
end Go.Proofs.Ytgmcjalcpgldhaa
