/- What the program's Check, Add, Of and Join of tallies do. -/
import Derived.Test.YtfeaablomceejaaTB5
namespace Go.Proofs.Ytfeaablomceejaa
open Go.RowKit

theorem tcheckC : TCheckC := fun a n c l w _ hi => tcheck_any a n c l w hi.1
/-- no tally beside an error -/
theorem tno {w w' : World} {q : Nat} (hb : Below w.heap.size w w') : TPRes w (q, []) (.returned (.tuple #[.slice none 0 0, .int .i64 (q : Nat)])) w' :=
  ⟨none, 0, rfl, ⟨TRow.nil _ _, (fun x hx => by cases hx), (fun _ => ⟨rfl, rfl⟩), Nat.le_refl _⟩, hb⟩
theorem TPRes.from {w0 w : World} {R : Nat × List Ta.S} {e : Ending} {w' : World} (h : TPRes w R e w') (hb : Below w0.heap.size w0 w) : TPRes w0 R e w' := by
  obtain ⟨a, c, h1, h2, h3⟩ := h
  exact ⟨a, c, h1, h2, hb.trans (h3.mono hb.size)⟩
theorem two_slices (w : World) (u v : Value) {g : Nat} (hg : w.heap.size = g) : (w.alloc (.cells #[u, v] 22)).cell? ⟨g, 0, none⟩ = some u ∧ (w.alloc (.cells #[u, v] 22)).cell? ⟨g, 1, none⟩ = some v := by
  subst hg
  exact ⟨cell_new w _ _ 0, cell_new w _ _ 1⟩
theorem Ta.may_ok {l : List Ta.S} (h : Ta.may l = true) : ∀ x ∈ l, (1 ≤ x.1 ∧ x.1 ≤ 2147483647) ∧ 1 ≤ x.2 ∧ x.2 ≤ 1099511627776 := fun x hx => by
  have := ((Ta.may_iff l).mp h).1 x hx
  simp only [Ta.okOne, decide_eq_true_eq] at this
  omega
theorem gather_add {l : List Ta.S} {ps : List Po.P} (hl : Ta.may l = true) (hp : Ta.points ps = true) : gatherR (Ta.add l ps) = Ta.addR l ps := by
  unfold gatherR Ta.addR
  rw [hl, hp]
  cases Ta.may (Ta.add l ps) <;> rfl
theorem gather_join {l m : List Ta.S} (hl : Ta.may l = true) (hp : Ta.may m = true) : gatherR (Ta.join l m) = Ta.joinR l m := by
  unfold gatherR Ta.joinR
  rw [hl, hp]
  cases Ta.may (Ta.join l m) <;> rfl

set_option maxRecDepth 100000 in
set_option maxHeartbeats 1000000 in
theorem taddC : TAddC := by
  intro a n c l a' n' c' ps w hn hn' hi hp
  have hck := tcheck_any a n c l w hi.1
  cases hm : Ta.may l with
  | false =>
    have HR : Hid (Ta.addR l ps = (1, [])) := (by unfold Ta.addR; rw [if_pos (.inl hm)] : Ta.addR l ps = (1, []))
    simp only [hm, Bool.false_eq_true, if_false] at hck
    clear hm
    go_enter Try.func9, Try.ntmps9
    go_wp2_with (go_at_call 12; go_must (refine hck.mono ?_; rintro e w1 ⟨rfl, hb1⟩))
    go_ret2
    rw [HR.out]
    exact tno hb1
  | true =>
    simp only [hm, if_true] at hck
    have hmb := fun W (h : Below w.heap.size w W) => tmaybe_any a' n' c' ps W (hp.1.below h (Nat.le_refl _))
    cases hq : Ta.points ps with
    | false =>
      have HR : Hid (Ta.addR l ps = (1, [])) := (by unfold Ta.addR; rw [if_pos (.inr hq)] : Ta.addR l ps = (1, []))
      simp only [hq] at hmb
      clear hm hq
      go_enter Try.func9, Try.ntmps9
      go_wp2_with (first
        | (go_at_call 12; go_must (refine hck.mono ?_; rintro e w1 ⟨rfl, hb1⟩))
        | (go_at_call 21; go_must (refine (hmb _ hb1).mono ?_; rintro e w2 ⟨rfl, hb2⟩; have hb3 := hb1.trans (hb2.mono hb1.size))))
      go_ret2
      rw [HR.out]
      exact tno hb3
    | true =>
      simp only [hq] at hmb
      have hwe := fun W (h : Below w.heap.size w W) => tweigh_any a' n' c' ps W (by omega) (hp.1.below h (Nat.le_refl _))
      have hlen := Ta.shares_len ps
      rw [hp.1.1] at hlen
      have hga : ∀ (W : World) (a2 : Option Addr) (c2 : Nat), Below w.heap.size w W → W.ownsRow w.heap.size 47 2 (.slice a2 (Ta.shares ps).length c2) (Ta.shares ps).length (tcells se (Ta.shares ps)) → Calls Try.prog 22 #[.slice (some ⟨W.heap.size, 0, none⟩) 2 2] (W.alloc (.cells #[.slice a n c, .slice a2 (Ta.shares ps).length c2] 22)) fun e w' => TPRes w (Ta.addR l ps) e w' := by
        intro W a2 c2 hb hown
        have hb' := hb.alloc hb.size (.cells #[.slice a n c, .slice a2 (Ta.shares ps).length c2] 22)
        obtain ⟨k1, k2⟩ := two_slices W (.slice a n c) (.slice a2 (Ta.shares ps).length c2) rfl
        obtain ⟨_, _, e, z1, _⟩ := t_shape hown
        simp only [Value.slice.injEq] at e
        obtain ⟨rfl, _, rfl⟩ := e
        refine (tgather_any W.heap.size a n c l a2 (Ta.shares ps).length c2 (Ta.shares ps) _ k1 k2 (hi.1.below hb' (Nat.le_refl _)) (trow_of_owns seE (hown.alloc _) (by omega) (by omega)) hi.2.2.1 z1 (by simp) hn (by omega) ?_).mono ?_
        · intro x hx
          rcases List.mem_append.mp hx with hx | hx
          · exact Ta.may_ok hm x hx
          · have := Ta.shares_ok hq x hx
            omega
        · rintro e w' ⟨d, acc, h1, h2, h3⟩
          rw [Ta.mid_add (Ta.may_up hm) (Ta.points_nonneg hq) h1 h2, gather_add hm hq] at h3
          exact h3.from hb'
      unfold ShRes at hwe
      generalize Ta.shares ps = sh at *
      clear hm hq
      go_enter Try.func9, Try.ntmps9
      go_wp2_with (first
        | (go_at_call 12; go_must (refine hck.mono ?_; rintro e w1 ⟨rfl, hb1⟩))
        | (go_at_call 21; go_must (refine (hmb _ hb1).mono ?_; rintro e w2 ⟨rfl, hb2⟩; have hb3 := hb1.trans (hb2.mono hb1.size)))
        | (go_at_call 23; go_must (refine (hwe _ hb3).mono ?_; rintro e w4 ⟨a4, c4, rfl, hown4, hb4⟩; have hb5 := hb3.trans (hb4.mono hb3.size)))
        | (go_at_call 22; go_must (refine (hga _ _ _ hb5 (hown4.mono hb3.size)).mono ?_; rintro e w6 ⟨a6, c6, rfl, hi6, hb6⟩)))
      go_ret2
      exact ⟨a6, c6, rfl, hi6, hb6⟩

theorem tofC : TOfC := by
  intro a' n' c' ps w hn' hp
  have hadd := taddC none 0 0 [] a' n' c' ps w (by omega) hn' ⟨TRow.nil _ _, (fun x hx => by cases hx), (fun _ => ⟨rfl, rfl⟩), Nat.le_refl _⟩ hp
  go_enter Try.func15, Try.ntmps15
  go_wp2_with (go_at_call 9; go_must (refine hadd.mono ?_; rintro e w6 ⟨a6, c6, rfl, hi6, hb6⟩))
  go_ret2
  exact ⟨a6, c6, rfl, hi6, hb6⟩

set_option maxRecDepth 100000 in
set_option maxHeartbeats 1000000 in
theorem tjoinC : TJoinC := by
  intro a n c l a' n' c' m w hn hn' hi hp
  have hck := tcheck_any a n c l w hi.1
  cases hm : Ta.may l with
  | false =>
    have HR : Hid (Ta.joinR l m = (1, [])) := (by unfold Ta.joinR; rw [if_pos (.inl hm)] : Ta.joinR l m = (1, []))
    simp only [hm, Bool.false_eq_true, if_false] at hck
    clear hm
    go_enter Try.func20, Try.ntmps20
    go_wp2_with (go_at_call 12; go_must (refine hck.mono ?_; rintro e w1 ⟨rfl, hb1⟩))
    go_ret2
    rw [HR.out]
    exact tno hb1
  | true =>
    simp only [hm, if_true] at hck
    have hmb := fun W (h : Below w.heap.size w W) => tcheck_any a' n' c' m W (hp.1.below h (Nat.le_refl _))
    cases hq : Ta.may m with
    | false =>
      have HR : Hid (Ta.joinR l m = (1, [])) := (by unfold Ta.joinR; rw [if_pos (.inr hq)] : Ta.joinR l m = (1, []))
      simp only [hq, Bool.false_eq_true, if_false] at hmb
      clear hm hq
      go_enter Try.func20, Try.ntmps20
      go_wp2_with (first
        | (go_at_call 12; have := hb1; go_must (refine (hmb _ hb1).mono ?_; rintro e w2 ⟨rfl, hb2⟩; have hb3 := hb1.trans (hb2.mono hb1.size)))
        | (go_at_call 12; go_must (refine hck.mono ?_; rintro e w1 ⟨rfl, hb1⟩)))
      go_ret2
      rw [HR.out]
      exact tno hb3
    | true =>
      simp only [hq, if_true] at hmb
      have hga : ∀ (W : World), Below w.heap.size w W → Calls Try.prog 22 #[.slice (some ⟨W.heap.size, 0, none⟩) 2 2] (W.alloc (.cells #[.slice a n c, .slice a' n' c'] 22)) fun e w' => TPRes w (Ta.joinR l m) e w' := by
        intro W hb
        have hb' := hb.alloc hb.size (.cells #[.slice a n c, .slice a' n' c'] 22)
        obtain ⟨k1, k2⟩ := two_slices W (.slice a n c) (.slice a' n' c') rfl
        refine (tgather_any W.heap.size a n c l a' n' c' m _ k1 k2 (hi.1.below hb' (Nat.le_refl _)) (hp.1.below hb' (Nat.le_refl _)) hi.2.2.1 hp.2.2.1 (by simp) hn hn' ?_).mono ?_
        · intro x hx
          rcases List.mem_append.mp hx with hx | hx
          · exact Ta.may_ok hm x hx
          · exact Ta.may_ok hq x hx
        · rintro e w' ⟨d, acc, h1, h2, h3⟩
          rw [Ta.mid_join (Ta.may_up hm) (Ta.may_up hq) h1 h2, gather_join hm hq] at h3
          exact h3.from hb'
      clear hm hq
      go_enter Try.func20, Try.ntmps20
      go_wp2_with (first
        | (go_at_call 22; go_must (refine (hga _ hb3).mono ?_; rintro e w6 ⟨a6, c6, rfl, hi6, hb6⟩))
        | (go_at_call 12; have := hb1; go_must (refine (hmb _ hb1).mono ?_; rintro e w2 ⟨rfl, hb2⟩; have hb3 := hb1.trans (hb2.mono hb1.size)))
        | (go_at_call 12; go_must (refine hck.mono ?_; rintro e w1 ⟨rfl, hb1⟩)))
      go_ret2
      exact ⟨a6, c6, rfl, hi6, hb6⟩
end Go.Proofs.Ytfeaablomceejaa
