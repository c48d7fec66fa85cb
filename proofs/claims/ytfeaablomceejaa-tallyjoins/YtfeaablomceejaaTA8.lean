/- The law TallyJoins, given what is asked of the program. -/
import Derived.Test.YtfeaablomceejaaTA7
namespace Go.Proofs.Ytfeaablomceejaa
open Go.RowKit

/-- a point's cells -/
def pe (p : Po.P) : List Value := [.int .i64 p.1, .int .i64 p.2.1, .int .i64 p.2.2.1, .int .u32 (p.2.2.2 : Nat)]
theorem peE : Enc 4 pe := ⟨fun _ => rfl, fun x u hu => by simp only [pe, List.mem_cons, List.not_mem_nil, or_false] at hu; rcases hu with rfl | rfl | rfl | rfl <;> rfl⟩
theorem pointE : Elem 23 41 4 32 (.agg #[.int .i64 0, .int .i64 0, .int .i64 0, .int .u32 0]) := ⟨Try.underlying23, by kernel_rfl, rfl, by decide, by decide⟩
theorem PRow.t {w : World} {a : Option Addr} {n : Nat} {ps : List Po.P} (h : PRow w a n ps) : TRow 4 pe Po.zero w a n ps := by
  obtain ⟨h1, h2, h3⟩ := h
  refine ⟨h1, h2, ?_⟩
  rcases h3 with h0 | ⟨b, off, e, hc⟩
  · exact .inl h0
  · refine .inr ⟨b, off, e, fun i hi j v hj => ?_⟩
    obtain ⟨p0, p1, p2, p3, _⟩ := hc i hi
    match j, hj with
    | 0, hj => rw [← hj]; exact p0
    | 1, hj => rw [← hj]; exact p1
    | 2, hj => rw [← hj]; exact p2
    | 3, hj => rw [← hj]; exact p3
    | j + 4, hj => simp [pe] at hj

set_option maxRecDepth 100000 in
set_option maxHeartbeats 4000000 in
theorem tajoins_any (hC : TallyC) (a : Option Addr) (n c : Nat) (ps : List Po.P) (a' : Option Addr) (n' c' : Nat) (qs : List Po.P) (b : Option Addr) (m d : Nat) (l : List Ta.S) (w : World) (hp : InP w a n c ps) (hq : InP w a' n' c' qs) (hi : InS w b m d l) (hn : n ≤ 140737488355328) (hn' : n' ≤ 140737488355328) (hm : m ≤ 140737488355328) :
    Calls Try.prog 6 #[.slice a n c, .slice a' n' c', .slice b m d] w fun e w' => e = .returned (.bool true) ∧ Below w.heap.size w w' := by
  have hA := fun W => taawake hC.of hC.get W
  by_cases hl : m ≤ 100 ∧ n ≤ 60
  · have hL := fun W => talightB b m d a n c W true (by simp [hl]) hm hn
    by_cases hl' : n' ≤ 60
    · have d1 : decide ((60 : Int) < (n' : Int)) = false := by simp; omega
      have hj0 := fun W (h : Below w.heap.size w W) => hC.join b m d l none 0 0 [] W (by omega) (by omega) (hi.below h (Nat.le_refl _)) ⟨TRow.nil _ _, (fun x hx => by cases hx), (fun _ => ⟨rfl, rfl⟩), by omega⟩
      have hmay := fun W (h : Below w.heap.size w W) => tmay_any b m d l W (hi.1.below h (Nat.le_refl _))
      have hofa := fun W (h : Below w.heap.size w W) => hC.of a n c ps W (by omega) (hp.below h (Nat.le_refl _))
      have hofb := fun W (h : Below w.heap.size w W) => hC.of a' n' c' qs W (by omega) (hq.below h (Nat.le_refl _))
      obtain ⟨J, hJ⟩ : ∃ J, J = Ta.joinR l [] := ⟨_, rfl⟩
      obtain ⟨M, hM⟩ : ∃ M, M = Ta.may l := ⟨_, rfl⟩
      have hJM : (((J.1 : Int) == 1) == M) = false := by
        rw [hJ, hM]
        cases hml : Ta.may l with
        | true => simp [Ta.joinR, hml, show Ta.may [] = true by decide, show Ta.join l [] = l from rfl]
        | false => simp [Ta.joinR, hml]
      rw [← hJ] at hj0
      rw [← hM] at hmay
      obtain ⟨j1, j2⟩ := J
      simp only at hJM
      clear hJ hM
      cases hpa : Ta.points ps with
      | false =>
        have e1 : Ta.addR [] ps = (1, []) := by simp [Ta.addR, hpa]
        rw [e1] at hofa
        generalize Ta.addR [] qs = R at *
        obtain ⟨r1, r2⟩ := R
        clear hpa e1
        go_enter Try.func6, Try.ntmps6
        go_wp2_with (first
          | (go_at_call 8; have := c0_5; go_must (refine (hA _).mono ?_; rintro e w6 ⟨rfl, hb6⟩; have c0_6 := c0_5.trans (hb6.mono c0_5.size); have c1_6 := c1_5.trans (hb6.mono c1_5.size); have c2_6 := c2_5.trans (hb6.mono c2_5.size); have c3_6 := c3_5.trans (hb6.mono c3_5.size); have c4_6 := c4_5.trans (hb6.mono c4_5.size); have c5_6 := hb6))
          | (go_at_call 15; have := c0_4; go_must (refine (hofb _ c0_4).mono ?_; rintro e w5 ⟨a5, k5, rfl, hi5, hb5⟩; have c0_5 := c0_4.trans (hb5.mono c0_4.size); have c1_5 := c1_4.trans (hb5.mono c1_4.size); have c2_5 := c2_4.trans (hb5.mono c2_4.size); have c3_5 := c3_4.trans (hb5.mono c3_4.size); have c4_5 := hb5))
          | (go_at_call 15; have := c0_3; go_must (refine (hofa _ c0_3).mono ?_; rintro e w4 ⟨a4, k4, rfl, hi4, hb4⟩; have c0_4 := c0_3.trans (hb4.mono c0_3.size); have c1_4 := c1_3.trans (hb4.mono c1_3.size); have c2_4 := c2_3.trans (hb4.mono c2_3.size); have c3_4 := hb4))
          | (go_at_call 10; have := c0_2; go_must (refine (hmay _ c0_2).mono ?_; rintro e w3 ⟨rfl, hb3⟩; have c0_3 := c0_2.trans (hb3.mono c0_2.size); have c1_3 := c1_2.trans (hb3.mono c1_2.size); have c2_3 := hb3))
          | (go_at_call 20; have := c0_1; go_must (refine (hj0 _ c0_1).mono ?_; rintro e w2 ⟨a2, k2, rfl, hi2, hb2⟩; have c0_2 := c0_1.trans (hb2.mono c0_1.size); have c1_2 := hb2))
          | (go_at_call 7; go_must (refine (hL _).mono ?_; rintro e w1 ⟨rfl, hb1⟩; have c0_1 := hb1)))
        go_ret
        exact ⟨rfl, c0_6⟩
      | true =>
        have e1 : Ta.addR [] ps = (0, Ta.add [] ps) := by simp [Ta.addR, hpa, Ta.may_add hpa (by rw [hp.1.1]; omega), show Ta.may [] = true by decide]
        rw [e1] at hofa
        cases hqa : Ta.points qs with
        | false =>
          have e2 : Ta.addR [] qs = (1, []) := by simp [Ta.addR, hqa]
          rw [e2] at hofb
          generalize Ta.add [] ps = L1 at *
          clear hpa hqa e1 e2
          go_enter Try.func6, Try.ntmps6
          go_wp2_with (first
            | (go_at_call 8; have := c0_5; go_must (refine (hA _).mono ?_; rintro e w6 ⟨rfl, hb6⟩; have c0_6 := c0_5.trans (hb6.mono c0_5.size); have c1_6 := c1_5.trans (hb6.mono c1_5.size); have c2_6 := c2_5.trans (hb6.mono c2_5.size); have c3_6 := c3_5.trans (hb6.mono c3_5.size); have c4_6 := c4_5.trans (hb6.mono c4_5.size); have c5_6 := hb6))
            | (go_at_call 15; have := c0_4; go_must (refine (hofb _ c0_4).mono ?_; rintro e w5 ⟨a5, k5, rfl, hi5, hb5⟩; have c0_5 := c0_4.trans (hb5.mono c0_4.size); have c1_5 := c1_4.trans (hb5.mono c1_4.size); have c2_5 := c2_4.trans (hb5.mono c2_4.size); have c3_5 := c3_4.trans (hb5.mono c3_4.size); have c4_5 := hb5))
            | (go_at_call 15; have := c0_3; go_must (refine (hofa _ c0_3).mono ?_; rintro e w4 ⟨a4, k4, rfl, hi4, hb4⟩; have c0_4 := c0_3.trans (hb4.mono c0_3.size); have c1_4 := c1_3.trans (hb4.mono c1_3.size); have c2_4 := c2_3.trans (hb4.mono c2_3.size); have c3_4 := hb4))
            | (go_at_call 10; have := c0_2; go_must (refine (hmay _ c0_2).mono ?_; rintro e w3 ⟨rfl, hb3⟩; have c0_3 := c0_2.trans (hb3.mono c0_2.size); have c1_3 := c1_2.trans (hb3.mono c1_2.size); have c2_3 := hb3))
            | (go_at_call 20; have := c0_1; go_must (refine (hj0 _ c0_1).mono ?_; rintro e w2 ⟨a2, k2, rfl, hi2, hb2⟩; have c0_2 := c0_1.trans (hb2.mono c0_1.size); have c1_2 := hb2))
            | (go_at_call 7; go_must (refine (hL _).mono ?_; rintro e w1 ⟨rfl, hb1⟩; have c0_1 := hb1)))
          go_ret
          exact ⟨rfl, c0_6⟩
        | true =>
          have e2 : Ta.addR [] qs = (0, Ta.add [] qs) := by simp [Ta.addR, hqa, Ta.may_add hqa (by rw [hq.1.1]; omega), show Ta.may [] = true by decide]
          rw [e2] at hofb
          have hpq : Ta.points (ps ++ qs) = true := by rw [Ta.points_append, hpa, hqa]; rfl
          have hmq := Ta.may_add hpq (by rw [List.length_append, hp.1.1, hq.1.1]; omega)
          have e3 : Ta.addR [] (ps ++ qs) = (0, Ta.add [] (ps ++ qs)) := by simp [Ta.addR, hpq, hmq, show Ta.may [] = true by decide]
          have e4 : Ta.joinR (Ta.add [] ps) (Ta.add [] qs) = (0, Ta.add [] (ps ++ qs)) := by
            simp [Ta.joinR, Ta.may_add hpa (by rw [hp.1.1]; omega), Ta.may_add hqa (by rw [hq.1.1]; omega), Ta.join_add hpa hqa, hmq]
          have b1 : (Ta.add [] ps).length ≤ 1000 := by have := Ta.add_len ps []; rw [hp.1.1] at this; simp at this; omega
          have b2 : (Ta.add [] qs).length ≤ 1000 := by have := Ta.add_len qs []; rw [hq.1.1] at this; simp at this; omega
          have hjoin := fun (a1 a2 : Option Addr) (k1 k2 : Nat) W h1 h2 => hC.join a1 (Ta.add [] ps).length k1 (Ta.add [] ps) a2 (Ta.add [] qs).length k2 (Ta.add [] qs) W b1 b2 h1 h2
          rw [e4] at hjoin
          have hofc := fun (a1 : Option Addr) (k1 : Nat) W h1 => hC.of a1 (n + n') k1 (ps ++ qs) W (by omega) h1
          rw [e3] at hofc
          have hsame := fun (a1 a2 : Option Addr) (k1 k2 : Nat) W h1 h2 => tsameB a1 (Ta.add [] (ps ++ qs)).length k1 a2 (Ta.add [] (ps ++ qs)).length k2 (Ta.add [] (ps ++ qs)) W h1 h2
          have hfit : ∀ p ∈ ps ++ qs, Po.Fits p := fun p h => by
            rcases List.mem_append.mp h with h | h
            · exact hp.1.fits p h
            · exact hq.1.fits p h
          generalize Ta.add [] (ps ++ qs) = L3 at *
          generalize Ta.add [] ps = L1 at *
          generalize Ta.add [] qs = L2 at *
          clear hpa hqa e1 e2 e3 e4 hpq hmq b1 b2
          go_enter Try.func6, Try.ntmps6
          go_wp2_with (first
            | (go_at_call 8; have := c0_8; go_must (refine (hA _).mono ?_; rintro e w9 ⟨rfl, hb9⟩; have c0_9 := c0_8.trans (hb9.mono c0_8.size); have c1_9 := c1_8.trans (hb9.mono c1_8.size); have c2_9 := c2_8.trans (hb9.mono c2_8.size); have c3_9 := c3_8.trans (hb9.mono c3_8.size); have c4_9 := c4_8.trans (hb9.mono c4_8.size); have c5_9 := c5_8.trans (hb9.mono c5_8.size); have c6_9 := c6_8.trans (hb9.mono c6_8.size); have c7_9 := c7_8.trans (hb9.mono c7_8.size); have c8_9 := hb9))
            | (go_at_call 16; have := c0_7; go_must (refine (hsame _ _ _ _ _ (hi6.1.below c6_7 (Nat.le_refl _)) hi7.1).mono ?_; rintro e w8 ⟨rfl, hb8⟩; have c0_8 := c0_7.trans (hb8.mono c0_7.size); have c1_8 := c1_7.trans (hb8.mono c1_7.size); have c2_8 := c2_7.trans (hb8.mono c2_7.size); have c3_8 := c3_7.trans (hb8.mono c3_7.size); have c4_8 := c4_7.trans (hb8.mono c4_7.size); have c5_8 := c5_7.trans (hb8.mono c5_7.size); have c6_8 := c6_7.trans (hb8.mono c6_7.size); have c7_8 := hb8))
            | (go_at_call 15; have := c0_6; go_must (refine (hofc aB kB wB ⟨(prow_of_owns (ps := ps ++ qs) (by exact hownB) hfit (by omega)).1, (fun h => by have := hnB h; omega), by omega⟩).mono ?_; rintro e w7 ⟨a7, k7, rfl, hi7, hb7'⟩; have hb7 := (hbB).trans (hb7'.mono (hbB).size); have c0_7 := c0_6.trans (hb7.mono c0_6.size); have c1_7 := c1_6.trans (hb7.mono c1_6.size); have c2_7 := c2_6.trans (hb7.mono c2_6.size); have c3_7 := c3_6.trans (hb7.mono c3_6.size); have c4_7 := c4_6.trans (hb7.mono c4_6.size); have c5_7 := c5_6.trans (hb7.mono c5_6.size); have c6_7 := hb7))
            | (at_builtin; have := hownA; go_must (refine append_t pointE peE (d := Po.zero) (w0 := w6) (B := w6.heap.size) rfl (.tmp 63) (.tmp 64) rfl _ _ _ rfl hownA a' n' c' qs rfl ((hq.1.below c0_6 (Nat.le_refl _)).below hbA (Nat.le_refl _)).t hq.2.1 (by omega) hbA hbA.size ?_; intro aB kB wB hkB hnB _ hownB hbB _))
            | (at_builtin; have := c0_6; go_must (refine append_t pointE peE (d := Po.zero) (w0 := w6) (B := w6.heap.size) rfl (.tmp 61) (.tmp 62) rfl _ 0 [] rfl (made_t w6 (Nat.le_refl _) rfl) a n c ps rfl ((hp.1.below c0_6 (Nat.le_refl _)).below (below_alloc _ _) (Nat.le_refl _)).t hp.2.1 (by omega) (below_alloc _ _) (below_alloc _ _).size ?_; intro aA kA wA _ _ _ hownA hbA _; simp only [Nat.zero_add, List.nil_append] at hownA))
            | (go_at_call 20; have := c0_5; go_must (refine (hjoin _ _ _ _ _ (hi4.below c4_5 (Nat.le_refl _)) hi5).mono ?_; rintro e w6 ⟨a6, k6, rfl, hi6, hb6⟩; have c0_6 := c0_5.trans (hb6.mono c0_5.size); have c1_6 := c1_5.trans (hb6.mono c1_5.size); have c2_6 := c2_5.trans (hb6.mono c2_5.size); have c3_6 := c3_5.trans (hb6.mono c3_5.size); have c4_6 := c4_5.trans (hb6.mono c4_5.size); have c5_6 := hb6))
            | (go_at_call 15; have := c0_4; go_must (refine (hofb _ c0_4).mono ?_; rintro e w5 ⟨a5, k5, rfl, hi5, hb5⟩; have c0_5 := c0_4.trans (hb5.mono c0_4.size); have c1_5 := c1_4.trans (hb5.mono c1_4.size); have c2_5 := c2_4.trans (hb5.mono c2_4.size); have c3_5 := c3_4.trans (hb5.mono c3_4.size); have c4_5 := hb5))
            | (go_at_call 15; have := c0_3; go_must (refine (hofa _ c0_3).mono ?_; rintro e w4 ⟨a4, k4, rfl, hi4, hb4⟩; have c0_4 := c0_3.trans (hb4.mono c0_3.size); have c1_4 := c1_3.trans (hb4.mono c1_3.size); have c2_4 := c2_3.trans (hb4.mono c2_3.size); have c3_4 := hb4))
            | (go_at_call 10; have := c0_2; go_must (refine (hmay _ c0_2).mono ?_; rintro e w3 ⟨rfl, hb3⟩; have c0_3 := c0_2.trans (hb3.mono c0_2.size); have c1_3 := c1_2.trans (hb3.mono c1_2.size); have c2_3 := hb3))
            | (go_at_call 20; have := c0_1; go_must (refine (hj0 _ c0_1).mono ?_; rintro e w2 ⟨a2, k2, rfl, hi2, hb2⟩; have c0_2 := c0_1.trans (hb2.mono c0_1.size); have c1_2 := hb2))
            | (go_at_call 7; go_must (refine (hL _).mono ?_; rintro e w1 ⟨rfl, hb1⟩; have c0_1 := hb1)))
          go_ret
          exact ⟨by simp, c0_9⟩
    · have d1 : decide ((60 : Int) < (n' : Int)) = true := by simp; omega
      go_enter Try.func6, Try.ntmps6
      go_wp2_with (first
        | (go_at_call 8; have := c0_1; go_must (refine (hA _).mono ?_; rintro e w2 ⟨rfl, hb2⟩; have c0_2 := c0_1.trans (hb2.mono c0_1.size); have c1_2 := hb2))
        | (go_at_call 7; go_must (refine (hL _).mono ?_; rintro e w1 ⟨rfl, hb1⟩; have c0_1 := hb1)))
      go_ret
      exact ⟨rfl, c0_2⟩
  · have hL := fun W => talightB b m d a n c W false (by simp only [hl, decide_false]) hm hn
    go_enter Try.func6, Try.ntmps6
    go_wp2_with (first
      | (go_at_call 8; have := c0_1; go_must (refine (hA _).mono ?_; rintro e w2 ⟨rfl, hb2⟩; have c0_2 := c0_1.trans (hb2.mono c0_1.size); have c1_2 := hb2))
      | (go_at_call 7; go_must (refine (hL _).mono ?_; rintro e w1 ⟨rfl, hb1⟩; have c0_1 := hb1)))
    go_ret
    exact ⟨rfl, c0_2⟩
end Go.Proofs.Ytfeaablomceejaa
