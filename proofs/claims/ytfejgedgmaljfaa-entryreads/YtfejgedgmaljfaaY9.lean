/- What the program's Same of entries does. -/
import Derived.Test.YtfejgedgmaljfaaX1
import Derived.Test.YtfejgedgmaljfaaE14d
import Derived.Test.YtfejgedgmaljfaaBEb
namespace Go.Proofs.Ytfejgedgmaljfaa
open Go.RowKit

set_option maxRecDepth 100000 in
set_option maxHeartbeats 4000000 in
theorem alike_any (xi xt xk : Int) (s1 : ByteArray) (f1 : Bool) (A1 : Option Addr) (L1 C1 : Nat) (v1 : List Nat) (ps py pl : Int) (pm : Nat) (yi yt yk : Int) (s2 : ByteArray) (f2 : Bool) (A2 : Option Addr) (L2 C2 : Nat) (v2 : List Nat) (qs qy ql : Int) (qm : Nat) (r : Bool) (w : World)
    (hl1 : L1 ≤ 200) (hl2 : L2 ≤ 200) (h1 : Row .u8 w A1 L1 v1) (h2 : Row .u8 w A2 L2 v2) (hR : r = true ↔ (xi, xt, xk, kb s1, f1, v1, ps, py, pl, pm) = (yi, yt, yk, kb s2, f2, v2, qs, qy, ql, qm)) :
    Calls Try.prog 37 #[.agg #[.int .i64 xi, .int .i64 xt, .int .i64 xk, .string s1, .bool f1, .slice A1 L1 C1, .int .i64 ps, .int .i64 py, .int .i64 pl, .int .u32 (pm : Nat)], .agg #[.int .i64 yi, .int .i64 yt, .int .i64 yk, .string s2, .bool f2, .slice A2 L2 C2, .int .i64 qs, .int .i64 qy, .int .i64 ql, .int .u32 (qm : Nat)]] w fun e w' => e = .returned (.bool r) ∧ Below w.heap.size w w' := by
  have hb0 : Below w.heap.size w ((w.alloc (.cells #[.int .i64 xi, .int .i64 xt, .int .i64 xk, .string s1, .bool f1, .slice A1 L1 C1, .int .i64 ps, .int .i64 py, .int .i64 pl, .int .u32 (pm : Nat)] 34)).alloc (.cells #[.int .i64 yi, .int .i64 yt, .int .i64 yk, .string s2, .bool f2, .slice A2 L2 C2, .int .i64 qs, .int .i64 qy, .int .i64 ql, .int .u32 (qm : Nat)] 34)) := (below_alloc _ _).alloc (by simp) _
  have hsm := fun W (h : Below w.heap.size w W) => csameC f1 A1 L1 C1 v1 (ps, py, pl, pm) f2 A2 L2 C2 v2 (qs, qy, ql, qm) W (by omega) (by omega) (h1.below h (Nat.le_refl _)) (h2.below h (Nat.le_refl _))
  simp only [cv] at hsm
  have HN : Hid (¬ ((xi, xt, xk, kb s1, f1, v1, ps, py, pl, pm) = (yi, yt, yk, kb s2, f2, v2, qs, qy, ql, qm)) → r = false) := (fun h => by cases r with | false => rfl | true => exact absurd (hR.mp rfl) h : ¬ ((xi, xt, xk, kb s1, f1, v1, ps, py, pl, pm) = (yi, yt, yk, kb s2, f2, v2, qs, qy, ql, qm)) → r = false)
  have HT : Hid ((xi, xt, xk, kb s1, f1, v1, ps, py, pl, pm) = (yi, yt, yk, kb s2, f2, v2, qs, qy, ql, qm) → r = true) := hR.mpr
  clear h1 h2
  by_cases e1 : xi = yi
  rotate_left
  · have d1 : (xi == yi) = false := by simpa using e1
    have H : Hid (r = false) := HN.out (by intro e; simp only [Prod.mk.injEq] at e; simp_all)
    clear HN HT hR hsm
    go_enter Try.func37, Try.ntmps37
    go_wp2
    go_ret
    exact ⟨by rw [H.out]; rfl, hb0⟩
  subst e1
  by_cases e2 : xt = yt
  rotate_left
  · have d2 : (xt == yt) = false := by simpa using e2
    have H : Hid (r = false) := HN.out (by intro e; simp only [Prod.mk.injEq] at e; simp_all)
    clear HN HT hR hsm
    go_enter Try.func37, Try.ntmps37
    go_wp2
    go_ret
    exact ⟨by rw [H.out]; rfl, hb0⟩
  subst e2
  by_cases e3 : xk = yk
  rotate_left
  · have d3 : (xk == yk) = false := by simpa using e3
    have H : Hid (r = false) := HN.out (by intro e; simp only [Prod.mk.injEq] at e; simp_all)
    clear HN HT hR hsm
    go_enter Try.func37, Try.ntmps37
    go_wp2
    go_ret
    exact ⟨by rw [H.out]; rfl, hb0⟩
  subst e3
  by_cases e4 : kb s1 = kb s2
  rotate_left
  · have d4 : (s1.toList == s2.toList) = false := str_ne e4
    have H : Hid (r = false) := HN.out (by intro e; simp only [Prod.mk.injEq] at e; simp_all)
    clear HN HT hR hsm
    go_enter Try.func37, Try.ntmps37
    go_wp2
    go_ret
    exact ⟨by rw [H.out]; rfl, hb0⟩
  have d4 : (s1.toList == s2.toList) = true := str_eq true (by simp [e4])
  have hs12 : s1 = s2 := kb_inj e4
  subst hs12
  obtain ⟨rs, hrs⟩ : ∃ rs, rs = Ce.same (f1, v1, ps, py, pl, pm) (f2, v2, qs, qy, ql, qm) := ⟨_, rfl⟩
  rw [← hrs] at hsm
  have H : Hid (r = rs) := (by
    rw [hrs, Ce.same]
    by_cases h : (f1, v1, ps, py, pl, pm) = (f2, v2, qs, qy, ql, qm)
    · rw [decide_eq_true h]; exact HT.out (by rw [h])
    · rw [decide_eq_false h]; exact HN.out (fun e => h (by simp only [Prod.mk.injEq] at e ⊢; exact ⟨e.2.2.2.2.1, e.2.2.2.2.2.1, e.2.2.2.2.2.2.1, e.2.2.2.2.2.2.2.1, e.2.2.2.2.2.2.2.2.1, e.2.2.2.2.2.2.2.2.2⟩)) : r = rs)
  clear hR HN HT hrs e4
  go_enter Try.func37, Try.ntmps37
  go_wp2_with (go_at_call 21; go_must (refine (hsm _ hb0).mono ?_; rintro e w1 ⟨rfl, hbel1⟩))
  go_ret
  exact ⟨by rw [H.out]; rfl, hb0.trans (hbel1.mono hb0.size)⟩

set_option maxRecDepth 100000 in
set_option maxHeartbeats 4000000 in
theorem eequal_any (a1 : Option Addr) (n1 c1 : Nat) (es1 : List En.E) (a2 : Option Addr) (n2 c2 : Nat) (es2 : List En.E) (w : World) (r : Bool) (hR : r = true ↔ es1 = es2) (hn1 : n1 ≤ 40) (hn2 : n2 ≤ 40) (hl1 : ELight es1) (hl2 : ELight es2) (hr1 : ERow w a1 n1 es1) (hr2 : ERow w a2 n2 es2) :
    Calls Try.prog 36 #[.slice a1 n1 c1, .slice a2 n2 c2, .func (.func 37) #[] #[]] w fun e w' => e = .returned (.bool r) ∧ Below w.heap.size w w' := by
  by_cases hne : n1 = n2
  · subst hne
    rcases Nat.eq_zero_or_pos n1 with h0 | h0
    · subst h0
      have H : Hid (r = true) := hR.mpr (by rw [List.length_eq_zero_iff.mp hr1.1, List.length_eq_zero_iff.mp hr2.1])
      clear hR hr1 hr2 hl1 hl2
      go_enter Try.func36, Try.ntmps36
      go_wp2
      go_loop [17] (fun i => i = .int .i64 (0 : Nat)) (fun _ => 0)
      case atStart => rfl
      case round =>
        subst hrel
        go_wp2
        go_ret
        exact ⟨by rw [H.out]; rfl, Below.refl _ _⟩
    · obtain ⟨b1, o1, rfl, hc1⟩ := hr1.at h0
      obtain ⟨b2, o2, rfl, hc2⟩ := hr2.at h0
      have Hl1 : Hid (∀ j, j < n1 → (es1.getD j En.zero).2.2.2.2.2.1.length ≤ 200) := (fun j hj => by
        have hj' : j < es1.length := by rw [hr1.1]; exact hj
        rw [show es1.getD j En.zero = es1[j] by simp [hj']]
        exact (hl1.2 _ (List.getElem_mem hj')).2 : ∀ j, j < n1 → (es1.getD j En.zero).2.2.2.2.2.1.length ≤ 200)
      have Hl2 : Hid (∀ j, j < n1 → (es2.getD j En.zero).2.2.2.2.2.1.length ≤ 200) := (fun j hj => by
        have hj' : j < es2.length := by rw [hr2.1]; exact hj
        rw [show es2.getD j En.zero = es2[j] by simp [hj']]
        exact (hl2.2 _ (List.getElem_mem hj')).2 : ∀ j, j < n1 → (es2.getD j En.zero).2.2.2.2.2.1.length ≤ 200)
      have HN : Hid (∀ j, es1.getD j En.zero ≠ es2.getD j En.zero → r = false) := (fun j h => by
        cases r with
        | false => rfl
        | true => exact absurd (by rw [hR.mp rfl]) h : ∀ j, es1.getD j En.zero ≠ es2.getD j En.zero → r = false)
      have HT : Hid ((∀ j, j < n1 → es1.getD j En.zero = es2.getD j En.zero) → r = true) := (fun h => hR.mpr (eeq_of_getD (by rw [hr1.1, hr2.1]) (by rw [hr1.1]; exact h)) : (∀ j, j < n1 → es1.getD j En.zero = es2.getD j En.zero) → r = true)
      clear hR hr1 hr2 hl1 hl2
      have hd0 : ((n1 : Int) != (n1 : Int)) = false := by simp
      go_enter Try.func36, Try.ntmps36
      go_wp2
      go_loopw [17] (fun i wr => ∃ k : Nat, k ≤ n1 ∧ i = .int .i64 k ∧ Below w.heap.size w wr ∧ Hid (∀ j, j < k → es1.getD j En.zero = es2.getD j En.zero)) (fun i _ => n1 - (intOf i).toNat)
      case atStart => exact ⟨0, by omega, rfl, Below.refl _ _, (fun j hj => by omega : ∀ j, j < 0 → es1.getD j En.zero = es2.getD j En.zero)⟩
      case round =>
        obtain ⟨k, hk, rfl, hbel, hsame⟩ := hrel
        by_cases hlt : k < n1
        · obtain ⟨s1, A1, L1, C1, p0, p1, p2, p3, p4, p5, p6, p7, p8, p9, hk1, hz1, r1, t1, ff1⟩ := (hc1 k hlt).below hbel (Nat.le_refl _)
          obtain ⟨s2, A2, L2, C2, q0, q1, q2, q3, q4, q5, q6, q7, q8, q9, hk2, hz2, r2, t2, ff2⟩ := (hc2 k hlt).below hbel (Nat.le_refl _)
          have i0 : (0 : Int) ≤ (k : Int) := Int.natCast_nonneg _
          have i1 : (k : Int) < (n1 : Int) := by omega
          have hb1 := Hl1.out k hlt
          have hb2 := Hl2.out k hlt
          obtain ⟨⟨xi, xt, xk, y1, f1, v1, ps, py, pl, pm⟩, hf1⟩ : ∃ f, f = es1.getD k En.zero := ⟨_, rfl⟩
          obtain ⟨⟨yi, yt, yk, y2, f2, v2, qs, qy, ql, qm⟩, hf2⟩ : ∃ f, f = es2.getD k En.zero := ⟨_, rfl⟩
          rw [← hf1] at p0 p1 p2 p4 p6 p7 p8 p9 hk1 r1 hb1
          rw [← hf2] at q0 q1 q2 q4 q6 q7 q8 q9 hk2 r2 hb2
          simp only at p0 p1 p2 p4 p6 p7 p8 p9 hk1 r1 q0 q1 q2 q4 q6 q7 q8 q9 hk2 r2 hb1 hb2
          rw [r1.1] at hb1
          rw [r2.1] at hb2
          subst hk1; subst hk2
          have hbA : Below wr.heap.size wr ((wr.alloc (.cells #[.int .i64 xi, .int .i64 xt, .int .i64 xk, .string s1, .bool f1, .slice A1 L1 C1, .int .i64 ps, .int .i64 py, .int .i64 pl, .int .u32 (pm : Nat)] 34)).alloc (.cells #[.int .i64 yi, .int .i64 yt, .int .i64 yk, .string s2, .bool f2, .slice A2 L2 C2, .int .i64 qs, .int .i64 qy, .int .i64 ql, .int .u32 (qm : Nat)] 34)) := (below_alloc _ _).alloc (by simp) _
          have hal := fun (x : Bool) W (h : Below wr.heap.size wr W) hx => alike_any xi xt xk s1 f1 A1 L1 C1 v1 ps py pl pm yi yt yk s2 f2 A2 L2 C2 v2 qs qy ql qm x W hb1 hb2 (r1.below h (Nat.le_refl _)) (r2.below h (Nat.le_refl _)) hx
          have z0 := fun o => (cell_past wr o ⟨b2, o2 + k * 10, none⟩ (cell_lt q0)).trans q0
          have z1 := fun o => (cell_past wr o ⟨b2, o2 + k * 10 + 1, none⟩ (cell_lt q1)).trans q1
          have z2 := fun o => (cell_past wr o ⟨b2, o2 + k * 10 + 2, none⟩ (cell_lt q2)).trans q2
          have z3 := fun o => (cell_past wr o ⟨b2, o2 + k * 10 + 3, none⟩ (cell_lt q3)).trans q3
          have z4 := fun o => (cell_past wr o ⟨b2, o2 + k * 10 + 4, none⟩ (cell_lt q4)).trans q4
          have z5 := fun o => (cell_past wr o ⟨b2, o2 + k * 10 + 5, none⟩ (cell_lt q5)).trans q5
          have z6 := fun o => (cell_past wr o ⟨b2, o2 + k * 10 + 6, none⟩ (cell_lt q6)).trans q6
          have z7 := fun o => (cell_past wr o ⟨b2, o2 + k * 10 + 7, none⟩ (cell_lt q7)).trans q7
          have z8 := fun o => (cell_past wr o ⟨b2, o2 + k * 10 + 8, none⟩ (cell_lt q8)).trans q8
          have z9 := fun o => (cell_past wr o ⟨b2, o2 + k * 10 + 9, none⟩ (cell_lt q9)).trans q9
          clear t1 t2 ff1 ff2 hz1 hz2 r1 r2 hb1 hb2 q0 q1 q2 q3 q4 q5 q6 q7 q8 q9
          by_cases he : (xi, xt, xk, kb s1, f1, v1, ps, py, pl, pm) = (yi, yt, yk, kb s2, f2, v2, qs, qy, ql, qm)
          · have ha := fun W h => hal true W h (by simp [he])
            have H : Hid (∀ j, j < k + 1 → es1.getD j En.zero = es2.getD j En.zero) := (by
              intro j hj
              rcases Nat.lt_or_ge j k with h | h
              · exact hsame.out j h
              · obtain rfl : j = k := by omega
                rw [← hf1, ← hf2, he] : ∀ j, j < k + 1 → es1.getD j En.zero = es2.getD j En.zero)
            clear hal he hf1 hf2 hsame HN HT Hl1 Hl2 hc1 hc2
            go_wp2_with (go_at_call 37; go_must (refine (ha _ hbA).mono ?_; rintro e w1 ⟨rfl, hbel1⟩))
            go_roundw
            case rel => exact ⟨k + 1, by omega, by go_num, hbel.trans ((hbA.trans (hbel1.mono hbA.size)).mono hbel.size), H⟩
            case measure => simp [intOf]; omega
          · have ha := fun W h => hal false W h (by simp only [Bool.false_eq_true, false_iff]; exact he)
            have H : Hid (r = false) := HN.out k (by rw [← hf1, ← hf2]; exact he)
            clear hal he hf1 hf2 hsame HN HT Hl1 Hl2 hc1 hc2
            go_wp2_with (go_at_call 37; go_must (refine (ha _ hbA).mono ?_; rintro e w1 ⟨rfl, hbel1⟩))
            go_ret
            exact ⟨by rw [H.out]; rfl, hbel.trans ((hbA.trans (hbel1.mono hbA.size)).mono hbel.size)⟩
        · obtain rfl : k = n1 := by omega
          have H : Hid (r = true) := HT.out hsame.out
          clear HN HT Hl1 Hl2 hc1 hc2 hsame
          go_wp2
          go_ret
          exact ⟨by rw [H.out]; rfl, hbel⟩
  · have hd0 : ((n1 : Int) != (n2 : Int)) = true := by simp; omega
    have H : Hid (r = false) := (by
      cases r with
      | false => rfl
      | true => exact absurd (by rw [← hr1.1, ← hr2.1, hR.mp rfl]) hne : r = false)
    clear hR hr1 hr2 hl1 hl2
    go_enter Try.func36, Try.ntmps36
    go_wp2
    go_ret
    exact ⟨by rw [H.out]; rfl, Below.refl _ _⟩

set_option maxRecDepth 100000 in
theorem esameC : ESameC := by
  intro a1 n1 c1 es1 a2 n2 c2 es2 w r hR hn1 hn2 hl1 hl2 hr1 hr2
  have h := eequal_any a1 n1 c1 es1 a2 n2 c2 es2 w r hR hn1 hn2 hl1 hl2 hr1 hr2
  clear hR hr1 hr2 hl1 hl2
  go_enter Try.func18, Try.ntmps18
  go_wp2_with (go_at_call 36; go_must (refine h.mono ?_; rintro e w1 ⟨rfl, hbel1⟩))
  go_ret
  exact ⟨rfl, hbel1⟩
end Go.Proofs.Ytfejgedgmaljfaa
