/- What the reference's Same of entries does. -/
import Derived.Test.YtfejgedgmaljfaaBEa
namespace Go.Proofs.Ytfejgedgmaljfaa
open Go.RowKit


set_option maxRecDepth 100000 in
set_option maxHeartbeats 2000000 in
theorem ensame_any (a1 : Option Addr) (l1 c1 : Nat) (es1 : List En.E) (a2 : Option Addr) (l2 c2 : Nat) (es2 : List En.E) (w : World) (r : Bool) (hR : r = true ↔ es1 = es2) (hr1 : ERow w a1 l1 es1) (hr2 : ERow w a2 l2 es2) :
    Calls Try.prog 17 #[.slice a1 l1 c1, .slice a2 l2 c2] w fun e w' => e = .returned (.bool r) ∧ Below w.heap.size w w' := by
  by_cases hl : l1 = l2
  · subst hl
    rcases Nat.eq_zero_or_pos l1 with h0 | h0
    · have he : Hid (r = true) := (by
        have e1 := List.length_eq_zero_iff.mp (hr1.1.trans h0); have e2 := List.length_eq_zero_iff.mp (hr2.1.trans h0)
        exact hR.mpr (by rw [e1, e2]) : r = true)
      subst h0
      go_enter Try.func17, Try.ntmps17
      go_wp2
      go_loop [5] (fun i => i = .int .i64 (0 : Nat)) (fun _ => 0)
      case atStart => rfl
      case round =>
        subst hrel
        go_wp2
        go_ret
        exact ⟨by rw [he.out]; rfl, Below.refl _ _⟩
    · obtain ⟨b1, o1, rfl, hc1⟩ := hr1.at h0
      obtain ⟨b2, o2, rfl, hc2⟩ := hr2.at h0
      have hb := hr1.2.1
      have hlen : Hid (es1.length = es2.length) := (by rw [hr1.1, hr2.1] : es1.length = es2.length)
      have hlen1 : Hid (es1.length = l1) := hr1.1
      clear hr1 hr2
      go_enter Try.func17, Try.ntmps17
      go_wp2
      go_loopw [5] (fun i wr => ∃ k : Nat, k ≤ l1 ∧ i = .int .i64 k ∧ Below w.heap.size w wr ∧ Hid (∀ j, j < k → es1.getD j En.zero = es2.getD j En.zero)) (fun i _ => l1 - (intOf i).toNat)
      case atStart => exact ⟨0, by omega, rfl, Below.refl _ _, (fun j hj => by omega : ∀ j, j < 0 → es1.getD j En.zero = es2.getD j En.zero)⟩
      case round =>
        obtain ⟨k, hk, rfl, hbel, hsame⟩ := hrel
        by_cases hlt : k < l1
        · obtain ⟨s1, A1, L1, C1, p0, p1, p2, p3, p4, p5, p6, p7, p8, p9, hk1, hz1, r1, t1, ff1⟩ := (hc1 k hlt).below hbel (Nat.le_refl _)
          obtain ⟨s2, A2, L2, C2, q0, q1, q2, q3, q4, q5, q6, q7, q8, q9, hk2, hz2, r2, t2, ff2⟩ := (hc2 k hlt).below hbel (Nat.le_refl _)
          clear hc1 hc2 t1 t2 ff1 ff2 hz1 hz2
          have i0 : (0 : Int) ≤ (k : Int) := Int.natCast_nonneg _
          have i1 : (k : Int) < (l1 : Int) := by omega
          obtain ⟨⟨xi, xt, xk, y1, f1, v1, ps, py, pl, pm⟩, hf1⟩ : ∃ f, f = es1.getD k En.zero := ⟨_, rfl⟩
          obtain ⟨⟨yi, yt, yk, y2, f2, v2, qs, qy, ql, qm⟩, hf2⟩ : ∃ f, f = es2.getD k En.zero := ⟨_, rfl⟩
          rw [← hf1] at p0 p1 p2 p4 p6 p7 p8 p9 hk1 r1
          rw [← hf2] at q0 q1 q2 q4 q6 q7 q8 q9 hk2 r2
          simp only at p0 p1 p2 p4 p6 p7 p8 p9 hk1 r1 q0 q1 q2 q4 q6 q7 q8 q9 hk2 r2
          subst hk1; subst hk2
          have HF : Hid ((xi, xt, xk, kb s1, f1, v1, ps, py, pl, pm) = (yi, yt, yk, kb s2, f2, v2, qs, qy, ql, qm) → ∀ j, j < k + 1 → es1.getD j En.zero = es2.getD j En.zero) := (by
            intro e j hj
            rcases Nat.lt_or_ge j k with h | h
            · exact hsame.out j h
            · obtain rfl : j = k := by omega
              rw [← hf1, ← hf2, e] : (xi, xt, xk, kb s1, f1, v1, ps, py, pl, pm) = (yi, yt, yk, kb s2, f2, v2, qs, qy, ql, qm) → ∀ j, j < k + 1 → es1.getD j En.zero = es2.getD j En.zero)
          have HNE : Hid ((xi, xt, xk, kb s1, f1, v1, ps, py, pl, pm) ≠ (yi, yt, yk, kb s2, f2, v2, qs, qy, ql, qm) → r = false) := (by
            intro h
            cases r with
            | false => rfl
            | true => exact absurd (by rw [hf1, hf2, hR.mp rfl]) h : (xi, xt, xk, kb s1, f1, v1, ps, py, pl, pm) ≠ (yi, yt, yk, kb s2, f2, v2, qs, qy, ql, qm) → r = false)
          clear hf1 hf2 hsame
          have hcs := fun m => cesame_any f1 A1 L1 C1 v1 (ps, py, pl, pm) f2 A2 L2 C2 v2 (qs, qy, ql, qm) (wr.drewN m) (r1.below (below_drewN _ _ m) (Nat.le_refl _)) (r2.below (below_drewN _ _ m) (Nat.le_refl _))
          simp only [cv] at hcs
          clear r1 r2
          have hec1 : Hid (ECells wr b1 (o1 + k * 10) (.int .i64 xi) (.int .i64 xt) (.int .i64 xk) (.string s1) (.bool f1) (.slice A1 L1 C1) (.int .i64 ps) (.int .i64 py) (.int .i64 pl) (.int .u32 (pm : Nat))) := (⟨p0, p1, p2, p3, p4, p5, p6, p7, p8, p9⟩ : ECells wr b1 (o1 + k * 10) (.int .i64 xi) (.int .i64 xt) (.int .i64 xk) (.string s1) (.bool f1) (.slice A1 L1 C1) (.int .i64 ps) (.int .i64 py) (.int .i64 pl) (.int .u32 (pm : Nat)))
          have hec2 : Hid (ECells wr b2 (o2 + k * 10) (.int .i64 yi) (.int .i64 yt) (.int .i64 yk) (.string s2) (.bool f2) (.slice A2 L2 C2) (.int .i64 qs) (.int .i64 qy) (.int .i64 ql) (.int .u32 (qm : Nat))) := (⟨q0, q1, q2, q3, q4, q5, q6, q7, q8, q9⟩ : ECells wr b2 (o2 + k * 10) (.int .i64 yi) (.int .i64 yt) (.int .i64 yk) (.string s2) (.bool f2) (.slice A2 L2 C2) (.int .i64 qs) (.int .i64 qy) (.int .i64 ql) (.int .u32 (qm : Nat)))
          by_cases e1 : xi = yi
          rotate_left
          · have hne : (xi != yi) = true := by simpa using e1
            have he : Hid (r = false) := HNE.out (by intro e; simp only [Prod.mk.injEq] at e; exact e1 e.1)
            go_wp2_with fail
            go_quiet (fail)
            go_wp2
            go_ret
            exact ⟨by rw [he.out]; rfl, hbel.trans (below_drewN _ _ _)⟩

          subst e1
          by_cases e2 : xt = yt
          rotate_left
          · have hne : (xt != yt) = true := by simpa using e2
            have he : Hid (r = false) := HNE.out (by intro e; simp only [Prod.mk.injEq] at e; exact e2 e.2.1)
            go_wp2_with fail
            go_quiet (fail)
            go_wp2
            go_ret
            exact ⟨by rw [he.out]; rfl, hbel.trans (below_drewN _ _ _)⟩

          subst e2
          by_cases e3 : xk = yk
          rotate_left
          · have hne : (xk != yk) = true := by simpa using e3
            have he : Hid (r = false) := HNE.out (by intro e; simp only [Prod.mk.injEq] at e; exact e3 e.2.2.1)
            go_wp2_with fail
            go_quiet (fail)
            go_wp2
            go_ret
            exact ⟨by rw [he.out]; rfl, hbel.trans (below_drewN _ _ _)⟩

          subst e3
          by_cases e4 : kb s1 = kb s2
          rotate_left
          · have hne := str_ne e4
            have he : Hid (r = false) := HNE.out (by intro e; simp only [Prod.mk.injEq] at e; exact e4 e.2.2.2.1)
            go_wp2_with fail
            go_quiet (fail)
            go_wp2
            go_ret
            exact ⟨by rw [he.out]; rfl, hbel.trans (below_drewN _ _ _)⟩

          obtain rfl : s1 = s2 := kb_inj e4
          clear e4
          cases e5 : Ce.same (f1, v1, ps, py, pl, pm) (f2, v2, qs, qy, ql, qm) with
          | true =>
            rw [e5] at hcs
            have H := HF.out (by
              have := of_decide_eq_true e5
              rw [Prod.mk.injEq, Prod.mk.injEq] at this
              obtain ⟨h1, h2, h3⟩ := this
              rw [h1, h2, h3])
            have H' : Hid (_) := H
            clear H HF HNE e5
            go_wp2_with fail
            go_region_held3 (fun w' => w'.cell? ⟨b1, o1 + k * 10, none⟩ = some (.int .i64 xi) ∧ w'.cell? ⟨b1, o1 + k * 10 + 1, none⟩ = some (.int .i64 xt) ∧ w'.cell? ⟨b1, o1 + k * 10 + 2, none⟩ = some (.int .i64 xk) ∧ w'.cell? ⟨b1, o1 + k * 10 + 3, none⟩ = some (.string s1) ∧ w'.cell? ⟨b1, o1 + k * 10 + 4, none⟩ = some (.bool f1) ∧ w'.cell? ⟨b1, o1 + k * 10 + 5, none⟩ = some (.slice A1 L1 C1) ∧ w'.cell? ⟨b1, o1 + k * 10 + 6, none⟩ = some (.int .i64 ps) ∧ w'.cell? ⟨b1, o1 + k * 10 + 7, none⟩ = some (.int .i64 py) ∧ w'.cell? ⟨b1, o1 + k * 10 + 8, none⟩ = some (.int .i64 pl) ∧ w'.cell? ⟨b1, o1 + k * 10 + 9, none⟩ = some (.int .u32 (pm : Nat)) ∧ w'.cell? ⟨b2, o2 + k * 10, none⟩ = some (.int .i64 xi) ∧ w'.cell? ⟨b2, o2 + k * 10 + 1, none⟩ = some (.int .i64 xt) ∧ w'.cell? ⟨b2, o2 + k * 10 + 2, none⟩ = some (.int .i64 xk) ∧ w'.cell? ⟨b2, o2 + k * 10 + 3, none⟩ = some (.string s1) ∧ w'.cell? ⟨b2, o2 + k * 10 + 4, none⟩ = some (.bool f2) ∧ w'.cell? ⟨b2, o2 + k * 10 + 5, none⟩ = some (.slice A2 L2 C2) ∧ w'.cell? ⟨b2, o2 + k * 10 + 6, none⟩ = some (.int .i64 qs) ∧ w'.cell? ⟨b2, o2 + k * 10 + 7, none⟩ = some (.int .i64 qy) ∧ w'.cell? ⟨b2, o2 + k * 10 + 8, none⟩ = some (.int .i64 ql) ∧ w'.cell? ⟨b2, o2 + k * 10 + 9, none⟩ = some (.int .u32 (qm : Nat))) (first | go_keep | (refine ⟨?_, ?_, ?_, ?_, ?_, ?_, ?_, ?_, ?_, ?_, ?_, ?_, ?_, ?_, ?_, ?_, ?_, ?_, ?_, ?_⟩ <;> assumption))
              (first | ((go_at_call 24; refine (hcs _).mono ?_; rintro e w3 ⟨rfl, hbel3⟩; have hb3 := (below_drewN _ _ _).trans (hbel3.mono (Nat.le_refl _)); obtain ⟨u0, u1, u2, u3, u4, u5, u6, u7, u8, u9⟩ := hec1.out.below hb3; obtain ⟨v0, v1, v2, v3, v4, v5, v6, v7, v8, v9⟩ := hec2.out.below hb3)))
            go_wp2
            go_roundw
            case rel => exact ⟨k + 1, by omega, by go_num, hbel.trans (hb3.mono hbel.size), H'⟩
            case measure => simp [intOf]; omega
          | false =>
            rw [e5] at hcs
            have he : Hid (r = false) := HNE.out (by
              intro e
              have := of_decide_eq_false e5
              apply this
              simp only [Prod.mk.injEq] at e
              obtain ⟨_, _, _, _, h1, h2, h3, h4, h5, h6⟩ := e
              rw [h1, h2, h3, h4, h5, h6])
            clear HF HNE e5
            go_wp2_with fail
            go_region_held3 (fun w' => w'.cell? ⟨b1, o1 + k * 10, none⟩ = some (.int .i64 xi) ∧ w'.cell? ⟨b1, o1 + k * 10 + 1, none⟩ = some (.int .i64 xt) ∧ w'.cell? ⟨b1, o1 + k * 10 + 2, none⟩ = some (.int .i64 xk) ∧ w'.cell? ⟨b1, o1 + k * 10 + 3, none⟩ = some (.string s1) ∧ w'.cell? ⟨b1, o1 + k * 10 + 4, none⟩ = some (.bool f1) ∧ w'.cell? ⟨b1, o1 + k * 10 + 5, none⟩ = some (.slice A1 L1 C1) ∧ w'.cell? ⟨b1, o1 + k * 10 + 6, none⟩ = some (.int .i64 ps) ∧ w'.cell? ⟨b1, o1 + k * 10 + 7, none⟩ = some (.int .i64 py) ∧ w'.cell? ⟨b1, o1 + k * 10 + 8, none⟩ = some (.int .i64 pl) ∧ w'.cell? ⟨b1, o1 + k * 10 + 9, none⟩ = some (.int .u32 (pm : Nat)) ∧ w'.cell? ⟨b2, o2 + k * 10, none⟩ = some (.int .i64 xi) ∧ w'.cell? ⟨b2, o2 + k * 10 + 1, none⟩ = some (.int .i64 xt) ∧ w'.cell? ⟨b2, o2 + k * 10 + 2, none⟩ = some (.int .i64 xk) ∧ w'.cell? ⟨b2, o2 + k * 10 + 3, none⟩ = some (.string s1) ∧ w'.cell? ⟨b2, o2 + k * 10 + 4, none⟩ = some (.bool f2) ∧ w'.cell? ⟨b2, o2 + k * 10 + 5, none⟩ = some (.slice A2 L2 C2) ∧ w'.cell? ⟨b2, o2 + k * 10 + 6, none⟩ = some (.int .i64 qs) ∧ w'.cell? ⟨b2, o2 + k * 10 + 7, none⟩ = some (.int .i64 qy) ∧ w'.cell? ⟨b2, o2 + k * 10 + 8, none⟩ = some (.int .i64 ql) ∧ w'.cell? ⟨b2, o2 + k * 10 + 9, none⟩ = some (.int .u32 (qm : Nat))) (first | go_keep | (refine ⟨?_, ?_, ?_, ?_, ?_, ?_, ?_, ?_, ?_, ?_, ?_, ?_, ?_, ?_, ?_, ?_, ?_, ?_, ?_, ?_⟩ <;> assumption))
              (first | ((go_at_call 24; refine (hcs _).mono ?_; rintro e w3 ⟨rfl, hbel3⟩; have hb3 := (below_drewN _ _ _).trans (hbel3.mono (Nat.le_refl _)); obtain ⟨u0, u1, u2, u3, u4, u5, u6, u7, u8, u9⟩ := hec1.out.below hb3; obtain ⟨v0, v1, v2, v3, v4, v5, v6, v7, v8, v9⟩ := hec2.out.below hb3)))
            go_wp2
            go_ret
            exact ⟨by rw [he.out]; rfl, hbel.trans (hb3.mono hbel.size)⟩
        · obtain rfl : k = l1 := by omega
          have he : Hid (r = true) := (hR.mpr (eeq_of_getD hlen.out (fun j hj => hsame.out j (by rw [hlen1.out] at hj; exact hj))) : r = true)
          go_wp2
          go_ret
          exact ⟨by rw [he.out]; rfl, hbel⟩
  · have he : Hid (r = false) := (by cases r with | false => rfl | true => exact absurd (by rw [← hr1.1, ← hr2.1, hR.mp rfl]) hl : r = false)
    have hd : ((l1 : Int) != (l2 : Int)) = true := by simp; omega
    go_enter Try.func17, Try.ntmps17
    go_wp2
    go_ret
    exact ⟨by rw [he.out]; rfl, Below.refl _ _⟩
end Go.Proofs.Ytfejgedgmaljfaa
