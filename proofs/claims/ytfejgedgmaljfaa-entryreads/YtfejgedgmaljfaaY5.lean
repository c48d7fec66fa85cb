/- What the program's Batch of entries does. -/
import Derived.Test.YtfejgedgmaljfaaBYa
import Derived.Test.YtfejgedgmaljfaaE9
import Derived.Test.YtfejgedgmaljfaaBEb
import Derived.Deep.RegionHeld3
namespace Go.Proofs.Ytfejgedgmaljfaa
open Go.RowKit

set_option maxRecDepth 100000 in
set_option maxHeartbeats 4000000 in
theorem ebatch_loop (b o n c : Nat) (es : List En.E) (w : World) (r : Nat) (hl : ELight es) (hr : ERow w (some ⟨b, o, none⟩) n es) (h0 : 0 < n) (h16 : n ≤ 16) (HR : Hid (r = ecode (En.batch es))) :
    Calls Try.prog 12 #[.slice (some ⟨b, o, none⟩) n c] w fun e w' => e = .returned (.int .i64 (r : Nat)) ∧ Below w.heap.size w w' := by
  have HB : Hid (∀ j, j < n → ¬ En.link es j → r = 1) := (fun j hj h => by rw [HR.out, En.batch_no (by rw [hr.1]; exact hj) h]; rfl : ∀ j, j < n → ¬ En.link es j → r = 1)
  have HT : Hid ((∀ j, j < n → En.link es j) → r = 0) := (fun h => by rw [HR.out, (En.batch_iff es).mpr ⟨by rw [hr.1]; exact h, by rw [hr.1]; omega⟩]; rfl : (∀ j, j < n → En.link es j) → r = 0)
  have HL : Hid (∀ j, j < n → (es.getD j En.zero).2.2.2.1.length ≤ 200 ∧ (es.getD j En.zero).2.2.2.2.2.1.length ≤ 200) := (fun j hj => by
    have hj' : j < es.length := by rw [hr.1]; exact hj
    rw [show es.getD j En.zero = es[j] by simp [hj']]
    exact hl.2 _ (List.getElem_mem hj') : ∀ j, j < n → (es.getD j En.zero).2.2.2.1.length ≤ 200 ∧ (es.getD j En.zero).2.2.2.2.2.1.length ≤ 200)
  obtain ⟨b', o', hab, hc⟩ := hr.at h0
  obtain ⟨rfl, rfl⟩ : b = b' ∧ o = o' := by simpa using hab
  clear hr hl HR hab
  have g1 : ¬ ((n : Int) < 1) := by omega
  have g2 : ¬ (16 < (n : Int)) := by omega
  go_enter Try.func12, Try.ntmps12
  go_wp2
  go_loopw [16] (fun i wr => ∃ k : Nat, k ≤ n ∧ i = .int .i64 k ∧ Below w.heap.size w wr ∧ Hid (∀ j, j < k → En.link es j)) (fun i _ => n - (intOf i).toNat)
  case atStart => exact ⟨0, by omega, rfl, Below.refl _ _, (fun j hj => by omega : ∀ j, j < 0 → En.link es j)⟩
  case round =>
    obtain ⟨k, hk, rfl, hbel, hlink⟩ := hrel
    by_cases hlt : k < n
    · obtain ⟨s1, A1, L1, C1, p0, p1, p2, p3, p4, p5, p6, p7, p8, p9, hk1, hz1, r1, t1, ff1⟩ := (hc k hlt).below hbel (Nat.le_refl _)
      have i0 : (0 : Int) ≤ (k : Int) := Int.natCast_nonneg _
      have i1 : (k : Int) < (n : Int) := by omega
      have hli := HL.out k hlt
      obtain ⟨⟨xi, xt, xk, y1, f1, v1, ps, py, pl, pm⟩, hf1⟩ : ∃ f, f = es.getD k En.zero := ⟨_, rfl⟩
      rw [← hf1] at p0 p1 p2 p4 p6 p7 p8 p9 hk1 r1 ff1 hli
      simp only at p0 p1 p2 p4 p6 p7 p8 p9 hk1 r1 hli
      subst hk1
      rw [kb_len, r1.1] at hli
      have hck := fun W (h : Below wr.heap.size wr W) => echeckC xi xt xk s1 f1 A1 L1 C1 v1 (ps, py, pl, pm) W hli.2 hli.1 ff1 (r1.below h (Nat.le_refl _)) t1
      simp only [ev] at hck
      have hbA := below_alloc wr (.cells #[.int .i64 xi, .int .i64 xt, .int .i64 xk, .string s1, .bool f1, .slice A1 L1 C1, .int .i64 ps, .int .i64 py, .int .i64 pl, .int .u32 (pm : Nat)] 34)
      have hlk : Hid (En.may (xi, xt, xk, kb s1, f1, v1, ps, py, pl, pm) = false → r = 1) := (fun h => HB.out k hlt (fun hh => by have := hh.1; rw [← hf1, h] at this; cases this) : En.may (xi, xt, xk, kb s1, f1, v1, ps, py, pl, pm) = false → r = 1)
      cases hM : En.may (xi, xt, xk, kb s1, f1, v1, ps, py, pl, pm) with
      | false =>
        rw [hM] at hck
        have H : Hid (r = 1) := hlk.out hM
        rw [show ecode false = 1 from rfl] at hck
        clear HB HT HL hlk hM hf1 hlink hc ff1 hli r1 t1
        go_wp2_with (go_at_call 8; go_must (refine (hck _ hbA).mono ?_; rintro e w1 ⟨rfl, hbel1⟩; obtain ⟨_, _, hb1⟩ := ten_keep hbel1))
        go_ret
        exact ⟨by rw [H.out]; rfl, hbel.trans (hb1.mono hbel.size)⟩
      | true =>
        rw [hM] at hck
        rw [show ecode true = 0 from rfl] at hck
        rcases Nat.eq_zero_or_pos k with hk0 | hk0
        · subst hk0
          rw [Nat.zero_mul, Nat.add_zero] at p0 p1 p2 p3 p4 p5 p6 p7 p8 p9
          have H : Hid (∀ j, j < 0 + 1 → En.link es j) := (fun j hj => by
            obtain rfl : j = 0 := by omega
            exact ⟨by rw [← hf1]; exact hM, fun h => absurd h (by omega)⟩ : ∀ j, j < 0 + 1 → En.link es j)
          clear HB HT HL hlk hM hf1 hlink hc ff1 hli r1 t1
          go_wp2_with (go_at_call 8; go_must (refine (hck _ hbA).mono ?_; rintro e w1 ⟨rfl, hbel1⟩; obtain ⟨_, _, hb1⟩ := ten_keep hbel1))
          go_quiet (fail)
          go_wp2
          go_roundw
          case rel => exact ⟨0 + 1, by omega, by go_num, (hbel.trans (hb1.mono hbel.size)).trans (below_drewN _ _ _), H⟩
          case measure => simp [intOf]; omega
        · obtain ⟨q, hq⟩ : ∃ q : Nat, q = k - 1 := ⟨_, rfl⟩
          have hqn : q < n := by omega
          have Hq : Hid (k = q + 1) := (by omega : k = q + 1)
          have i2 : (0 : Int) < (k : Int) := by omega
          have i3 : IntKind.i64.wrap ((k : Int) - 1) = (q : Int) := by rw [IntKind.wrap_i64]; omega
          have i4 : (0 : Int) ≤ (q : Int) := by omega
          have i5 : (q : Int) < (n : Int) := by omega
          have hlq := hlink.out q (by omega)
          obtain ⟨s2, A2, L2, C2, u0, u1, u2, u3, u4, u5, u6, u7, u8, u9, hk2, hz2, r2, t2, ff2⟩ := (hc q hqn).below hbel (Nat.le_refl _)
          obtain ⟨⟨yi, yt, yk, y2, f2, v2, qs, qy, ql, qm⟩, hf2⟩ : ∃ f, f = es.getD q En.zero := ⟨_, rfl⟩
          rw [← hf2] at u0 u1 u2 u4 u6 u7 u8 u9 hk2 r2 ff2
          simp only at u0 u1 u2 u4 u6 u7 u8 u9 hk2 r2
          subst hk2
          have hm2 := hlq.1
          rw [← hf2] at hm2
          have hmy := En.may_parts hm2
          clear hm2
          simp only at hmy
          have hyi : 1 ≤ yi ∧ yi ≤ 2147483647 := ⟨hmy.1, hmy.2.1⟩
          have hey : Hid (ECells wr b (o + q * 10) (.int .i64 yi) (.int .i64 yt) (.int .i64 yk) (.string s2) (.bool f2) (.slice A2 L2 C2) (.int .i64 qs) (.int .i64 qy) (.int .i64 ql) (.int .u32 (qm : Nat))) := (⟨u0, u1, u2, u3, u4, u5, u6, u7, u8, u9⟩ : ECells wr b (o + q * 10) (.int .i64 yi) (.int .i64 yt) (.int .i64 yk) (.string s2) (.bool f2) (.slice A2 L2 C2) (.int .i64 qs) (.int .i64 qy) (.int .i64 ql) (.int .u32 (qm : Nat)))
          clear hmy u0 u1 u2 u3 u4 u5 u6 u7 u8 u9
          by_cases hfo : xi = yi + 1 ∧ yt ≤ xt
          · have hfl := fun W => follows_any yi yt yk s2 f2 A2 L2 C2 qs qy ql qm xi xt xk s1 f1 A1 L1 C1 ps py pl pm true W hyi (by simp [hfo])
            simp only [ev] at hfl
            have H : Hid (∀ j, j < k + 1 → En.link es j) := (fun j hj => by
              rcases Nat.lt_or_ge j k with h | h
              · exact hlink.out j h
              · obtain rfl : j = k := by omega
                refine ⟨by rw [← hf1]; exact hM, fun _ => ?_⟩
                rw [show j - 1 = q by omega, ← hf1, ← hf2]
                simp only
                omega : ∀ j, j < k + 1 → En.link es j)
            clear HB HT HL hlk hM hf1 hf2 hlink hlq hc ff1 hli r1 t1 r2 t2 ff2 hfo hyi hq
            go_wp2_with (go_at_call 8; go_must (refine (hck _ hbA).mono ?_; rintro e w1 ⟨rfl, hbel1⟩; obtain ⟨_, _, hb1⟩ := ten_keep hbel1; have hE1 := ten_new hbel1; have hY1 := hey.out.below hb1; obtain ⟨⟨e0, e1, e2, e3, e4, e5, e6, e7, e8, e9⟩, _⟩ := hE1; obtain ⟨u0, u1, u2, u3, u4, u5, u6, u7, u8, u9⟩ := hY1))
            go_region_held3 (fun w' => w'.cell? ⟨b, o + q * 10, none⟩ = some (.int .i64 yi) ∧ w'.cell? ⟨b, o + q * 10 + 1, none⟩ = some (.int .i64 yt) ∧ w'.cell? ⟨b, o + q * 10 + 2, none⟩ = some (.int .i64 yk) ∧ w'.cell? ⟨b, o + q * 10 + 3, none⟩ = some (.string s2) ∧ w'.cell? ⟨b, o + q * 10 + 4, none⟩ = some (.bool f2) ∧ w'.cell? ⟨b, o + q * 10 + 5, none⟩ = some (.slice A2 L2 C2) ∧ w'.cell? ⟨b, o + q * 10 + 6, none⟩ = some (.int .i64 qs) ∧ w'.cell? ⟨b, o + q * 10 + 7, none⟩ = some (.int .i64 qy) ∧ w'.cell? ⟨b, o + q * 10 + 8, none⟩ = some (.int .i64 ql) ∧ w'.cell? ⟨b, o + q * 10 + 9, none⟩ = some (.int .u32 (qm : Nat)) ∧ w'.cell? ⟨wr.heap.size, 0, none⟩ = some (.int .i64 xi) ∧ w'.cell? ⟨wr.heap.size, 1, none⟩ = some (.int .i64 xt) ∧ w'.cell? ⟨wr.heap.size, 2, none⟩ = some (.int .i64 xk) ∧ w'.cell? ⟨wr.heap.size, 3, none⟩ = some (.string s1) ∧ w'.cell? ⟨wr.heap.size, 4, none⟩ = some (.bool f1) ∧ w'.cell? ⟨wr.heap.size, 5, none⟩ = some (.slice A1 L1 C1) ∧ w'.cell? ⟨wr.heap.size, 6, none⟩ = some (.int .i64 ps) ∧ w'.cell? ⟨wr.heap.size, 7, none⟩ = some (.int .i64 py) ∧ w'.cell? ⟨wr.heap.size, 8, none⟩ = some (.int .i64 pl) ∧ w'.cell? ⟨wr.heap.size, 9, none⟩ = some (.int .u32 (pm : Nat))) (first | go_keep | (refine ⟨?_, ?_, ?_, ?_, ?_, ?_, ?_, ?_, ?_, ?_, ?_, ?_, ?_, ?_, ?_, ?_, ?_, ?_, ?_, ?_⟩ <;> assumption))
              ((go_at_call 27; refine (hfl _).mono ?_; rintro e w2 ⟨rfl, hbel2d⟩; have hbel2 := below_of_drew hbel2d; have hE2 := (ten_new hbel1).below hbel2 (by simpa using Nat.lt_of_lt_of_le (Nat.lt_succ_self wr.heap.size) (by simpa using hbel1.size)); have hY2 := (hey.out.below hb1).below hbel2; obtain ⟨⟨f0, f1, f2, f3, f4, f5, f6, f7, f8, f9⟩, _⟩ := hE2; obtain ⟨v0, v1, v2, v3, v4, v5, v6, v7, v8, v9⟩ := hY2))
            go_wp2
            have hb2 := hbel.trans ((hb1.trans (hbel2.mono hb1.size)).mono hbel.size)
            go_roundw
            case rel => exact ⟨k + 1, by omega, by go_num, hb2, H⟩
            case measure => simp [intOf]; omega
          · have hfl := fun W => follows_any yi yt yk s2 f2 A2 L2 C2 qs qy ql qm xi xt xk s1 f1 A1 L1 C1 ps py pl pm false W hyi (by simp only [Bool.false_eq_true, false_iff]; exact hfo)
            simp only [ev] at hfl
            have H : Hid (r = 1) := HB.out k hlt (fun hh => hfo (by
              have h2 := hh.2 hk0
              rw [show k - 1 = q by omega, ← hf1, ← hf2] at h2
              simp only at h2
              omega))
            clear HB HT HL hlk hM hf1 hf2 hlink hlq hc ff1 hli r1 t1 r2 t2 ff2 hfo hyi hq
            go_wp2_with (go_at_call 8; go_must (refine (hck _ hbA).mono ?_; rintro e w1 ⟨rfl, hbel1⟩; obtain ⟨_, _, hb1⟩ := ten_keep hbel1; have hE1 := ten_new hbel1; have hY1 := hey.out.below hb1; obtain ⟨⟨e0, e1, e2, e3, e4, e5, e6, e7, e8, e9⟩, _⟩ := hE1; obtain ⟨u0, u1, u2, u3, u4, u5, u6, u7, u8, u9⟩ := hY1))
            go_region_held3 (fun w' => w'.cell? ⟨b, o + q * 10, none⟩ = some (.int .i64 yi) ∧ w'.cell? ⟨b, o + q * 10 + 1, none⟩ = some (.int .i64 yt) ∧ w'.cell? ⟨b, o + q * 10 + 2, none⟩ = some (.int .i64 yk) ∧ w'.cell? ⟨b, o + q * 10 + 3, none⟩ = some (.string s2) ∧ w'.cell? ⟨b, o + q * 10 + 4, none⟩ = some (.bool f2) ∧ w'.cell? ⟨b, o + q * 10 + 5, none⟩ = some (.slice A2 L2 C2) ∧ w'.cell? ⟨b, o + q * 10 + 6, none⟩ = some (.int .i64 qs) ∧ w'.cell? ⟨b, o + q * 10 + 7, none⟩ = some (.int .i64 qy) ∧ w'.cell? ⟨b, o + q * 10 + 8, none⟩ = some (.int .i64 ql) ∧ w'.cell? ⟨b, o + q * 10 + 9, none⟩ = some (.int .u32 (qm : Nat)) ∧ w'.cell? ⟨wr.heap.size, 0, none⟩ = some (.int .i64 xi) ∧ w'.cell? ⟨wr.heap.size, 1, none⟩ = some (.int .i64 xt) ∧ w'.cell? ⟨wr.heap.size, 2, none⟩ = some (.int .i64 xk) ∧ w'.cell? ⟨wr.heap.size, 3, none⟩ = some (.string s1) ∧ w'.cell? ⟨wr.heap.size, 4, none⟩ = some (.bool f1) ∧ w'.cell? ⟨wr.heap.size, 5, none⟩ = some (.slice A1 L1 C1) ∧ w'.cell? ⟨wr.heap.size, 6, none⟩ = some (.int .i64 ps) ∧ w'.cell? ⟨wr.heap.size, 7, none⟩ = some (.int .i64 py) ∧ w'.cell? ⟨wr.heap.size, 8, none⟩ = some (.int .i64 pl) ∧ w'.cell? ⟨wr.heap.size, 9, none⟩ = some (.int .u32 (pm : Nat))) (first | go_keep | (refine ⟨?_, ?_, ?_, ?_, ?_, ?_, ?_, ?_, ?_, ?_, ?_, ?_, ?_, ?_, ?_, ?_, ?_, ?_, ?_, ?_⟩ <;> assumption))
              ((go_at_call 27; refine (hfl _).mono ?_; rintro e w2 ⟨rfl, hbel2d⟩; have hbel2 := below_of_drew hbel2d; have hE2 := (ten_new hbel1).below hbel2 (by simpa using Nat.lt_of_lt_of_le (Nat.lt_succ_self wr.heap.size) (by simpa using hbel1.size)); have hY2 := (hey.out.below hb1).below hbel2; obtain ⟨⟨f0, f1, f2, f3, f4, f5, f6, f7, f8, f9⟩, _⟩ := hE2; obtain ⟨v0, v1, v2, v3, v4, v5, v6, v7, v8, v9⟩ := hY2))
            go_wp2
            have hb2 := hbel.trans ((hb1.trans (hbel2.mono hb1.size)).mono hbel.size)
            go_ret
            exact ⟨by rw [H.out]; rfl, hb2⟩
    · obtain rfl : k = n := by omega
      have H : Hid (r = 0) := HT.out hlink.out
      clear HB HT HL hlink hc
      go_wp2
      go_ret
      exact ⟨by rw [H.out]; rfl, hbel⟩

set_option maxRecDepth 100000 in
theorem ebatchC : EBatchC := by
  intro a n c es w hl hr hnil
  by_cases h0 : 1 ≤ n ∧ n ≤ 16
  · obtain ⟨b, o, rfl, _⟩ := hr.at (by omega)
    exact ebatch_loop b o n c es w _ hl hr (by omega) h0.2 rfl
  · have H : Hid (ecode (En.batch es) = 1) := (by
      cases e : En.batch es with
      | false => rfl
      | true => exact absurd (by rw [← hr.1]; exact ((En.batch_iff es).mp e).2) h0 : ecode (En.batch es) = 1)
    have hb := hr.2.1
    clear hr hl
    generalize ecode (En.batch es) = r at *
    rcases Nat.eq_zero_or_pos n with hz | hz
    · subst hz
      go_enter Try.func12, Try.ntmps12
      go_wp2
      go_ret
      exact ⟨by rw [H.out]; rfl, Below.refl _ _⟩
    · have g1 : ¬ ((n : Int) < 1) := by omega
      have g2 : 16 < (n : Int) := by omega
      go_enter Try.func12, Try.ntmps12
      go_wp2
      go_ret
      exact ⟨by rw [H.out]; rfl, Below.refl _ _⟩
end Go.Proofs.Ytfejgedgmaljfaa
