/- What the reference's Parse of a text does. -/
import Derived.Test.YtaikgdgajkggiaaDoorN2
namespace Go.Proofs.YtaikgdgajkggiaaDoor
open Go.RowKit

theorem Na.parse_step {s : List Nat} (hl : s.length = 11) {k : Int} (hk : 3 ≤ k ∧ k ≤ 7) : (1 ≤ Na.num 0 (s.drop 1) ∧ Na.of (k, Na.num 0 (s.drop 1)) = s) ↔ (Na.kindOf (s.headD 0) = k ∧ 1 ≤ Na.num 0 (s.drop 1) ∧ Na.num 0 (s.drop 1) ≤ 2147483647) := by
  obtain ⟨d, ds, rfl⟩ : ∃ d ds, s = d :: ds := by
    cases s with
    | nil => simp at hl
    | cons d ds => exact ⟨d, ds, rfl⟩
  simp only [List.headD_cons, List.drop_one, List.tail_cons]
  have hld : ds.length = 10 := by simpa using hl
  constructor
  · rintro ⟨h1, h2⟩
    by_cases h3 : Na.num 0 ds ≤ 2147483647
    · rw [Na.of_num ⟨hk.1, hk.2, h1, h3⟩] at h2
      have : Na.letter k = d := by simpa using (List.cons.inj h2).1
      exact ⟨by rw [← this]; exact Na.kind_letter hk.1 hk.2, h1, h3⟩
    · have : Na.of (k, Na.num 0 ds) = [] := by
        rw [Na.of_empty]
        simp only [Na.may, decide_eq_false_iff_not, Prod.mk.injEq]
        omega
      rw [this] at h2
      cases h2
  · rintro ⟨h1, h2, h3⟩
    refine ⟨h2, ?_⟩
    obtain ⟨v, hv⟩ : ∃ v : Nat, Na.num 0 ds = (v : Int) := ⟨(Na.num 0 ds).toNat, by omega⟩
    have hd := (Na.dig_of 10 ds hld 0 v hv).1
    have hn0 : Na.kindOf d ≠ 0 := by omega
    have hlk := (Na.letter_kind hn0).2.2
    rw [h1] at hlk
    rw [Na.of_num ⟨hk.1, hk.2, h2, h3⟩, hv, Int.toNat_natCast, hd, hlk]

theorem two_keep {w W : World} {c0 c1 : Value} {e : TypeId} (h : Below (w.alloc (.cells #[c0, c1] e)).heap.size (w.alloc (.cells #[c0, c1] e)) W) :
    W.cell? ⟨w.heap.size, 0, none⟩ = some c0 ∧ W.cell? ⟨w.heap.size, 1, none⟩ = some c1 ∧ W.frozen? ⟨w.heap.size, 0, none⟩ = false ∧ W.frozen? ⟨w.heap.size, 1, none⟩ = false ∧ Below w.heap.size w W ∧ w.heap.size < W.heap.size := by
  have hl : w.heap.size < (w.alloc (.cells #[c0, c1] e)).heap.size := by simp
  have k : ∀ i, W.cell? ⟨w.heap.size, i, none⟩ = #[c0, c1][i]? := fun i => (h.cell (p := ⟨w.heap.size, i, none⟩) hl).trans (cell_new w _ e i)
  have f : ∀ i, W.frozen? ⟨w.heap.size, i, none⟩ = false := fun i => (h.frozen (p := ⟨w.heap.size, i, none⟩) hl).trans (frozen_new w _ e i)
  exact ⟨k 0, k 1, f 0, f 1, (below_alloc _ _).trans (h.mono (by simp)), Nat.lt_of_lt_of_le hl h.size⟩
theorem below_two {w W : World} (h : Below w.heap.size w W) (v0 v1 : Value) : Below w.heap.size w ((W.setCell ⟨w.heap.size, 0, none⟩ v0).setCell ⟨w.heap.size, 1, none⟩ v1) := (h.setCell (Nat.le_refl _) _).setCell (Nat.le_refl _) _

set_option maxRecDepth 100000 in
set_option maxHeartbeats 1000000 in
theorem nparse_any (s : ByteArray) (w : World) :
    Calls Tryd.prog 11 #[.string s] w fun e w' => e = .returned (fv (Na.parse (kb s))) ∧ Below w.heap.size w w' := by
  have hof := fun f W => nof_any f W
  simp only [fv] at hof ⊢
  have hkeep : Hid (∀ W, Below (w.heap.size + 1) (w.alloc (.cells #[.int .i64 0, .int .i64 0] 23)) W → _) := (fun W h => two_keep (w := w) (W := W) (c0 := .int .i64 0) (c1 := .int .i64 0) (e := 23) (by rw [World.size_alloc]; exact h))
  have HP : Hid (∀ p : Na.F, p = Na.parse (kb s) → Na.parse (kb s) = p) := (fun p h => h.symm : ∀ p : Na.F, p = Na.parse (kb s) → Na.parse (kb s) = p)
  obtain ⟨P, hP⟩ : ∃ P, P = Na.parse (kb s) := ⟨_, rfl⟩
  rw [← hP]
  have HPP : Hid (P = Na.parse (kb s)) := hP
  clear hP HP
  go_enter Tryd.func11, Tryd.ntmps11
  go_wp2
  go_loopw [3] (fun i wr => ∃ k : Nat, 1 ≤ k ∧ k ≤ 3 ∧ i = .int .i64 k ∧ Hid (∀ j : Nat, 1 ≤ j → j < k → Na.of ((j : Int), 0) ≠ kb s) ∧ Below (w.heap.size + 1) (w.alloc (.cells #[.int .i64 0, .int .i64 0] 23)) wr) (fun i _ => 3 - (intOf i).toNat)
  case atStart => exact ⟨1, by omega, by omega, rfl, (fun j h1 h2 => by omega : ∀ j : Nat, 1 ≤ j → j < 1 → Na.of ((j : Int), 0) ≠ kb s), Below.refl _ _⟩
  case round =>
    obtain ⟨k, hk1, hk3, rfl, HN, hbel⟩ := hrel
    obtain ⟨m0, m1, g0, g1, hbw, hlt1⟩ := hkeep.out _ hbel
    by_cases hk : k ≤ 2
    · have hof1 := hof ((k : Int), 0)
      simp only at hof1
      have i1 : (k : Int) ≤ 2 := by omega
      by_cases hE : Na.of ((k : Int), 0) = kb s
      · have H : Hid (P = ((k : Int), 0)) := (by
          rw [HPP.out, ← hE]
          have h12 : k = 1 ∨ k = 2 := by omega
          rcases h12 with rfl | rfl
          · exact Na.parse_of (by decide)
          · exact Na.parse_of (by decide) : P = ((k : Int), 0))
        clear HPP HN
        go_wp2_with (go_at_call 8; go_must (refine (hof1 _).mono ?_; rintro e w1 ⟨t, rfl, hkt, hbel1⟩; have hcmp : (t.toList == s.toList) = true := str_eq true (by simp [hkt, hE]); have hb1 := hbel.trans (hbel1.mono (Nat.le_trans (by simp) hbel.size)); obtain ⟨n0, n1, f0, f1, hbw1, hlt2⟩ := hkeep.out _ hb1))
        exact bodyPost_ret (v := .agg #[.int .i64 (k : Nat), .int .i64 0]) (by simp [results, Tryd.results11, go_sem, n0, n1]) rfl ⟨by rw [H.out], below_two hbw1 _ _⟩
      · have HN2 : Hid (∀ j : Nat, 1 ≤ j → j < k + 1 → Na.of ((j : Int), 0) ≠ kb s) := (by
          intro j h1 h2
          rcases Nat.lt_or_ge j k with h | h
          · exact HN.out j h1 h
          · obtain rfl : j = k := by omega
            exact hE : ∀ j : Nat, 1 ≤ j → j < k + 1 → Na.of ((j : Int), 0) ≠ kb s)
        clear HPP HN
        go_wp2_with (go_at_call 8; go_must (refine (hof1 _).mono ?_; rintro e w1 ⟨t, rfl, hkt, hbel1⟩; have hcmp : (t.toList == s.toList) = false := str_eq false (by simp [hkt, hE]); have hb1 := hbel.trans (hbel1.mono (Nat.le_trans (by simp) hbel.size))))
        go_roundw
        case rel => exact ⟨k + 1, by omega, by omega, by go_num, HN2, hb1⟩
        case measure => simp [intOf]; omega
    · have e3 : (k : Int) = 3 := by omega
      rw [e3]
      have HR : Hid (kb s ≠ Na.roster ∧ kb s ≠ Na.rosterNew) := (⟨fun e => HN.out 1 (by omega) (by omega) (by rw [e]; decide), fun e => HN.out 2 (by omega) (by omega) (by rw [e]; decide)⟩ : kb s ≠ Na.roster ∧ kb s ≠ Na.rosterNew)
      clear HN e3
      have hkl := kb_len s
      by_cases h11 : s.size = 11
      · have hnum : ∀ (t : ByteArray) (W : World), kb t = (kb s).drop 1 → Calls Tryd.prog 20 #[.string t] W fun e w' => e = .returned (.int .i64 (Na.num 0 ((kb s).drop 1))) ∧ w' = W := fun t W h => by
          have hl : t.size ≤ 10 := by rw [← kb_len, h, List.length_drop, hkl]; omega
          have := nnum_any t W hl
          rw [h] at this
          exact this
        have Hst : Hid (∀ k : Int, 3 ≤ k ∧ k ≤ 7 → ((1 ≤ Na.num 0 ((kb s).drop 1) ∧ Na.of (k, Na.num 0 ((kb s).drop 1)) = kb s) ↔ (Na.kindOf ((kb s).headD 0) = k ∧ 1 ≤ Na.num 0 ((kb s).drop 1) ∧ Na.num 0 ((kb s).drop 1) ≤ 2147483647))) := (fun k hk => Na.parse_step (by rw [hkl, h11]) hk : ∀ k : Int, 3 ≤ k ∧ k ≤ 7 → ((1 ≤ Na.num 0 ((kb s).drop 1) ∧ Na.of (k, Na.num 0 ((kb s).drop 1)) = kb s) ↔ (Na.kindOf ((kb s).headD 0) = k ∧ 1 ≤ Na.num 0 ((kb s).drop 1) ∧ Na.num 0 ((kb s).drop 1) ≤ 2147483647)))
        have HP2 : Hid (P = if Na.kindOf ((kb s).headD 0) ≠ 0 ∧ 1 ≤ Na.num 0 ((kb s).drop 1) ∧ Na.num 0 ((kb s).drop 1) ≤ 2147483647 then (Na.kindOf ((kb s).headD 0), Na.num 0 ((kb s).drop 1)) else (0, 0)) := by
          have : P = if Na.kindOf ((kb s).headD 0) ≠ 0 ∧ 1 ≤ Na.num 0 ((kb s).drop 1) ∧ Na.num 0 ((kb s).drop 1) ≤ 2147483647 then (Na.kindOf ((kb s).headD 0), Na.num 0 ((kb s).drop 1)) else (0, 0) := by
            rw [HPP.out]
            unfold Na.parse
            rw [if_neg HR.out.1, if_neg HR.out.2]
            simp only [hkl, h11, true_and]
          exact this
        have hsub : Hid (kb (s.extract 1 11) = (kb s).drop 1) := by
          have : kb (s.extract 1 11) = (kb s).drop 1 := by
            simp [kb]
            apply List.take_of_length_le
            have : s.data.size = 11 := h11
            simp [this]
          exact this
        clear HPP HR
        generalize Na.num 0 ((kb s).drop 1) = v at *
        go_wp2_with fail
        go_loopw [4] (fun i wr => ∃ k : Nat, 3 ≤ k ∧ k ≤ 8 ∧ i = .int .i64 k ∧ Hid (∀ j : Nat, 3 ≤ j → j < k → (1 ≤ v → ¬ Na.of ((j : Int), v) = kb s)) ∧ Below (w.heap.size + 1) (w.alloc (.cells #[.int .i64 0, .int .i64 0] 23)) wr) (fun i _ => 8 - (intOf i).toNat)
        case atStart => exact ⟨3, by omega, by omega, rfl, (fun j h1 h2 => by omega : ∀ j : Nat, 3 ≤ j → j < 3 → (1 ≤ v → ¬ Na.of ((j : Int), v) = kb s)), hbel⟩
        case round =>
          obtain ⟨k, hk1, hk8, rfl, HN, hbel⟩ := hrel
          clear m0 m1 g0 g1 hbw hlt1
          obtain ⟨m0, m1, g0, g1, hbw, hlt1⟩ := hkeep.out _ hbel
          by_cases hk7 : k ≤ 7
          · have i1 : (k : Int) ≤ 7 := by omega
            have hof1 := hof ((k : Int), v)
            simp only at hof1
            have HNv : Hid ((1 ≤ v → ¬ Na.of ((k : Int), v) = kb s) → ∀ j : Nat, 3 ≤ j → j < k + 1 → (1 ≤ v → ¬ Na.of ((j : Int), v) = kb s)) := (by
              intro hn j h1 h2
              rcases Nat.lt_or_ge j k with h | h
              · exact HN.out j h1 h
              · obtain rfl : j = k := by omega
                exact hn : (1 ≤ v → ¬ Na.of ((k : Int), v) = kb s) → ∀ j : Nat, 3 ≤ j → j < k + 1 → (1 ≤ v → ¬ Na.of ((j : Int), v) = kb s))
            have hbF := hbel.alloc (Nat.le_trans (by simp) hbel.size) (.cells #[.int .i64 (k : Nat), .int .i64 v] 23)
            by_cases hv1 : 1 ≤ v
            · by_cases hE : Na.of ((k : Int), v) = kb s
              · have H : Hid (P = ((k : Int), v)) := (by
                  have h := (Hst.out (k : Int) (by omega)).mp ⟨hv1, hE⟩
                  rw [HP2.out, h.1, if_pos ⟨by omega, h.2⟩] : P = ((k : Int), v))
                clear HN HNv HP2 Hst
                go_wp2_with (first
                  | (go_at_call 20; go_must (refine (hnum _ _ hsub.out).mono ?_; rintro e w2 ⟨rfl, hw⟩; obtain rfl : wr = w2 := hw.symm))
                  | (go_at_call 8; go_must (refine (hof1 _).mono ?_; rintro e w1 ⟨t, rfl, hkt, hbel1⟩; have hcmp : (t.toList == s.toList) = true := str_eq true (by simp [hkt, hE]); have hb1 := hbF.trans (hbel1.mono (Nat.le_trans (by simp) hbF.size)); obtain ⟨n0, n1, f0, f1, hbw1, hlt2⟩ := hkeep.out _ hb1; obtain ⟨y0, y1, _, _, _, hlt3⟩ := two_keep hbel1)))
                exact bodyPost_ret (v := .agg #[.int .i64 (k : Nat), .int .i64 v]) (by simp [results, Tryd.results11, go_sem, n0, n1]) rfl ⟨by rw [H.out], below_two hbw1 _ _⟩
              · have H : Hid (_) := HNv.out (fun _ => hE)
                clear HN HNv HP2 Hst
                go_wp2_with (first
                  | (go_at_call 20; go_must (refine (hnum _ _ hsub.out).mono ?_; rintro e w2 ⟨rfl, hw⟩; obtain rfl : wr = w2 := hw.symm))
                  | (go_at_call 8; go_must (refine (hof1 _).mono ?_; rintro e w1 ⟨t, rfl, hkt, hbel1⟩; have hcmp : (t.toList == s.toList) = false := str_eq false (by simp [hkt, hE]); have hb1 := hbF.trans (hbel1.mono (Nat.le_trans (by simp) hbF.size)))))
                go_roundw
                case rel => exact ⟨k + 1, by omega, by omega, by go_num, H, hb1⟩
                case measure => simp [intOf]; omega
            · have H : Hid (_) := HNv.out (fun h => absurd h hv1)
              clear HN HNv HP2 Hst hof1
              go_wp2_with (go_at_call 20; go_must (refine (hnum _ _ hsub.out).mono ?_; rintro e w2 ⟨rfl, hw⟩; obtain rfl : wr = w2 := hw.symm))
              go_roundw
              case rel => exact ⟨k + 1, by omega, by omega, by go_num, H, hbF⟩
              case measure => simp [intOf]; omega
          · obtain rfl : k = 8 := by omega
            have H : Hid (P = (0, 0)) := (by
              rw [HP2.out]
              by_cases hc : Na.kindOf ((kb s).headD 0) ≠ 0 ∧ 1 ≤ v ∧ v ≤ 2147483647
              · exfalso
                obtain ⟨g1, g2, _⟩ := Na.letter_kind hc.1
                obtain ⟨j, hj⟩ : ∃ j : Nat, Na.kindOf ((kb s).headD 0) = (j : Int) := ⟨(Na.kindOf ((kb s).headD 0)).toNat, by omega⟩
                have hmm := (Hst.out (j : Int) (by omega)).mpr ⟨hj, hc.2⟩
                exact HN.out j (by omega) (by omega) hmm.1 hmm.2
              · rw [if_neg hc] : P = (0, 0))
            clear HN HP2 Hst
            go_wp2
            exact bodyPost_ret (v := .agg #[.int .i64 0, .int .i64 0]) (by simp [results, Tryd.results11, go_sem, m0, m1]) rfl ⟨by rw [H.out], below_two hbw _ _⟩
      · have H : Hid (P = (0, 0)) := (by
          rw [HPP.out]
          unfold Na.parse
          rw [if_neg HR.out.1, if_neg HR.out.2, if_neg (by rw [hkl]; exact fun h => h11 h.1)] : P = (0, 0))
        have hd11 : ((s.size : Int) == 11) = false := by rw [beq_eq_false_iff_ne]; omega
        clear HPP HR
        go_wp2_with fail
        go_loopw [4] (fun i wr => i = .int .i64 (3 : Nat) ∧ Below (w.heap.size + 1) (w.alloc (.cells #[.int .i64 0, .int .i64 0] 23)) wr) (fun _ _ => 0)
        case atStart => exact ⟨rfl, hbel⟩
        case round =>
          obtain ⟨rfl, hbel⟩ := hrel
          clear m0 m1 g0 g1 hbw hlt1
          obtain ⟨m0, m1, g0, g1, hbw, hlt1⟩ := hkeep.out _ hbel
          go_wp2
          exact bodyPost_ret (v := .agg #[.int .i64 0, .int .i64 0]) (by simp [results, Tryd.results11, go_sem, m0, m1]) rfl ⟨by rw [H.out], below_two hbw _ _⟩
end Go.Proofs.YtaikgdgajkggiaaDoor
