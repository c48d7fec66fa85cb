/- What the program's Get of a point does. -/
import Derived.Test.YtgmcjalcpgldhaaQ2
namespace Go.Proofs.Ytgmcjalcpgldhaa
open Go.RowKit

theorem get_code (bs : List Nat) (h : Po.get bs = (Po.zero, 0)) : code (Po.get bs).2 = 2 := by rw [h]; rfl

set_option maxRecDepth 100000 in
set_option maxHeartbeats 2000000 in
theorem pgetC : PGetC := by
  intro a len cap bs w hshape hcap hbig hr
  have hlen : Hid (bs.length = len) := hr.1
  obtain ⟨G, hG⟩ : ∃ G, G = Po.get bs := ⟨_, rfl⟩
  rw [← hG]
  have HG : Hid (G = Po.get bs) := hG
  clear hG
  have hb0 := below_alloc w (.cells #[.int .i64 0, .int .i64 0, .int .i64 0, .int .u32 0] 25)
  have hkeep : Hid (∀ W, Below (w.alloc (.cells #[.int .i64 0, .int .i64 0, .int .i64 0, .int .u32 0] 25)).heap.size (w.alloc (.cells #[.int .i64 0, .int .i64 0, .int .i64 0, .int .u32 0] 25)) W → W.cell? ⟨w.heap.size, 0, none⟩ = some (.int .i64 0) ∧ W.cell? ⟨w.heap.size, 1, none⟩ = some (.int .i64 0) ∧ W.cell? ⟨w.heap.size, 2, none⟩ = some (.int .i64 0) ∧ W.cell? ⟨w.heap.size, 3, none⟩ = some (.int .u32 0) ∧ W.frozen? ⟨w.heap.size, 0, none⟩ = false ∧ W.frozen? ⟨w.heap.size, 1, none⟩ = false ∧ W.frozen? ⟨w.heap.size, 2, none⟩ = false ∧ W.frozen? ⟨w.heap.size, 3, none⟩ = false ∧ Below w.heap.size w W ∧ w.heap.size < W.heap.size) := by
    refine (fun W h => ?_ : ∀ W, Below (w.alloc (.cells #[.int .i64 0, .int .i64 0, .int .i64 0, .int .u32 0] 25)).heap.size (w.alloc (.cells #[.int .i64 0, .int .i64 0, .int .i64 0, .int .u32 0] 25)) W → _)
    obtain ⟨k0, k1, k2, k3⟩ := cell_four w (.int .i64 0) (.int .i64 0) (.int .i64 0) (.int .u32 0) 25 rfl
    have hl : w.heap.size < (w.alloc (.cells #[.int .i64 0, .int .i64 0, .int .i64 0, .int .u32 0] 25)).heap.size := by simp
    exact ⟨(h.cell (p := ⟨w.heap.size, 0, none⟩) hl).trans k0, (h.cell (p := ⟨w.heap.size, 1, none⟩) hl).trans k1, (h.cell (p := ⟨w.heap.size, 2, none⟩) hl).trans k2, (h.cell (p := ⟨w.heap.size, 3, none⟩) hl).trans k3,
      (h.frozen (p := ⟨w.heap.size, 0, none⟩) hl).trans (frozen_new w _ 25 0), (h.frozen (p := ⟨w.heap.size, 1, none⟩) hl).trans (frozen_new w _ 25 1), (h.frozen (p := ⟨w.heap.size, 2, none⟩) hl).trans (frozen_new w _ 25 2), (h.frozen (p := ⟨w.heap.size, 3, none⟩) hl).trans (frozen_new w _ 25 3),
      hb0.trans (h.mono hb0.size), Nat.lt_of_lt_of_le hl h.size⟩
  have hall := all_any a len cap bs 3 _ (by omega) hbig hshape (hr.below hb0 (Nat.le_refl _))
  have hok := Po.all_ok bs 3
  rw [hlen.out] at hok
  have hno := fun h => Po.get_no (bs := bs) h
  rw [← HG.out, hlen.out] at hno
  obtain ⟨R, hR⟩ : ∃ R, R = Va.all bs 3 := ⟨_, rfl⟩
  rw [← hR] at hall hok hno
  have HR : Hid (R = Va.all bs 3) := hR
  clear hR
  obtain ⟨nl, at', cd⟩ := R
  simp only at hok hno
  obtain ⟨hat, hcd, hsmall⟩ := hok
  have Hno : Hid (_) := hno
  clear hno
  by_cases hc : cd = 0
  · subst hc
    obtain ⟨l0, l1, l2, rfl⟩ : ∃ l0 l1 l2, nl = [l0, l1, l2] := by
      have h3 := hcd rfl
      match nl, h3 with
      | [l0, l1, l2], _ => exact ⟨l0, l1, l2, rfl⟩
    have hall3 : Calls Try.prog 42 #[.slice a len cap, .int .i64 3] (w.alloc (.cells #[.int .i64 0, .int .i64 0, .int .i64 0, .int .u32 0] 25)) fun e w' => ∃ a1 c1, e = .returned (.tuple #[.slice a1 3 c1, .int .i64 (at' : Nat), .int .i64 0]) ∧ w'.ownsRow (w.alloc (.cells #[.int .i64 0, .int .i64 0, .int .i64 0, .int .u32 0] 25)).heap.size 53 1 (.slice a1 3 c1) 3 (kcells .u64 [l0, l1, l2]) ∧ Below (w.alloc (.cells #[.int .i64 0, .int .i64 0, .int .i64 0, .int .u32 0] 25)).heap.size (w.alloc (.cells #[.int .i64 0, .int .i64 0, .int .i64 0, .int .u32 0] 25)) w' := hall
    have hs0 := hsmall l0 (by simp)
    have hs1 := hsmall l1 (by simp)
    have hs2 := hsmall l2 (by simp)
    clear hcd
    have hmx : ∀ W g c, W.cell? ⟨g, 0, none⟩ = some (.int .u64 (l0 : Nat)) → W.cell? ⟨g, 1, none⟩ = some (.int .u64 (l1 : Nat)) → W.cell? ⟨g, 2, none⟩ = some (.int .u64 (l2 : Nat)) → Calls Try.prog 43 #[.slice (some ⟨g, 0, none⟩) 3 c] W fun e w' => e = .returned (.int .u64 (max3 l0 l1 l2 : Nat)) ∧ w' = W := fun W g c h0 h1 h2 => max3_any g c l0 l1 l2 W h0 h1 h2
    have Hmx : Hid (max3 l0 l1 l2 = max (max l0 l1) l2) := (rfl : max3 l0 l1 l2 = max (max l0 l1) l2)
    generalize max3 l0 l1 l2 = mx at *
    by_cases h4 : at' + 4 ≤ len
    · by_cases hm : mx ≤ 2147483647
      · have hl0 : l0 ≤ 2147483647 := by have := Hmx.out; omega
        have hl1 : l1 ≤ 2147483647 := by have := Hmx.out; omega
        have hl2 : l2 ≤ 2147483647 := by have := Hmx.out; omega
        have Hget : Hid (G = if Po.may ((l0 : Int), (l1 : Int), (l2 : Int), Fr.val4 ((bs.drop at').take 4)) = true then (((l0 : Int), (l1 : Int), (l2 : Int), Fr.val4 ((bs.drop at').take 4)), at' + 4) else (Po.zero, 0)) := by
          have h1 : G = if Po.may ((l0 : Int), (l1 : Int), (l2 : Int), Fr.val4 ((bs.drop at').take 4)) = true then (((l0 : Int), (l1 : Int), (l2 : Int), Fr.val4 ((bs.drop at').take 4)), at' + 4) else (Po.zero, 0) := by
            rw [HG.out]; unfold Po.get; rw [← HR.out]; simp only [Po.ofNums, List.getD_cons_zero, List.getD_cons_succ]
            congr 1
            simp only [true_and, eq_iff_iff, and_iff_right_iff_imp]
            intro _; rw [hlen.out]; exact h4
          exact h1
        clear Hno HR HG hall Hmx
        obtain ⟨b, off, rfl, hcc⟩ := hr.at (by omega)
        clear hcc
        have hv4 : Fr.val4 ((bs.drop at').take 4) < 4294967296 := Po.val4_lt (take_small (drop_small hr.2.2.1 _) _)
        have hr4 := (hr.drop at' (by omega)).take 4 (by omega)
        have hso : ∀ W z c q, Below w.heap.size w W → z = 4 → q = off + at' → Calls Try.prog 44 #[.slice (some ⟨b, q, none⟩) z c] W fun e w' => e = .returned (.int .u32 (Fr.val4 ((bs.drop at').take 4) : Nat)) ∧ w' = W := fun W z c q hW hz hq => by
          subst hq
          exact sumof_any _ _ _ _ _ hz (hr4.below hW (Nat.le_refl _))
        have hck := fun W => pcheckC ((l0 : Int), (l1 : Int), (l2 : Int), Fr.val4 ((bs.drop at').take 4)) W ⟨by simp only []; omega, by simp only []; omega, by simp only []; omega, hv4⟩
        generalize Fr.val4 ((bs.drop at').take 4) = q at *
        simp only [pv] at hck
        have hcap2 : at' + 4 ≤ cap := by omega
        have i0 : IntKind.i64.wrap (l0 : Int) = (l0 : Int) := by rw [IntKind.wrap_i64]; omega
        have i1 : IntKind.i64.wrap (l1 : Int) = (l1 : Int) := by rw [IntKind.wrap_i64]; omega
        have i2 : IntKind.i64.wrap (l2 : Int) = (l2 : Int) := by rw [IntKind.wrap_i64]; omega
        have i3 : (0 : Int) ≤ (at' : Int) := by omega
        have i4 : (at' : Int) ≤ (at' : Int) + 4 := by omega
        have i5 : (at' : Int) + 4 ≤ (cap : Int) := by omega
        have i8 : ¬ (cap = at') := by omega
        have d1 : decide ((len : Int) - (at' : Int) < 4) = false := by simp; omega
        have d2 : decide (2147483647 < (mx : Int)) = false := by simp; omega
        clear hr4 hshape
        go_enter Try.func31, Try.ntmps31
        go_wp2_with (first
          | (go_at_call 42; go_must (refine hall3.mono ?_; rintro e w1 ⟨a1, c1, rfl, hown1, hbel1⟩; obtain ⟨n0, n1, n2, n3, f0, f1, f2, f3, hb1, hs1'⟩ := hkeep.out w1 hbel1; obtain ⟨g, rfl, hgc, q0, q1, q2, hgl⟩ := three_of hown1 hsmall; have hne := World.new_ne w1 ⟨g, 0, none⟩ q0))
          | (go_at_call 43; go_must (refine (hmx _ _ _ q0 q1 q2).mono ?_; rintro e w1' ⟨rfl, hw⟩; obtain rfl : w1 = w1' := hw.symm)))
        go_region_held3 (fun w' => w'.cell? ⟨g, 0, none⟩ = some (.int .u64 (l0 : Nat)) ∧ w'.cell? ⟨g, 1, none⟩ = some (.int .u64 (l1 : Nat)) ∧ w'.cell? ⟨g, 2, none⟩ = some (.int .u64 (l2 : Nat))) (first | go_keep | (refine ⟨?_, ?_, ?_⟩ <;> assumption))
          (first
            | ((go_at_call 44; refine (hso _ _ _ _ hb1.drew ?_ ?_).mono ?_; omega; omega; rintro e w2 ⟨rfl, rfl⟩))
            | ((go_at_call 44; refine (hso _ _ _ _ ((hb1.alloc hb1.size _).drew) ?_ ?_).mono ?_; omega; omega; rintro e w2 ⟨rfl, rfl⟩)))
        all_goals
          obtain ⟨m0, m1, m2, m3⟩ := cell_four w1 (.int .i64 (l0 : Nat)) (.int .i64 (l1 : Nat)) (.int .i64 (l2 : Nat)) (.int .u32 (q : Nat)) 25 rfl
          have hbel2 : Below (w.alloc (.cells #[.int .i64 0, .int .i64 0, .int .i64 0, .int .u32 0] 25)).heap.size (w.alloc (.cells #[.int .i64 0, .int .i64 0, .int .i64 0, .int .u32 0] 25)) (w1.alloc (.cells #[.int .i64 (l0 : Nat), .int .i64 (l1 : Nat), .int .i64 (l2 : Nat), .int .u32 (q : Nat)] 25)) := hbel1.alloc hbel1.size _
          have hlt2 : w1.heap.size < (w1.alloc (.cells #[.int .i64 (l0 : Nat), .int .i64 (l1 : Nat), .int .i64 (l2 : Nat), .int .u32 (q : Nat)] 25)).heap.size := by simp
          clear hown1 hbel1 n0 n1 n2 n3 f0 f1 f2 f3 hb1 hs1' hgc q0 q1 q2 hgl hne hso hmx hall3 hr hb0
          generalize w1.alloc (.cells #[.int .i64 (l0 : Nat), .int .i64 (l1 : Nat), .int .i64 (l2 : Nat), .int .u32 (q : Nat)] 25) = W2 at *
          generalize w1.heap.size = M at *
          have hcs : Hid (∀ W, Below W2.heap.size W2.drew W → W.cell? ⟨M, 0, none⟩ = some (.int .i64 (l0 : Nat)) ∧ W.cell? ⟨M, 1, none⟩ = some (.int .i64 (l1 : Nat)) ∧ W.cell? ⟨M, 2, none⟩ = some (.int .i64 (l2 : Nat)) ∧ W.cell? ⟨M, 3, none⟩ = some (.int .u32 (q : Nat)) ∧ Below (w.alloc (.cells #[.int .i64 0, .int .i64 0, .int .i64 0, .int .u32 0] 25)).heap.size (w.alloc (.cells #[.int .i64 0, .int .i64 0, .int .i64 0, .int .u32 0] 25)) W) := by
            refine (fun W h0 => ?_ : ∀ W, Below W2.heap.size W2.drew W → _)
            have h := below_of_drew h0
            exact ⟨(h.cell (p := ⟨M, 0, none⟩) hlt2).trans m0, (h.cell (p := ⟨M, 1, none⟩) hlt2).trans m1, (h.cell (p := ⟨M, 2, none⟩) hlt2).trans m2, (h.cell (p := ⟨M, 3, none⟩) hlt2).trans m3, hbel2.trans (h.mono hbel2.size)⟩
          by_cases hmm : Po.may ((l0 : Int), (l1 : Int), (l2 : Int), q) = true
          · have H : Hid (G = (((l0 : Int), (l1 : Int), (l2 : Int), q), at' + 4)) := (by rw [Hget.out, if_pos hmm] : G = (((l0 : Int), (l1 : Int), (l2 : Int), q), at' + 4))
            rw [if_pos hmm] at hck
            have hck2 : ∀ W, Calls Try.prog 26 #[.agg #[.int .i64 l0, .int .i64 l1, .int .i64 l2, .int .u32 q]] W fun e w' => e = .returned (.int .i64 0) ∧ Below W.heap.size W w' := hck
            clear hmm Hget hck
            go_wp2_with (go_at_call 26; go_must (refine (hck2 _).mono ?_; rintro e w3 ⟨rfl, hbel3⟩; obtain ⟨t0, t1, t2, t3, hbel4⟩ := hcs.out w3 hbel3; obtain ⟨n0, n1, n2, n3, f0, f1, f2, f3, hb1, hs1'⟩ := hkeep.out w3 hbel4))
            exact bodyPost_ret (v := .tuple #[pv ((l0 : Int), (l1 : Int), (l2 : Int), q), .int .i64 ((at' + 4 : Nat) : Int), .int .i64 0]) (by simp [pv, results, Try.results31, go_sem, n0, n1, n2, n3]) rfl ⟨by rw [H.out]; rfl, (((hb1.setCell (Nat.le_refl _) _).setCell (Nat.le_refl _) _).setCell (Nat.le_refl _) _).setCell (Nat.le_refl _) _⟩
          · have H : Hid (G = (Po.zero, 0)) := (by rw [Hget.out, if_neg hmm] : G = (Po.zero, 0))
            rw [if_neg hmm] at hck
            have hck2 : ∀ W, Calls Try.prog 26 #[.agg #[.int .i64 l0, .int .i64 l1, .int .i64 l2, .int .u32 q]] W fun e w' => e = .returned (.int .i64 1) ∧ Below W.heap.size W w' := hck
            clear hmm Hget hck
            go_wp2_with (go_at_call 26; go_must (refine (hck2 _).mono ?_; rintro e w3 ⟨rfl, hbel3⟩; obtain ⟨t0, t1, t2, t3, hbel4⟩ := hcs.out w3 hbel3; obtain ⟨n0, n1, n2, n3, f0, f1, f2, f3, hb1, hs1'⟩ := hkeep.out w3 hbel4))
            exact bodyPost_ret (v := .tuple #[pv Po.zero, .int .i64 0, .int .i64 2]) (by simp [pv, Po.zero, results, Try.results31, go_sem, n0, n1, n2, n3]) rfl ⟨by rw [H.out]; rfl, (((hb1.setCell (Nat.le_refl _) _).setCell (Nat.le_refl _) _).setCell (Nat.le_refl _) _).setCell (Nat.le_refl _) _⟩
      · have H : Hid (G = (Po.zero, 0)) := Hno.out (fun h => by have := (Po.may_iff _).mp h.2.2; simp only [Po.ofNums, List.getD_cons_zero, List.getD_cons_succ] at this; have := Hmx.out; omega)
        clear Hno HR HG hall Hmx
        have d1 : decide ((len : Int) - (at' : Int) < 4) = false := by simp; omega
        have d2 : decide (2147483647 < (mx : Int)) = true := by simp; omega
        go_enter Try.func31, Try.ntmps31
        go_wp2_with (first
          | (go_at_call 42; go_must (refine hall3.mono ?_; rintro e w1 ⟨a1, c1, rfl, hown1, hbel1⟩; obtain ⟨n0, n1, n2, n3, f0, f1, f2, f3, hb1, hs1'⟩ := hkeep.out w1 hbel1; obtain ⟨g, rfl, hgc, q0, q1, q2, hgl⟩ := three_of hown1 hsmall))
          | (go_at_call 43; go_must (refine (hmx _ _ _ q0 q1 q2).mono ?_; rintro e w1' ⟨rfl, hw⟩; obtain rfl : w1 = w1' := hw.symm)))
        exact bodyPost_ret (v := .tuple #[pv Po.zero, .int .i64 0, .int .i64 2]) (by simp [pv, Po.zero, results, Try.results31, go_sem, n0, n1, n2, n3]) rfl ⟨by rw [H.out]; rfl, (((hb1.setCell (Nat.le_refl _) _).setCell (Nat.le_refl _) _).setCell (Nat.le_refl _) _).setCell (Nat.le_refl _) _⟩
    · have H : Hid (G = (Po.zero, 0)) := Hno.out (fun h => h4 h.2.1)
      clear Hno HR HG hall
      have d1 : decide ((len : Int) - (at' : Int) < 4) = true := by simp; omega
      go_enter Try.func31, Try.ntmps31
      go_wp2_with (go_at_call 42; go_must (refine hall3.mono ?_; rintro e w1 ⟨a1, c1, rfl, hown1, hbel1⟩; obtain ⟨n0, n1, n2, n3, f0, f1, f2, f3, hb1, hs1'⟩ := hkeep.out w1 hbel1))
      exact bodyPost_ret (v := .tuple #[pv Po.zero, .int .i64 0, .int .i64 2]) (by simp [pv, Po.zero, results, Try.results31, go_sem, n0, n1, n2, n3]) rfl ⟨by rw [H.out]; rfl, (((hb1.setCell (Nat.le_refl _) _).setCell (Nat.le_refl _) _).setCell (Nat.le_refl _) _).setCell (Nat.le_refl _) _⟩
  · have H : Hid (G = (Po.zero, 0)) := Hno.out (fun h => hc h.1)
    have hcb : ((cd : Int) == 0) = false := by simp; omega
    clear hcd Hno HR HG
    go_enter Try.func31, Try.ntmps31
    go_wp2_with (go_at_call 42; go_must (refine hall.mono ?_; rintro e w1 ⟨a1, c1, rfl, hown1, hbel1⟩; obtain ⟨n0, n1, n2, n3, f0, f1, f2, f3, hb1, hs1'⟩ := hkeep.out w1 hbel1))
    exact bodyPost_ret (v := .tuple #[pv Po.zero, .int .i64 0, .int .i64 2]) (by simp [pv, Po.zero, results, Try.results31, go_sem, n0, n1, n2, n3]) rfl ⟨by rw [H.out]; rfl, (((hb1.setCell (Nat.le_refl _) _).setCell (Nat.le_refl _) _).setCell (Nat.le_refl _) _).setCell (Nat.le_refl _) _⟩
end Go.Proofs.Ytgmcjalcpgldhaa
