/- Edits: may one be, as the reference asks: what a log is let go of up to. -/
import Derived.Test.YtmodogmjfbcddaaGreatEQ
namespace Go.Proofs.YtmodogmjfbcddaaGreat
open Go.RowKit

set_option maxRecDepth 100000 in
set_option maxHeartbeats 20000000 in
theorem rmay_8 (n i t a b c p q r : Int) (f g P : ByteArray) (w : World) (hI hT hN hH hB r1 r2 r3 R TL : Bool) (hP : P.toList.isEmpty = false)
    (hpar : ∀ W, Calls Tryz.prog 78 #[.int .i64 8] W fun e w' => e = .returned (.string P) ∧ Below W.heap.size W w')
    (hhI : ∀ W, Calls Tryz.prog 80 #[.string P, .int .u8 73] W fun e w' => e = .returned (.bool hI) ∧ w' = W)
    (hhT : ∀ W, Calls Tryz.prog 80 #[.string P, .int .u8 84] W fun e w' => e = .returned (.bool hT) ∧ w' = W)
    (hhN : ∀ W, Calls Tryz.prog 80 #[.string P, .int .u8 78] W fun e w' => e = .returned (.bool hN) ∧ w' = W)
    (hhH : ∀ W, Calls Tryz.prog 80 #[.string P, .int .u8 72] W fun e w' => e = .returned (.bool hH) ∧ w' = W)
    (hhB : ∀ W, Calls Tryz.prog 80 #[.string P, .int .u8 66] W fun e w' => e = .returned (.bool hB) ∧ w' = W)
    (hrI : ∀ W, Calls Tryz.prog 79 #[.int .i64 i, .bool hI] W fun e w' => e = .returned (.bool r1) ∧ w' = W)
    (hrT : ∀ W, Calls Tryz.prog 79 #[.int .i64 t, .bool hT] W fun e w' => e = .returned (.bool r2) ∧ w' = W)
    (hrN : ∀ W, Calls Tryz.prog 79 #[.int .i64 n, .bool hN] W fun e w' => e = .returned (.bool r3) ∧ w' = W)
    (HR : Hid (R = ((r1 || decide (i = 0)) && (r2 || decide (t = 0)) && (r3 && (!(decide (i = 0) != decide (t = 0)) && TL))))) (HTL : Hid (TL = (hardOk a b c hH && (if hB = true then Lv.one ⟨p, q, r, f, g⟩ else Ed.tz ⟨p, q, r, f, g⟩)))) :
    Calls Tryz.prog 34 #[ed12 8 n i t a b c p q r f g] w fun e w' => e = .returned (.bool R) ∧ Below w.heap.size w w' := by
  have tok : Hid (0 = 0) := (rfl : 0 = 0)
  go_enter Tryz.func34, Tryz.ntmps34
  go_wp2_with (go_at_call 78; refine (hpar _).mono ?_; rintro e w2 ⟨rfl, hb2⟩; have hz2 : Hid (_ = _) := ob_below (heap_alloc_new w (oed 8 n i t a b c p q r f g)) hb2; have hB2 := (below_alloc w (oed 8 n i t a b c p q r f g)).trans (hb2.mono (by simp)))
  rename_i K1 hK1 K hK
  have hno : ∀ (x8 x9 x10 x11 x12 x13 x14 x15 x16 x17 x18 x19 x20 x21 x22 x23 x24 x25 x26 x27 x28 x29 x30 x31 x32 x33 x34 x35 x36 x37 x38 x39 x40 x41 x42 x43 x44 x45 x46 : Value) W, Below w.heap.size w W → R = false → K { tmps := #[ed12 8 n i t a b c p q r f g, .pointer (some ⟨w.heap.size, 0, none⟩), .bool false, .string P, undef, .pointer (some ⟨w.heap.size, 0, none⟩), .int .i64 8, .string P, x8, x9, x10, x11, x12, x13, x14, x15, x16, x17, x18, x19, x20, x21, x22, x23, x24, x25, x26, x27, x28, x29, x30, x31, x32, x33, x34, x35, x36, x37, x38, x39, x40, x41, x42, x43, x44, x45, x46, .bool true, undef, undef, undef, undef, undef, undef, undef, undef, undef, undef, undef, undef, undef, undef, undef, undef, undef, undef, undef, undef, undef, undef, undef, undef, undef, undef, undef, undef, undef, undef, undef, undef, undef, undef, undef, undef, undef, undef, undef, undef, undef, undef, undef, undef, undef, undef, undef, undef, undef, undef, undef, undef, undef, undef, undef, undef, undef, undef, undef, undef, undef, undef, undef, undef, undef, undef, undef, undef, undef, undef, undef, undef, undef, undef, undef, undef, undef, undef, undef, undef, undef], defers := [] } W := by
    intro x8 x9 x10 x11 x12 x13 x14 x15 x16 x17 x18 x19 x20 x21 x22 x23 x24 x25 x26 x27 x28 x29 x30 x31 x32 x33 x34 x35 x36 x37 x38 x39 x40 x41 x42 x43 x44 x45 x46 W hW HF
    have HF : Hid (R = false) := HF
    apply hK
    go_wp2
    go_ret
    rw [HF.out]
    exact ⟨rfl, hW⟩
  have hyes : ∀ (x8 x9 x10 x11 x12 x13 x14 x15 x16 x17 x18 x19 x20 x21 x22 x23 x24 x25 x26 x27 x28 x29 x30 x31 x32 x33 x34 x35 x36 x37 x38 x39 x40 x41 x42 x43 x44 x45 x46 : Value) W, Below w.heap.size w W → Hid (W.heap[w.heap.size]? = some (oed 8 n i t a b c p q r f g)) → Hid (R = (r3 && (!(decide (i = 0) != decide (t = 0)) && TL))) → K { tmps := #[ed12 8 n i t a b c p q r f g, .pointer (some ⟨w.heap.size, 0, none⟩), .bool false, .string P, undef, .pointer (some ⟨w.heap.size, 0, none⟩), .int .i64 8, .string P, x8, x9, x10, x11, x12, x13, x14, x15, x16, x17, x18, x19, x20, x21, x22, x23, x24, x25, x26, x27, x28, x29, x30, x31, x32, x33, x34, x35, x36, x37, x38, x39, x40, x41, x42, x43, x44, x45, x46, .bool false, undef, undef, undef, undef, undef, undef, undef, undef, undef, undef, undef, undef, undef, undef, undef, undef, undef, undef, undef, undef, undef, undef, undef, undef, undef, undef, undef, undef, undef, undef, undef, undef, undef, undef, undef, undef, undef, undef, undef, undef, undef, undef, undef, undef, undef, undef, undef, undef, undef, undef, undef, undef, undef, undef, undef, undef, undef, undef, undef, undef, undef, undef, undef, undef, undef, undef, undef, undef, undef, undef, undef, undef, undef, undef, undef, undef, undef, undef, undef, undef, undef], defers := [] } W := by
    intro x8 x9 x10 x11 x12 x13 x14 x15 x16 x17 x18 x19 x20 x21 x22 x23 x24 x25 x26 x27 x28 x29 x30 x31 x32 x33 x34 x35 x36 x37 x38 x39 x40 x41 x42 x43 x44 x45 x46 W hW hO HR2
    have hCC := blk12 hO.out
    apply hK
    go_wp2_with fail
    rename_i K2 hK2
    have hno2 : ∀ (y48 y49 y50 y51 y52 y53 y54 y55 y56 y57 y58 y59 y60 y61 y62 y63 y64 y65 y66 y67 y68 y69 y70 y71 y72 y73 y74 y75 y76 y77 : Value) W, Below w.heap.size w W → R = false → K2 { tmps := #[ed12 8 n i t a b c p q r f g, .pointer (some ⟨w.heap.size, 0, none⟩), .bool false, .string P, undef, .pointer (some ⟨w.heap.size, 0, none⟩), .int .i64 8, .string P, x8, x9, x10, x11, x12, x13, x14, x15, x16, x17, x18, x19, x20, x21, x22, x23, x24, x25, x26, x27, x28, x29, x30, x31, x32, x33, x34, x35, x36, x37, x38, x39, x40, x41, x42, x43, x44, x45, x46, .bool false, y48, y49, y50, y51, y52, y53, y54, y55, y56, y57, y58, y59, y60, y61, y62, y63, y64, y65, y66, y67, y68, y69, y70, y71, y72, y73, y74, y75, y76, y77, .bool true, undef, undef, undef, undef, undef, undef, undef, undef, undef, undef, undef, undef, undef, undef, undef, undef, undef, undef, undef, undef, undef, undef, undef, undef, undef, undef, undef, undef, undef, undef, undef, undef, undef, undef, undef, undef, undef, undef, undef, undef, undef, undef, undef, undef, undef, undef, undef, undef, undef, undef], defers := [] } W := by
      intro y48 y49 y50 y51 y52 y53 y54 y55 y56 y57 y58 y59 y60 y61 y62 y63 y64 y65 y66 y67 y68 y69 y70 y71 y72 y73 y74 y75 y76 y77 W hW HF
      have HF : Hid (R = false) := HF
      apply hK2
      go_wp2
      go_ret
      rw [HF.out]
      exact ⟨rfl, hW⟩
    have hyes2 : ∀ (y48 y49 y50 y51 y52 y53 y54 y55 y56 y57 y58 y59 y60 y61 y62 y63 y64 y65 y66 y67 y68 y69 y70 y71 y72 y73 y74 y75 y76 y77 : Value) W, Below w.heap.size w W → Hid (W.heap[w.heap.size]? = some (oed 8 n i t a b c p q r f g)) → Hid (R = TL) → K2 { tmps := #[ed12 8 n i t a b c p q r f g, .pointer (some ⟨w.heap.size, 0, none⟩), .bool false, .string P, undef, .pointer (some ⟨w.heap.size, 0, none⟩), .int .i64 8, .string P, x8, x9, x10, x11, x12, x13, x14, x15, x16, x17, x18, x19, x20, x21, x22, x23, x24, x25, x26, x27, x28, x29, x30, x31, x32, x33, x34, x35, x36, x37, x38, x39, x40, x41, x42, x43, x44, x45, x46, .bool false, y48, y49, y50, y51, y52, y53, y54, y55, y56, y57, y58, y59, y60, y61, y62, y63, y64, y65, y66, y67, y68, y69, y70, y71, y72, y73, y74, y75, y76, y77, .bool false, undef, undef, undef, undef, undef, undef, undef, undef, undef, undef, undef, undef, undef, undef, undef, undef, undef, undef, undef, undef, undef, undef, undef, undef, undef, undef, undef, undef, undef, undef, undef, undef, undef, undef, undef, undef, undef, undef, undef, undef, undef, undef, undef, undef, undef, undef, undef, undef, undef, undef], defers := [] } W := by
      intro y48 y49 y50 y51 y52 y53 y54 y55 y56 y57 y58 y59 y60 y61 y62 y63 y64 y65 y66 y67 y68 y69 y70 y71 y72 y73 y74 y75 y76 y77 W hW hO HR4
      have hAl := hW.alloc hW.size (.cells #[.int .i64 a, .int .i64 b, .int .i64 c] 27)
      obtain ⟨m0, m1, m2, m3, m4, m5, m6, m7, m8, m9, m10, m11⟩ := blk12 (ob_alloc hO.out (.cells #[.int .i64 a, .int .i64 b, .int .i64 c] 27))
      obtain ⟨e0, e1, e2, e3, e4, e5, e6, e7, e8, e9, e10, e11⟩ := blk12 hO.out
      by_cases f0 : a < 0
      · have HF : Hid (R = false) := (by rw [HR4.out, HTL.out, hardOk, decide_eq_false (by omega : ¬ 0 ≤ a)]; simp : R = false)
        apply hK2
        go_wp2
        go_ret
        rw [HF.out]
        exact ⟨rfl, hAl⟩
      by_cases f1 : b < 0
      · have HF : Hid (R = false) := (by rw [HR4.out, HTL.out, hardOk, decide_eq_false (by omega : ¬ 0 ≤ b)]; simp : R = false)
        apply hK2
        go_wp2
        go_ret
        rw [HF.out]
        exact ⟨rfl, hAl⟩
      by_cases f2 : c < 0
      · have HF : Hid (R = false) := (by rw [HR4.out, HTL.out, hardOk, decide_eq_false (by omega : ¬ 0 ≤ c)]; simp : R = false)
        apply hK2
        go_wp2
        go_ret
        rw [HF.out]
        exact ⟨rfl, hAl⟩
      by_cases f3 : 2147483647 < a
      · have HF : Hid (R = false) := (by rw [HR4.out, HTL.out, hardOk, decide_eq_false (by omega : ¬ a ≤ 2147483647)]; simp : R = false)
        apply hK2
        go_wp2
        go_ret
        rw [HF.out]
        exact ⟨rfl, hAl⟩
      by_cases f4 : 2147483647 < b
      · have HF : Hid (R = false) := (by rw [HR4.out, HTL.out, hardOk, decide_eq_false (by omega : ¬ b ≤ 2147483647)]; simp : R = false)
        apply hK2
        go_wp2
        go_ret
        rw [HF.out]
        exact ⟨rfl, hAl⟩
      by_cases f5 : 2147483647 < c
      · have HF : Hid (R = false) := (by rw [HR4.out, HTL.out, hardOk, decide_eq_false (by omega : ¬ c ≤ 2147483647)]; simp : R = false)
        apply hK2
        go_wp2
        go_ret
        rw [HF.out]
        exact ⟨rfl, hAl⟩
      have g6 : (decide (0 ≤ a) && decide (0 ≤ b) && decide (0 ≤ c) && decide (a ≤ 2147483647) && decide (b ≤ 2147483647) && decide (c ≤ 2147483647)) = true := by simp; omega
      have HL : Hid (R = ((hH || decide (a = 0 ∧ b = 0 ∧ c = 0)) && (if hB = true then Lv.one ⟨p, q, r, f, g⟩ else Ed.tz ⟨p, q, r, f, g⟩))) := (by rw [HR4.out, HTL.out, hardOk, g6, Bool.true_and] : R = _)
      clear g6 HR4 HTL
      cases hH with
      | true =>
        have HL2 : Hid (R = if hB = true then Lv.one ⟨p, q, r, f, g⟩ else Ed.tz ⟨p, q, r, f, g⟩) := (by rw [HL.out]; simp : R = _)
        clear HL
        cases hB with
        | true =>
          have HF : Hid (R = Lv.one ⟨p, q, r, f, g⟩) := HL2
          have htab := lit_tab (W.alloc (.cells #[.int .i64 a, .int .i64 b, .int .i64 c] 27)) p q r f g (g := W.heap.size + 1) (by simp)
          have hmy := rmay_any (some ⟨W.heap.size + 1, 0, none⟩) 1 1 [⟨p, q, r, f, g⟩] _ (by omega) htab
          rw [lmay_one] at hmy
          generalize Lv.one ⟨p, q, r, f, g⟩ = O1 at *
          apply hK2
          go_wp2_with (first | (go_at_call 80; clear tok; refine (hhH _).mono ?_; rintro e w9 ⟨rfl, rfl⟩) | (go_at_call 80; refine (hhB _).mono ?_; rintro e w9 ⟨rfl, rfl⟩) | (go_at_call 31; refine hmy.mono ?_; rintro e w9 ⟨rfl, hb9⟩))
          go_ret
          rw [HF.out]
          have hA2 := hAl.alloc hAl.size (otab p q r f g)
          exact ⟨rfl, hA2.trans (hb9.mono hA2.size)⟩
        | false =>
          cases htz : Ed.tz ⟨p, q, r, f, g⟩ with
          | true =>
            have HF : Hid (R = true) := (by rw [HL2.out, htz]; rfl : R = true)
            have := (Ed.tz_iff _).mp htz
            simp only [Lv.zero, Lv.T.mk.injEq] at this
            obtain ⟨rfl, rfl, rfl, rfl, rfl⟩ := this
            clear htz HL2
            apply hK2
            go_wp2_with (first | (go_at_call 80; clear tok; refine (hhH _).mono ?_; rintro e w9 ⟨rfl, rfl⟩) | (go_at_call 80; refine (hhB _).mono ?_; rintro e w9 ⟨rfl, rfl⟩))
            go_ret
            rw [HF.out]
            exact ⟨rfl, hAl⟩
          | false =>
            have HF : Hid (R = false) := (by rw [HL2.out, htz]; rfl : R = false)
            have hif5 := unlike5 htz
            clear htz HL2
            apply hK2
            go_wp2_with (first | (go_at_call 80; clear tok; refine (hhH _).mono ?_; rintro e w9 ⟨rfl, rfl⟩) | (go_at_call 80; refine (hhB _).mono ?_; rintro e w9 ⟨rfl, rfl⟩))
            go_ret
            rw [HF.out]
            exact ⟨rfl, hAl⟩
      | false =>
        by_cases hz3 : a = 0 ∧ b = 0 ∧ c = 0
        · have HL2 : Hid (R = if hB = true then Lv.one ⟨p, q, r, f, g⟩ else Ed.tz ⟨p, q, r, f, g⟩) := (by rw [HL.out, decide_eq_true hz3]; simp : R = _)
          clear HL
          obtain ⟨rfl, rfl, rfl⟩ := hz3
          cases hB with
          | true =>
            have HF : Hid (R = Lv.one ⟨p, q, r, f, g⟩) := HL2
            have htab := lit_tab (W.alloc (.cells #[.int .i64 0, .int .i64 0, .int .i64 0] 27)) p q r f g (g := W.heap.size + 1) (by simp)
            have hmy := rmay_any (some ⟨W.heap.size + 1, 0, none⟩) 1 1 [⟨p, q, r, f, g⟩] _ (by omega) htab
            rw [lmay_one] at hmy
            generalize Lv.one ⟨p, q, r, f, g⟩ = O1 at *
            apply hK2
            go_wp2_with (first | (go_at_call 80; clear tok; refine (hhH _).mono ?_; rintro e w9 ⟨rfl, rfl⟩) | (go_at_call 80; refine (hhB _).mono ?_; rintro e w9 ⟨rfl, rfl⟩) | (go_at_call 31; refine hmy.mono ?_; rintro e w9 ⟨rfl, hb9⟩))
            go_ret
            rw [HF.out]
            have hA2 := hAl.alloc hAl.size (otab p q r f g)
            exact ⟨rfl, hA2.trans (hb9.mono hA2.size)⟩
          | false =>
            cases htz : Ed.tz ⟨p, q, r, f, g⟩ with
            | true =>
              have HF : Hid (R = true) := (by rw [HL2.out, htz]; rfl : R = true)
              have := (Ed.tz_iff _).mp htz
              simp only [Lv.zero, Lv.T.mk.injEq] at this
              obtain ⟨rfl, rfl, rfl, rfl, rfl⟩ := this
              clear htz HL2
              apply hK2
              go_wp2_with (first | (go_at_call 80; clear tok; refine (hhH _).mono ?_; rintro e w9 ⟨rfl, rfl⟩) | (go_at_call 80; refine (hhB _).mono ?_; rintro e w9 ⟨rfl, rfl⟩))
              go_ret
              rw [HF.out]
              exact ⟨rfl, hAl⟩
            | false =>
              have HF : Hid (R = false) := (by rw [HL2.out, htz]; rfl : R = false)
              have hif5 := unlike5 htz
              clear htz HL2
              apply hK2
              go_wp2_with (first | (go_at_call 80; clear tok; refine (hhH _).mono ?_; rintro e w9 ⟨rfl, rfl⟩) | (go_at_call 80; refine (hhB _).mono ?_; rintro e w9 ⟨rfl, rfl⟩))
              go_ret
              rw [HF.out]
              exact ⟨rfl, hAl⟩
        · have HF : Hid (R = false) := (by rw [HL.out, decide_eq_false hz3]; simp : R = false)
          have hif3 := unlike3 hz3
          clear HL
          apply hK2
          go_wp2_with (first | (go_at_call 80; clear tok; refine (hhH _).mono ?_; rintro e w9 ⟨rfl, rfl⟩) | (go_at_call 80; refine (hhB _).mono ?_; rintro e w9 ⟨rfl, rfl⟩))
          go_ret
          rw [HF.out]
          exact ⟨rfl, hAl⟩
    cases r3 with
    | false =>
      have HF : Hid (R = false) := (by rw [HR2.out]; simp : R = false)
      clear hyes2 HR2
      obtain ⟨c0, c1, c2, c3, c4, c5, c6, c7, c8, c9, c10, c11⟩ := hCC
      go_quiet (first | (go_at_call 80; (with_reducible refine Calls.quiet_of_same (hhN _))) | (go_at_call 79; (with_reducible refine Calls.quiet_of_same (hrN _))))
      exact hno2 _ _ _ _ _ _ _ _ _ _ _ _ _ _ _ _ _ _ _ _ _ _ _ _ _ _ _ _ _ _ _ (hW.trans (below_drewN _ _ _)) HF.out
    | true =>
      by_cases i0 : i = 0
      · subst i0
        by_cases t0 : t = 0
        · subst t0
          have HRT : Hid (R = TL) := (by rw [HR2.out]; simp : R = TL)
          clear HR2 hno2
          obtain ⟨c0, c1, c2, c3, c4, c5, c6, c7, c8, c9, c10, c11⟩ := hCC
          go_quiet (first | (go_at_call 80; (with_reducible refine Calls.quiet_of_same (hhN _))) | (go_at_call 79; (with_reducible refine Calls.quiet_of_same (hrN _))))
          exact hyes2 _ _ _ _ _ _ _ _ _ _ _ _ _ _ _ _ _ _ _ _ _ _ _ _ _ _ _ _ _ _ _ (hW.trans (below_drewN _ _ _)) hO HRT
        · have dt : (t == 0) = false := by simp [t0]
          have HF : Hid (R = false) := (by rw [HR2.out]; simp [t0] : R = false)
          clear HR2 hyes2
          obtain ⟨c0, c1, c2, c3, c4, c5, c6, c7, c8, c9, c10, c11⟩ := hCC
          go_quiet (first | (go_at_call 80; (with_reducible refine Calls.quiet_of_same (hhN _))) | (go_at_call 79; (with_reducible refine Calls.quiet_of_same (hrN _))))
          exact hno2 _ _ _ _ _ _ _ _ _ _ _ _ _ _ _ _ _ _ _ _ _ _ _ _ _ _ _ _ _ _ _ (hW.trans (below_drewN _ _ _)) HF.out
      · have di : (i == 0) = false := by simp [i0]
        by_cases t0 : t = 0
        · subst t0
          have HF : Hid (R = false) := (by rw [HR2.out]; simp [i0] : R = false)
          clear HR2 hyes2
          obtain ⟨c0, c1, c2, c3, c4, c5, c6, c7, c8, c9, c10, c11⟩ := hCC
          go_quiet (first | (go_at_call 80; (with_reducible refine Calls.quiet_of_same (hhN _))) | (go_at_call 79; (with_reducible refine Calls.quiet_of_same (hrN _))))
          exact hno2 _ _ _ _ _ _ _ _ _ _ _ _ _ _ _ _ _ _ _ _ _ _ _ _ _ _ _ _ _ _ _ (hW.trans (below_drewN _ _ _)) HF.out
        · have dt : (t == 0) = false := by simp [t0]
          have HRT : Hid (R = TL) := (by rw [HR2.out]; simp [i0, t0] : R = TL)
          clear HR2 hno2
          obtain ⟨c0, c1, c2, c3, c4, c5, c6, c7, c8, c9, c10, c11⟩ := hCC
          go_quiet (first | (go_at_call 80; (with_reducible refine Calls.quiet_of_same (hhN _))) | (go_at_call 79; (with_reducible refine Calls.quiet_of_same (hrN _))))
          exact hyes2 _ _ _ _ _ _ _ _ _ _ _ _ _ _ _ _ _ _ _ _ _ _ _ _ _ _ _ _ _ _ _ (hW.trans (below_drewN _ _ _)) hO HRT
  clear hK hK1
  have hCC := blk12 hz2.out
  cases r1 with
  | true =>
    cases r2 with
    | true =>
      have HR2 : Hid (R = (r3 && (!(decide (i = 0) != decide (t = 0)) && TL))) := (by rw [HR.out]; simp : R = _)
      clear hno HR
      obtain ⟨c0, c1, c2, c3, c4, c5, c6, c7, c8, c9, c10, c11⟩ := hCC
      go_quiet (first | (go_at_call 80; (with_reducible refine Calls.quiet_of_same (hhI _))) | (go_at_call 80; (with_reducible refine Calls.quiet_of_same (hhT _))) | (go_at_call 79; (with_reducible refine Calls.quiet_of_same (hrI _))) | (go_at_call 79; (with_reducible refine Calls.quiet_of_same (hrT _))))
      exact hyes _ _ _ _ _ _ _ _ _ _ _ _ _ _ _ _ _ _ _ _ _ _ _ _ _ _ _ _ _ _ _ _ _ _ _ _ _ _ _ _ (hB2.trans (below_drewN _ _ _)) hz2 HR2
    | false =>
      by_cases t0 : t = 0
      · subst t0
        have HR2 : Hid (R = (r3 && (!(decide (i = 0) != decide ((0 : Int) = 0)) && TL))) := (by rw [HR.out]; simp : R = _)
        clear hno HR
        obtain ⟨c0, c1, c2, c3, c4, c5, c6, c7, c8, c9, c10, c11⟩ := hCC
        go_quiet (first | (go_at_call 80; (with_reducible refine Calls.quiet_of_same (hhI _))) | (go_at_call 80; (with_reducible refine Calls.quiet_of_same (hhT _))) | (go_at_call 79; (with_reducible refine Calls.quiet_of_same (hrI _))) | (go_at_call 79; (with_reducible refine Calls.quiet_of_same (hrT _))))
        exact hyes _ _ _ _ _ _ _ _ _ _ _ _ _ _ _ _ _ _ _ _ _ _ _ _ _ _ _ _ _ _ _ _ _ _ _ _ _ _ _ _ (hB2.trans (below_drewN _ _ _)) hz2 HR2
      · have dt : (t == 0) = false := by simp [t0]
        have HF : Hid (R = false) := (by rw [HR.out]; simp [t0] : R = false)
        clear hyes HR
        obtain ⟨c0, c1, c2, c3, c4, c5, c6, c7, c8, c9, c10, c11⟩ := hCC
        go_quiet (first | (go_at_call 80; (with_reducible refine Calls.quiet_of_same (hhI _))) | (go_at_call 80; (with_reducible refine Calls.quiet_of_same (hhT _))) | (go_at_call 79; (with_reducible refine Calls.quiet_of_same (hrI _))) | (go_at_call 79; (with_reducible refine Calls.quiet_of_same (hrT _))))
        exact hno _ _ _ _ _ _ _ _ _ _ _ _ _ _ _ _ _ _ _ _ _ _ _ _ _ _ _ _ _ _ _ _ _ _ _ _ _ _ _ _ (hB2.trans (below_drewN _ _ _)) HF.out
  | false =>
    by_cases i0 : i = 0
    · subst i0
      cases r2 with
      | true =>
        have HR2 : Hid (R = (r3 && (!(decide (0 = 0) != decide (t = 0)) && TL))) := (by rw [HR.out]; simp : R = _)
        clear hno HR
        obtain ⟨c0, c1, c2, c3, c4, c5, c6, c7, c8, c9, c10, c11⟩ := hCC
        go_quiet (first | (go_at_call 80; (with_reducible refine Calls.quiet_of_same (hhI _))) | (go_at_call 80; (with_reducible refine Calls.quiet_of_same (hhT _))) | (go_at_call 79; (with_reducible refine Calls.quiet_of_same (hrI _))) | (go_at_call 79; (with_reducible refine Calls.quiet_of_same (hrT _))))
        exact hyes _ _ _ _ _ _ _ _ _ _ _ _ _ _ _ _ _ _ _ _ _ _ _ _ _ _ _ _ _ _ _ _ _ _ _ _ _ _ _ _ (hB2.trans (below_drewN _ _ _)) hz2 HR2
      | false =>
        by_cases t0 : t = 0
        · subst t0
          have HR2 : Hid (R = (r3 && (!(decide (0 = 0) != decide ((0 : Int) = 0)) && TL))) := (by rw [HR.out]; simp : R = _)
          clear hno HR
          obtain ⟨c0, c1, c2, c3, c4, c5, c6, c7, c8, c9, c10, c11⟩ := hCC
          go_quiet (first | (go_at_call 80; (with_reducible refine Calls.quiet_of_same (hhI _))) | (go_at_call 80; (with_reducible refine Calls.quiet_of_same (hhT _))) | (go_at_call 79; (with_reducible refine Calls.quiet_of_same (hrI _))) | (go_at_call 79; (with_reducible refine Calls.quiet_of_same (hrT _))))
          exact hyes _ _ _ _ _ _ _ _ _ _ _ _ _ _ _ _ _ _ _ _ _ _ _ _ _ _ _ _ _ _ _ _ _ _ _ _ _ _ _ _ (hB2.trans (below_drewN _ _ _)) hz2 HR2
        · have dt : (t == 0) = false := by simp [t0]
          have HF : Hid (R = false) := (by rw [HR.out]; simp [t0] : R = false)
          clear hyes HR
          obtain ⟨c0, c1, c2, c3, c4, c5, c6, c7, c8, c9, c10, c11⟩ := hCC
          go_quiet (first | (go_at_call 80; (with_reducible refine Calls.quiet_of_same (hhI _))) | (go_at_call 80; (with_reducible refine Calls.quiet_of_same (hhT _))) | (go_at_call 79; (with_reducible refine Calls.quiet_of_same (hrI _))) | (go_at_call 79; (with_reducible refine Calls.quiet_of_same (hrT _))))
          exact hno _ _ _ _ _ _ _ _ _ _ _ _ _ _ _ _ _ _ _ _ _ _ _ _ _ _ _ _ _ _ _ _ _ _ _ _ _ _ _ _ (hB2.trans (below_drewN _ _ _)) HF.out
    · have di : (i == 0) = false := by simp [i0]
      have HF : Hid (R = false) := (by rw [HR.out]; simp [i0] : R = false)
      clear hyes HR
      obtain ⟨c0, c1, c2, c3, c4, c5, c6, c7, c8, c9, c10, c11⟩ := hCC
      go_quiet (first | (go_at_call 80; (with_reducible refine Calls.quiet_of_same (hhI _))) | (go_at_call 80; (with_reducible refine Calls.quiet_of_same (hhT _))) | (go_at_call 79; (with_reducible refine Calls.quiet_of_same (hrI _))) | (go_at_call 79; (with_reducible refine Calls.quiet_of_same (hrT _))))
      exact hno _ _ _ _ _ _ _ _ _ _ _ _ _ _ _ _ _ _ _ _ _ _ _ _ _ _ _ _ _ _ _ _ _ _ _ _ _ _ _ _ (hB2.trans (below_drewN _ _ _)) HF.out
end Go.Proofs.YtmodogmjfbcddaaGreat
