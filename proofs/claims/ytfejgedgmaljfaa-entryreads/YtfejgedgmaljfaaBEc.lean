/- What the reference's one does where a cell is read, or none. -/
import Derived.Test.YtfejgedgmaljfaaBEb
namespace Go.Proofs.Ytfejgedgmaljfaa
open Go.RowKit

set_option maxRecDepth 100000 in
set_option maxHeartbeats 1500000 in
theorem one_nocell (b off len cap : Nat) (ix : Int) (t n u k kd N1 A A1 : Nat) (v : List Nat) (w : World)
    (hnum : Calls Try.prog 34 #[.slice (some ⟨b, off, none⟩) len cap, .int .u64 2147483647] (w.alloc (.cells #[.int .i64 0, .int .i64 0, .int .i64 0, .string ⟨#[]⟩, .bool false, .slice none 0 0, .int .i64 0, .int .i64 0, .int .i64 0, .int .u32 0] 34)) fun e w' => e = .returned (.tuple #[.int .i64 (t : Nat), .int .i64 (n : Nat)]) ∧ Below (w.alloc (.cells #[.int .i64 0, .int .i64 0, .int .i64 0, .string ⟨#[]⟩, .bool false, .slice none 0 0, .int .i64 0, .int .i64 0, .int .i64 0, .int .u32 0] 34)).heap.size (w.alloc (.cells #[.int .i64 0, .int .i64 0, .int .i64 0, .string ⟨#[]⟩, .bool false, .slice none 0 0, .int .i64 0, .int .i64 0, .int .i64 0, .int .u32 0] 34)) w')
    (hnum2 : ∀ W z c', Below w.heap.size w W → z = len - N1 → c' = cap - N1 → Calls Try.prog 34 #[.slice (some ⟨b, off + N1, none⟩) z c', .int .u64 64] W fun e w' => e = .returned (.tuple #[.int .i64 (u : Nat), .int .i64 (k : Nat)]) ∧ Below W.heap.size W w')
    (hkd : w.cell? ⟨b, off + n, none⟩ = some (.int .u8 (kd : Nat))) (hkd8 : kd < 256) (hN1 : Hid (N1 = n + 1)) (hA : Hid (A = N1 + k)) (hA1 : Hid (A1 = A + u)) (hn0 : 0 < n) (hk0 : 0 < k) (hu : u ≤ 64) (hl : A1 ≤ len) (hbig : len ≤ 100000) (hcap : len ≤ cap)
    (hkey : ∀ W, Below w.heap.size w W → Row .u8 W (some ⟨b, off + A, none⟩) u v) (fr : Bool) (vb : List Nat) (ps py pl : Int) (pm m : Nat) (hget : ∀ W a' z c', Below w.heap.size w W → z = len - A1 → ((z = 0 ∧ c' = 0) ∨ (a' = some ⟨b, off + A1, none⟩ ∧ c' = cap - A1)) → Calls Try.prog 48 #[.slice a' z c'] W (RCGet W ((fr, vb, ps, py, pl, pm), m))) (G : En.E × Nat) (HG : Hid (G = (En.zero, 0))) (hk2 : ¬ (kd = 2)) (hm : m = 0) (hc2 : ¬ (cap = A)) (hc3 : ¬ (cap = A1)) :
    Calls Try.prog 35 #[.slice (some ⟨b, off, none⟩) len cap, .int .i64 ix] w (ROne w G) := by

  have q1 := hN1.out
  have q2 := hA.out
  have q3 := hA1.out
  have j0 : n < len := by omega
  have j1 : (0 : Int) ≤ (n : Int) := by omega
  have j2 : (n : Int) < (len : Int) := by omega
  have hd1 : ((n : Int) == 0) = false := by simp; omega
  have hd2 : ((n : Int) == (len : Int)) = false := by simp; omega
  have j3 : IntKind.i64.wrap ((n : Int) + 1) = (N1 : Int) := by rw [IntKind.wrap_i64]; omega
  have j4 : IntKind.i64.wrap ((N1 : Int) + (k : Int)) = (A : Int) := by rw [IntKind.wrap_i64]; omega
  have j5 : IntKind.i64.wrap ((A : Int) + (u : Int)) = (A1 : Int) := by rw [IntKind.wrap_i64]; omega
  have j11 : IntKind.i64.wrap (kd : Int) = (kd : Int) := by rw [IntKind.wrap_i64]; omega
  have j6 : (N1 : Int) ≤ (len : Int) := by omega
  have j7 : (len : Int) ≤ (cap : Int) := by omega
  have j8 : (N1 : Int) ≤ (cap : Int) := by omega
  have j9 : (A : Int) ≤ (A1 : Int) := by omega
  have j10 : (A1 : Int) ≤ (cap : Int) := by omega
  have hdk : ((k : Int) == 0) = false := by simp; omega
  have hdl : decide ((len : Int) < (A1 : Int)) = false := by simp; omega
  have hc1 : ¬ (cap = N1) := by omega
  have z1 : A1 - A = u := by omega
  clear q1 q2 q3
  have hdd : ((kd : Int) == 2) = false := by simp; omega
  subst hm
  unfold RCGet at hget
  simp only [cv] at hget
  go_enter Try.func35, Try.ntmps35
  go_wp2_with (first
    | (go_at_call 48; have := hbel2; go_must (refine (hget _ _ _ _ (hw2.setCell (p := ⟨w1.heap.size, 3, none⟩) (Nat.le_of_lt hs1) _) (by omega) (.inr ⟨rfl, by omega⟩)).mono ?_; rintro e w3 ⟨a3, c3, rfl, r3, ⟨nl3, ow3⟩, hbel3⟩; have hlt2 : w1.heap.size < w2.heap.size := Nat.lt_of_lt_of_le (by simp) hbel2.size; obtain ⟨⟨x0, x1, x2, x3, x4, x5, x6, x7, x8, x9⟩, ⟨y0, y1, y2, y3, y4, y5, y6, y7, y8, y9⟩⟩ := ((ten_new hbel2).set3 (.string (bstr v))).below hbel3 (by simpa using hlt2); obtain ⟨⟨q0, q1, q2, q3, q4, q5, q6, q7, q8, q9⟩, ⟨s0, s1, s2, s3, s4, s5, s6, s7, s8, s9⟩⟩ := ((ten_new hB2).far (g' := w1.heap.size) (by omega) 3 (.string (bstr v))).below hbel3 (by simp; omega); have hb2s := hw2.setCell (p := ⟨w1.heap.size, 3, none⟩) (Nat.le_of_lt hs1) (.string (bstr v)); have hw3 := hb2s.trans (hbel3.mono hb2s.size); have hs3' : w1.heap.size < w3.heap.size := Nat.lt_of_lt_of_le (by simpa using hlt2) hbel3.size; have hs3 : w.heap.size < w3.heap.size := Nat.lt_trans hs1 hs3'))
    | (go_at_call 34; have := hB1; go_must (refine (hnum2 _ _ _ hbE (by omega) (by omega)).mono ?_; rintro e w2 ⟨rfl, hbel2⟩; have hw2 := hbE.trans (hbel2.mono hbE.size); have hB1a := hB1.alloc hB1.size (.cells #[.int .i64 ix, .int .i64 (t : Nat), .int .i64 (kd : Nat), .string ⟨#[]⟩, .bool false, .slice none 0 0, .int .i64 0, .int .i64 0, .int .i64 0, .int .u32 0] 34); have hB2 := hB1a.trans (hbel2.mono hB1a.size); obtain ⟨⟨n0, n1, n2, n3, n4, n5, n6, n7, n8, n9⟩, ⟨f0, f1, f2, f3, f4, f5, f6, f7, f8, f9⟩⟩ := ten_new hB2; obtain ⟨⟨e0, e1, e2, e3, e4, e5, e6, e7, e8, e9⟩, ⟨g0, g1, g2, g3, g4, g5, g6, g7, g8, g9⟩⟩ := ten_new hbel2; have hs2 := hbel2.size; have hcv := conv_row (cap := cap - A) (hkey w2 hw2)))
    | (go_at_call 34; go_must (refine hnum.mono ?_; rintro e w1 ⟨rfl, hB1⟩; obtain ⟨_, _, hw1, hs1⟩ := res_ten hB1; have hkd1 := (hw1.cell (p := ⟨b, off + n, none⟩) (cell_lt hkd)).trans hkd; have hbE := hw1.alloc hw1.size (.cells #[.int .i64 ix, .int .i64 (t : Nat), .int .i64 (kd : Nat), .string ⟨#[]⟩, .bool false, .slice none 0 0, .int .i64 0, .int .i64 0, .int .i64 0, .int .u32 0] 34))))
  exact bodyPost_ret (v := .tuple #[ev 0 0 0 ⟨#[]⟩ false none 0 0 Po.zero, .int .i64 0]) (by simp [ev, Po.zero, results, Try.results35, go_sem, q0, q1, q2, q3, q4, q5, q6, q7, q8, q9, hs3]) rfl (rone_zero HG.out (below_ten_alloc hw3 _ _ _ _ _ _ _ _ _ _ _))

set_option maxRecDepth 100000 in
set_option maxHeartbeats 1500000 in
theorem one_nocell3 (b off len cap : Nat) (ix : Int) (t n u k kd N1 A A1 : Nat) (v : List Nat) (w : World)
    (hnum : Calls Try.prog 34 #[.slice (some ⟨b, off, none⟩) len cap, .int .u64 2147483647] (w.alloc (.cells #[.int .i64 0, .int .i64 0, .int .i64 0, .string ⟨#[]⟩, .bool false, .slice none 0 0, .int .i64 0, .int .i64 0, .int .i64 0, .int .u32 0] 34)) fun e w' => e = .returned (.tuple #[.int .i64 (t : Nat), .int .i64 (n : Nat)]) ∧ Below (w.alloc (.cells #[.int .i64 0, .int .i64 0, .int .i64 0, .string ⟨#[]⟩, .bool false, .slice none 0 0, .int .i64 0, .int .i64 0, .int .i64 0, .int .u32 0] 34)).heap.size (w.alloc (.cells #[.int .i64 0, .int .i64 0, .int .i64 0, .string ⟨#[]⟩, .bool false, .slice none 0 0, .int .i64 0, .int .i64 0, .int .i64 0, .int .u32 0] 34)) w')
    (hnum2 : ∀ W z c', Below w.heap.size w W → z = len - N1 → c' = cap - N1 → Calls Try.prog 34 #[.slice (some ⟨b, off + N1, none⟩) z c', .int .u64 64] W fun e w' => e = .returned (.tuple #[.int .i64 (u : Nat), .int .i64 (k : Nat)]) ∧ Below W.heap.size W w')
    (hkd : w.cell? ⟨b, off + n, none⟩ = some (.int .u8 (kd : Nat))) (hkd8 : kd < 256) (hN1 : Hid (N1 = n + 1)) (hA : Hid (A = N1 + k)) (hA1 : Hid (A1 = A + u)) (hn0 : 0 < n) (hk0 : 0 < k) (hu : u ≤ 64) (hl : A1 ≤ len) (hbig : len ≤ 100000) (hcap : len ≤ cap)
    (hkey : ∀ W, Below w.heap.size w W → Row .u8 W (some ⟨b, off + A, none⟩) u v) (fr : Bool) (vb : List Nat) (ps py pl : Int) (pm m : Nat) (hget : ∀ W a' z c', Below w.heap.size w W → z = len - A1 → ((z = 0 ∧ c' = 0) ∨ (a' = some ⟨b, off + A1, none⟩ ∧ c' = cap - A1)) → Calls Try.prog 48 #[.slice a' z c'] W (RCGet W ((fr, vb, ps, py, pl, pm), m))) (G : En.E × Nat) (HG : Hid (G = (En.zero, 0))) (hk2 : ¬ (kd = 2)) (hm : m = 0) (hc2 : ¬ (cap = A)) (hc3 : cap = A1) :
    Calls Try.prog 35 #[.slice (some ⟨b, off, none⟩) len cap, .int .i64 ix] w (ROne w G) := by

  have q1 := hN1.out
  have q2 := hA.out
  have q3 := hA1.out
  have j0 : n < len := by omega
  have j1 : (0 : Int) ≤ (n : Int) := by omega
  have j2 : (n : Int) < (len : Int) := by omega
  have hd1 : ((n : Int) == 0) = false := by simp; omega
  have hd2 : ((n : Int) == (len : Int)) = false := by simp; omega
  have j3 : IntKind.i64.wrap ((n : Int) + 1) = (N1 : Int) := by rw [IntKind.wrap_i64]; omega
  have j4 : IntKind.i64.wrap ((N1 : Int) + (k : Int)) = (A : Int) := by rw [IntKind.wrap_i64]; omega
  have j5 : IntKind.i64.wrap ((A : Int) + (u : Int)) = (A1 : Int) := by rw [IntKind.wrap_i64]; omega
  have j11 : IntKind.i64.wrap (kd : Int) = (kd : Int) := by rw [IntKind.wrap_i64]; omega
  have j6 : (N1 : Int) ≤ (len : Int) := by omega
  have j7 : (len : Int) ≤ (cap : Int) := by omega
  have j8 : (N1 : Int) ≤ (cap : Int) := by omega
  have j9 : (A : Int) ≤ (A1 : Int) := by omega
  have j10 : (A1 : Int) ≤ (cap : Int) := by omega
  have hdk : ((k : Int) == 0) = false := by simp; omega
  have hdl : decide ((len : Int) < (A1 : Int)) = false := by simp; omega
  have hc1 : ¬ (cap = N1) := by omega
  have z1 : A1 - A = u := by omega
  clear q1 q2 q3
  obtain rfl : len = cap := by omega
  subst hc3
  have hdd : ((kd : Int) == 2) = false := by simp; omega
  subst hm
  unfold RCGet at hget
  simp only [cv] at hget
  go_enter Try.func35, Try.ntmps35
  go_wp2_with (first
    | (go_at_call 48; have := hbel2; go_must (refine (hget _ _ 0 0 (hw2.setCell (p := ⟨w1.heap.size, 3, none⟩) (Nat.le_of_lt hs1) _) (by omega) (.inl ⟨rfl, rfl⟩)).mono ?_; rintro e w3 ⟨a3, c3, rfl, r3, ⟨nl3, ow3⟩, hbel3⟩; have hlt2 : w1.heap.size < w2.heap.size := Nat.lt_of_lt_of_le (by simp) hbel2.size; obtain ⟨⟨x0, x1, x2, x3, x4, x5, x6, x7, x8, x9⟩, ⟨y0, y1, y2, y3, y4, y5, y6, y7, y8, y9⟩⟩ := ((ten_new hbel2).set3 (.string (bstr v))).below hbel3 (by simpa using hlt2); obtain ⟨⟨q0, q1, q2, q3, q4, q5, q6, q7, q8, q9⟩, ⟨s0, s1, s2, s3, s4, s5, s6, s7, s8, s9⟩⟩ := ((ten_new hB2).far (g' := w1.heap.size) (by omega) 3 (.string (bstr v))).below hbel3 (by simp; omega); have hb2s := hw2.setCell (p := ⟨w1.heap.size, 3, none⟩) (Nat.le_of_lt hs1) (.string (bstr v)); have hw3 := hb2s.trans (hbel3.mono hb2s.size); have hs3' : w1.heap.size < w3.heap.size := Nat.lt_of_lt_of_le (by simpa using hlt2) hbel3.size; have hs3 : w.heap.size < w3.heap.size := Nat.lt_trans hs1 hs3'))
    | (go_at_call 34; have := hB1; go_must (refine (hnum2 _ _ _ hbE (by omega) (by omega)).mono ?_; rintro e w2 ⟨rfl, hbel2⟩; have hw2 := hbE.trans (hbel2.mono hbE.size); have hB1a := hB1.alloc hB1.size (.cells #[.int .i64 ix, .int .i64 (t : Nat), .int .i64 (kd : Nat), .string ⟨#[]⟩, .bool false, .slice none 0 0, .int .i64 0, .int .i64 0, .int .i64 0, .int .u32 0] 34); have hB2 := hB1a.trans (hbel2.mono hB1a.size); obtain ⟨⟨n0, n1, n2, n3, n4, n5, n6, n7, n8, n9⟩, ⟨f0, f1, f2, f3, f4, f5, f6, f7, f8, f9⟩⟩ := ten_new hB2; obtain ⟨⟨e0, e1, e2, e3, e4, e5, e6, e7, e8, e9⟩, ⟨g0, g1, g2, g3, g4, g5, g6, g7, g8, g9⟩⟩ := ten_new hbel2; have hs2 := hbel2.size; have hcv := conv_row (cap := u) (hkey w2 hw2)))
    | (go_at_call 34; go_must (refine hnum.mono ?_; rintro e w1 ⟨rfl, hB1⟩; obtain ⟨_, _, hw1, hs1⟩ := res_ten hB1; have hkd1 := (hw1.cell (p := ⟨b, off + n, none⟩) (cell_lt hkd)).trans hkd; have hbE := hw1.alloc hw1.size (.cells #[.int .i64 ix, .int .i64 (t : Nat), .int .i64 (kd : Nat), .string ⟨#[]⟩, .bool false, .slice none 0 0, .int .i64 0, .int .i64 0, .int .i64 0, .int .u32 0] 34))))
  exact bodyPost_ret (v := .tuple #[ev 0 0 0 ⟨#[]⟩ false none 0 0 Po.zero, .int .i64 0]) (by simp [ev, Po.zero, results, Try.results35, go_sem, q0, q1, q2, q3, q4, q5, q6, q7, q8, q9, hs3]) rfl (rone_zero HG.out (below_ten_alloc hw3 _ _ _ _ _ _ _ _ _ _ _))

set_option maxRecDepth 100000 in
set_option maxHeartbeats 1500000 in
theorem one_nocell2 (b off len cap : Nat) (ix : Int) (t n u k kd N1 A A1 : Nat) (v : List Nat) (w : World)
    (hnum : Calls Try.prog 34 #[.slice (some ⟨b, off, none⟩) len cap, .int .u64 2147483647] (w.alloc (.cells #[.int .i64 0, .int .i64 0, .int .i64 0, .string ⟨#[]⟩, .bool false, .slice none 0 0, .int .i64 0, .int .i64 0, .int .i64 0, .int .u32 0] 34)) fun e w' => e = .returned (.tuple #[.int .i64 (t : Nat), .int .i64 (n : Nat)]) ∧ Below (w.alloc (.cells #[.int .i64 0, .int .i64 0, .int .i64 0, .string ⟨#[]⟩, .bool false, .slice none 0 0, .int .i64 0, .int .i64 0, .int .i64 0, .int .u32 0] 34)).heap.size (w.alloc (.cells #[.int .i64 0, .int .i64 0, .int .i64 0, .string ⟨#[]⟩, .bool false, .slice none 0 0, .int .i64 0, .int .i64 0, .int .i64 0, .int .u32 0] 34)) w')
    (hnum2 : ∀ W z c', Below w.heap.size w W → z = len - N1 → c' = cap - N1 → Calls Try.prog 34 #[.slice (some ⟨b, off + N1, none⟩) z c', .int .u64 64] W fun e w' => e = .returned (.tuple #[.int .i64 (u : Nat), .int .i64 (k : Nat)]) ∧ Below W.heap.size W w')
    (hkd : w.cell? ⟨b, off + n, none⟩ = some (.int .u8 (kd : Nat))) (hkd8 : kd < 256) (hN1 : Hid (N1 = n + 1)) (hA : Hid (A = N1 + k)) (hA1 : Hid (A1 = A + u)) (hn0 : 0 < n) (hk0 : 0 < k) (hu : u ≤ 64) (hl : A1 ≤ len) (hbig : len ≤ 100000) (hcap : len ≤ cap)
    (hkey : ∀ W, Below w.heap.size w W → Row .u8 W (some ⟨b, off + A, none⟩) u v) (fr : Bool) (vb : List Nat) (ps py pl : Int) (pm m : Nat) (hget : ∀ W a' z c', Below w.heap.size w W → z = len - A1 → ((z = 0 ∧ c' = 0) ∨ (a' = some ⟨b, off + A1, none⟩ ∧ c' = cap - A1)) → Calls Try.prog 48 #[.slice a' z c'] W (RCGet W ((fr, vb, ps, py, pl, pm), m))) (G : En.E × Nat) (HG : Hid (G = (En.zero, 0))) (hk2 : ¬ (kd = 2)) (hm : m = 0) (hc2 : cap = A) :
    Calls Try.prog 35 #[.slice (some ⟨b, off, none⟩) len cap, .int .i64 ix] w (ROne w G) := by

  have q1 := hN1.out
  have q2 := hA.out
  have q3 := hA1.out
  have j0 : n < len := by omega
  have j1 : (0 : Int) ≤ (n : Int) := by omega
  have j2 : (n : Int) < (len : Int) := by omega
  have hd1 : ((n : Int) == 0) = false := by simp; omega
  have hd2 : ((n : Int) == (len : Int)) = false := by simp; omega
  have j3 : IntKind.i64.wrap ((n : Int) + 1) = (N1 : Int) := by rw [IntKind.wrap_i64]; omega
  have j4 : IntKind.i64.wrap ((N1 : Int) + (k : Int)) = (A : Int) := by rw [IntKind.wrap_i64]; omega
  have j5 : IntKind.i64.wrap ((A : Int) + (u : Int)) = (A1 : Int) := by rw [IntKind.wrap_i64]; omega
  have j11 : IntKind.i64.wrap (kd : Int) = (kd : Int) := by rw [IntKind.wrap_i64]; omega
  have j6 : (N1 : Int) ≤ (len : Int) := by omega
  have j7 : (len : Int) ≤ (cap : Int) := by omega
  have j8 : (N1 : Int) ≤ (cap : Int) := by omega
  have j9 : (A : Int) ≤ (A1 : Int) := by omega
  have j10 : (A1 : Int) ≤ (cap : Int) := by omega
  have hdk : ((k : Int) == 0) = false := by simp; omega
  have hdl : decide ((len : Int) < (A1 : Int)) = false := by simp; omega
  have hc1 : ¬ (cap = N1) := by omega
  have z1 : A1 - A = u := by omega
  clear q1 q2 q3
  have hu0 : u = 0 := by have := hA1.out; omega
  have hvn : v = [] := List.length_eq_zero_iff.mp ((hkey w (Below.refl _ _)).1.trans hu0)
  subst hvn
  have hAA : A1 = A := by have := hA1.out; omega
  subst hAA
  obtain rfl : len = cap := by omega
  subst hc2
  have hdd : ((kd : Int) == 2) = false := by simp; omega
  subst hm
  unfold RCGet at hget
  simp only [cv] at hget
  go_enter Try.func35, Try.ntmps35
  go_wp2_with (first
    | (go_at_call 48; have := hbel2; go_must (refine (hget _ _ 0 0 (hw2.setCell (p := ⟨w1.heap.size, 3, none⟩) (Nat.le_of_lt hs1) _) (by omega) (.inl ⟨rfl, rfl⟩)).mono ?_; rintro e w3 ⟨a3, c3, rfl, r3, ⟨nl3, ow3⟩, hbel3⟩; have hlt2 : w1.heap.size < w2.heap.size := Nat.lt_of_lt_of_le (by simp) hbel2.size; obtain ⟨⟨x0, x1, x2, x3, x4, x5, x6, x7, x8, x9⟩, ⟨y0, y1, y2, y3, y4, y5, y6, y7, y8, y9⟩⟩ := ((ten_new hbel2).set3 (.string ⟨#[]⟩)).below hbel3 (by simpa using hlt2); obtain ⟨⟨q0, q1, q2, q3, q4, q5, q6, q7, q8, q9⟩, ⟨s0, s1, s2, s3, s4, s5, s6, s7, s8, s9⟩⟩ := ((ten_new hB2).far (g' := w1.heap.size) (by omega) 3 (.string ⟨#[]⟩)).below hbel3 (by simp; omega); have hb2s := hw2.setCell (p := ⟨w1.heap.size, 3, none⟩) (Nat.le_of_lt hs1) (.string ⟨#[]⟩); have hw3 := hb2s.trans (hbel3.mono hb2s.size); have hs3' : w1.heap.size < w3.heap.size := Nat.lt_of_lt_of_le (by simpa using hlt2) hbel3.size; have hs3 : w.heap.size < w3.heap.size := Nat.lt_trans hs1 hs3'))
    | (go_at_call 34; have := hB1; go_must (refine (hnum2 _ _ _ hbE (by omega) (by omega)).mono ?_; rintro e w2 ⟨rfl, hbel2⟩; have hw2 := hbE.trans (hbel2.mono hbE.size); have hB1a := hB1.alloc hB1.size (.cells #[.int .i64 ix, .int .i64 (t : Nat), .int .i64 (kd : Nat), .string ⟨#[]⟩, .bool false, .slice none 0 0, .int .i64 0, .int .i64 0, .int .i64 0, .int .u32 0] 34); have hB2 := hB1a.trans (hbel2.mono hB1a.size); obtain ⟨⟨n0, n1, n2, n3, n4, n5, n6, n7, n8, n9⟩, ⟨f0, f1, f2, f3, f4, f5, f6, f7, f8, f9⟩⟩ := ten_new hB2; obtain ⟨⟨e0, e1, e2, e3, e4, e5, e6, e7, e8, e9⟩, ⟨g0, g1, g2, g3, g4, g5, g6, g7, g8, g9⟩⟩ := ten_new hbel2; have hs2 := hbel2.size; have hcv := fun a c => conv_zero w2 a c))
    | (go_at_call 34; go_must (refine hnum.mono ?_; rintro e w1 ⟨rfl, hB1⟩; obtain ⟨_, _, hw1, hs1⟩ := res_ten hB1; have hkd1 := (hw1.cell (p := ⟨b, off + n, none⟩) (cell_lt hkd)).trans hkd; have hbE := hw1.alloc hw1.size (.cells #[.int .i64 ix, .int .i64 (t : Nat), .int .i64 (kd : Nat), .string ⟨#[]⟩, .bool false, .slice none 0 0, .int .i64 0, .int .i64 0, .int .i64 0, .int .u32 0] 34))))
  exact bodyPost_ret (v := .tuple #[ev 0 0 0 ⟨#[]⟩ false none 0 0 Po.zero, .int .i64 0]) (by simp [ev, Po.zero, results, Try.results35, go_sem, q0, q1, q2, q3, q4, q5, q6, q7, q8, q9, hs3]) rfl (rone_zero HG.out (below_ten_alloc hw3 _ _ _ _ _ _ _ _ _ _ _))

set_option maxRecDepth 100000 in
set_option maxHeartbeats 1500000 in
theorem one_cell (b off len cap : Nat) (ix : Int) (t n u k kd N1 A A1 : Nat) (v : List Nat) (w : World)
    (hnum : Calls Try.prog 34 #[.slice (some ⟨b, off, none⟩) len cap, .int .u64 2147483647] (w.alloc (.cells #[.int .i64 0, .int .i64 0, .int .i64 0, .string ⟨#[]⟩, .bool false, .slice none 0 0, .int .i64 0, .int .i64 0, .int .i64 0, .int .u32 0] 34)) fun e w' => e = .returned (.tuple #[.int .i64 (t : Nat), .int .i64 (n : Nat)]) ∧ Below (w.alloc (.cells #[.int .i64 0, .int .i64 0, .int .i64 0, .string ⟨#[]⟩, .bool false, .slice none 0 0, .int .i64 0, .int .i64 0, .int .i64 0, .int .u32 0] 34)).heap.size (w.alloc (.cells #[.int .i64 0, .int .i64 0, .int .i64 0, .string ⟨#[]⟩, .bool false, .slice none 0 0, .int .i64 0, .int .i64 0, .int .i64 0, .int .u32 0] 34)) w')
    (hnum2 : ∀ W z c', Below w.heap.size w W → z = len - N1 → c' = cap - N1 → Calls Try.prog 34 #[.slice (some ⟨b, off + N1, none⟩) z c', .int .u64 64] W fun e w' => e = .returned (.tuple #[.int .i64 (u : Nat), .int .i64 (k : Nat)]) ∧ Below W.heap.size W w')
    (hkd : w.cell? ⟨b, off + n, none⟩ = some (.int .u8 (kd : Nat))) (hkd8 : kd < 256) (hN1 : Hid (N1 = n + 1)) (hA : Hid (A = N1 + k)) (hA1 : Hid (A1 = A + u)) (hn0 : 0 < n) (hk0 : 0 < k) (hu : u ≤ 64) (hl : A1 ≤ len) (hbig : len ≤ 100000) (hcap : len ≤ cap)
    (hkey : ∀ W, Below w.heap.size w W → Row .u8 W (some ⟨b, off + A, none⟩) u v) (fr : Bool) (vb : List Nat) (ps py pl : Int) (pm m : Nat) (hget : ∀ W a' z c', Below w.heap.size w W → z = len - A1 → ((z = 0 ∧ c' = 0) ∨ (a' = some ⟨b, off + A1, none⟩ ∧ c' = cap - A1)) → Calls Try.prog 48 #[.slice a' z c'] W (RCGet W ((fr, vb, ps, py, pl, pm), m))) (G : En.E × Nat) (HG : Hid (G = ((ix, (t : Int), (kd : Int), v, (fr, vb, ps, py, pl, pm)), A1 + m))) (hk2 : ¬ (kd = 2)) (hm : 0 < m) (hml : m ≤ 100000) (hc2 : ¬ (cap = A)) (hc3 : ¬ (cap = A1)) :
    Calls Try.prog 35 #[.slice (some ⟨b, off, none⟩) len cap, .int .i64 ix] w (ROne w G) := by

  have q1 := hN1.out
  have q2 := hA.out
  have q3 := hA1.out
  have j0 : n < len := by omega
  have j1 : (0 : Int) ≤ (n : Int) := by omega
  have j2 : (n : Int) < (len : Int) := by omega
  have hd1 : ((n : Int) == 0) = false := by simp; omega
  have hd2 : ((n : Int) == (len : Int)) = false := by simp; omega
  have j3 : IntKind.i64.wrap ((n : Int) + 1) = (N1 : Int) := by rw [IntKind.wrap_i64]; omega
  have j4 : IntKind.i64.wrap ((N1 : Int) + (k : Int)) = (A : Int) := by rw [IntKind.wrap_i64]; omega
  have j5 : IntKind.i64.wrap ((A : Int) + (u : Int)) = (A1 : Int) := by rw [IntKind.wrap_i64]; omega
  have j11 : IntKind.i64.wrap (kd : Int) = (kd : Int) := by rw [IntKind.wrap_i64]; omega
  have j6 : (N1 : Int) ≤ (len : Int) := by omega
  have j7 : (len : Int) ≤ (cap : Int) := by omega
  have j8 : (N1 : Int) ≤ (cap : Int) := by omega
  have j9 : (A : Int) ≤ (A1 : Int) := by omega
  have j10 : (A1 : Int) ≤ (cap : Int) := by omega
  have hdk : ((k : Int) == 0) = false := by simp; omega
  have hdl : decide ((len : Int) < (A1 : Int)) = false := by simp; omega
  have hc1 : ¬ (cap = N1) := by omega
  have z1 : A1 - A = u := by omega
  clear q1 q2 q3
  have hdd : ((kd : Int) == 2) = false := by simp; omega
  have hdm : ((m : Int) == 0) = false := by simp; omega
  have j12 : IntKind.i64.wrap ((A1 : Int) + (m : Int)) = (A1 : Int) + (m : Int) := by rw [IntKind.wrap_i64]; omega
  have hv8 := (hkey w (Below.refl _ _)).2.2.1
  unfold RCGet at hget
  simp only [cv] at hget
  go_enter Try.func35, Try.ntmps35
  go_wp2_with (first
    | (go_at_call 48; have := hbel2; go_must (refine (hget _ _ _ _ (hw2.setCell (p := ⟨w1.heap.size, 3, none⟩) (Nat.le_of_lt hs1) _) (by omega) (.inr ⟨rfl, by omega⟩)).mono ?_; rintro e w3 ⟨a3, c3, rfl, r3, ⟨nl3, ow3⟩, hbel3⟩; have hlt2 : w1.heap.size < w2.heap.size := Nat.lt_of_lt_of_le (by simp) hbel2.size; obtain ⟨⟨x0, x1, x2, x3, x4, x5, x6, x7, x8, x9⟩, ⟨y0, y1, y2, y3, y4, y5, y6, y7, y8, y9⟩⟩ := ((ten_new hbel2).set3 (.string (bstr v))).below hbel3 (by simpa using hlt2); obtain ⟨⟨q0, q1, q2, q3, q4, q5, q6, q7, q8, q9⟩, ⟨s0, s1, s2, s3, s4, s5, s6, s7, s8, s9⟩⟩ := ((ten_new hB2).far (g' := w1.heap.size) (by omega) 3 (.string (bstr v))).below hbel3 (by simp; omega); have hb2s := hw2.setCell (p := ⟨w1.heap.size, 3, none⟩) (Nat.le_of_lt hs1) (.string (bstr v)); have hw3 := hb2s.trans (hbel3.mono hb2s.size); have hs3' : w1.heap.size < w3.heap.size := Nat.lt_of_lt_of_le (by simpa using hlt2) hbel3.size; have hs3 : w.heap.size < w3.heap.size := Nat.lt_trans hs1 hs3'))
    | (go_at_call 34; have := hB1; go_must (refine (hnum2 _ _ _ hbE (by omega) (by omega)).mono ?_; rintro e w2 ⟨rfl, hbel2⟩; have hw2 := hbE.trans (hbel2.mono hbE.size); have hB1a := hB1.alloc hB1.size (.cells #[.int .i64 ix, .int .i64 (t : Nat), .int .i64 (kd : Nat), .string ⟨#[]⟩, .bool false, .slice none 0 0, .int .i64 0, .int .i64 0, .int .i64 0, .int .u32 0] 34); have hB2 := hB1a.trans (hbel2.mono hB1a.size); obtain ⟨⟨n0, n1, n2, n3, n4, n5, n6, n7, n8, n9⟩, ⟨f0, f1, f2, f3, f4, f5, f6, f7, f8, f9⟩⟩ := ten_new hB2; obtain ⟨⟨e0, e1, e2, e3, e4, e5, e6, e7, e8, e9⟩, ⟨g0, g1, g2, g3, g4, g5, g6, g7, g8, g9⟩⟩ := ten_new hbel2; have hs2 := hbel2.size; have hcv := conv_row (cap := cap - A) (hkey w2 hw2)))
    | (go_at_call 34; go_must (refine hnum.mono ?_; rintro e w1 ⟨rfl, hB1⟩; obtain ⟨_, _, hw1, hs1⟩ := res_ten hB1; have hkd1 := (hw1.cell (p := ⟨b, off + n, none⟩) (cell_lt hkd)).trans hkd; have hbE := hw1.alloc hw1.size (.cells #[.int .i64 ix, .int .i64 (t : Nat), .int .i64 (kd : Nat), .string ⟨#[]⟩, .bool false, .slice none 0 0, .int .i64 0, .int .i64 0, .int .i64 0, .int .u32 0] 34))))
  have hab : ∀ b o, a3 = some ⟨b, o, none⟩ → w1.heap.size < b := fun b o e => Nat.lt_of_lt_of_le (by simpa using hlt2) (own_above ow3 b o e)
  have hab2 : ∀ b o, a3 = some ⟨b, o, none⟩ → w.heap.size < b := fun b o e => Nat.lt_trans hs1 (hab b o e)
  exact bodyPost_ret (v := .tuple #[ev ix t kd (bstr v) fr a3 vb.length c3 (ps, py, pl, pm), .int .i64 ((A1 + m : Nat) : Int)]) (by simp [ev, results, Try.results35, go_sem, q0, q1, q2, q3, q4, q5, q6, q7, q8, q9, hs3]) rfl (rone_some HG.out (kb_bstr hv8) rfl ((row_ten (row_cell6 r3 hab _ _ _ _ _ _) hab2 _ _ _ _ _ _ _ _ _ _).below (below_alloc _ _) (Nat.le_refl _)) nl3 ((own_ten (own_cell6 (ow3.mono hb2s.size) hab _ _ _ _ _ _) hab2 _ _ _ _ _ _ _ _ _ _).alloc _) (below_ten_alloc (below_cell6 hw3 (Nat.le_of_lt hs1) _ _ _ _ _ _) _ _ _ _ _ _ _ _ _ _ _))
end Go.Proofs.Ytfejgedgmaljfaa

/- What the reference's one does: the entry that any bytes begin with. -/
namespace Go.Proofs.Ytfejgedgmaljfaa
open Go.RowKit

theorem En.one_tail {bs : List Nat} {ix : Int} {t n u k : Nat} (h1 : En.number bs 2147483647 = (t, n)) (h2 : En.number (bs.drop (n + 1)) 64 = (u, k)) (h : ¬ (n = 0 ∨ n = bs.length)) (h' : ¬ (k = 0 ∨ bs.length < n + 1 + k + u)) :
    En.one bs ix = if bs.getD n 0 = 2 then ((ix, (t : Int), 2, (bs.drop (n + 1 + k)).take u, Ce.zero), n + 1 + k + u) else if (Ce.get (bs.drop (n + 1 + k + u))).2 = 0 then (En.zero, 0) else ((ix, (t : Int), ((bs.getD n 0 : Nat) : Int), (bs.drop (n + 1 + k)).take u, (Ce.get (bs.drop (n + 1 + k + u))).1), n + 1 + k + u + (Ce.get (bs.drop (n + 1 + k + u))).2) := by
  unfold En.one
  rw [h1]
  simp only []
  rw [h2]
  simp only []
  rw [if_neg h, if_neg h']

theorem enone_any (a : Option Addr) (len cap : Nat) (bs : List Nat) (ix : Int) (w : World) (hbig : len ≤ 100000) (hcap : len ≤ cap) (hr : Row .u8 w a len bs) :
    Calls Try.prog 35 #[.slice a len cap, .int .i64 ix] w (ROne w (En.one bs ix)) := by
  have hlen := hr.1
  have hle1 := En.number_le bs 2147483647
  rw [hlen] at hle1
  obtain ⟨t, n, e1⟩ : ∃ t n, En.number bs 2147483647 = (t, n) := ⟨_, _, rfl⟩
  obtain ⟨u, k, e2⟩ : ∃ u k, En.number (bs.drop (n + 1)) 64 = (u, k) := ⟨_, _, rfl⟩
  rw [e1] at hle1
  simp only at hle1
  by_cases h : n = 0 ∨ n = len
  · exact one_head a len cap bs ix w hbig hcap hr (by rw [e1]; exact h)
  by_cases h2 : k = 0 ∨ len < n + 1 + k + u
  · exact one_mid a len cap bs ix w hbig hcap hr (by rw [e1]; exact h) (by rw [e1]; simp only; rw [e2]; exact h2) (by omega)
  obtain ⟨b, off, rfl, _⟩ := hr.at (by omega)
  have hb0 := below_alloc w (.cells #[.int .i64 0, .int .i64 0, .int .i64 0, .string ⟨#[]⟩, .bool false, .slice none 0 0, .int .i64 0, .int .i64 0, .int .i64 0, .int .u32 0] 34)
  have hnum := number_any _ len cap 2147483647 bs _ hcap hbig (by omega) (hr.below hb0 (Nat.le_refl _))
  rw [e1] at hnum
  have hnum2 : ∀ W z c', Below w.heap.size w W → z = len - (n + 1) → c' = cap - (n + 1) → Calls Try.prog 34 #[.slice (some ⟨b, off + (n + 1), none⟩) z c', .int .u64 64] W fun e w' => e = .returned (.tuple #[.int .i64 (u : Nat), .int .i64 (k : Nat)]) ∧ Below W.heap.size W w' := fun W z c' hW hz hc => by
    have h1 := (hr.below hW (Nat.le_refl _)).drop (n + 1) (by omega)
    subst hz; subst hc
    have := number_any _ _ (cap - (n + 1)) 64 _ W (by omega) (by omega) (by omega) h1
    rw [e2] at this
    exact this
  have hkd := hr.cell n (by omega)
  have hkd8 := getD_lt8 hr.2.2.1 n
  have hm2 : u ≤ 64 := by have := number_most (bs := bs.drop (n + 1)) (most := 64); rw [e2] at this; exact this
  have HG := En.one_tail (ix := ix) e1 e2 (by rw [hlen]; exact h) (by rw [hlen]; exact h2)
  generalize En.one bs ix = G at *
  generalize bs.getD n 0 = kd at *
  have hkey : ∀ W, Below w.heap.size w W → Row .u8 W (some ⟨b, off + (n + 1 + k), none⟩) u ((bs.drop (n + 1 + k)).take u) := fun W hW => ((hr.below hW (Nat.le_refl _)).drop (n + 1 + k) (by omega)).take u (by omega)
  by_cases hk2 : kd = 2
  · rw [if_pos hk2] at HG
    by_cases hc2 : cap = n + 1 + k
    · exact one_del0 b off len cap ix t n u k kd (n + 1) (n + 1 + k) (n + 1 + k + u) _ w hnum hnum2 hkd hkd8 rfl rfl rfl (by omega) (by omega) hm2 (by omega) hbig hcap hkey G (by subst hk2; exact HG) hk2 hc2
    · exact one_del b off len cap ix t n u k kd (n + 1) (n + 1 + k) (n + 1 + k + u) _ w hnum hnum2 hkd hkd8 rfl rfl rfl (by omega) (by omega) hm2 (by omega) hbig hcap hkey G (by subst hk2; exact HG) hk2 hc2
  · rw [if_neg hk2] at HG
    have hget : ∀ W a' z c', Below w.heap.size w W → z = len - (n + 1 + k + u) → ((z = 0 ∧ c' = 0) ∨ (a' = some ⟨b, off + (n + 1 + k + u), none⟩ ∧ c' = cap - (n + 1 + k + u))) → Calls Try.prog 48 #[.slice a' z c'] W (RCGet W (Ce.get (bs.drop (n + 1 + k + u)))) := fun W a' z c' hW hz hc => by
      have h1 := (hr.below hW (Nat.le_refl _)).drop (n + 1 + k + u) (by omega)
      rcases hc with ⟨rfl, rfl⟩ | ⟨rfl, rfl⟩
      · exact cerefget_any a' 0 0 _ W (by omega) (.inl ⟨rfl, rfl⟩) ⟨by rw [List.length_drop, hlen]; omega, by omega, h1.2.2.1, .inl rfl⟩
      · subst hz
        exact cerefget_any _ _ _ _ W (by omega) (.inr ⟨b, _, rfl, by omega⟩) h1
    have hgl := Ce.get_le (bs.drop (n + 1 + k + u))
    rw [List.length_drop, hlen] at hgl
    generalize Ce.get (bs.drop (n + 1 + k + u)) = R at *
    obtain ⟨⟨fr, vb, ps, py, pl, pm⟩, m⟩ := R
    simp only at HG hgl
    by_cases hm : m = 0
    · rw [if_pos hm] at HG
      by_cases hc2 : cap = n + 1 + k
      · exact one_nocell2 b off len cap ix t n u k kd (n + 1) (n + 1 + k) (n + 1 + k + u) _ w hnum hnum2 hkd hkd8 rfl rfl rfl (by omega) (by omega) hm2 (by omega) hbig hcap hkey fr vb ps py pl pm m hget G HG hk2 hm hc2
      · by_cases hc3 : cap = n + 1 + k + u
        · exact one_nocell3 b off len cap ix t n u k kd (n + 1) (n + 1 + k) (n + 1 + k + u) _ w hnum hnum2 hkd hkd8 rfl rfl rfl (by omega) (by omega) hm2 (by omega) hbig hcap hkey fr vb ps py pl pm m hget G HG hk2 hm hc2 hc3
        · exact one_nocell b off len cap ix t n u k kd (n + 1) (n + 1 + k) (n + 1 + k + u) _ w hnum hnum2 hkd hkd8 rfl rfl rfl (by omega) (by omega) hm2 (by omega) hbig hcap hkey fr vb ps py pl pm m hget G HG hk2 hm hc2 hc3
    · rw [if_neg hm] at HG
      exact one_cell b off len cap ix t n u k kd (n + 1) (n + 1 + k) (n + 1 + k + u) _ w hnum hnum2 hkd hkd8 rfl rfl rfl (by omega) (by omega) hm2 (by omega) hbig hcap hkey fr vb ps py pl pm m hget G HG hk2 (by omega) (by omega) (by omega) (by omega)
end Go.Proofs.Ytfejgedgmaljfaa
