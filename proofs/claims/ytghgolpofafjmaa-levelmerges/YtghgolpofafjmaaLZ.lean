/- LevelOrders: what the statement does at any input. -/
import Derived.Test.YtghgolpofafjmaaLX
import Derived.Test.YtghgolpofafjmaaLY
import Derived.Test.YtghgolpofafjmaaLL
import Derived.Test.YtghgolpofafjmaaLT
import Derived.Test.YtghgolpofafjmaaOL
namespace Go.Proofs.Ytghgolpofafjmaa
open Go.RowKit
theorem u8_nat {u : Int} (h : (Lit.int .u8 u).wf = true) : ∃ m : Nat, u = m ∧ m < 256 := by
  simp [Lit.wf, IntKind.min, IntKind.max, IntKind.bits, IntKind.signed] at h
  exact ⟨u.toNat, by omega, by omega⟩
theorem tmod_nat (x n : Nat) : Int.tmod (x : Int) (n : Int) = ((x % n : Nat) : Int) := by
  rw [Int.tmod_eq_emod_of_nonneg (by omega)]; rfl
theorem nrow {w : World} {B n c : Nat} {g : Option Addr} {l : List Nat} (h : w.ownsRow B 3 1 (.slice g n c) n (tcells ie l)) (hn : n ≤ 1000) : IRow w g n l := trow_of_owns ieE h (by omega) (by omega)
theorem nm_small {l : List Lv.T} (h : ∀ x ∈ l, Lv.One x) : ∀ y ∈ nm l, y < lim .i64 := by
  intro y hy
  obtain ⟨x, hx, rfl⟩ := List.mem_map.mp hy
  have := (h x hx).n2
  have e : lim .i64 = 18446744073709551616 := by decide
  omega
set_option maxRecDepth 100000 in
set_option maxHeartbeats 400000 in
theorem levelorders_far (a : Option Addr) (n c : Nat) (l : List Lv.T) (key : ByteArray) (u : Int) (w : World) (hi : IsTabs w a n c l) (hf : lgt l = false ∨ 200 < key.size) :
    Calls Try.prog 3 #[.slice a n c, .string key, .int .u8 u] w fun e w' => e = .returned (.bool true) ∧ Below w.heap.size w w' := by
  obtain ⟨hr, hnil, hnc, hn⟩ := hi
  have hli := light_level a n c l w hr hn
  have haw := awake_level
  cases hL : lgt l with
  | false =>
    rw [hL] at hli
    clear hf
    go_enter Try.func3, Try.ntmps3
    go_wp2_with (first | (go_at_call 6; go_must (refine hli.mono ?_; rintro e w2 ⟨rfl, rfl⟩)) | (go_at_call 7; go_must (refine (haw _).mono ?_; rintro e w3 ⟨rfl, hb3⟩)))
    go_ret
    exact ⟨rfl, hb3⟩
  | true =>
    rw [hL] at hli hf
    have d0 : 200 < ((key.size : Nat) : Int) := by rcases hf with h | h; cases h; omega
    clear hf
    go_enter Try.func3, Try.ntmps3
    go_wp2_with (first | (go_at_call 6; go_must (refine hli.mono ?_; rintro e w2 ⟨rfl, rfl⟩)) | (go_at_call 7; go_must (refine (haw _).mono ?_; rintro e w3 ⟨rfl, hb3⟩)))
    go_ret
    exact ⟨rfl, hb3⟩
set_option maxRecDepth 100000 in
set_option maxHeartbeats 2000000 in
theorem levelorders_no (a : Option Addr) (n c : Nat) (l : List Lv.T) (key : ByteArray) (u : Int) (w : World) (hi : IsTabs w a n c l) (hu : (Lit.int .u8 u).wf = true) (hL : lgt l = true) (hk : key.size ≤ 200) (hm : Lv.may l = false) :
    Calls Try.prog 3 #[.slice a n c, .string key, .int .u8 u] w fun e w' => e = .returned (.bool true) ∧ Below w.heap.size w w' := by
  obtain ⟨hr, hnil, hnc, hn⟩ := hi
  obtain ⟨u, rfl, hu2⟩ := u8_nat hu
  have hli := light_level a n c l w hr hn
  have haw := awake_level
  rw [hL] at hli
  have h80 : n ≤ 80 := by have := lgt_len hL; rw [hr.1] at this; exact this
  have d0 : ((key.size : Nat) : Int) ≤ 200 := by omega
  have hmay := fun V (hV : Below w.heap.size w V) => rmay_any a n c l V (by omega) (hr.below hV (Nat.le_refl _))
  have hchk := fun V (hV : Below w.heap.size w V) => lcheck_any a n c l V hnc (hr.below hV (Nat.le_refl _)) 1 (by rw [hm]; rfl)
  rw [hm] at hmay
  have hord := fun V (hV : Below w.heap.size w V) => lorder_no a n c l V hnc (hr.below hV (Nat.le_refl _)) hm
  have hfin := fun V (hV : Below w.heap.size w V) => lfind_no a n c l key V hnc (hr.below hV (Nat.le_refl _)) hm
  skip
  clear hL hu
  go_enter Try.func3, Try.ntmps3
  go_wp2_with (first | (go_at_call 6; go_must (refine hli.mono ?_; rintro e w2 ⟨rfl, rfl⟩)) | (go_at_call 8; go_must (refine (hord _ (Below.refl _ _)).mono ?_; rintro e w3 ⟨⟨g3, c3, rfl⟩, hb3⟩)) | (go_at_call 9; go_must (refine (hfin _ hb3).mono ?_; rintro e w4 ⟨⟨g4, c4, rfl⟩, hb4⟩)))
  have hB4 := hb3.trans (hb4.mono hb3.size)
  skip
  go_loopw [9] (fun i wr => ∃ k : Nat, k ≤ n ∧ i = .int .i64 k ∧ Below w4.heap.size w4 wr) (fun i _ => n - (intOf i).toNat)
  case atStart => exact ⟨0, by omega, rfl, Below.refl _ _⟩
  case round =>
    obtain ⟨k, hk2, rfl, hbel⟩ := hrel
    have hBr := hB4.trans (hbel.mono hB4.size)
    by_cases hlt : k < n
    · obtain ⟨m, hme⟩ : ∃ m, m = (u + 3 * k) % n := ⟨_, rfl⟩
      have hmn : m < n := by rw [hme]; exact Nat.mod_lt _ (by omega)
      obtain ⟨b, off, x1, x2, x3, x4, x5, rfl, hx, q0, q1, q2, q3, q4⟩ := lget hr hBr hlt
      obtain ⟨b', off', y1, y2, y3, y4, y5, e', hy, p0, p1, p2, p3, p4⟩ := lget hr hBr hmn
      simp only [Option.some.injEq, Addr.mk.injEq] at e'
      obtain ⟨rfl, rfl, _⟩ := e'
      have i0 : (0 : Int) ≤ (k : Int) := by omega
      have i1 : (k : Int) < (n : Int) := by omega
      have i2 : (0 : Int) ≤ (m : Int) := by omega
      have i3 : (m : Int) < (n : Int) := by omega
      have i4 : IntKind.i64.wrap (3 * (k : Int)) = 3 * (k : Int) := by rw [IntKind.wrap_i64]; omega
      have i5 : IntKind.i64.wrap ((u : Int) + 3 * (k : Int)) = (u : Int) + 3 * (k : Int) := by rw [IntKind.wrap_i64]; omega
      have i6 : Int.tmod ((u : Int) + 3 * (k : Int)) (n : Int) = (m : Int) := by rw [hme, ← tmod_nat]; congr 1
      have i7 : ((n : Int) == 0) = false := by simp; omega
      have i8 : ¬ (n : Int) = 0 := by omega
      have i9 : IntKind.i64.wrap (m : Int) = (m : Int) := by rw [IntKind.wrap_i64]; omega
      have i10 : IntKind.i64.wrap (u : Int) = (u : Int) := by rw [IntKind.wrap_i64]; omega
      have hm1 := fun V => lmeet_any x1 x2 x3 x4 x5 y1 y2 y3 y4 y5 V
      have hm2 := fun V => rmeet_any x1 x2 x3 x4 x5 y1 y2 y3 y4 y5 V
      generalize Lv.meet ⟨x1, x2, x3, x4, x5⟩ ⟨y1, y2, y3, y4, y5⟩ = R at *
      clear hme hx hy
      go_wp2_with fail
      skip
      go_region_held3 (fun w' => w'.cell? ⟨b, off + k * 5, none⟩ = some (.int .i64 x1) ∧ w'.cell? ⟨b, off + k * 5 + 1, none⟩ = some (.int .i64 x2) ∧ w'.cell? ⟨b, off + k * 5 + 2, none⟩ = some (.int .i64 x3) ∧ w'.cell? ⟨b, off + k * 5 + 3, none⟩ = some (.string x4) ∧ w'.cell? ⟨b, off + k * 5 + 4, none⟩ = some (.string x5) ∧ w'.cell? ⟨b, off + m * 5, none⟩ = some (.int .i64 y1) ∧ w'.cell? ⟨b, off + m * 5 + 1, none⟩ = some (.int .i64 y2) ∧ w'.cell? ⟨b, off + m * 5 + 2, none⟩ = some (.int .i64 y3) ∧ w'.cell? ⟨b, off + m * 5 + 3, none⟩ = some (.string y4) ∧ w'.cell? ⟨b, off + m * 5 + 4, none⟩ = some (.string y5)) (first | go_keep | (refine ⟨?_, ?_, ?_, ?_, ?_, ?_, ?_, ?_, ?_, ?_⟩ <;> assumption))
          ((first | (go_at_call 10; refine (hm1 _).mono ?_; rintro e w5 ⟨rfl, hbel5⟩; have hb5 : Below wr.heap.size wr w5 := (by first | exact hbel5 | exact below_of_drew hbel5); obtain ⟨u0, u1, u2, u3, u4⟩ := L5.below (x := ⟨x1, x2, x3, x4, x5⟩) ⟨q0, q1, q2, q3, q4⟩ hb5 (Nat.le_refl _); obtain ⟨v0, v1, v2, v3, v4⟩ := L5.below (x := ⟨y1, y2, y3, y4, y5⟩) ⟨p0, p1, p2, p3, p4⟩ hb5 (Nat.le_refl _); simp only at u0 u1 u2 u3 u4 v0 v1 v2 v3 v4) | (go_at_call 11; refine (hm2 _).mono ?_; rintro e w6 ⟨rfl, hbel6⟩; have hb6 : Below w5.heap.size w5 w6 := (by first | exact hbel6 | exact below_of_drew hbel6); have hb7 := hb5.trans (hb6.mono hb5.size); obtain ⟨r0, r1, r2, r3, r4⟩ := L5.below (x := ⟨x1, x2, x3, x4, x5⟩) ⟨q0, q1, q2, q3, q4⟩ hb7 (Nat.le_refl _); obtain ⟨t0, t1, t2, t3, t4⟩ := L5.below (x := ⟨y1, y2, y3, y4, y5⟩) ⟨p0, p1, p2, p3, p4⟩ hb7 (Nat.le_refl _); simp only at r0 r1 r2 r3 r4 t0 t1 t2 t3 t4)))
      go_wp2
      go_roundw
      case rel => exact ⟨k + 1, by omega, by go_num, hbel.trans (hb7.mono hbel.size)⟩
      case measure => simp [intOf]; omega
    · obtain rfl : k = n := by omega
      have hmy := hmay wr hBr
      have hck := fun V hV => hchk V hV
      go_wp2_with (first | (go_at_call 12; go_must (refine hmy.mono ?_; rintro e w5 ⟨rfl, hb5⟩; have hB5 := hBr.trans (hb5.mono hBr.size))) | (go_at_call 13; go_must (refine (hck _ hB5).mono ?_; rintro e w6 ⟨rfl, hb6⟩; have hB6 := hB5.trans (hb6.mono hB5.size))) | (go_at_call 7; go_must (refine (haw _).mono ?_; rintro e w7 ⟨rfl, hb7⟩)))
      go_ret
      exact ⟨rfl, hB6.trans (hb7.mono hB6.size)⟩

end Go.Proofs.Ytghgolpofafjmaa
