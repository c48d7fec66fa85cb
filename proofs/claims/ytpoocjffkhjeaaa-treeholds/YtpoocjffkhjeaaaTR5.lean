/- What is asked of the program's own trees; awake, Light, made. -/
import Derived.Test.YtpoocjffkhjeaaaTR4
namespace Go.Proofs.Ytpoocjffkhjeaaa
open Go.RowKit

/-- of what was there nothing has turned but the blocks of a set -/
structure Only (S : Nat → Prop) (w w' : World) : Prop where
  os : w'.os = w.os
  tape : w'.tape = w.tape
  output : w'.output = w.output
  size : w.heap.size ≤ w'.heap.size
  block : ∀ k, k < w.heap.size → ¬ S k → w'.heap[k]? = w.heap[k]?
theorem Only.below {S : Nat → Prop} {w0 w w' : World} {B : Nat} (h : Only S w w') (hS : ∀ k, S k → B ≤ k) (hb : Below B w0 w) (hB : B ≤ w.heap.size) : Below B w0 w' :=
  hb.trans ⟨h.os, h.tape, h.output, h.size, fun k hk => h.block k (by omega) (fun hs => by have := hS k hs; omega)⟩
/-- a slice of items as it may come in -/
def InI (w : World) (a : Option Addr) (n c : Nat) (hs : List IH) (xs : List It.I) : Prop := ItRow w a n hs xs ∧ (a = none → n = 0 ∧ c = 0) ∧ n ≤ c
theorem InI.below {w w' : World} {B : Nat} {a : Option Addr} {n c : Nat} {hs : List IH} {xs : List It.I} (h : InI w a n c hs xs) (hb : Below B w w') (hB : w.heap.size ≤ B) : InI w' a n c hs xs := ⟨h.1.below hb hB, h.2⟩
/-- a slice of items is told -/
def TAllRes (w : World) (L : List It.I) (e : Ending) (w' : World) : Prop :=
  ∃ a c hs, e = .returned (.slice a L.length c) ∧ InI w' a L.length c hs L ∧ Below w.heap.size w w'

/-- what is asked of the program's trees: T w p L S says that the tree at p holds the items L, in blocks of S -/
structure TreeC (T : World → Addr → List It.I → (Nat → Prop) → Prop) : Prop where
  keep : ∀ {w w' : World} {p : Addr} {L : List It.I} {S : Nat → Prop}, T w p L S → (∀ k, S k → w'.heap[k]? = w.heap[k]?) → w.heap.size ≤ w'.heap.size → T w' p L S
  foot : ∀ {w : World} {p : Addr} {L : List It.I} {S : Nat → Prop}, T w p L S → ∀ k, S k → k < w.heap.size
  head : ∀ {w : World} {p : Addr} {L : List It.I} {S : Nat → Prop}, T w p L S → S p.block
  check : ∀ (h : IH) (x : It.I) (w : World), IsItem w h x → Calls Try.prog 24 #[iv h] w fun e w' => e = .returned (.int .i64 (if It.may x = true then 0 else 1)) ∧ Below w.heap.size w w'
  sorted : ∀ (a : Option Addr) (n c : Nat) (hs : List IH) (xs : List It.I) (w : World), n ≤ 1000 → InI w a n c hs xs → Calls Try.prog 26 #[.slice a n c] w fun e w' => e = .returned (.bool (It.sorted xs)) ∧ Below w.heap.size w w'
  same : ∀ (a : Option Addr) (n c : Nat) (hs : List IH) (xs : List It.I) (a' : Option Addr) (n' c' : Nat) (hs' : List IH) (ys : List It.I) (w : World), n ≤ 1000 → n' ≤ 1000 → InI w a n c hs xs → InI w a' n' c' hs' ys → Calls Try.prog 28 #[.slice a n c, .slice a' n' c'] w fun e w' => e = .returned (.bool (It.sameGo xs ys)) ∧ Below w.heap.size w w'
  new : ∀ w : World, Calls Try.prog 22 #[] w fun e w' => ∃ p S, e = .returned (.pointer (some p)) ∧ T w' p [] S ∧ (∀ k, S k → w.heap.size ≤ k) ∧ Below w.heap.size w w'
  puth : ∀ (p : Addr) (L : List It.I) (S : Nat → Prop) (h : IH) (x : It.I) (w : World), T w p L S → L.length ≤ 1000 → IsItem w h x → Calls Try.prog 23 #[.pointer (some p), iv h] w fun e w' => ∃ S', e = .returned (.int .i64 (if It.may x = true then 0 else 1)) ∧ T w' p (if It.may x = true then It.put L x else L) S' ∧ (∀ k, S' k → S k ∨ w.heap.size ≤ k) ∧ Only (fun k => k = p.block) w w'
  all : ∀ (p : Addr) (L : List It.I) (S : Nat → Prop) (w : World), T w p L S → L.length ≤ 1000 → Calls Try.prog 13 #[.pointer (some p)] w (TAllRes w L)
  len : ∀ (p : Addr) (L : List It.I) (S : Nat → Prop) (w : World), T w p L S → L.length ≤ 1000 → Calls Try.prog 14 #[.pointer (some p)] w fun e w' => e = .returned (.int .i64 (L.length : Nat)) ∧ Below w.heap.size w w'
  weight : ∀ (p : Addr) (L : List It.I) (S : Nat → Prop) (w : World), T w p L S → L.length ≤ 1000 → Calls Try.prog 15 #[.pointer (some p)] w fun e w' => e = .returned (.int .i64 (It.weight L : Nat)) ∧ Below w.heap.size w w'
  get : ∀ (p : Addr) (L : List It.I) (S : Nat → Prop) (s : ByteArray) (w : World), T w p L S → L.length ≤ 1000 → s.size ≤ 1000 → Calls Try.prog 17 #[.pointer (some p), .string s] w fun e w' => ∃ h, e = .returned (.tuple #[iv h, .bool (decide ((It.get L (kb s)).1 ≠ []))]) ∧ IsItem w' h (It.get L (kb s)) ∧ Below w.heap.size w w'
  scan : ∀ (p : Addr) (L : List It.I) (S : Nat → Prop) (lo hi : ByteArray) (most : Int) (w : World), T w p L S → L.length ≤ 1000 → lo.size ≤ 1000 → hi.size ≤ 1000 → (-9223372036854775808 ≤ most ∧ most ≤ 9223372036854775807) → Calls Try.prog 20 #[.pointer (some p), .string lo, .string hi, .int .i64 most] w (TAllRes w (It.scan L (kb lo) (kb hi) most))
  clone : ∀ (p : Addr) (L : List It.I) (S : Nat → Prop) (w : World), T w p L S → L.length ≤ 1000 → Calls Try.prog 29 #[.pointer (some p)] w fun e w' => ∃ q S', e = .returned (.pointer (some q)) ∧ T w' q L S' ∧ (∀ k, S' k → (S k ∧ k ≠ p.block) ∨ w.heap.size ≤ k) ∧ Below w.heap.size w w'
theorem Only.wide {S S' : Nat → Prop} {w w' : World} (h : Only S w w') (hs : ∀ k, S k → S' k) : Only S' w w' := ⟨h.os, h.tape, h.output, h.size, fun k hk hn => h.block k hk (fun hS => hn (hs k hS))⟩
theorem TreeC.put {T : World → Addr → List It.I → (Nat → Prop) → Prop} (hC : TreeC T) (p : Addr) (L : List It.I) (S : Nat → Prop) (h : IH) (x : It.I) (w : World) (hT : T w p L S) (hl : L.length ≤ 1000) (hx : IsItem w h x) :
    Calls Try.prog 23 #[.pointer (some p), iv h] w fun e w' => ∃ S', e = .returned (.int .i64 (if It.may x = true then 0 else 1)) ∧ T w' p (if It.may x = true then It.put L x else L) S' ∧ (∀ k, S' k → S k ∨ w.heap.size ≤ k) ∧ Only S w w' := by
  refine (hC.puth p L S h x w hT hl hx).mono ?_
  rintro e w' ⟨S', h1, h2, h3, h4⟩
  exact ⟨S', h1, h2, h3, h4.wide (fun k hk => by rw [hk]; exact hC.head hT)⟩
theorem TreeC.on {T : World → Addr → List It.I → (Nat → Prop) → Prop} (hC : TreeC T) {w w' : World} {p : Addr} {L : List It.I} {S : Nat → Prop} (h : T w p L S) (hb : Below w.heap.size w w') : T w' p L S :=
  hC.keep h (fun k hk => hb.block k (hC.foot h k hk)) hb.size

set_option maxRecDepth 100000 in
set_option maxHeartbeats 2000000 in
/-- items put one behind the other -/
theorem made_any {T : World → Addr → List It.I → (Nat → Prop) → Prop} (hC : TreeC T) (a : Option Addr) (n c : Nat) (gs : List IH) (xs : List It.I) (w : World) (hn : n ≤ 100) (hi : InI w a n c gs xs) :
    Calls Try.prog 10 #[.slice a n c] w fun e w' => ∃ p S, e = .returned (.tuple #[.pointer (some p), .bool true]) ∧ T w' p (It.all xs) S ∧ (∀ k, S k → w.heap.size ≤ k) ∧ Below w.heap.size w w' := by
  have hll : Hid (xs.length = n) := hi.1.len
  have hnew := hC.new w
  go_enter Try.func10, Try.ntmps10
  go_wp2_with (go_at_call 22; go_must (refine hnew.mono ?_; rintro e w1 ⟨p, S1, rfl, hT1, hS1, hb1⟩))
  have H0 : Hid (∀ k, S1 k → w.heap.size ≤ k) := hS1
  clear hS1 hnew
  go_loopw [5] (fun i wr => ∃ (k : Nat) (S : Nat → Prop) (P : List It.I), k ≤ n ∧ i = .int .i64 k ∧ Hid (P = It.all (xs.take k)) ∧ T wr p P S ∧ Hid (∀ k, S k → w.heap.size ≤ k) ∧ Below w.heap.size w wr) (fun i _ => n - (intOf i).toNat)
  case atStart => exact ⟨0, S1, [], by omega, rfl, (rfl : ([] : List It.I) = It.all (xs.take 0)), hT1, H0, hb1⟩
  case round =>
    obtain ⟨k, S, P, hk, rfl, HP, hT, HS, hbel⟩ := hrel
    by_cases hlt : k < n
    · obtain ⟨bb, off, rfl, hc⟩ := hi.1.1.items (by omega)
      have hck := hc k hlt
      have C0 : Hid (∀ W, Below w.heap.size w W → ICells W bb (off + k * 8) (gs.getD k ihz)) := (fun W hW => hck.below hW (Nat.le_refl _) : ∀ W, Below w.heap.size w W → ICells W bb (off + k * 8) (gs.getD k ihz))
      have hk' : k < xs.length := by rw [hll.out]; exact hlt
      have hst : Hid (It.all (xs.take (k + 1)) = if It.may (xs.getD k It.zero) = true then It.put P (xs.getD k It.zero) else P) := (by rw [HP.out]; exact It.all_take hk' : It.all (xs.take (k + 1)) = if It.may (xs.getD k It.zero) = true then It.put P (xs.getD k It.zero) else P)
      have Hy := hi.1.item hlt
      have hPl : P.length ≤ 1000 := by
        have h1 := It.all_length (xs.take k)
        rw [← HP.out, List.length_take] at h1
        omega
      have hmay := fun W (hW : Below w.heap.size w W) => imay_any _ _ W (Hy.below hW (Nat.le_refl _))
      have hput := fun W (hW : Below w.heap.size w W) (hT : T W p P S) => hC.put p P S _ _ W hT hPl (Hy.below hW (Nat.le_refl _))
      generalize gs.getD k ihz = q at *
      generalize xs.getD k It.zero = y at *
      rw [← hst.out] at hput
      obtain ⟨key, dead, far, qa, qn, qc, ⟨p1, p2, p3, p4⟩⟩ := q
      obtain ⟨y0, y1, y2, y3, y4, y5, y6, y7⟩ := C0.out wr hbel
      simp only at y0 y1 y2 y3 y4 y5 y6 y7 hmay hput
      obtain ⟨P2, hP2⟩ : ∃ P2, P2 = It.all (xs.take (k + 1)) := ⟨_, rfl⟩
      have HP2 : Hid (P2 = It.all (xs.take (k + 1))) := hP2
      rw [← hP2] at hput
      have i0 : (0 : Int) ≤ (k : Int) := by omega
      have i1 : (k : Int) < (n : Int) := by omega
      clear hc hck hk' hst HP Hy hP2
      cases hq : It.may y with
      | false =>
        rw [hq] at hmay hput
        simp only [Bool.false_eq_true, if_false] at hput
        clear hq
        go_wp2_with fail
        go_region_held3 (fun w' => w'.cell? ⟨bb, off + k * 8, none⟩ = some (.string key) ∧ w'.cell? ⟨bb, off + k * 8 + 1, none⟩ = some (.bool dead) ∧ w'.cell? ⟨bb, off + k * 8 + 2, none⟩ = some (.bool far) ∧ w'.cell? ⟨bb, off + k * 8 + 3, none⟩ = some (.slice qa qn qc) ∧ w'.cell? ⟨bb, off + k * 8 + 4, none⟩ = some (.int .i64 p1) ∧ w'.cell? ⟨bb, off + k * 8 + 5, none⟩ = some (.int .i64 p2) ∧ w'.cell? ⟨bb, off + k * 8 + 6, none⟩ = some (.int .i64 p3) ∧ w'.cell? ⟨bb, off + k * 8 + 7, none⟩ = some (.int .u32 (p4 : Nat))) (first | go_keep | (refine ⟨?_, ?_, ?_, ?_, ?_, ?_, ?_, ?_⟩ <;> assumption))
          (first
            | ((go_at_call 23; refine (hput _ hbel.drew (hC.on hT (Below.refl _ _).drew)).mono ?_; rintro e w2 ⟨S2, rfl, hT2, hS2, ho2⟩; have hw2 : Below w.heap.size w w2 := ho2.below HS.out hbel.drew hbel.size; have HS2 : Hid (∀ k, S2 k → w.heap.size ≤ k) := (fun k hk => by rcases hS2 k hk with h | h; exact HS.out k h; exact Nat.le_trans hbel.size h : ∀ k, S2 k → w.heap.size ≤ k); obtain ⟨u0, u1, u2, u3, u4, u5, u6, u7⟩ := C0.out w2 hw2; simp only at u0 u1 u2 u3 u4 u5 u6 u7))
            | ((go_at_call 25; refine (hmay _ hw2).mono ?_; rintro e w3 ⟨rfl, hb3⟩; have hw3 := hw2.trans (hb3.mono hw2.size); obtain ⟨t0, t1, t2, t3, t4, t5, t6, t7⟩ := C0.out w3 hw3; simp only at t0 t1 t2 t3 t4 t5 t6 t7)))
        all_goals
          go_wp2
          go_roundw
          case rel => exact ⟨k + 1, S2, P2, by omega, by go_num, HP2, hC.on hT2 hb3, HS2, hw3⟩
          case measure => simp [intOf]; omega
      | true =>
        rw [hq] at hmay hput
        simp only [if_true] at hput
        clear hq
        go_wp2_with fail
        go_region_held3 (fun w' => w'.cell? ⟨bb, off + k * 8, none⟩ = some (.string key) ∧ w'.cell? ⟨bb, off + k * 8 + 1, none⟩ = some (.bool dead) ∧ w'.cell? ⟨bb, off + k * 8 + 2, none⟩ = some (.bool far) ∧ w'.cell? ⟨bb, off + k * 8 + 3, none⟩ = some (.slice qa qn qc) ∧ w'.cell? ⟨bb, off + k * 8 + 4, none⟩ = some (.int .i64 p1) ∧ w'.cell? ⟨bb, off + k * 8 + 5, none⟩ = some (.int .i64 p2) ∧ w'.cell? ⟨bb, off + k * 8 + 6, none⟩ = some (.int .i64 p3) ∧ w'.cell? ⟨bb, off + k * 8 + 7, none⟩ = some (.int .u32 (p4 : Nat))) (first | go_keep | (refine ⟨?_, ?_, ?_, ?_, ?_, ?_, ?_, ?_⟩ <;> assumption))
          (first
            | ((go_at_call 23; refine (hput _ hbel.drew (hC.on hT (Below.refl _ _).drew)).mono ?_; rintro e w2 ⟨S2, rfl, hT2, hS2, ho2⟩; have hw2 : Below w.heap.size w w2 := ho2.below HS.out hbel.drew hbel.size; have HS2 : Hid (∀ k, S2 k → w.heap.size ≤ k) := (fun k hk => by rcases hS2 k hk with h | h; exact HS.out k h; exact Nat.le_trans hbel.size h : ∀ k, S2 k → w.heap.size ≤ k); obtain ⟨u0, u1, u2, u3, u4, u5, u6, u7⟩ := C0.out w2 hw2; simp only at u0 u1 u2 u3 u4 u5 u6 u7))
            | ((go_at_call 25; refine (hmay _ hw2).mono ?_; rintro e w3 ⟨rfl, hb3⟩; have hw3 := hw2.trans (hb3.mono hw2.size); obtain ⟨t0, t1, t2, t3, t4, t5, t6, t7⟩ := C0.out w3 hw3; simp only at t0 t1 t2 t3 t4 t5 t6 t7)))
        all_goals
          go_wp2
          go_roundw
          case rel => exact ⟨k + 1, S2, P2, by omega, by go_num, HP2, hC.on hT2 hb3, HS2, hw3⟩
          case measure => simp [intOf]; omega
    · obtain rfl : k = n := by omega
      obtain rfl : P = It.all xs := by rw [HP.out, List.take_of_length_le (by rw [hll.out]; omega)]
      go_wp2
      go_ret2
      exact ⟨p, S, rfl, hT, HS.out, hbel⟩
end Go.Proofs.Ytpoocjffkhjeaaa
