/- What is asked of the program's own functions over blocks; awake; the law BlockPuts. -/
import Derived.Test.YtjllglpjghcplaaBL3
import Derived.Test.YtjllglpjghcplaaTR6
namespace Go.Proofs.Ytjllglpjghcplaa
open Go.RowKit

namespace Bl
def putR (xs : List It.I) : Nat × List Nat := if may xs = true then (0, put xs) else (1, [])
def err (L : List It.I) : Nat := if L = [] then 2 else 0
theorem putR_small {w : World} {a : Option Addr} {n : Nat} {gs : List IH} {xs : List It.I} (h : ItRow w a n gs xs) : ∀ y ∈ (putR xs).2, y < 256 := by
  unfold putR
  split
  · intro y hy
    simp only at hy
    unfold Bl.put at hy
    rcases List.mem_append.mp hy with hy | hy
    · exact Va.one_small _ y hy
    · refine Bl.putGo_small (fun x hx => ?_) y hy
      obtain ⟨t, ht, rfl⟩ := List.getElem_of_mem hx
      have hI := h.item (i := t) (by rw [← h.len]; exact ht)
      rw [show xs.getD t It.zero = xs[t] by simp [ht]] at hI
      refine ⟨fun z hz => ?_, fun z hz => hI.row.2.2.1 z hz, ?_⟩
      · rw [← hI.key] at hz
        exact kb_small _ z hz
      · have := hI.fits
        rw [hI.pt] at this
        exact this.2.2.2
  · intro y hy; cases hy
end Bl
def BPRes (w : World) (R : Nat × List Nat) (e : Ending) (w' : World) : Prop :=
  ∃ a c, e = .returned (.tuple #[.slice a R.2.length c, .int .i64 (R.1 : Nat)]) ∧ Row .u8 w' a R.2.length R.2 ∧ (a = none → R.2.length = 0 ∧ c = 0) ∧ R.2.length ≤ c ∧ Below w.heap.size w w'
def BLRes (w : World) (L : List It.I) (e : Ending) (w' : World) : Prop :=
  ∃ a c hs, e = .returned (.tuple #[.slice a L.length c, .int .i64 (Bl.err L : Nat)]) ∧ InI w' a L.length c hs L ∧ Below w.heap.size w w'
/-- what is asked of the program -/
structure BlockC : Prop where
  alike : ∀ (s t : ByteArray) (w : World), s.size ≤ 1000 → t.size ≤ 1000 → Calls Try.prog 8 #[.string s, .string t] w fun e w' => e = .returned (.int .i64 (Bl.alike (kb s) (kb t) : Nat)) ∧ Below w.heap.size w w'
  put : ∀ (a : Option Addr) (n c : Nat) (gs : List IH) (xs : List It.I) (w : World), Fine gs n → InI w a n c gs xs → Calls Try.prog 10 #[.slice a n c] w (BPRes w (Bl.putR xs))
  get : ∀ (a : Option Addr) (n c : Nat) (bs : List Nat) (w : World), n ≤ 100000 → n ≤ c → (a = none → n = 0 ∧ c = 0) → Row .u8 w a n bs → Calls Try.prog 14 #[.slice a n c] w (BLRes w (Bl.get bs))
  find : ∀ (a : Option Addr) (n c : Nat) (bs : List Nat) (s : ByteArray) (w : World), n ≤ 100000 → n ≤ c → (a = none → n = 0 ∧ c = 0) → Row .u8 w a n bs → s.size ≤ 1000 → Calls Try.prog 16 #[.slice a n c, .string s] w fun e w' => ∃ h, e = .returned (.tuple #[iv h, .bool (decide ((It.get (Bl.get bs) (kb s)).1 ≠ [])), .int .i64 (Bl.err (Bl.get bs) : Nat)]) ∧ IsItem w' h (It.get (Bl.get bs) (kb s)) ∧ Below w.heap.size w w'

def itAB : It.I := ([97, 98], true, Ce.zero)
def itAC : It.I := ([97, 99], true, Ce.zero)
theorem bl_ex1 : Bl.putR [itAB, itAC] = (0, [2, 0, 2, 97, 98, 1, 1, 1, 99, 1]) := by
  have h : Bl.may [itAB, itAC] = true := by decide
  have o0 := Va.one_lo (u := 0) (by omega)
  have o1 := Va.one_lo (u := 1) (by omega)
  have o2 := Va.one_lo (u := 2) (by omega)
  unfold Bl.putR
  rw [if_pos h]
  simp [Bl.put, Bl.putGo, Bl.put1, Bl.tail1, itAB, itAC, Bl.alike, o0, o1, o2]
theorem bl_ex2 : Bl.alike (kb ⟨#[97, 98]⟩) (kb ⟨#[97, 99]⟩) = 1 := by decide
theorem item_ab (w : World) : IsItem w ⟨⟨#[97, 98]⟩, true, false, none, 0, 0, Po.zero⟩ itAB := ⟨rfl, rfl, rfl, rfl, ⟨rfl, by decide, (fun x hx => by cases hx), .inl rfl⟩, (fun _ => ⟨rfl, rfl⟩), Nat.le_refl _, by unfold Po.Fits; decide, by decide⟩
theorem item_ac (w : World) : IsItem w ⟨⟨#[97, 99]⟩, true, false, none, 0, 0, Po.zero⟩ itAC := ⟨rfl, rfl, rfl, rfl, ⟨rfl, by decide, (fun x hx => by cases hx), .inl rfl⟩, (fun _ => ⟨rfl, rfl⟩), Nat.le_refl _, by unfold Po.Fits; decide, by decide⟩
theorem two_items (w : World) {g : Nat} (hg : w.heap.size = g) : InI (w.alloc (.cells #[.string ⟨#[97, 98]⟩, .bool true, .bool false, .slice none 0 0, .int .i64 0, .int .i64 0, .int .i64 0, .int .u32 0, .string ⟨#[97, 99]⟩, .bool true, .bool false, .slice none 0 0, .int .i64 0, .int .i64 0, .int .i64 0, .int .u32 0] 42)) (some ⟨g, 0, none⟩) 2 2 [⟨⟨#[97, 98]⟩, true, false, none, 0, 0, Po.zero⟩, ⟨⟨#[97, 99]⟩, true, false, none, 0, 0, Po.zero⟩] [itAB, itAC] := by
  subst hg
  refine ⟨⟨⟨rfl, by omega, .inr ⟨_, 0, rfl, fun i hi j v hj => ?_⟩⟩, ⟨rfl, fun i hi => ?_⟩⟩, (fun h => by cases h), Nat.le_refl _⟩
  · match i, hi with
    | 0, _ =>
      match j, hj with
      | 0, hj | 1, hj | 2, hj | 3, hj | 4, hj | 5, hj | 6, hj | 7, hj => exact (cell_new w _ _ _).trans hj
      | j + 8, hj => simp [ih] at hj
    | 1, _ =>
      match j, hj with
      | 0, hj | 1, hj | 2, hj | 3, hj | 4, hj | 5, hj | 6, hj | 7, hj => exact (cell_new w _ _ _).trans hj
      | j + 8, hj => simp [ih] at hj
  · match i, hi with
    | 0, _ => exact item_ab _
    | 1, _ => exact item_ac _
theorem ten_bytes (w : World) {g : Nat} (hg : w.heap.size = g) : Row .u8 (w.alloc (.cells #[.int .u8 2, .int .u8 0, .int .u8 2, .int .u8 97, .int .u8 98, .int .u8 1, .int .u8 1, .int .u8 1, .int .u8 99, .int .u8 1] 5)) (some ⟨g, 0, none⟩) 10 [2, 0, 2, 97, 98, 1, 1, 1, 99, 1] := by
  subst hg
  refine ⟨rfl, by decide, by decide, .inr ⟨_, 0, rfl, fun i hi => ?_⟩⟩
  match i, hi with
  | 0, _ | 1, _ | 2, _ | 3, _ | 4, _ | 5, _ | 6, _ | 7, _ | 8, _ | 9, _ => exact cell_new w _ _ _

set_option maxRecDepth 100000 in
set_option maxHeartbeats 2000000 in
theorem blawake (hC : BlockC) (w : World) : Calls Try.prog 7 #[] w fun e w' => e = .returned (.bool true) ∧ Below w.heap.size w w' := by
  have hb0 := below_alloc w (.cells #[.string ⟨#[97, 98]⟩, .bool true, .bool false, .slice none 0 0, .int .i64 0, .int .i64 0, .int .i64 0, .int .u32 0, .string ⟨#[97, 99]⟩, .bool true, .bool false, .slice none 0 0, .int .i64 0, .int .i64 0, .int .i64 0, .int .u32 0] 42)
  have hp := hC.put _ 2 2 _ _ _ ⟨by omega, fun i hi => by match i, hi with | 0, _ | 1, _ => decide⟩ (two_items w rfl)
  rw [bl_ex1] at hp
  have hal := fun W => hC.alike ⟨#[97, 98]⟩ ⟨#[97, 99]⟩ W (by decide) (by decide)
  rw [bl_ex2] at hal
  have hby := fun W a' c' (hr : Row .u8 W a' 10 [2, 0, 2, 97, 98, 1, 1, 1, 99, 1]) => bytes_any a' 10 c' [2, 0, 2, 97, 98, 1, 1, 1, 99, 1] (some ⟨W.heap.size, 0, none⟩) 10 10 [2, 0, 2, 97, 98, 1, 1, 1, 99, 1] (W.alloc (.cells #[.int .u8 2, .int .u8 0, .int .u8 2, .int .u8 97, .int .u8 98, .int .u8 1, .int .u8 1, .int .u8 1, .int .u8 99, .int .u8 1] 5)) (hr.below (below_alloc _ _) (Nat.le_refl _)) (ten_bytes W rfl)
  simp only [decide_true] at hby
  go_enter Try.func7, Try.ntmps7
  go_wp2_with (first
    | (go_at_call 8; go_must (refine (hal _).mono ?_; rintro e w3 ⟨rfl, hb3⟩))
    | (go_at_call 12; go_must (refine (hby _ _ _ hr1).mono ?_; rintro e w2 ⟨rfl, q2, hw2⟩))
    | (go_at_call 10; go_must (refine hp.mono ?_; rintro e w1 ⟨a1, c1, rfl, hr1, _, _, hb1⟩; have hw1 := hb0.trans (hb1.mono hb0.size))))
  go_ret
  have hw2' := (hw1.alloc hw1.size (.cells #[.int .u8 2, .int .u8 0, .int .u8 2, .int .u8 97, .int .u8 98, .int .u8 1, .int .u8 1, .int .u8 1, .int .u8 99, .int .u8 1] 5)).trans (below_drewN _ _ q2)
  exact ⟨rfl, hw2'.trans (hb3.mono hw2'.size)⟩
end Go.Proofs.Ytjllglpjghcplaa

/- The laws BlockPuts and BlockGets, given what is asked of the program. -/
namespace Go.Proofs.Ytjllglpjghcplaa
open Go.RowKit

theorem bytesB (a1 : Option Addr) (l1 c1 : Nat) (bs1 : List Nat) (a2 : Option Addr) (l2 c2 : Nat) (bs2 : List Nat) (w : World) (hr1 : Row .u8 w a1 l1 bs1) (hr2 : Row .u8 w a2 l2 bs2) :
    Calls Try.prog 12 #[.slice a1 l1 c1, .slice a2 l2 c2] w fun e w' => e = .returned (.bool (decide (bs1 = bs2))) ∧ Below w.heap.size w w' :=
  (bytes_any a1 l1 c1 bs1 a2 l2 c2 bs2 w hr1 hr2).mono fun _ _ h => ⟨h.1, by obtain ⟨q, rfl⟩ := h.2; exact below_drewN _ _ _⟩

set_option maxRecDepth 100000 in
set_option maxHeartbeats 4000000 in
theorem blputs_any (hC : BlockC) (a : Option Addr) (n c : Nat) (gs : List IH) (xs : List It.I) (s t : ByteArray) (w : World) (hi : InI w a n c gs xs) (hs : s.size ≤ maxLen) (ht : t.size ≤ maxLen) :
    Calls Try.prog 3 #[.slice a n c, .string s, .string t] w fun e w' => e = .returned (.bool true) ∧ Below w.heap.size w w' := by
  have hA := fun W => blawake hC W
  unfold maxLen at hs ht
  by_cases hl : Fine gs n
  · have hL := trlightT a n c gs xs w hi.1 hl
    by_cases h1 : s.size ≤ 300
    · have d1 : decide ((300 : Int) < (s.size : Int)) = false := by simp; omega
      by_cases h2 : t.size ≤ 300
      · have d2 : decide ((300 : Int) < (t.size : Int)) = false := by simp; omega
        have hal := fun W => hC.alike s t W (by omega) (by omega)
        have hal2 := fun W => refalike_any s t W (by omega) (by omega)
        have hpu := fun W (h : Below w.heap.size w W) => hC.put a n c gs xs W hl (hi.below h (Nat.le_refl _))
        have hma := fun W (h : Below w.heap.size w W) => brefmay_any a n c gs xs W (by have := hl.1; omega) (hi.1.below h (Nat.le_refl _))
        have hps := Bl.putR_small hi.1
        generalize Bl.alike (kb s) (kb t) = A at *
        unfold Bl.putR at hpu hps
        cases hm : Bl.may xs with
        | false =>
          simp only [hm, Bool.false_eq_true, if_false] at hpu hma
          clear hm hl hi hps
          go_enter Try.func3, Try.ntmps3
          go_wp2_with (first
            | (go_at_call 7; have := c0_5; go_must (refine (hA _).mono ?_; rintro e w6 ⟨rfl, hb6⟩; have c0_6 := c0_5.trans (hb6.mono c0_5.size); have c1_6 := c1_5.trans (hb6.mono c1_5.size); have c2_6 := c2_5.trans (hb6.mono c2_5.size); have c3_6 := c3_5.trans (hb6.mono c3_5.size); have c4_6 := c4_5.trans (hb6.mono c4_5.size); have c5_6 := hb6))
            | (go_at_call 11; have := c0_4; go_must (refine (hma _ c0_4).mono ?_; rintro e w5 ⟨rfl, hb5⟩; have c0_5 := c0_4.trans (hb5.mono c0_4.size); have c1_5 := c1_4.trans (hb5.mono c1_4.size); have c2_5 := c2_4.trans (hb5.mono c2_4.size); have c3_5 := c3_4.trans (hb5.mono c3_4.size); have c4_5 := hb5))
            | (go_at_call 10; have := c0_3; go_must (refine (hpu _ c0_3).mono ?_; rintro e w4 ⟨a4, k4, rfl, hr4, _, _, hb4⟩; have c0_4 := c0_3.trans (hb4.mono c0_3.size); have c1_4 := c1_3.trans (hb4.mono c1_3.size); have c2_4 := c2_3.trans (hb4.mono c2_3.size); have c3_4 := hb4))
            | (go_at_call 9; have := c0_2; go_must (refine (hal2 _).mono ?_; rintro e w3 ⟨rfl, hb3⟩; have c0_3 := c0_2.trans (hb3.mono c0_2.size); have c1_3 := c1_2.trans (hb3.mono c1_2.size); have c2_3 := hb3))
            | (go_at_call 8; have := c0_1; go_must (refine (hal _).mono ?_; rintro e w2 ⟨rfl, hb2⟩; have c0_2 := c0_1.trans (hb2.mono c0_1.size); have c1_2 := hb2))
            | (go_at_call 6; go_must (refine (hL).mono ?_; rintro e w1 ⟨rfl, hb1⟩; have c0_1 := hb1)))
          go_ret
          exact ⟨by simp, c0_6⟩
        | true =>
          have hrp := fun W (h : Below w.heap.size w W) => brefput_any a n c gs xs W (hi.1.below h (Nat.le_refl _)) hm
          simp only [hm, if_true] at hpu hma hps
          have hln := Bl.put_len (by have := hl.1; rw [hi.1.len]; omega) hm
          unfold Made at hrp
          generalize Bl.put xs = PX at *
          have hby := fun W a1 c1 a2 c2 (q1 : Row .u8 W a1 PX.length PX) (q2 : Row .u8 W a2 PX.length PX) => bytesB a1 PX.length c1 PX a2 PX.length c2 PX W q1 q2
          simp only [decide_true] at hby
          have HPS : Hid (∀ y ∈ PX, y < lim .u8) := hps
          have HLN : Hid (PX.length ≤ 1000000) := hln
          clear hm hl hi hps hln
          go_enter Try.func3, Try.ntmps3
          go_wp2_with (first
            | (go_at_call 7; have := c0_7; go_must (refine (hA _).mono ?_; rintro e w8 ⟨rfl, hb8⟩; have c0_8 := c0_7.trans (hb8.mono c0_7.size); have c1_8 := c1_7.trans (hb8.mono c1_7.size); have c2_8 := c2_7.trans (hb8.mono c2_7.size); have c3_8 := c3_7.trans (hb8.mono c3_7.size); have c4_8 := c4_7.trans (hb8.mono c4_7.size); have c5_8 := c5_7.trans (hb8.mono c5_7.size); have c6_8 := c6_7.trans (hb8.mono c6_7.size); have c7_8 := hb8))
            | (go_at_call 12; have := c0_6; go_must (refine (hby _ _ _ _ _ (hr4.below c4_6 (Nat.le_refl _)) hr6).mono ?_; rintro e w7 ⟨rfl, hb7⟩; have c0_7 := c0_6.trans (hb7.mono c0_6.size); have c1_7 := c1_6.trans (hb7.mono c1_6.size); have c2_7 := c2_6.trans (hb7.mono c2_6.size); have c3_7 := c3_6.trans (hb7.mono c3_6.size); have c4_7 := c4_6.trans (hb7.mono c4_6.size); have c5_7 := c5_6.trans (hb7.mono c5_6.size); have c6_7 := hb7))
            | (go_at_call 13; have := c0_5; go_must (refine (hrp _ c0_5).mono ?_; rintro e w6 ⟨a6, k6, rfl, hown6, hb6⟩; have c0_6 := c0_5.trans (hb6.mono c0_5.size); have c1_6 := c1_5.trans (hb6.mono c1_5.size); have c2_6 := c2_5.trans (hb6.mono c2_5.size); have c3_6 := c3_5.trans (hb6.mono c3_5.size); have c4_6 := c4_5.trans (hb6.mono c4_5.size); have c5_6 := hb6; have hr6 := (row_of_owns hown6 HPS.out (Nat.le_trans HLN.out (by decide))).1))
            | (go_at_call 11; have := c0_4; go_must (refine (hma _ c0_4).mono ?_; rintro e w5 ⟨rfl, hb5⟩; have c0_5 := c0_4.trans (hb5.mono c0_4.size); have c1_5 := c1_4.trans (hb5.mono c1_4.size); have c2_5 := c2_4.trans (hb5.mono c2_4.size); have c3_5 := c3_4.trans (hb5.mono c3_4.size); have c4_5 := hb5))
            | (go_at_call 10; have := c0_3; go_must (refine (hpu _ c0_3).mono ?_; rintro e w4 ⟨a4, k4, rfl, hr4, _, _, hb4⟩; have c0_4 := c0_3.trans (hb4.mono c0_3.size); have c1_4 := c1_3.trans (hb4.mono c1_3.size); have c2_4 := c2_3.trans (hb4.mono c2_3.size); have c3_4 := hb4))
            | (go_at_call 9; have := c0_2; go_must (refine (hal2 _).mono ?_; rintro e w3 ⟨rfl, hb3⟩; have c0_3 := c0_2.trans (hb3.mono c0_2.size); have c1_3 := c1_2.trans (hb3.mono c1_2.size); have c2_3 := hb3))
            | (go_at_call 8; have := c0_1; go_must (refine (hal _).mono ?_; rintro e w2 ⟨rfl, hb2⟩; have c0_2 := c0_1.trans (hb2.mono c0_1.size); have c1_2 := hb2))
            | (go_at_call 6; go_must (refine (hL).mono ?_; rintro e w1 ⟨rfl, hb1⟩; have c0_1 := hb1)))
          go_ret
          exact ⟨by simp, c0_8⟩
      · have d2 : decide ((300 : Int) < (t.size : Int)) = true := by simp; omega
        have d2n : 300 < t.size := by omega
        clear hi hl
        go_enter Try.func3, Try.ntmps3
        go_wp2_with (first
          | (go_at_call 7; have := c0_1; go_must (refine (hA _).mono ?_; rintro e w2 ⟨rfl, hb2⟩; have c0_2 := c0_1.trans (hb2.mono c0_1.size); have c1_2 := hb2))
          | (go_at_call 6; go_must (refine (hL).mono ?_; rintro e w1 ⟨rfl, hb1⟩; have c0_1 := hb1)))
        go_ret
        exact ⟨rfl, c0_2⟩
    · have d1 : decide ((300 : Int) < (s.size : Int)) = true := by simp; omega
      have d1n : 300 < s.size := by omega
      clear hi hl
      go_enter Try.func3, Try.ntmps3
      go_wp2_with (first
        | (go_at_call 7; have := c0_1; go_must (refine (hA _).mono ?_; rintro e w2 ⟨rfl, hb2⟩; have c0_2 := c0_1.trans (hb2.mono c0_1.size); have c1_2 := hb2))
        | (go_at_call 6; go_must (refine (hL).mono ?_; rintro e w1 ⟨rfl, hb1⟩; have c0_1 := hb1)))
      go_ret
      exact ⟨rfl, c0_2⟩
  · have hL := trlightF a n c gs xs w hi.1 hl
    clear hi hl
    go_enter Try.func3, Try.ntmps3
    go_wp2_with (first
      | (go_at_call 7; have := c0_1; go_must (refine (hA _).mono ?_; rintro e w2 ⟨rfl, hb2⟩; have c0_2 := c0_1.trans (hb2.mono c0_1.size); have c1_2 := hb2))
      | (go_at_call 6; go_must (refine (hL).mono ?_; rintro e w1 ⟨rfl, hb1⟩; have c0_1 := hb1)))
    go_ret
    exact ⟨rfl, c0_2⟩

/-- two items that read alike -/
theorem one_self (x : It.I) : It.one x x = true := (It.one_iff x x).mpr rfl
theorem same_self12 (l : List It.I) : It.sameGo l l = true := (It.sameGo_iff l l).mpr rfl

set_option maxRecDepth 100000 in
set_option maxHeartbeats 4000000 in
theorem blgets_any (hC : BlockC) (a : Option Addr) (n c : Nat) (bs : List Nat) (s : ByteArray) (w : World) (hr : Row .u8 w a n bs) (hlc : n ≤ c) (hnil : a = none → n = 0 ∧ c = 0) (hs : s.size ≤ maxLen) :
    Calls Try.prog 4 #[.slice a n c, .string s] w fun e w' => e = .returned (.bool true) ∧ Below w.heap.size w w' := by
  have hA := fun W => blawake hC W
  unfold maxLen at hs
  by_cases h1 : n ≤ 2000
  · have d1 : decide ((2000 : Int) < (n : Int)) = false := by simp; omega
    by_cases h2 : s.size ≤ 200
    · have d2 : decide ((200 : Int) < (s.size : Int)) = false := by simp; omega
      have hll : bs.length = n := hr.1
      have hsm := hr.2.2.1
      have hget := fun W a' c' (q1 : Row .u8 W a' n bs) (q2 : a' = none → n = 0 ∧ c' = 0) (q3 : n ≤ c') => hC.get a' n c' bs W (by omega) q3 q2 q1
      have href := fun W (h : Below w.heap.size w W) => brefget_any a n c bs W (by omega) hlc (hr.below h (Nat.le_refl _))
      have hfin := fun W (h : Below w.heap.size w W) => hC.find a n c bs s W (by omega) hlc hnil (hr.below h (Nat.le_refl _)) (by omega)
      have hm0 := made_b w 5 1 w.heap.size rfl (Nat.le_refl _)
      have hb0 := below_alloc w (.cells #[] 5)
      have hr0 := hr.below hb0 (Nat.le_refl _)
      generalize hL : Bl.get bs = L at *
      have hL256 : L.length ≤ 256 := by
        by_cases hz : L = []
        · subst hz; simp
        · have := (Bl.get_ok (bs := bs) (by rw [hL]; exact hz)).1
          rw [hL] at this
          simp only [Bl.may, Bool.and_eq_true, decide_eq_true_eq] at this
          exact this.1.2
      have hsame := fun (w0 w1 : World) (a1 a2 : Option Addr) (k1 k2 : Nat) (h1 h2 : List IH) W r1 i1 r2 i2 b1 b2 => isame_any w0 w1 a1 L.length k1 h1 L a2 L.length k2 h2 L W r1 i1 r2 i2 b1 b2
      simp only [same_self12] at hsame
      have hrg := fun (w0 : World) (a' : Option Addr) (k : Nat) (hs : List IH) W (h1 : TRow 8 ih ihz W a' L.length hs) (h2 : ItAll w0 hs L) => iget_any w0 a' L.length k hs L s W (by omega) h1 h2
      have hone := fun (h1 h2 : IH) W i1 i2 => ione_any h1 (It.get L (kb s)) h2 (It.get L (kb s)) W i1 i2
      simp only [one_self] at hone
      unfold BLRes at hget
      unfold BGetRes at href
      generalize It.get L (kb s) = X at *
      clear hL hr
      by_cases hz : L = []
      · subst hz
        have e0 : Bl.err [] = 2 := rfl
        simp only [e0, List.length_nil] at hget href hfin hsame hrg
        clear e0 hL256
        go_enter Try.func4, Try.ntmps4
        go_wp2_with (first
          | (go_at_call 7; have := c0_7; go_must (refine (hA _).mono ?_; rintro e w8 ⟨rfl, hb8⟩; have c0_8 := c0_7.trans (hb8.mono c0_7.size); have c2_8 := c2_7.trans (hb8.mono c2_7.size); have c3_8 := c3_7.trans (hb8.mono c3_7.size); have c4_8 := c4_7.trans (hb8.mono c4_7.size); have c5_8 := c5_7.trans (hb8.mono c5_7.size); have c6_8 := c6_7.trans (hb8.mono c6_7.size); have c7_8 := hb8))
          | (go_at_call 19; have := c0_6; go_must (refine (hone _ _ _ ((hi4.below c4_6 (Nat.le_refl _)).below (below_alloc _ _) (Nat.le_refl _)) ((hi6.below c3_6 (Nat.le_refl _)).below (below_alloc _ _) (Nat.le_refl _))).mono ?_; rintro e w7 ⟨rfl, hb7'⟩; have hb7 := (below_alloc w6 (.cells #[.string h6.key, .bool h6.dead, .bool h6.far, .slice h6.a h6.n h6.c, .int .i64 h6.p.1, .int .i64 h6.p.2.1, .int .i64 h6.p.2.2.1, .int .u32 (h6.p.2.2.2 : Nat)] 42)).trans (hb7'.mono (below_alloc w6 (.cells #[.string h6.key, .bool h6.dead, .bool h6.far, .slice h6.a h6.n h6.c, .int .i64 h6.p.1, .int .i64 h6.p.2.1, .int .i64 h6.p.2.2.1, .int .u32 (h6.p.2.2.2 : Nat)] 42)).size); have c0_7 := c0_6.trans (hb7.mono c0_6.size); have c2_7 := c2_6.trans (hb7.mono c2_6.size); have c3_7 := c3_6.trans (hb7.mono c3_6.size); have c4_7 := c4_6.trans (hb7.mono c4_6.size); have c5_7 := c5_6.trans (hb7.mono c5_6.size); have c6_7 := hb7; obtain ⟨⟨z0, z1, z2, z3, z4, z5, z6, z7⟩, _, _⟩ := eight_keep hb7'; have hemp : h6.key.toList.isEmpty = !decide (X.1 ≠ []) := (by rw [isEmpty_kb, ← hi6.key]; by_cases e : h6.key = ⟨#[]⟩; simp [e, kb]; simp [e, kb_nil])))
          | (go_at_call 18; have := c0_5; go_must (refine (hrg _ _ _ _ _ (hi3.1.1.below c3_5 (Nat.le_refl _)) hi3.1.2).mono ?_; rintro e w6 ⟨h6, rfl, hi6, hb6⟩; have c0_6 := c0_5.trans (hb6.mono c0_5.size); have c2_6 := c2_5.trans (hb6.mono c2_5.size); have c3_6 := c3_5.trans (hb6.mono c3_5.size); have c4_6 := c4_5.trans (hb6.mono c4_5.size); have c5_6 := hb6; have y0 := (hb6.cell (p := ⟨w4.heap.size, 0, none⟩) hlt5).trans x0; have Y0 := fun o => ((below_alloc w6 o).cell (p := ⟨w4.heap.size, 0, none⟩) (Nat.lt_of_lt_of_le hlt5 hb6.size)).trans y0; have y1 := (hb6.cell (p := ⟨w4.heap.size, 1, none⟩) hlt5).trans x1; have Y1 := fun o => ((below_alloc w6 o).cell (p := ⟨w4.heap.size, 1, none⟩) (Nat.lt_of_lt_of_le hlt5 hb6.size)).trans y1; have y2 := (hb6.cell (p := ⟨w4.heap.size, 2, none⟩) hlt5).trans x2; have Y2 := fun o => ((below_alloc w6 o).cell (p := ⟨w4.heap.size, 2, none⟩) (Nat.lt_of_lt_of_le hlt5 hb6.size)).trans y2; have y3 := (hb6.cell (p := ⟨w4.heap.size, 3, none⟩) hlt5).trans x3; have Y3 := fun o => ((below_alloc w6 o).cell (p := ⟨w4.heap.size, 3, none⟩) (Nat.lt_of_lt_of_le hlt5 hb6.size)).trans y3; have y4 := (hb6.cell (p := ⟨w4.heap.size, 4, none⟩) hlt5).trans x4; have Y4 := fun o => ((below_alloc w6 o).cell (p := ⟨w4.heap.size, 4, none⟩) (Nat.lt_of_lt_of_le hlt5 hb6.size)).trans y4; have y5 := (hb6.cell (p := ⟨w4.heap.size, 5, none⟩) hlt5).trans x5; have Y5 := fun o => ((below_alloc w6 o).cell (p := ⟨w4.heap.size, 5, none⟩) (Nat.lt_of_lt_of_le hlt5 hb6.size)).trans y5; have y6 := (hb6.cell (p := ⟨w4.heap.size, 6, none⟩) hlt5).trans x6; have Y6 := fun o => ((below_alloc w6 o).cell (p := ⟨w4.heap.size, 6, none⟩) (Nat.lt_of_lt_of_le hlt5 hb6.size)).trans y6; have y7 := (hb6.cell (p := ⟨w4.heap.size, 7, none⟩) hlt5).trans x7; have Y7 := fun o => ((below_alloc w6 o).cell (p := ⟨w4.heap.size, 7, none⟩) (Nat.lt_of_lt_of_le hlt5 hb6.size)).trans y7))
          | (go_at_call 17; have := c0_4; go_must (refine (hsame _ _ _ _ _ _ _ _ _ ((hi2.1.1.below c2_4 (Nat.le_refl _)).below (below_alloc _ _) (Nat.le_refl _)) hi2.1.2 ((hi3.1.1.below c3_4 (Nat.le_refl _)).below (below_alloc _ _) (Nat.le_refl _)) hi3.1.2 (c2_4.trans ((below_alloc _ _).mono c2_4.size)) (c3_4.trans ((below_alloc _ _).mono c3_4.size))).mono ?_; rintro e w5 ⟨rfl, hb5'⟩; have hb5 := (below_alloc w4 (.cells #[.string h4.key, .bool h4.dead, .bool h4.far, .slice h4.a h4.n h4.c, .int .i64 h4.p.1, .int .i64 h4.p.2.1, .int .i64 h4.p.2.2.1, .int .u32 (h4.p.2.2.2 : Nat)] 42)).trans (hb5'.mono (below_alloc w4 (.cells #[.string h4.key, .bool h4.dead, .bool h4.far, .slice h4.a h4.n h4.c, .int .i64 h4.p.1, .int .i64 h4.p.2.1, .int .i64 h4.p.2.2.1, .int .u32 (h4.p.2.2.2 : Nat)] 42)).size); have c0_5 := c0_4.trans (hb5.mono c0_4.size); have c2_5 := c2_4.trans (hb5.mono c2_4.size); have c3_5 := c3_4.trans (hb5.mono c3_4.size); have c4_5 := hb5; obtain ⟨⟨x0, x1, x2, x3, x4, x5, x6, x7⟩, hlt5, _⟩ := eight_keep hb5'))
          | (go_at_call 16; have := c0_3; go_must (refine (hfin _ c0_3).mono ?_; rintro e w4 ⟨h4, rfl, hi4, hb4⟩; have c0_4 := c0_3.trans (hb4.mono c0_3.size); have c2_4 := c2_3.trans (hb4.mono c2_3.size); have c3_4 := hb4))
          | (go_at_call 15; have := c0_2; go_must (refine (href _ c0_2).mono ?_; rintro e w3 ⟨a3, k3, hs3, rfl, hi3, hb3⟩; have c0_3 := c0_2.trans (hb3.mono c0_2.size); have c2_3 := hb3))
          | (go_at_call 14; go_must (refine (hget _ _ _ hr1.1 hr1.2.1 hr1.2.2).mono ?_; rintro e w2 ⟨a2, k2, hs2, rfl, hi2, hb2⟩; have c0_2 := c0_1.trans (hb2.mono c0_1.size)))
          | (at_builtin; go_must (refine append_u8g (w0 := w) (B := w.heap.size) rfl (.tmp 22) (.tmp 23) rfl _ 0 [] rfl hm0 a n c bs rfl hr0 hnil (by omega) hb0 (by simp) ?_; intro a1 k1 w1 hown1 c0_1 hsz1 _; rw [Nat.zero_add, List.nil_append] at hown1; have hr1 := row_of_owns hown1 hsm (by omega))))
        go_ret
        exact ⟨by simp, c0_8⟩
      · have e0 : Bl.err L = 0 := by unfold Bl.err; rw [if_neg hz]
        have hp : 0 < L.length := List.length_pos_iff.mpr hz
        have d3 : decide ((0 : Int) < (L.length : Int)) = true := by simp; omega
        have d4 : ((L.length : Int) == 0) = false := by simp; omega
        simp only [e0] at hget href hfin
        clear e0 hz
        go_enter Try.func4, Try.ntmps4
        go_wp2_with (first
          | (go_at_call 7; have := c0_7; go_must (refine (hA _).mono ?_; rintro e w8 ⟨rfl, hb8⟩; have c0_8 := c0_7.trans (hb8.mono c0_7.size); have c2_8 := c2_7.trans (hb8.mono c2_7.size); have c3_8 := c3_7.trans (hb8.mono c3_7.size); have c4_8 := c4_7.trans (hb8.mono c4_7.size); have c5_8 := c5_7.trans (hb8.mono c5_7.size); have c6_8 := c6_7.trans (hb8.mono c6_7.size); have c7_8 := hb8))
          | (go_at_call 19; have := c0_6; go_must (refine (hone _ _ _ ((hi4.below c4_6 (Nat.le_refl _)).below (below_alloc _ _) (Nat.le_refl _)) ((hi6.below c3_6 (Nat.le_refl _)).below (below_alloc _ _) (Nat.le_refl _))).mono ?_; rintro e w7 ⟨rfl, hb7'⟩; have hb7 := (below_alloc w6 (.cells #[.string h6.key, .bool h6.dead, .bool h6.far, .slice h6.a h6.n h6.c, .int .i64 h6.p.1, .int .i64 h6.p.2.1, .int .i64 h6.p.2.2.1, .int .u32 (h6.p.2.2.2 : Nat)] 42)).trans (hb7'.mono (below_alloc w6 (.cells #[.string h6.key, .bool h6.dead, .bool h6.far, .slice h6.a h6.n h6.c, .int .i64 h6.p.1, .int .i64 h6.p.2.1, .int .i64 h6.p.2.2.1, .int .u32 (h6.p.2.2.2 : Nat)] 42)).size); have c0_7 := c0_6.trans (hb7.mono c0_6.size); have c2_7 := c2_6.trans (hb7.mono c2_6.size); have c3_7 := c3_6.trans (hb7.mono c3_6.size); have c4_7 := c4_6.trans (hb7.mono c4_6.size); have c5_7 := c5_6.trans (hb7.mono c5_6.size); have c6_7 := hb7; obtain ⟨⟨z0, z1, z2, z3, z4, z5, z6, z7⟩, _, _⟩ := eight_keep hb7'; have hemp : h6.key.toList.isEmpty = !decide (X.1 ≠ []) := (by rw [isEmpty_kb, ← hi6.key]; by_cases e : h6.key = ⟨#[]⟩; simp [e, kb]; simp [e, kb_nil])))
          | (go_at_call 18; have := c0_5; go_must (refine (hrg _ _ _ _ _ (hi3.1.1.below c3_5 (Nat.le_refl _)) hi3.1.2).mono ?_; rintro e w6 ⟨h6, rfl, hi6, hb6⟩; have c0_6 := c0_5.trans (hb6.mono c0_5.size); have c2_6 := c2_5.trans (hb6.mono c2_5.size); have c3_6 := c3_5.trans (hb6.mono c3_5.size); have c4_6 := c4_5.trans (hb6.mono c4_5.size); have c5_6 := hb6; have y0 := (hb6.cell (p := ⟨w4.heap.size, 0, none⟩) hlt5).trans x0; have Y0 := fun o => ((below_alloc w6 o).cell (p := ⟨w4.heap.size, 0, none⟩) (Nat.lt_of_lt_of_le hlt5 hb6.size)).trans y0; have y1 := (hb6.cell (p := ⟨w4.heap.size, 1, none⟩) hlt5).trans x1; have Y1 := fun o => ((below_alloc w6 o).cell (p := ⟨w4.heap.size, 1, none⟩) (Nat.lt_of_lt_of_le hlt5 hb6.size)).trans y1; have y2 := (hb6.cell (p := ⟨w4.heap.size, 2, none⟩) hlt5).trans x2; have Y2 := fun o => ((below_alloc w6 o).cell (p := ⟨w4.heap.size, 2, none⟩) (Nat.lt_of_lt_of_le hlt5 hb6.size)).trans y2; have y3 := (hb6.cell (p := ⟨w4.heap.size, 3, none⟩) hlt5).trans x3; have Y3 := fun o => ((below_alloc w6 o).cell (p := ⟨w4.heap.size, 3, none⟩) (Nat.lt_of_lt_of_le hlt5 hb6.size)).trans y3; have y4 := (hb6.cell (p := ⟨w4.heap.size, 4, none⟩) hlt5).trans x4; have Y4 := fun o => ((below_alloc w6 o).cell (p := ⟨w4.heap.size, 4, none⟩) (Nat.lt_of_lt_of_le hlt5 hb6.size)).trans y4; have y5 := (hb6.cell (p := ⟨w4.heap.size, 5, none⟩) hlt5).trans x5; have Y5 := fun o => ((below_alloc w6 o).cell (p := ⟨w4.heap.size, 5, none⟩) (Nat.lt_of_lt_of_le hlt5 hb6.size)).trans y5; have y6 := (hb6.cell (p := ⟨w4.heap.size, 6, none⟩) hlt5).trans x6; have Y6 := fun o => ((below_alloc w6 o).cell (p := ⟨w4.heap.size, 6, none⟩) (Nat.lt_of_lt_of_le hlt5 hb6.size)).trans y6; have y7 := (hb6.cell (p := ⟨w4.heap.size, 7, none⟩) hlt5).trans x7; have Y7 := fun o => ((below_alloc w6 o).cell (p := ⟨w4.heap.size, 7, none⟩) (Nat.lt_of_lt_of_le hlt5 hb6.size)).trans y7))
          | (go_at_call 17; have := c0_4; go_must (refine (hsame _ _ _ _ _ _ _ _ _ ((hi2.1.1.below c2_4 (Nat.le_refl _)).below (below_alloc _ _) (Nat.le_refl _)) hi2.1.2 ((hi3.1.1.below c3_4 (Nat.le_refl _)).below (below_alloc _ _) (Nat.le_refl _)) hi3.1.2 (c2_4.trans ((below_alloc _ _).mono c2_4.size)) (c3_4.trans ((below_alloc _ _).mono c3_4.size))).mono ?_; rintro e w5 ⟨rfl, hb5'⟩; have hb5 := (below_alloc w4 (.cells #[.string h4.key, .bool h4.dead, .bool h4.far, .slice h4.a h4.n h4.c, .int .i64 h4.p.1, .int .i64 h4.p.2.1, .int .i64 h4.p.2.2.1, .int .u32 (h4.p.2.2.2 : Nat)] 42)).trans (hb5'.mono (below_alloc w4 (.cells #[.string h4.key, .bool h4.dead, .bool h4.far, .slice h4.a h4.n h4.c, .int .i64 h4.p.1, .int .i64 h4.p.2.1, .int .i64 h4.p.2.2.1, .int .u32 (h4.p.2.2.2 : Nat)] 42)).size); have c0_5 := c0_4.trans (hb5.mono c0_4.size); have c2_5 := c2_4.trans (hb5.mono c2_4.size); have c3_5 := c3_4.trans (hb5.mono c3_4.size); have c4_5 := hb5; obtain ⟨⟨x0, x1, x2, x3, x4, x5, x6, x7⟩, hlt5, _⟩ := eight_keep hb5'))
          | (go_at_call 16; have := c0_3; go_must (refine (hfin _ c0_3).mono ?_; rintro e w4 ⟨h4, rfl, hi4, hb4⟩; have c0_4 := c0_3.trans (hb4.mono c0_3.size); have c2_4 := c2_3.trans (hb4.mono c2_3.size); have c3_4 := hb4))
          | (go_at_call 15; have := c0_2; go_must (refine (href _ c0_2).mono ?_; rintro e w3 ⟨a3, k3, hs3, rfl, hi3, hb3⟩; have c0_3 := c0_2.trans (hb3.mono c0_2.size); have c2_3 := hb3))
          | (go_at_call 14; go_must (refine (hget _ _ _ hr1.1 hr1.2.1 hr1.2.2).mono ?_; rintro e w2 ⟨a2, k2, hs2, rfl, hi2, hb2⟩; have c0_2 := c0_1.trans (hb2.mono c0_1.size)))
          | (at_builtin; go_must (refine append_u8g (w0 := w) (B := w.heap.size) rfl (.tmp 22) (.tmp 23) rfl _ 0 [] rfl hm0 a n c bs rfl hr0 hnil (by omega) hb0 (by simp) ?_; intro a1 k1 w1 hown1 c0_1 hsz1 _; rw [Nat.zero_add, List.nil_append] at hown1; have hr1 := row_of_owns hown1 hsm (by omega))))
        go_ret
        exact ⟨by simp, c0_8⟩
    · have d2 : decide ((200 : Int) < (s.size : Int)) = true := by simp; omega
      have d2n : 200 < s.size := by omega
      clear hr
      go_enter Try.func4, Try.ntmps4
      go_wp2_with (first
        | (go_at_call 7; go_must (refine (hA _).mono ?_; rintro e w1 ⟨rfl, hb1⟩; have c0_1 := hb1)))
      go_ret
      exact ⟨rfl, c0_1⟩
  · have d1 : decide ((2000 : Int) < (n : Int)) = true := by simp; omega
    have d1n : 2000 < n := by omega
    clear hr
    go_enter Try.func4, Try.ntmps4
    go_wp2_with (first
      | (go_at_call 7; go_must (refine (hA _).mono ?_; rintro e w1 ⟨rfl, hb1⟩; have c0_1 := hb1)))
    go_ret
    exact ⟨rfl, c0_1⟩
end Go.Proofs.Ytjllglpjghcplaa

/- The law BlockReads, given what is asked of the program. -/
namespace Go.Proofs.Ytjllglpjghcplaa
open Go.RowKit

namespace It
theorem sortedGo_up : ∀ {l : List I} {p : Option (List Nat)}, sortedGo p l = true → l.Pairwise (fun a b => a.1 ≠ b.1) ∧ (∀ k, p = some k → ∀ x ∈ l, Na.lt k x.1 = true)
  | [], _, _ => ⟨List.Pairwise.nil, fun _ _ x hx => by cases hx⟩
  | y :: l, p, h => by
    simp only [sortedGo, Bool.and_eq_true] at h
    obtain ⟨⟨h1, h2⟩, h3⟩ := h
    obtain ⟨i1, i2⟩ := sortedGo_up h3
    have i3 := i2 y.1 rfl
    refine ⟨List.pairwise_cons.mpr ⟨fun x hx => lt_ne (i3 x hx), i1⟩, fun k hk x hx => ?_⟩
    subst hk
    simp only [after] at h2
    rcases List.mem_cons.mp hx with rfl | hx
    · exact h2
    · exact lt_trans h2 (i3 x hx)
theorem get_of_mem : ∀ {l : List I} {x : I}, l.Pairwise (fun a b => a.1 ≠ b.1) → x ∈ l → get l x.1 = x
  | [], _, _, hx => by cases hx
  | y :: l, x, h, hx => by
    rw [List.pairwise_cons] at h
    rcases List.mem_cons.mp hx with rfl | hx
    · simp [get]
    · rw [get, if_neg (h.1 x hx), get_of_mem h.2 hx]
end It
theorem small_of {w : World} {a : Option Addr} {n : Nat} {gs : List IH} {xs : List It.I} (h : ItRow w a n gs xs) : ∀ x ∈ xs, Bl.Small x := by
  intro x hx
  obtain ⟨t, ht, rfl⟩ := List.getElem_of_mem hx
  have hI := h.item (i := t) (by rw [← h.len]; exact ht)
  rw [show xs.getD t It.zero = xs[t] by simp [ht]] at hI
  refine ⟨fun z hz => ?_, fun z hz => hI.row.2.2.1 z hz, ?_⟩
  · rw [← hI.key] at hz
    exact kb_small _ z hz
  · have := hI.fits
    rw [hI.pt] at this
    exact this.2.2.2

set_option maxRecDepth 100000 in
set_option maxHeartbeats 1000000 in
theorem blgets_long (hC : BlockC) (a : Option Addr) (n c : Nat) (s : ByteArray) (w : World) (h : 2000 < n) :
    Calls Try.prog 4 #[.slice a n c, .string s] w fun e w' => e = .returned (.bool true) ∧ Below w.heap.size w w' := by
  have hA := fun W => blawake hC W
  have d1 : decide ((2000 : Int) < (n : Int)) = true := by simp; omega
  go_enter Try.func4, Try.ntmps4
  go_wp2_with (first
    | (go_at_call 7; go_must (refine (hA _).mono ?_; rintro e w1 ⟨rfl, hb1⟩; have c0_1 := hb1)))
  go_ret
  exact ⟨rfl, c0_1⟩

set_option maxRecDepth 100000 in
set_option maxHeartbeats 1000000 in
theorem blreads_long (hC : BlockC) (a : Option Addr) (n c : Nat) (gs : List IH) (xs : List It.I) (a' : Option Addr) (n' c' : Nat) (w : World) (hi : InI w a n c gs xs) (h : 2000 < n') :
    Calls Try.prog 5 #[.slice a n c, .slice a' n' c'] w fun e w' => e = .returned (.bool true) ∧ Below w.heap.size w w' := by
  have hA := fun W => blawake hC W
  have d1 : decide ((2000 : Int) < (n' : Int)) = true := by simp; omega
  by_cases hl : Fine gs n
  · have hL := trlightT a n c gs xs w hi.1 hl
    have hma := fun W (h : Below w.heap.size w W) => brefmay_any a n c gs xs W (by have := hl.1; omega) (hi.1.below h (Nat.le_refl _))
    cases hm : Bl.may xs with
    | false =>
      rw [hm] at hma
      clear hi hl hm
      go_enter Try.func5, Try.ntmps5
      go_wp2_with (first
        | (go_at_call 7; have := c0_2; go_must (refine (hA _).mono ?_; rintro e w3 ⟨rfl, hb3⟩; have c0_3 := c0_2.trans (hb3.mono c0_2.size); have c1_3 := c1_2.trans (hb3.mono c1_2.size); have c2_3 := hb3))
        | (go_at_call 11; have := c0_1; go_must (refine (hma _ c0_1).mono ?_; rintro e w2 ⟨rfl, hb2⟩; have c0_2 := c0_1.trans (hb2.mono c0_1.size); have c1_2 := hb2))
        | (go_at_call 6; go_must (refine (hL).mono ?_; rintro e w1 ⟨rfl, hb1⟩; have c0_1 := hb1)))
      go_ret
      exact ⟨rfl, c0_3⟩
    | true =>
      rw [hm] at hma
      clear hi hl hm
      go_enter Try.func5, Try.ntmps5
      go_wp2_with (first
        | (go_at_call 7; have := c0_2; go_must (refine (hA _).mono ?_; rintro e w3 ⟨rfl, hb3⟩; have c0_3 := c0_2.trans (hb3.mono c0_2.size); have c1_3 := c1_2.trans (hb3.mono c1_2.size); have c2_3 := hb3))
        | (go_at_call 11; have := c0_1; go_must (refine (hma _ c0_1).mono ?_; rintro e w2 ⟨rfl, hb2⟩; have c0_2 := c0_1.trans (hb2.mono c0_1.size); have c1_2 := hb2))
        | (go_at_call 6; go_must (refine (hL).mono ?_; rintro e w1 ⟨rfl, hb1⟩; have c0_1 := hb1)))
      go_ret
      exact ⟨rfl, c0_3⟩
  · have hL := trlightF a n c gs xs w hi.1 hl
    clear hi hl
    go_enter Try.func5, Try.ntmps5
    go_wp2_with (first
      | (go_at_call 7; have := c0_1; go_must (refine (hA _).mono ?_; rintro e w2 ⟨rfl, hb2⟩; have c0_2 := c0_1.trans (hb2.mono c0_1.size); have c1_2 := hb2))
      | (go_at_call 6; go_must (refine (hL).mono ?_; rintro e w1 ⟨rfl, hb1⟩; have c0_1 := hb1)))
    go_ret
    exact ⟨rfl, c0_2⟩

set_option maxRecDepth 100000 in
set_option maxHeartbeats 4000000 in
theorem blreads_any (hC : BlockC) (a : Option Addr) (n c : Nat) (gs : List IH) (xs : List It.I) (a' : Option Addr) (n' c' : Nat) (os : List Nat) (w : World) (hi : InI w a n c gs xs) (hr : Row .u8 w a' n' os) (hlc : n' ≤ c') (hnil : a' = none → n' = 0 ∧ c' = 0) (hn : n' ≤ 2000) :
    Calls Try.prog 5 #[.slice a n c, .slice a' n' c'] w fun e w' => e = .returned (.bool true) ∧ Below w.heap.size w w' := by
  have hA := fun W => blawake hC W
  have d1 : decide ((2000 : Int) < (n' : Int)) = false := by simp; omega
  by_cases hl : Fine gs n
  · have hL := trlightT a n c gs xs w hi.1 hl
    have hma := fun W (h : Below w.heap.size w W) => brefmay_any a n c gs xs W (by have := hl.1; omega) (hi.1.below h (Nat.le_refl _))
    cases hm : Bl.may xs with
    | false =>
      rw [hm] at hma
      clear hi hl hm hr
      go_enter Try.func5, Try.ntmps5
      go_wp2_with (first
        | (go_at_call 7; have := c0_2; go_must (refine (hA _).mono ?_; rintro e w3 ⟨rfl, hb3⟩; have c0_3 := c0_2.trans (hb3.mono c0_2.size); have c1_3 := c1_2.trans (hb3.mono c1_2.size); have c2_3 := hb3))
        | (go_at_call 11; have := c0_1; go_must (refine (hma _ c0_1).mono ?_; rintro e w2 ⟨rfl, hb2⟩; have c0_2 := c0_1.trans (hb2.mono c0_1.size); have c1_2 := hb2))
        | (go_at_call 6; go_must (refine (hL).mono ?_; rintro e w1 ⟨rfl, hb1⟩; have c0_1 := hb1)))
      go_ret
      exact ⟨rfl, c0_3⟩
    | true =>
      rw [hm] at hma
      have hln := Bl.put_len (by have := hl.1; rw [hi.1.len]; omega) hm
      have hgp := Bl.get_put hm (small_of hi.1)
      have hne := Bl.may_pos hm
      have Honly : Hid (Bl.get os = xs → os = Bl.put xs) := (fun h => Bl.get_only hm h : Bl.get os = xs → os = Bl.put xs)
      have hst : It.sortedGo none xs = true := by
        simp only [Bl.may, Bool.and_eq_true] at hm
        exact hm.2
      have hpu := fun W (h : Below w.heap.size w W) => hC.put a n c gs xs W hl (hi.below h (Nat.le_refl _))
      unfold Bl.putR BPRes at hpu
      simp only [hm, if_true] at hpu
      have hget := fun W a1 c1 (q1 : Row .u8 W a1 (Bl.put xs).length (Bl.put xs)) (q2 : a1 = none → (Bl.put xs).length = 0 ∧ c1 = 0) (q3 : (Bl.put xs).length ≤ c1) => hC.get a1 _ c1 (Bl.put xs) W (by
        have h1 := Bl.putGo_len (l := xs) (last := []) (Bl.sorted_may hst)
        have h2 := Va.one_len10 (u := xs.length) (by have := hl.1; rw [hi.1.len]; omega)
        have h3 := hl.1
        rw [hi.1.len] at h1 h2
        unfold Bl.put
        rw [List.length_append, hi.1.len]
        omega) q3 q2 q1
      have hpl : (Bl.put xs).length ≤ 100000 := by
        have h1 := Bl.putGo_len (l := xs) (last := []) (Bl.sorted_may hst)
        have h2 := Va.one_len10 (u := xs.length) (by have := hl.1; rw [hi.1.len]; omega)
        have h3 := hl.1
        rw [hi.1.len] at h1 h2
        unfold Bl.put
        rw [List.length_append, hi.1.len]
        omega
      have hfin := fun W a1 c1 (s : ByteArray) (q1 : Row .u8 W a1 (Bl.put xs).length (Bl.put xs)) (q2 : a1 = none → (Bl.put xs).length = 0 ∧ c1 = 0) (q3 : (Bl.put xs).length ≤ c1) (q4 : s.size ≤ 1000) => hC.find a1 _ c1 (Bl.put xs) s W hpl q3 q2 q1 q4
      have hget2 := fun W (h : Below w.heap.size w W) => hC.get a' n' c' os W (by omega) hlc hnil (hr.below h (Nat.le_refl _))
      unfold BLRes at hget hget2
      have e0 : Bl.err xs = 0 := by unfold Bl.err; rw [if_neg hne]
      rw [hgp] at hget hfin
      rw [e0] at hget hfin
      have hxl := hi.1.len
      rw [hxl] at hget
      have hsame := fun (w0 : World) (a1 : Option Addr) (k1 : Nat) (h1 : List IH) W r1 i1 b1 (h : Below w.heap.size w W) => isame_any w0 w a1 n k1 h1 xs a n c gs xs W r1 i1 (hi.1.1.below h (Nat.le_refl _)) hi.1.2 b1 h
      simp only [same_self12] at hsame
      have Hst : Hid (It.sortedGo none xs = true) := hst
      have Hl : Hid (Fine gs n) := hl
      have Hi : Hid (InI w a n c gs xs) := hi
      have hrr : Hid (∀ W, Below w.heap.size w W → Row .u8 W a' n' os) := (fun W h => hr.below h (Nat.le_refl _) : ∀ W, Below w.heap.size w W → Row .u8 W a' n' os)
      have hn100 := hl.1
      clear hm hl hi hst hgp hln hne e0 hpl hr
      generalize Bl.put xs = PX at *
      go_enter Try.func5, Try.ntmps5
      go_wp2_with (first
        | (go_at_call 17; have := c0_4; go_must (refine (hsame _ _ _ _ _ hi4.1.1 hi4.1.2 (Below.refl _ _) c0_4).mono ?_; rintro e w5 ⟨rfl, hb5⟩; have c0_5 := c0_4.trans (hb5.mono c0_4.size); have c1_5 := c1_4.trans (hb5.mono c1_4.size); have c2_5 := c2_4.trans (hb5.mono c2_4.size); have c3_5 := c3_4.trans (hb5.mono c3_4.size); have c4_5 := hb5))
        | (go_at_call 14; have := c0_3; go_must (refine (hget _ _ _ hr3 hn3 hc3).mono ?_; rintro e w4 ⟨a4, k4, hs4, rfl, hi4, hb4⟩; have c0_4 := c0_3.trans (hb4.mono c0_3.size); have c1_4 := c1_3.trans (hb4.mono c1_3.size); have c2_4 := c2_3.trans (hb4.mono c2_3.size); have c3_4 := hb4))
        | (go_at_call 10; have := c0_2; go_must (refine (hpu _ c0_2).mono ?_; rintro e w3 ⟨a3, k3, rfl, hr3, hn3, hc3, hb3⟩; have c0_3 := c0_2.trans (hb3.mono c0_2.size); have c1_3 := c1_2.trans (hb3.mono c1_2.size); have c2_3 := hb3))
        | (go_at_call 11; have := c0_1; go_must (refine (hma _ c0_1).mono ?_; rintro e w2 ⟨rfl, hb2⟩; have c0_2 := c0_1.trans (hb2.mono c0_1.size); have c1_2 := hb2))
        | (go_at_call 6; go_must (refine (hL).mono ?_; rintro e w1 ⟨rfl, hb1⟩; have c0_1 := hb1)))
      clear hL hma hpu hget hsame hi4
      go_loopw [9] (fun i wr => ∃ k : Nat, k ≤ n ∧ i = .int .i64 k ∧ Below w3.heap.size w3 wr) (fun i _ => n - (intOf i).toNat)
      case atStart => exact ⟨0, by omega, rfl, c3_5⟩
      case round =>
        obtain ⟨k, hk, rfl, hbel⟩ := hrel
        have hbw := c0_3.trans (hbel.mono c0_3.size)
        by_cases hlt : k < n
        · obtain ⟨bb, off, rfl, hc⟩ := Hi.out.1.1.items (by omega)
          have hck := hc k hlt
          have C0 : Hid (∀ W, Below w.heap.size w W → ICells W bb (off + k * 8) (gs.getD k ihz)) := (fun W hW => hck.below hW (Nat.le_refl _) : ∀ W, Below w.heap.size w W → ICells W bb (off + k * 8) (gs.getD k ihz))
          have Hy : Hid (IsItem w (gs.getD k ihz) (xs.getD k It.zero)) := Hi.out.1.item hlt
          have hkl : k < xs.length := by rw [hxl]; exact hlt
          have hmem : xs.getD k It.zero ∈ xs := by rw [show xs.getD k It.zero = xs[k] by simp [hkl]]; exact List.getElem_mem _
          have hgm := It.get_of_mem (It.sortedGo_up Hst.out).1 hmem
          have hpos := (Bl.it_parts (Bl.sorted_may Hst.out _ hmem)).1
          have hks := (Hl.out.2 k hlt).1
          have hfi := fun W (h : Below w3.heap.size w3 W) => hfin W a3 k3 (gs.getD k ihz).key (hr3.below h (Nat.le_refl _)) hn3 hc3 (by omega)
          rw [Hy.out.key, hgm] at hfi
          simp only [hpos, ne_eq, not_false_eq_true, decide_true] at hfi
          have hone := fun (h1 : IH) W (i1 : IsItem W h1 (xs.getD k It.zero)) (h : Below w.heap.size w W) => ione_any h1 (xs.getD k It.zero) (gs.getD k ihz) (xs.getD k It.zero) W i1 (Hy.out.below h (Nat.le_refl _))
          simp only [one_self] at hone
          generalize gs.getD k ihz = q at *
          generalize xs.getD k It.zero = y at *
          obtain ⟨key, dead, far, qa, qn, qc, ⟨p1, p2, p3, p4⟩⟩ := q
          obtain ⟨y0, y1, y2, y3, y4, y5, y6, y7⟩ := C0.out wr hbw
          simp only at y0 y1 y2 y3 y4 y5 y6 y7 hfi hone
          have i0 : (0 : Int) ≤ (k : Int) := by omega
          have i1 : (k : Int) < (n : Int) := by omega
          clear hck hc hfin hmem hgm hpos hget2
          go_wp2_with (go_at_call 16; go_must (refine (hfi _ hbel).mono ?_; rintro e w7 ⟨h, rfl, hi7, hb7⟩; have hc7 := hbel.trans (hb7.mono hbel.size); have hw7 := hbw.trans (hb7.mono hbw.size); obtain ⟨t0, t1, t2, t3, t4, t5, t6, t7⟩ := C0.out _ (hw7.alloc hw7.size (.cells #[.string h.key, .bool h.dead, .bool h.far, .slice h.a h.n h.c, .int .i64 h.p.1, .int .i64 h.p.2.1, .int .i64 h.p.2.2.1, .int .u32 (h.p.2.2.2 : Nat)] 42)); simp only at t0 t1 t2 t3 t4 t5 t6 t7; clear y0 y1 y2 y3 y4 y5 y6 y7))
          have hbA := hw7.alloc hw7.size (.cells #[.string h.key, .bool h.dead, .bool h.far, .slice h.a h.n h.c, .int .i64 h.p.1, .int .i64 h.p.2.1, .int .i64 h.p.2.2.1, .int .u32 (h.p.2.2.2 : Nat)] 42)
          have hcA := hc7.alloc hc7.size (.cells #[.string h.key, .bool h.dead, .bool h.far, .slice h.a h.n h.c, .int .i64 h.p.1, .int .i64 h.p.2.1, .int .i64 h.p.2.2.1, .int .u32 (h.p.2.2.2 : Nat)] 42)
          have hiA := hi7.below (below_alloc w7 (.cells #[.string h.key, .bool h.dead, .bool h.far, .slice h.a h.n h.c, .int .i64 h.p.1, .int .i64 h.p.2.1, .int .i64 h.p.2.2.1, .int .u32 (h.p.2.2.2 : Nat)] 42)) (Nat.le_refl _)
          have u0 := cell_new w7 #[.string h.key, .bool h.dead, .bool h.far, .slice h.a h.n h.c, .int .i64 h.p.1, .int .i64 h.p.2.1, .int .i64 h.p.2.2.1, .int .u32 (h.p.2.2.2 : Nat)] 42 0
          have u1 := cell_new w7 #[.string h.key, .bool h.dead, .bool h.far, .slice h.a h.n h.c, .int .i64 h.p.1, .int .i64 h.p.2.1, .int .i64 h.p.2.2.1, .int .u32 (h.p.2.2.2 : Nat)] 42 1
          have u2 := cell_new w7 #[.string h.key, .bool h.dead, .bool h.far, .slice h.a h.n h.c, .int .i64 h.p.1, .int .i64 h.p.2.1, .int .i64 h.p.2.2.1, .int .u32 (h.p.2.2.2 : Nat)] 42 2
          have u3 := cell_new w7 #[.string h.key, .bool h.dead, .bool h.far, .slice h.a h.n h.c, .int .i64 h.p.1, .int .i64 h.p.2.1, .int .i64 h.p.2.2.1, .int .u32 (h.p.2.2.2 : Nat)] 42 3
          have u4 := cell_new w7 #[.string h.key, .bool h.dead, .bool h.far, .slice h.a h.n h.c, .int .i64 h.p.1, .int .i64 h.p.2.1, .int .i64 h.p.2.2.1, .int .u32 (h.p.2.2.2 : Nat)] 42 4
          have u5 := cell_new w7 #[.string h.key, .bool h.dead, .bool h.far, .slice h.a h.n h.c, .int .i64 h.p.1, .int .i64 h.p.2.1, .int .i64 h.p.2.2.1, .int .u32 (h.p.2.2.2 : Nat)] 42 5
          have u6 := cell_new w7 #[.string h.key, .bool h.dead, .bool h.far, .slice h.a h.n h.c, .int .i64 h.p.1, .int .i64 h.p.2.1, .int .i64 h.p.2.2.1, .int .u32 (h.p.2.2.2 : Nat)] 42 6
          have u7 := cell_new w7 #[.string h.key, .bool h.dead, .bool h.far, .slice h.a h.n h.c, .int .i64 h.p.1, .int .i64 h.p.2.1, .int .i64 h.p.2.2.1, .int .u32 (h.p.2.2.2 : Nat)] 42 7
          have hlt7 : w7.heap.size < (w7.alloc (.cells #[.string h.key, .bool h.dead, .bool h.far, .slice h.a h.n h.c, .int .i64 h.p.1, .int .i64 h.p.2.1, .int .i64 h.p.2.2.1, .int .u32 (h.p.2.2.2 : Nat)] 42)).heap.size := by simp
          generalize w7.alloc (.cells #[.string h.key, .bool h.dead, .bool h.far, .slice h.a h.n h.c, .int .i64 h.p.1, .int .i64 h.p.2.1, .int .i64 h.p.2.2.1, .int .u32 (h.p.2.2.2 : Nat)] 42) = W8 at *
          go_region_held3 (fun w' => w'.cell? ⟨bb, off + k * 8, none⟩ = some (.string key) ∧ w'.cell? ⟨bb, off + k * 8 + 1, none⟩ = some (.bool dead) ∧ w'.cell? ⟨bb, off + k * 8 + 2, none⟩ = some (.bool far) ∧ w'.cell? ⟨bb, off + k * 8 + 3, none⟩ = some (.slice qa qn qc) ∧ w'.cell? ⟨bb, off + k * 8 + 4, none⟩ = some (.int .i64 p1) ∧ w'.cell? ⟨bb, off + k * 8 + 5, none⟩ = some (.int .i64 p2) ∧ w'.cell? ⟨bb, off + k * 8 + 6, none⟩ = some (.int .i64 p3) ∧ w'.cell? ⟨bb, off + k * 8 + 7, none⟩ = some (.int .u32 (p4 : Nat)) ∧ w'.cell? ⟨w7.heap.size, 0, none⟩ = some (.string h.key) ∧ w'.cell? ⟨w7.heap.size, 1, none⟩ = some (.bool h.dead) ∧ w'.cell? ⟨w7.heap.size, 2, none⟩ = some (.bool h.far) ∧ w'.cell? ⟨w7.heap.size, 3, none⟩ = some (.slice h.a h.n h.c) ∧ w'.cell? ⟨w7.heap.size, 4, none⟩ = some (.int .i64 h.p.1) ∧ w'.cell? ⟨w7.heap.size, 5, none⟩ = some (.int .i64 h.p.2.1) ∧ w'.cell? ⟨w7.heap.size, 6, none⟩ = some (.int .i64 h.p.2.2.1) ∧ w'.cell? ⟨w7.heap.size, 7, none⟩ = some (.int .u32 (h.p.2.2.2 : Nat))) (first | go_keep | (refine ⟨?_, ?_, ?_, ?_, ?_, ?_, ?_, ?_, ?_, ?_, ?_, ?_, ?_, ?_, ?_, ?_⟩ <;> assumption))
            ((go_at_call 19; refine (hone _ _ (hiA.below (below_drewN _ _ 1) (Nat.le_refl _)) hbA.drew).mono ?_; rintro e w9 ⟨rfl, hb9d⟩; have hb9 := below_of_drew hb9d; have hw9 := hbA.trans (hb9.mono hbA.size); have hc9 := hcA.trans (hb9.mono hcA.size); obtain ⟨g0, g1, g2, g3, g4, g5, g6, g7⟩ := C0.out w9 hw9; simp only at g0 g1 g2 g3 g4 g5 g6 g7; have m0 := (hb9.cell (p := ⟨w7.heap.size, 0, none⟩) hlt7).trans u0; have m1 := (hb9.cell (p := ⟨w7.heap.size, 1, none⟩) hlt7).trans u1; have m2 := (hb9.cell (p := ⟨w7.heap.size, 2, none⟩) hlt7).trans u2; have m3 := (hb9.cell (p := ⟨w7.heap.size, 3, none⟩) hlt7).trans u3; have m4 := (hb9.cell (p := ⟨w7.heap.size, 4, none⟩) hlt7).trans u4; have m5 := (hb9.cell (p := ⟨w7.heap.size, 5, none⟩) hlt7).trans u5; have m6 := (hb9.cell (p := ⟨w7.heap.size, 6, none⟩) hlt7).trans u6; have m7 := (hb9.cell (p := ⟨w7.heap.size, 7, none⟩) hlt7).trans u7))
          go_wp2
          go_roundw
          case rel => exact ⟨k + 1, by omega, by go_num, hc9⟩
          case measure => simp [intOf]; omega
        · obtain rfl : k = n := by omega
          have hsm2 := fun (w0 : World) (a1 : Option Addr) (l1 k1 : Nat) (h1 : List IH) (L : List It.I) W r1 i1 b1 (h : Below w.heap.size w W) => isame_any w0 w a1 l1 k1 h1 L a k c gs xs W r1 i1 (Hi.out.1.1.below h (Nat.le_refl _)) Hi.out.1.2 b1 h
          have hby := fun W a1 c1 (q1 : Row .u8 W a1 PX.length PX) (h : Below w.heap.size w W) => bytesB a' n' c' os a1 PX.length c1 PX W (hrr.out W h) q1
          clear hfin
          by_cases hz : Bl.get os = []
          · rw [hz] at hget2
            have e1 : Bl.err [] = 2 := rfl
            simp only [e1, List.length_nil] at hget2
            clear e1 hz
            go_wp2_with (first
              | (go_at_call 7; go_must (refine (hA _).mono ?_; rintro e w9 ⟨rfl, hb9⟩; have e9 := e8.trans (hb9.mono e8.size)))
              | (go_at_call 14; go_must (refine (hget2 _ hbw).mono ?_; rintro e w8 ⟨a8, k8, hs8, rfl, hi8, hb8⟩; have e8 := hbw.trans (hb8.mono hbw.size))))
            go_ret
            exact ⟨by simp, e9⟩
          · have e1 : Bl.err (Bl.get os) = 0 := by unfold Bl.err; rw [if_neg hz]
            rw [e1] at hget2
            clear e1 hz
            by_cases hq : Bl.get os = xs
            · have hos := Honly.out hq
              rw [hq, hxl] at hget2
              have hd : decide (os = PX) = true := by simp [hos]
              rw [hd] at hby
              have hsm3 := fun (w0 : World) (a1 : Option Addr) (l1 k1 : Nat) (h1 : List IH) W r1 i1 b1 (h : Below w.heap.size w W) => hsm2 w0 a1 l1 k1 h1 xs W r1 i1 b1 h
              simp only [same_self12] at hsm3
              clear hos hq hd hsm2
              go_wp2_with (first
                | (go_at_call 7; have := e10; go_must (refine (hA _).mono ?_; rintro e w11 ⟨rfl, hb11⟩; have e11 := e10.trans (hb11.mono e10.size)))
                | (go_at_call 12; have := e9; go_must (refine (hby _ _ _ ((hr3.below hbel (Nat.le_refl _)).below (hb8.trans (hb9.mono hb8.size)) (Nat.le_refl _)) e9).mono ?_; rintro e w10 ⟨rfl, hb10⟩; have e10 := e9.trans (hb10.mono e9.size)))
                | (go_at_call 17; go_must (refine (hsm3 _ _ _ _ _ _ hi8.1.1 hi8.1.2 (Below.refl _ _) e8).mono ?_; rintro e w9 ⟨rfl, hb9⟩; have e9 := e8.trans (hb9.mono e8.size)))
                | (go_at_call 14; go_must (refine (hget2 _ hbw).mono ?_; rintro e w8 ⟨a8, k8, hs8, rfl, hi8, hb8⟩; have e8 := hbw.trans (hb8.mono hbw.size))))
              go_ret
              exact ⟨by simp, e11⟩
            · have hd : It.sameGo (Bl.get os) xs = false := by
                cases hb : It.sameGo (Bl.get os) xs with
                | false => rfl
                | true => exact absurd ((It.sameGo_iff _ _).mp hb) hq
              have hsm3 := fun (w0 : World) (a1 : Option Addr) (l1 k1 : Nat) (h1 : List IH) W r1 i1 b1 (h : Below w.heap.size w W) => hsm2 w0 a1 l1 k1 h1 (Bl.get os) W r1 i1 b1 h
              simp only [hd] at hsm3
              generalize Bl.get os = Lo at *
              clear hq hd hsm2 hby
              go_wp2_with (first
                | (go_at_call 7; have := e9; go_must (refine (hA _).mono ?_; rintro e w11 ⟨rfl, hb11⟩; have e11 := e9.trans (hb11.mono e9.size)))
                | (go_at_call 17; go_must (refine (hsm3 _ _ _ _ _ _ hi8.1.1 hi8.1.2 (Below.refl _ _) e8).mono ?_; rintro e w9 ⟨rfl, hb9⟩; have e9 := e8.trans (hb9.mono e8.size)))
                | (go_at_call 14; go_must (refine (hget2 _ hbw).mono ?_; rintro e w8 ⟨a8, k8, hs8, rfl, hi8, hb8⟩; have e8 := hbw.trans (hb8.mono hbw.size))))
              go_ret
              exact ⟨by simp, e11⟩
  · have hL := trlightF a n c gs xs w hi.1 hl
    clear hi hl hr
    go_enter Try.func5, Try.ntmps5
    go_wp2_with (first
      | (go_at_call 7; have := c0_1; go_must (refine (hA _).mono ?_; rintro e w2 ⟨rfl, hb2⟩; have c0_2 := c0_1.trans (hb2.mono c0_1.size); have c1_2 := hb2))
      | (go_at_call 6; go_must (refine (hL).mono ?_; rintro e w1 ⟨rfl, hb1⟩; have c0_1 := hb1)))
    go_ret
    exact ⟨rfl, c0_2⟩
end Go.Proofs.Ytjllglpjghcplaa
