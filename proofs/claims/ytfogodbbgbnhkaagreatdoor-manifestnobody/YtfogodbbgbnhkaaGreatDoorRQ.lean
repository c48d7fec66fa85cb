/- Whether one of edits may not be; an edit done, as the mathematics says. -/
import Derived.Test.YtfogodbbgbnhkaaGreatDoorRN
import Derived.Test.YtfogodbbgbnhkaaGreatDoorRNb
import Derived.Test.YtfogodbbgbnhkaaGreatDoorEF
namespace Go.Proofs.YtfogodbbgbnhkaaGreatDoor
open Go.RowKit

set_option maxRecDepth 100000 in
set_option maxHeartbeats 1000000 in
theorem rnot_any (k n i t a b c p q r : Int) (f g : ByteArray) (w : World) :
    Calls Tryz.prog 30 #[ed12 k n i t a b c p q r f g] w fun e w' => e = .returned (.bool (!Ed.may ⟨k, n, i, t, a, b, c, ⟨p, q, r, f, g⟩⟩)) ∧ Below w.heap.size w w' := by
  have hch := fun R hR W => echeck_any k n i t a b c p q r f g W R hR
  have c0 := cell_new w #[.int .i64 k, .int .i64 n, .int .i64 i, .int .i64 t, .int .i64 a, .int .i64 b, .int .i64 c, .int .i64 p, .int .i64 q, .int .i64 r, .string f, .string g] 52
  have ha := below_alloc w (oed k n i t a b c p q r f g)
  cases hm : Ed.may ⟨k, n, i, t, a, b, c, ⟨p, q, r, f, g⟩⟩ with
  | true =>
    have hc := fun W => hch 0 (by rw [hm]; rfl) W
    clear hm hch
    go_enter Tryz.func30, Tryz.ntmps30
    go_wp2_with (go_at_call 64; go_must (refine (hc _).mono ?_; rintro e w1 ⟨rfl, hb1⟩))
    go_ret
    exact ⟨rfl, ha.trans (hb1.mono ha.size)⟩
  | false =>
    have hc := fun W => hch 1 (by rw [hm]; rfl) W
    clear hm hch
    go_enter Tryz.func30, Tryz.ntmps30
    go_wp2_with (go_at_call 64; go_must (refine (hc _).mono ?_; rintro e w1 ⟨rfl, hb1⟩))
    go_ret
    exact ⟨rfl, ha.trans (hb1.mono ha.size)⟩

set_option maxRecDepth 100000 in
set_option maxHeartbeats 1000000 in
theorem rindex_e (ad : Option Addr) (len cap : Nat) (l : List Ed.E) (w : World) (hlen : len ≤ 1000000) (hr : ERow w ad len l) :
    Calls Tryz.prog 63 #[.slice ad len cap, .func (.func 30) #[] #[]] w fun e w' => ∃ z : Int, e = .returned (.int .i64 z) ∧ decide (0 ≤ z) = (!l.all Ed.may) ∧ Below w.heap.size w w' := by
  have hll : Hid (l.length = len) := hr.1
  obtain ⟨R, hR⟩ : ∃ R, R = l.all Ed.may := ⟨_, rfl⟩
  rw [← hR]
  have HR : Hid (R = (l.drop 0).all Ed.may) := hR
  clear hR
  go_enter Tryz.func63, Tryz.ntmps63
  go_wp2
  go_loopw [8] (fun i wr => ∃ k : Nat, k ≤ len ∧ i = .int .i64 k ∧ Hid (R = (l.drop k).all Ed.may) ∧ Below w.heap.size w wr) (fun i _ => len - (intOf i).toNat)
  case atStart => exact ⟨0, by omega, rfl, HR, Below.refl _ _⟩
  case round =>
    obtain ⟨j, hk, rfl, H, hbel⟩ := hrel
    clear HR
    by_cases hlt : j < len
    · obtain ⟨B, O, k, n, i, t, a, b, c, p, q, r, f, g, rfl, hx, q0, q1, q2, q3, q4, q5, q6, q7, q8, q9, q10, q11⟩ := eget hr hbel hlt
      have HS : Hid ((l.drop j).all Ed.may = (Ed.may ⟨k, n, i, t, a, b, c, ⟨p, q, r, f, g⟩⟩ && (l.drop (j + 1)).all Ed.may)) := (by rw [edrop (by rw [hll.out]; exact hlt), hx.out]; rfl : _ = _)
      have hd := rnot_any k n i t a b c p q r f g wr
      have i0 : (0 : Int) ≤ (j : Int) := by omega
      have i1 : (j : Int) < (len : Int) := by omega
      cases hz : Ed.may ⟨k, n, i, t, a, b, c, ⟨p, q, r, f, g⟩⟩ with
      | false =>
        rw [hz] at hd
        have HE : Hid (R = false) := (by rw [H.out, HS.out, hz]; rfl : R = false)
        clear H HS hx hz
        go_wp2_with (go_at_call 30; go_must (refine hd.mono ?_; rintro e w2 ⟨rfl, hb2⟩))
        go_ret
        exact ⟨(j : Int), rfl, by rw [HE.out]; exact decide_eq_true (by omega), hbel.trans (hb2.mono hbel.size)⟩
      | true =>
        rw [hz] at hd
        have HE : Hid (R = (l.drop (j + 1)).all Ed.may) := (by rw [H.out, HS.out, hz]; rfl : R = _)
        clear H HS hx hz
        go_wp2_with (go_at_call 30; go_must (refine hd.mono ?_; rintro e w2 ⟨rfl, hb2⟩))
        go_roundw
        case rel => exact ⟨j + 1, by omega, by go_num, HE, hbel.trans (hb2.mono hbel.size)⟩
        case measure => simp [intOf]; omega
    · obtain rfl : j = len := by omega
      have HE : Hid (R = true) := (by rw [H.out, List.drop_of_length_le (by rw [hll.out]; exact Nat.le_refl _)]; rfl : R = true)
      clear H
      go_wp2
      go_ret
      exact ⟨-1, rfl, by rw [HE.out]; rfl, hbel⟩

set_option maxRecDepth 100000 in
set_option maxHeartbeats 1000000 in
theorem rcontains_e (ad : Option Addr) (len cap : Nat) (l : List Ed.E) (w : World) (hlen : len ≤ 1000000) (hr : ERow w ad len l) (R : Bool) (hR : R = !l.all Ed.may) :
    Calls Tryz.prog 29 #[.slice ad len cap, .func (.func 30) #[] #[]] w fun e w' => e = .returned (.bool R) ∧ Below w.heap.size w w' := by
  have hi := rindex_e ad len cap l w hlen hr
  rw [← hR] at hi
  clear hR
  go_enter Tryz.func29, Tryz.ntmps29
  go_wp2_with (go_at_call 63; go_must (refine hi.mono ?_; rintro e w2 ⟨z, rfl, hz, hb2⟩))
  go_ret
  subst hz
  exact ⟨rfl, hb2⟩

/-- an edit done, as the mathematics says -/
theorem rdo_any (B p : Nat) (x : Ro.R) (a1 : Option Addr) (n1 c1 : Nat) (a2 : Option Addr) (n2 c2 : Nat) (a3 : Option Addr) (n3 c3 : Nat) (a4 : Option Addr) (n4 c4 : Nat) (w : World) (h : RSt B p w x a1 n1 c1 a2 n2 c2 a3 n3 c3 a4 n4 c4) (hB : B ≤ w.heap.size) (k : Nat) (hk : k ≤ 2000) (hI : Ro.Inv x k) (e1 e2 e3 e4 e5 e6 e7 e8 e9 e10 : Int) (f g : ByteArray) (hm : Ed.may ⟨e1, e2, e3, e4, e5, e6, e7, ⟨e8, e9, e10, f, g⟩⟩ = true) :
    Calls Tryz.prog 32 #[.pointer (some ⟨p, 0, none⟩), ed12 e1 e2 e3 e4 e5 e6 e7 e8 e9 e10 f g] w (DoRes B p w (Ro.turn x ⟨e1, e2, e3, e4, e5, e6, e7, ⟨e8, e9, e10, f, g⟩⟩).isSome ((Ro.turn x ⟨e1, e2, e3, e4, e5, e6, e7, ⟨e8, e9, e10, f, g⟩⟩).getD x)) := by
  obtain ⟨s, ms, ts, ks, i1, i2, i3, i4, i5, i6, i7⟩ := x
  obtain ⟨l1, l2, l3, l4⟩ := h.own.len
  have b1 := hI.l1; have b2 := hI.l2; have b3 := hI.l3; have b4 := hI.l4
  have hsg := hI.segs; have hmv := hI.moves; have hst := hI.stills
  dsimp only at l1 l2 l3 l4 b1 b2 b3 b4 hsg hmv hst
  have hno : ∀ {o : Option Ro.R} {d : Ro.R} {R : Bool} {y : Ro.R}, (R = true → o = some y) → (R = false → o = none) → (fun e w' => DoRes B p w R y e w') = (fun e w' => DoRes B p w R y e w') → ∀ e w', DoRes B p w R y e w' → DoRes B p w o.isSome (o.getD d) e w' := by
    intro o d R y h1 h2 _ e w' hd
    cases R with
    | true => rw [h1 rfl]; exact hd
    | false => rw [h2 rfl]; exact ⟨hd.1, (fun h => (by cases h)), hd.2.2⟩
  rcases Ed.kinds e1 with rfl | rfl | rfl | rfl | rfl | rfl | rfl | rfl | rfl | hk0
  · refine (rdo1 B p s ms ts ks a1 n1 c1 a2 n2 c2 a3 n3 c3 a4 n4 c4 i1 i2 i3 i4 i5 i6 i7 w h hB (by omega) (by omega) e2 e3 e4 e5 e6 e7 e8 e9 e10 f g).mono (hno ?_ ?_ rfl) <;> intro hR
    · simp only [Bool.and_eq_true, Bool.not_eq_true', decide_eq_false_iff_not] at hR; simp [Ro.turn, hR.1, hR.2]
    · simp only [Bool.and_eq_false_iff, Bool.not_eq_false', decide_eq_true_eq] at hR; simp [Ro.turn, hR]
  · refine (rdo2 B p s ms ts ks a1 n1 c1 a2 n2 c2 a3 n3 c3 a4 n4 c4 i1 i2 i3 i4 i5 i6 i7 w h hB (by omega) (by omega) hsg hmv e2 e3 e4 e5 e6 e7 e8 e9 e10 f g).mono (hno ?_ ?_ rfl) <;> intro hR
    · simp only [decide_eq_true_eq] at hR; simp [Ro.turn, hR]
    · simp only [decide_eq_false_iff_not] at hR; simp [Ro.turn, hR]
  · refine (rdo3 B p s ms ts ks a1 n1 c1 a2 n2 c2 a3 n3 c3 a4 n4 c4 i1 i2 i3 i4 i5 i6 i7 w h hB (by omega) e2 e3 e4 e5 e6 e7 e8 e9 e10 f g).mono (hno ?_ ?_ rfl) <;> intro hR
    · simp only [decide_eq_true_eq] at hR; rw [← l2] at hR; simp [Ro.turn, hR]
    · simp only [decide_eq_false_iff_not] at hR; rw [← l2] at hR; simp only [Ro.turn, if_neg hR]; rfl
  · have h4 : f.size ≤ 1000000 ∧ g.size ≤ 1000000 := by
      have hm : (decide (e2 = 0) && decide (e3 = 0) && decide (e4 = 0) && Ed.hz ⟨4, e2, e3, e4, e5, e6, e7, ⟨e8, e9, e10, f, g⟩⟩ && Lv.one ⟨e8, e9, e10, f, g⟩) = true := hm
      simp only [Bool.and_eq_true] at hm
      have ho := (Lv.one_iff _).mp hm.2
      have hf := ho.f
      have hg := ho.g
      simp only [Lv.key, Bool.and_eq_true, decide_eq_true_eq] at hf hg
      omega
    refine (rdo4 B p s ms ts ks a1 n1 c1 a2 n2 c2 a3 n3 c3 a4 n4 c4 i1 i2 i3 i4 i5 i6 i7 w h hB (by omega) e2 e3 e4 e5 e6 e7 e8 e9 e10 f g h4.1 h4.2).mono (hno ?_ ?_ rfl) <;> intro hR
    · rfl
    · cases hR
  · refine (rdo5 B p s ms ts ks a1 n1 c1 a2 n2 c2 a3 n3 c3 a4 n4 c4 i1 i2 i3 i4 i5 i6 i7 w h hB (by omega) e2 e3 e4 e5 e6 e7 e8 e9 e10 f g).mono (hno ?_ ?_ rfl) <;> intro hR
    · simp only [decide_eq_true_eq] at hR; rw [← l3] at hR; simp [Ro.turn, hR]
    · simp only [decide_eq_false_iff_not] at hR; rw [← l3] at hR; simp only [Ro.turn, if_neg hR]; rfl
  · refine (rdo6 B p s ms ts ks a1 n1 c1 a2 n2 c2 a3 n3 c3 a4 n4 c4 i1 i2 i3 i4 i5 i6 i7 w h hB (by omega) hst e2 e3 e4 e5 e6 e7 e8 e9 e10 f g).mono (hno ?_ ?_ rfl) <;> intro hR
    · rfl
    · cases hR
  · refine (rdo7 B p s ms ts ks a1 n1 c1 a2 n2 c2 a3 n3 c3 a4 n4 c4 i1 i2 i3 i4 i5 i6 i7 w h hB (by omega) e2 e3 e4 e5 e6 e7 e8 e9 e10 f g).mono (hno ?_ ?_ rfl) <;> intro hR
    · simp only [decide_eq_true_eq] at hR; rw [← l4] at hR; simp [Ro.turn, hR]
    · simp only [decide_eq_false_iff_not] at hR; rw [← l4] at hR; simp only [Ro.turn, if_neg hR]; rfl
  · refine (rdo8 B p s ms ts ks a1 n1 c1 a2 n2 c2 a3 n3 c3 a4 n4 c4 i1 i2 i3 i4 i5 i6 i7 w h hB e2 e3 e4 e5 e6 e7 e8 e9 e10 f g).mono (hno ?_ ?_ rfl) <;> intro hR
    · simp only [Bool.and_eq_true, Bool.not_eq_true', decide_eq_false_iff_not] at hR; simp [Ro.turn, hR.1, hR.2]
    · simp only [Bool.and_eq_false_iff, Bool.not_eq_false', decide_eq_true_eq] at hR; simp [Ro.turn, hR]
  · refine (rdo9 B p s ms ts ks a1 n1 c1 a2 n2 c2 a3 n3 c3 a4 n4 c4 i1 i2 i3 i4 i5 i6 i7 w h hB e2 e3 e4 e5 e6 e7 e8 e9 e10 f g).mono (hno ?_ ?_ rfl) <;> intro hR
    · simp only [Bool.not_eq_true', decide_eq_false_iff_not] at hR; simp [Ro.turn, hR]
    · simp only [Bool.not_eq_false', decide_eq_true_eq] at hR; simp [Ro.turn, hR]
  · exfalso
    have h1 : ¬ (e1 = 1 ∨ e1 = 5) := by omega
    have h2 : ¬ (e1 = 2) := by omega
    have h3 : ¬ (e1 = 3 ∨ e1 = 7 ∨ e1 = 9) := by omega
    have h4 : ¬ (e1 = 4) := by omega
    have h6 : ¬ (e1 = 6) := by omega
    have h8 : ¬ (e1 = 8) := by omega
    simp only [Ed.may, if_neg h1, if_neg h2, if_neg h3, if_neg h4, if_neg h6, if_neg h8] at hm
    cases hm
end Go.Proofs.YtfogodbbgbnhkaaGreatDoor

/- Apply of the program. -/
namespace Go.Proofs.YtfogodbbgbnhkaaGreatDoor
open Go.RowKit

theorem RIn.below {w w' : World} {a1 : Option Addr} {n1 c1 : Nat} {a2 : Option Addr} {n2 c2 : Nat} {a3 : Option Addr} {n3 c3 : Nat} {a4 : Option Addr} {n4 c4 : Nat} {r : Ro.R} (h : RIn w a1 n1 c1 a2 n2 c2 a3 n3 c3 a4 n4 c4 r) (hb : Below w.heap.size w w') : RIn w' a1 n1 c1 a2 n2 c2 a3 n3 c3 a4 n4 c4 r :=
  ⟨h.r1.below hb (Nat.le_refl _), h.r2.below hb (Nat.le_refl _), h.r3.below hb (Nat.le_refl _), h.r4.below hb (Nat.le_refl _), h.z1, h.z2, h.z3, h.z4, h.m1, h.m2, h.m3, h.m4, h.c3, h.texts⟩
theorem rown_zero (B : Nat) (w : World) : ROwn B w none 0 0 none 0 0 none 0 0 none 0 0 Ro.zero := ⟨⟨rfl, .inl ⟨rfl, rfl⟩⟩, ⟨rfl, .inl ⟨rfl, rfl⟩⟩, ⟨rfl, .inl ⟨rfl, rfl⟩⟩, ⟨rfl, .inl ⟨rfl, rfl⟩⟩⟩
/-- what Apply tells -/
def ApRes (w : World) (x : Ro.R) (err : Int) (e : Ending) (w' : World) : Prop :=
  ∃ a1 n1 c1 a2 n2 c2 a3 n3 c3 a4 n4 c4, e = .returned (.tuple #[.agg #[.slice a1 n1 c1, .slice a2 n2 c2, .slice a3 n3 c3, .slice a4 n4 c4, .int .i64 x.log, .int .i64 x.index, .int .i64 x.term, .int .i64 x.ht, .int .i64 x.hv, .int .i64 x.hc, .int .i64 x.mark], .int .i64 err]) ∧ ROwn w.heap.size w' a1 n1 c1 a2 n2 c2 a3 n3 c3 a4 n4 c4 x ∧ Below w.heap.size w w'
theorem rcheck_in {r : Ro.R} (a1 : Option Addr) (n1 c1 : Nat) (a2 : Option Addr) (n2 c2 : Nat) (a3 : Option Addr) (n3 c3 : Nat) (a4 : Option Addr) (n4 c4 : Nat) (w : World) (h : RIn w a1 n1 c1 a2 n2 c2 a3 n3 c3 a4 n4 c4 r) (R : Int) (hR : R = if Ro.check r = true then 0 else 1) :
    Calls Tryz.prog 28 #[.agg #[.slice a1 n1 c1, .slice a2 n2 c2, .slice a3 n3 c3, .slice a4 n4 c4, .int .i64 r.log, .int .i64 r.index, .int .i64 r.term, .int .i64 r.ht, .int .i64 r.hv, .int .i64 r.hc, .int .i64 r.mark]] w fun e w' => e = .returned (.int .i64 R) ∧ Below w.heap.size w w' := by
  have m1 := h.m1; have m2 := h.m2; have m4 := h.m4
  exact rcheck_any r a1 n1 c1 a2 n2 c2 a3 n3 c3 a4 n4 c4 w (by omega) (by omega) (by omega) h.c3 h.r1 h.r2 h.r3 h.r4 R hR

set_option maxRecDepth 100000 in
set_option maxHeartbeats 2000000 in
theorem rapply_no (s : List Int) (ms : List (Int × Int)) (ts : List Lv.T) (ks : List (Int × Int × Int)) (a1 : Option Addr) (n1 c1 : Nat) (a2 : Option Addr) (n2 c2 : Nat) (a3 : Option Addr) (n3 c3 : Nat) (a4 : Option Addr) (n4 c4 : Nat) (i1 i2 i3 i4 i5 i6 i7 : Int) (ad : Option Addr) (len cap : Nat) (l : List Ed.E) (w : World) (h : RIn w a1 n1 c1 a2 n2 c2 a3 n3 c3 a4 n4 c4 ⟨s, ms, ts, ks, i1, i2, i3, i4, i5, i6, i7⟩) (hl : ERow w ad len l) (hlen : len ≤ 1000) (hc : (Ro.check ⟨s, ms, ts, ks, i1, i2, i3, i4, i5, i6, i7⟩ && l.all Ed.may) = false) :
    Calls Tryz.prog 14 #[.agg #[.slice a1 n1 c1, .slice a2 n2 c2, .slice a3 n3 c3, .slice a4 n4 c4, .int .i64 i1, .int .i64 i2, .int .i64 i3, .int .i64 i4, .int .i64 i5, .int .i64 i6, .int .i64 i7], .slice ad len cap] w (ApRes w Ro.zero 1) := by
  obtain ⟨W0, hW0⟩ : ∃ W0, W0 = (w.alloc (.cells #[.slice a1 n1 c1, .slice a2 n2 c2, .slice a3 n3 c3, .slice a4 n4 c4, .int .i64 i1, .int .i64 i2, .int .i64 i3, .int .i64 i4, .int .i64 i5, .int .i64 i6, .int .i64 i7] 34)).alloc (.cells #[.slice none 0 0, .slice none 0 0, .slice none 0 0, .slice none 0 0, .int .i64 0, .int .i64 0, .int .i64 0, .int .i64 0, .int .i64 0, .int .i64 0, .int .i64 0] 34) := ⟨_, rfl⟩
  have hb0 : Below w.heap.size w W0 := by rw [hW0]; exact below_two _ _ _
  obtain ⟨p, hp⟩ : ∃ p, p = w.heap.size := ⟨_, rfl⟩
  have e0 : W0.heap[p]? = some (.cells #[.slice a1 n1 c1, .slice a2 n2 c2, .slice a3 n3 c3, .slice a4 n4 c4, .int .i64 i1, .int .i64 i2, .int .i64 i3, .int .i64 i4, .int .i64 i5, .int .i64 i6, .int .i64 i7] 34 (0, 0)) := by
    rw [hW0, hp]; exact (Below.heap_alloc _ _ _ (by simp)).trans (heap_alloc_new _ _)
  have e1 : W0.heap[p + 1]? = some (.cells #[.slice none 0 0, .slice none 0 0, .slice none 0 0, .slice none 0 0, .int .i64 0, .int .i64 0, .int .i64 0, .int .i64 0, .int .i64 0, .int .i64 0, .int .i64 0] 34 (0, 0)) := by
    rw [hW0, hp]; have := heap_alloc_new (w.alloc (.cells #[.slice a1 n1 c1, .slice a2 n2 c2, .slice a3 n3 c3, .slice a4 n4 c4, .int .i64 i1, .int .i64 i2, .int .i64 i3, .int .i64 i4, .int .i64 i5, .int .i64 i6, .int .i64 i7] 34)) (.cells #[.slice none 0 0, .slice none 0 0, .slice none 0 0, .slice none 0 0, .int .i64 0, .int .i64 0, .int .i64 0, .int .i64 0, .int .i64 0, .int .i64 0, .int .i64 0] 34); rwa [World.size_alloc] at this
  have HI : Hid (∀ W, Below w.heap.size w W → RIn W a1 n1 c1 a2 n2 c2 a3 n3 c3 a4 n4 c4 ⟨s, ms, ts, ks, i1, i2, i3, i4, i5, i6, i7⟩) := (fun W hb => h.below hb : ∀ W, _ → _)
  have hpp : ¬ (p + 1 = p) := by omega
  have hpp2 : ¬ (p = p + 1) := by omega
  have HP : Hid (p = w.heap.size) := hp
  have E0 : Hid (W0.heap[p]? = some (.cells #[.slice a1 n1 c1, .slice a2 n2 c2, .slice a3 n3 c3, .slice a4 n4 c4, .int .i64 i1, .int .i64 i2, .int .i64 i3, .int .i64 i4, .int .i64 i5, .int .i64 i6, .int .i64 i7] 34 (0, 0))) := e0
  have E1 : Hid (W0.heap[p + 1]? = some (.cells #[.slice none 0 0, .slice none 0 0, .slice none 0 0, .slice none 0 0, .int .i64 0, .int .i64 0, .int .i64 0, .int .i64 0, .int .i64 0, .int .i64 0, .int .i64 0] 34 (0, 0))) := e1
  have HB0 : Hid (Below w.heap.size w W0) := hb0
  have HW0 : Hid (W0 = (w.alloc (.cells #[.slice a1 n1 c1, .slice a2 n2 c2, .slice a3 n3 c3, .slice a4 n4 c4, .int .i64 i1, .int .i64 i2, .int .i64 i3, .int .i64 i4, .int .i64 i5, .int .i64 i6, .int .i64 i7] 34)).alloc (.cells #[.slice none 0 0, .slice none 0 0, .slice none 0 0, .slice none 0 0, .int .i64 0, .int .i64 0, .int .i64 0, .int .i64 0, .int .i64 0, .int .i64 0, .int .i64 0] 34)) := hW0
  clear hW0
  have hco := fun W hb => rcontains_e ad len cap l W (by omega) (hl.below hb (Nat.le_refl _)) (!l.all Ed.may) rfl
  have hck := fun R hR W hb => rcheck_in (r := ⟨s, ms, ts, ks, i1, i2, i3, i4, i5, i6, i7⟩) a1 n1 c1 a2 n2 c2 a3 n3 c3 a4 n4 c4 W (HI.out W hb) R hR
  have x0 := (blkc e0).1 0
  have x1 := (blkc e0).1 1
  have x2 := (blkc e0).1 2
  have x3 := (blkc e0).1 3
  have x4 := (blkc e0).1 4
  have x5 := (blkc e0).1 5
  have x6 := (blkc e0).1 6
  have x7 := (blkc e0).1 7
  have x8 := (blkc e0).1 8
  have x9 := (blkc e0).1 9
  have x10 := (blkc e0).1 10
  clear e0 e1 hb0 h hl hp
  cases hk : Ro.check ⟨s, ms, ts, ks, i1, i2, i3, i4, i5, i6, i7⟩ with
  | false =>
    have hc1 := fun W hb => hck 1 (by rw [hk]; rfl) W hb
    clear hck hk hc hco
    go_enter Tryz.func14, Tryz.ntmps14
    go_wp2_with fail
    rw [← HP.out, ← HW0.out]
    refine (hc1 _ HB0.out).mono ?_
    ( rintro e w1 ⟨rfl, hb1⟩; have hw1 := HB0.out.trans (hb1.mono HB0.out.size); have hQ1 := (hb1.block _ (ob_ltB E1.out)).trans E1.out; have hG1 := (hb1.block _ (ob_ltB E0.out)).trans E0.out; clear x0 x1 x2 x3 x4 x5 x6 x7 x8 x9 x10; have y0 := (blkc hQ1).1 0; have z0 := (blkc hQ1).2 0; have y1 := (blkc hQ1).1 1; have z1 := (blkc hQ1).2 1; have y2 := (blkc hQ1).1 2; have z2 := (blkc hQ1).2 2; have y3 := (blkc hQ1).1 3; have z3 := (blkc hQ1).2 3; have y4 := (blkc hQ1).1 4; have z4 := (blkc hQ1).2 4; have y5 := (blkc hQ1).1 5; have z5 := (blkc hQ1).2 5; have y6 := (blkc hQ1).1 6; have z6 := (blkc hQ1).2 6; have y7 := (blkc hQ1).1 7; have z7 := (blkc hQ1).2 7; have y8 := (blkc hQ1).1 8; have z8 := (blkc hQ1).2 8; have y9 := (blkc hQ1).1 9; have z9 := (blkc hQ1).2 9; have y10 := (blkc hQ1).1 10; have z10 := (blkc hQ1).2 10)
    go_wp2
    have B0 : (w1.setCell ⟨p + 1, 0, none⟩ (.slice none 0 0)).heap[p + 1]? = some (.cells #[.slice none 0 0, .slice none 0 0, .slice none 0 0, .slice none 0 0, .int .i64 0, .int .i64 0, .int .i64 0, .int .i64 0, .int .i64 0, .int .i64 0, .int .i64 0] 34 (0, 0)) := bput hQ1 _ rfl
    have B1 : ((w1.setCell ⟨p + 1, 0, none⟩ (.slice none 0 0)).setCell ⟨p + 1, 1, none⟩ (.slice none 0 0)).heap[p + 1]? = some (.cells #[.slice none 0 0, .slice none 0 0, .slice none 0 0, .slice none 0 0, .int .i64 0, .int .i64 0, .int .i64 0, .int .i64 0, .int .i64 0, .int .i64 0, .int .i64 0] 34 (0, 0)) := bput B0 _ rfl
    have B2 : (((w1.setCell ⟨p + 1, 0, none⟩ (.slice none 0 0)).setCell ⟨p + 1, 1, none⟩ (.slice none 0 0)).setCell ⟨p + 1, 2, none⟩ (.slice none 0 0)).heap[p + 1]? = some (.cells #[.slice none 0 0, .slice none 0 0, .slice none 0 0, .slice none 0 0, .int .i64 0, .int .i64 0, .int .i64 0, .int .i64 0, .int .i64 0, .int .i64 0, .int .i64 0] 34 (0, 0)) := bput B1 _ rfl
    have B3 : ((((w1.setCell ⟨p + 1, 0, none⟩ (.slice none 0 0)).setCell ⟨p + 1, 1, none⟩ (.slice none 0 0)).setCell ⟨p + 1, 2, none⟩ (.slice none 0 0)).setCell ⟨p + 1, 3, none⟩ (.slice none 0 0)).heap[p + 1]? = some (.cells #[.slice none 0 0, .slice none 0 0, .slice none 0 0, .slice none 0 0, .int .i64 0, .int .i64 0, .int .i64 0, .int .i64 0, .int .i64 0, .int .i64 0, .int .i64 0] 34 (0, 0)) := bput B2 _ rfl
    have B4 : (((((w1.setCell ⟨p + 1, 0, none⟩ (.slice none 0 0)).setCell ⟨p + 1, 1, none⟩ (.slice none 0 0)).setCell ⟨p + 1, 2, none⟩ (.slice none 0 0)).setCell ⟨p + 1, 3, none⟩ (.slice none 0 0)).setCell ⟨p + 1, 4, none⟩ (.int .i64 0)).heap[p + 1]? = some (.cells #[.slice none 0 0, .slice none 0 0, .slice none 0 0, .slice none 0 0, .int .i64 0, .int .i64 0, .int .i64 0, .int .i64 0, .int .i64 0, .int .i64 0, .int .i64 0] 34 (0, 0)) := bput B3 _ rfl
    have B5 : ((((((w1.setCell ⟨p + 1, 0, none⟩ (.slice none 0 0)).setCell ⟨p + 1, 1, none⟩ (.slice none 0 0)).setCell ⟨p + 1, 2, none⟩ (.slice none 0 0)).setCell ⟨p + 1, 3, none⟩ (.slice none 0 0)).setCell ⟨p + 1, 4, none⟩ (.int .i64 0)).setCell ⟨p + 1, 5, none⟩ (.int .i64 0)).heap[p + 1]? = some (.cells #[.slice none 0 0, .slice none 0 0, .slice none 0 0, .slice none 0 0, .int .i64 0, .int .i64 0, .int .i64 0, .int .i64 0, .int .i64 0, .int .i64 0, .int .i64 0] 34 (0, 0)) := bput B4 _ rfl
    have B6 : (((((((w1.setCell ⟨p + 1, 0, none⟩ (.slice none 0 0)).setCell ⟨p + 1, 1, none⟩ (.slice none 0 0)).setCell ⟨p + 1, 2, none⟩ (.slice none 0 0)).setCell ⟨p + 1, 3, none⟩ (.slice none 0 0)).setCell ⟨p + 1, 4, none⟩ (.int .i64 0)).setCell ⟨p + 1, 5, none⟩ (.int .i64 0)).setCell ⟨p + 1, 6, none⟩ (.int .i64 0)).heap[p + 1]? = some (.cells #[.slice none 0 0, .slice none 0 0, .slice none 0 0, .slice none 0 0, .int .i64 0, .int .i64 0, .int .i64 0, .int .i64 0, .int .i64 0, .int .i64 0, .int .i64 0] 34 (0, 0)) := bput B5 _ rfl
    have B7 : ((((((((w1.setCell ⟨p + 1, 0, none⟩ (.slice none 0 0)).setCell ⟨p + 1, 1, none⟩ (.slice none 0 0)).setCell ⟨p + 1, 2, none⟩ (.slice none 0 0)).setCell ⟨p + 1, 3, none⟩ (.slice none 0 0)).setCell ⟨p + 1, 4, none⟩ (.int .i64 0)).setCell ⟨p + 1, 5, none⟩ (.int .i64 0)).setCell ⟨p + 1, 6, none⟩ (.int .i64 0)).setCell ⟨p + 1, 7, none⟩ (.int .i64 0)).heap[p + 1]? = some (.cells #[.slice none 0 0, .slice none 0 0, .slice none 0 0, .slice none 0 0, .int .i64 0, .int .i64 0, .int .i64 0, .int .i64 0, .int .i64 0, .int .i64 0, .int .i64 0] 34 (0, 0)) := bput B6 _ rfl
    have B8 : (((((((((w1.setCell ⟨p + 1, 0, none⟩ (.slice none 0 0)).setCell ⟨p + 1, 1, none⟩ (.slice none 0 0)).setCell ⟨p + 1, 2, none⟩ (.slice none 0 0)).setCell ⟨p + 1, 3, none⟩ (.slice none 0 0)).setCell ⟨p + 1, 4, none⟩ (.int .i64 0)).setCell ⟨p + 1, 5, none⟩ (.int .i64 0)).setCell ⟨p + 1, 6, none⟩ (.int .i64 0)).setCell ⟨p + 1, 7, none⟩ (.int .i64 0)).setCell ⟨p + 1, 8, none⟩ (.int .i64 0)).heap[p + 1]? = some (.cells #[.slice none 0 0, .slice none 0 0, .slice none 0 0, .slice none 0 0, .int .i64 0, .int .i64 0, .int .i64 0, .int .i64 0, .int .i64 0, .int .i64 0, .int .i64 0] 34 (0, 0)) := bput B7 _ rfl
    have B9 : ((((((((((w1.setCell ⟨p + 1, 0, none⟩ (.slice none 0 0)).setCell ⟨p + 1, 1, none⟩ (.slice none 0 0)).setCell ⟨p + 1, 2, none⟩ (.slice none 0 0)).setCell ⟨p + 1, 3, none⟩ (.slice none 0 0)).setCell ⟨p + 1, 4, none⟩ (.int .i64 0)).setCell ⟨p + 1, 5, none⟩ (.int .i64 0)).setCell ⟨p + 1, 6, none⟩ (.int .i64 0)).setCell ⟨p + 1, 7, none⟩ (.int .i64 0)).setCell ⟨p + 1, 8, none⟩ (.int .i64 0)).setCell ⟨p + 1, 9, none⟩ (.int .i64 0)).heap[p + 1]? = some (.cells #[.slice none 0 0, .slice none 0 0, .slice none 0 0, .slice none 0 0, .int .i64 0, .int .i64 0, .int .i64 0, .int .i64 0, .int .i64 0, .int .i64 0, .int .i64 0] 34 (0, 0)) := bput B8 _ rfl
    have B10 : (((((((((((w1.setCell ⟨p + 1, 0, none⟩ (.slice none 0 0)).setCell ⟨p + 1, 1, none⟩ (.slice none 0 0)).setCell ⟨p + 1, 2, none⟩ (.slice none 0 0)).setCell ⟨p + 1, 3, none⟩ (.slice none 0 0)).setCell ⟨p + 1, 4, none⟩ (.int .i64 0)).setCell ⟨p + 1, 5, none⟩ (.int .i64 0)).setCell ⟨p + 1, 6, none⟩ (.int .i64 0)).setCell ⟨p + 1, 7, none⟩ (.int .i64 0)).setCell ⟨p + 1, 8, none⟩ (.int .i64 0)).setCell ⟨p + 1, 9, none⟩ (.int .i64 0)).setCell ⟨p + 1, 10, none⟩ (.int .i64 0)).heap[p + 1]? = some (.cells #[.slice none 0 0, .slice none 0 0, .slice none 0 0, .slice none 0 0, .int .i64 0, .int .i64 0, .int .i64 0, .int .i64 0, .int .i64 0, .int .i64 0, .int .i64 0] 34 (0, 0)) := bput B9 _ rfl
    have hgr : w1.grownBy _ (some (p + 1)) := turned_setL (p + 1) [.slice none 0 0, .slice none 0 0, .slice none 0 0, .slice none 0 0, .int .i64 0, .int .i64 0, .int .i64 0, .int .i64 0, .int .i64 0, .int .i64 0, .int .i64 0] 0 w1
    have hbF := below_grownB hw1 hgr hw1.size (fun q hq => by cases hq; have := HP.out; omega)
    have d0 := (blkc B10).1 0
    have d1 := (blkc B10).1 1
    have d2 := (blkc B10).1 2
    have d3 := (blkc B10).1 3
    have d4 := (blkc B10).1 4
    have d5 := (blkc B10).1 5
    have d6 := (blkc B10).1 6
    have d7 := (blkc B10).1 7
    have d8 := (blkc B10).1 8
    have d9 := (blkc B10).1 9
    have d10 := (blkc B10).1 10
    refine bodyPost_ret (v := .tuple #[.agg #[.slice none 0 0, .slice none 0 0, .slice none 0 0, .slice none 0 0, .int .i64 0, .int .i64 0, .int .i64 0, .int .i64 0, .int .i64 0, .int .i64 0, .int .i64 0], .int .i64 1]) (by simp [results, Tryz.results14, go_sem, d0, d1, d2, d3, d4, d5, d6, d7, d8, d9, d10]) rfl ⟨none, 0, 0, none, 0, 0, none, 0, 0, none, 0, 0, rfl, rown_zero _ _, hbF⟩
  | true =>
    have hc1 := fun W hb => hck 0 (by rw [hk]; rfl) W hb
    have hal : l.all Ed.may = false := by rw [hk, Bool.true_and] at hc; exact hc
    rw [hal] at hco
    clear hck hk hc hal
    go_enter Tryz.func14, Tryz.ntmps14
    go_wp2_with fail
    rw [← HP.out, ← HW0.out]
    refine (hc1 _ HB0.out).mono ?_
    rintro e w0 ⟨rfl, hb1⟩
    have hw0 := HB0.out.trans (hb1.mono HB0.out.size)
    go_wp2_with (go_at_call 29; go_must (refine (hco _ hw0).mono ?_; rintro e w1 ⟨rfl, hb2⟩; have hw1 := hw0.trans (hb2.mono hw0.size); have hQ1 := ((hb1.trans (hb2.mono hb1.size)).block _ (ob_ltB E1.out)).trans E1.out; clear x0 x1 x2 x3 x4 x5 x6 x7 x8 x9 x10; have y0 := (blkc hQ1).1 0; have z0 := (blkc hQ1).2 0; have y1 := (blkc hQ1).1 1; have z1 := (blkc hQ1).2 1; have y2 := (blkc hQ1).1 2; have z2 := (blkc hQ1).2 2; have y3 := (blkc hQ1).1 3; have z3 := (blkc hQ1).2 3; have y4 := (blkc hQ1).1 4; have z4 := (blkc hQ1).2 4; have y5 := (blkc hQ1).1 5; have z5 := (blkc hQ1).2 5; have y6 := (blkc hQ1).1 6; have z6 := (blkc hQ1).2 6; have y7 := (blkc hQ1).1 7; have z7 := (blkc hQ1).2 7; have y8 := (blkc hQ1).1 8; have z8 := (blkc hQ1).2 8; have y9 := (blkc hQ1).1 9; have z9 := (blkc hQ1).2 9; have y10 := (blkc hQ1).1 10; have z10 := (blkc hQ1).2 10))
    have B0 : (w1.setCell ⟨p + 1, 0, none⟩ (.slice none 0 0)).heap[p + 1]? = some (.cells #[.slice none 0 0, .slice none 0 0, .slice none 0 0, .slice none 0 0, .int .i64 0, .int .i64 0, .int .i64 0, .int .i64 0, .int .i64 0, .int .i64 0, .int .i64 0] 34 (0, 0)) := bput hQ1 _ rfl
    have B1 : ((w1.setCell ⟨p + 1, 0, none⟩ (.slice none 0 0)).setCell ⟨p + 1, 1, none⟩ (.slice none 0 0)).heap[p + 1]? = some (.cells #[.slice none 0 0, .slice none 0 0, .slice none 0 0, .slice none 0 0, .int .i64 0, .int .i64 0, .int .i64 0, .int .i64 0, .int .i64 0, .int .i64 0, .int .i64 0] 34 (0, 0)) := bput B0 _ rfl
    have B2 : (((w1.setCell ⟨p + 1, 0, none⟩ (.slice none 0 0)).setCell ⟨p + 1, 1, none⟩ (.slice none 0 0)).setCell ⟨p + 1, 2, none⟩ (.slice none 0 0)).heap[p + 1]? = some (.cells #[.slice none 0 0, .slice none 0 0, .slice none 0 0, .slice none 0 0, .int .i64 0, .int .i64 0, .int .i64 0, .int .i64 0, .int .i64 0, .int .i64 0, .int .i64 0] 34 (0, 0)) := bput B1 _ rfl
    have B3 : ((((w1.setCell ⟨p + 1, 0, none⟩ (.slice none 0 0)).setCell ⟨p + 1, 1, none⟩ (.slice none 0 0)).setCell ⟨p + 1, 2, none⟩ (.slice none 0 0)).setCell ⟨p + 1, 3, none⟩ (.slice none 0 0)).heap[p + 1]? = some (.cells #[.slice none 0 0, .slice none 0 0, .slice none 0 0, .slice none 0 0, .int .i64 0, .int .i64 0, .int .i64 0, .int .i64 0, .int .i64 0, .int .i64 0, .int .i64 0] 34 (0, 0)) := bput B2 _ rfl
    have B4 : (((((w1.setCell ⟨p + 1, 0, none⟩ (.slice none 0 0)).setCell ⟨p + 1, 1, none⟩ (.slice none 0 0)).setCell ⟨p + 1, 2, none⟩ (.slice none 0 0)).setCell ⟨p + 1, 3, none⟩ (.slice none 0 0)).setCell ⟨p + 1, 4, none⟩ (.int .i64 0)).heap[p + 1]? = some (.cells #[.slice none 0 0, .slice none 0 0, .slice none 0 0, .slice none 0 0, .int .i64 0, .int .i64 0, .int .i64 0, .int .i64 0, .int .i64 0, .int .i64 0, .int .i64 0] 34 (0, 0)) := bput B3 _ rfl
    have B5 : ((((((w1.setCell ⟨p + 1, 0, none⟩ (.slice none 0 0)).setCell ⟨p + 1, 1, none⟩ (.slice none 0 0)).setCell ⟨p + 1, 2, none⟩ (.slice none 0 0)).setCell ⟨p + 1, 3, none⟩ (.slice none 0 0)).setCell ⟨p + 1, 4, none⟩ (.int .i64 0)).setCell ⟨p + 1, 5, none⟩ (.int .i64 0)).heap[p + 1]? = some (.cells #[.slice none 0 0, .slice none 0 0, .slice none 0 0, .slice none 0 0, .int .i64 0, .int .i64 0, .int .i64 0, .int .i64 0, .int .i64 0, .int .i64 0, .int .i64 0] 34 (0, 0)) := bput B4 _ rfl
    have B6 : (((((((w1.setCell ⟨p + 1, 0, none⟩ (.slice none 0 0)).setCell ⟨p + 1, 1, none⟩ (.slice none 0 0)).setCell ⟨p + 1, 2, none⟩ (.slice none 0 0)).setCell ⟨p + 1, 3, none⟩ (.slice none 0 0)).setCell ⟨p + 1, 4, none⟩ (.int .i64 0)).setCell ⟨p + 1, 5, none⟩ (.int .i64 0)).setCell ⟨p + 1, 6, none⟩ (.int .i64 0)).heap[p + 1]? = some (.cells #[.slice none 0 0, .slice none 0 0, .slice none 0 0, .slice none 0 0, .int .i64 0, .int .i64 0, .int .i64 0, .int .i64 0, .int .i64 0, .int .i64 0, .int .i64 0] 34 (0, 0)) := bput B5 _ rfl
    have B7 : ((((((((w1.setCell ⟨p + 1, 0, none⟩ (.slice none 0 0)).setCell ⟨p + 1, 1, none⟩ (.slice none 0 0)).setCell ⟨p + 1, 2, none⟩ (.slice none 0 0)).setCell ⟨p + 1, 3, none⟩ (.slice none 0 0)).setCell ⟨p + 1, 4, none⟩ (.int .i64 0)).setCell ⟨p + 1, 5, none⟩ (.int .i64 0)).setCell ⟨p + 1, 6, none⟩ (.int .i64 0)).setCell ⟨p + 1, 7, none⟩ (.int .i64 0)).heap[p + 1]? = some (.cells #[.slice none 0 0, .slice none 0 0, .slice none 0 0, .slice none 0 0, .int .i64 0, .int .i64 0, .int .i64 0, .int .i64 0, .int .i64 0, .int .i64 0, .int .i64 0] 34 (0, 0)) := bput B6 _ rfl
    have B8 : (((((((((w1.setCell ⟨p + 1, 0, none⟩ (.slice none 0 0)).setCell ⟨p + 1, 1, none⟩ (.slice none 0 0)).setCell ⟨p + 1, 2, none⟩ (.slice none 0 0)).setCell ⟨p + 1, 3, none⟩ (.slice none 0 0)).setCell ⟨p + 1, 4, none⟩ (.int .i64 0)).setCell ⟨p + 1, 5, none⟩ (.int .i64 0)).setCell ⟨p + 1, 6, none⟩ (.int .i64 0)).setCell ⟨p + 1, 7, none⟩ (.int .i64 0)).setCell ⟨p + 1, 8, none⟩ (.int .i64 0)).heap[p + 1]? = some (.cells #[.slice none 0 0, .slice none 0 0, .slice none 0 0, .slice none 0 0, .int .i64 0, .int .i64 0, .int .i64 0, .int .i64 0, .int .i64 0, .int .i64 0, .int .i64 0] 34 (0, 0)) := bput B7 _ rfl
    have B9 : ((((((((((w1.setCell ⟨p + 1, 0, none⟩ (.slice none 0 0)).setCell ⟨p + 1, 1, none⟩ (.slice none 0 0)).setCell ⟨p + 1, 2, none⟩ (.slice none 0 0)).setCell ⟨p + 1, 3, none⟩ (.slice none 0 0)).setCell ⟨p + 1, 4, none⟩ (.int .i64 0)).setCell ⟨p + 1, 5, none⟩ (.int .i64 0)).setCell ⟨p + 1, 6, none⟩ (.int .i64 0)).setCell ⟨p + 1, 7, none⟩ (.int .i64 0)).setCell ⟨p + 1, 8, none⟩ (.int .i64 0)).setCell ⟨p + 1, 9, none⟩ (.int .i64 0)).heap[p + 1]? = some (.cells #[.slice none 0 0, .slice none 0 0, .slice none 0 0, .slice none 0 0, .int .i64 0, .int .i64 0, .int .i64 0, .int .i64 0, .int .i64 0, .int .i64 0, .int .i64 0] 34 (0, 0)) := bput B8 _ rfl
    have B10 : (((((((((((w1.setCell ⟨p + 1, 0, none⟩ (.slice none 0 0)).setCell ⟨p + 1, 1, none⟩ (.slice none 0 0)).setCell ⟨p + 1, 2, none⟩ (.slice none 0 0)).setCell ⟨p + 1, 3, none⟩ (.slice none 0 0)).setCell ⟨p + 1, 4, none⟩ (.int .i64 0)).setCell ⟨p + 1, 5, none⟩ (.int .i64 0)).setCell ⟨p + 1, 6, none⟩ (.int .i64 0)).setCell ⟨p + 1, 7, none⟩ (.int .i64 0)).setCell ⟨p + 1, 8, none⟩ (.int .i64 0)).setCell ⟨p + 1, 9, none⟩ (.int .i64 0)).setCell ⟨p + 1, 10, none⟩ (.int .i64 0)).heap[p + 1]? = some (.cells #[.slice none 0 0, .slice none 0 0, .slice none 0 0, .slice none 0 0, .int .i64 0, .int .i64 0, .int .i64 0, .int .i64 0, .int .i64 0, .int .i64 0, .int .i64 0] 34 (0, 0)) := bput B9 _ rfl
    have hgr : w1.grownBy _ (some (p + 1)) := turned_setL (p + 1) [.slice none 0 0, .slice none 0 0, .slice none 0 0, .slice none 0 0, .int .i64 0, .int .i64 0, .int .i64 0, .int .i64 0, .int .i64 0, .int .i64 0, .int .i64 0] 0 w1
    have hbF := below_grownB hw1 hgr hw1.size (fun q hq => by cases hq; have := HP.out; omega)
    have d0 := (blkc B10).1 0
    have d1 := (blkc B10).1 1
    have d2 := (blkc B10).1 2
    have d3 := (blkc B10).1 3
    have d4 := (blkc B10).1 4
    have d5 := (blkc B10).1 5
    have d6 := (blkc B10).1 6
    have d7 := (blkc B10).1 7
    have d8 := (blkc B10).1 8
    have d9 := (blkc B10).1 9
    have d10 := (blkc B10).1 10
    refine bodyPost_ret (v := .tuple #[.agg #[.slice none 0 0, .slice none 0 0, .slice none 0 0, .slice none 0 0, .int .i64 0, .int .i64 0, .int .i64 0, .int .i64 0, .int .i64 0, .int .i64 0, .int .i64 0], .int .i64 1]) (by simp [results, Tryz.results14, go_sem, d0, d1, d2, d3, d4, d5, d6, d7, d8, d9, d10]) rfl ⟨none, 0, 0, none, 0, 0, none, 0, 0, none, 0, 0, rfl, rown_zero _ _, hbF⟩
end Go.Proofs.YtfogodbbgbnhkaaGreatDoor

/- Apply of the program, where the roster and the edits may be. -/
namespace Go.Proofs.YtfogodbbgbnhkaaGreatDoor
open Go.RowKit

namespace Ro
theorem turns_snoc : ∀ (l : List Ed.E) (r : R) (e : Ed.E), turns r (l ++ [e]) = (turns r l).bind fun x => turn x e
  | [], r, e => by
    show (turn r e).bind (fun x => some x) = turn r e
    cases turn r e <;> rfl
  | a :: l, r, e => by
    rw [List.cons_append, turns, turns]
    cases turn r a with
    | none => rfl
    | some y => exact turns_snoc l y e
theorem turns_none : ∀ (a b : List Ed.E) (r : R), turns r a = none → turns r (a ++ b) = none
  | [], _, _, h => by simp [turns] at h
  | e :: a, b, r, h => by
    rw [List.cons_append, turns]
    rw [turns] at h
    cases ht : turn r e with
    | none => rfl
    | some y => rw [ht] at h; exact turns_none a b y h
/-- what comes of edits that may be, done at a roster that may be -/
def fin (r : R) (l : List Ed.E) : R × Int := match turns r l with
  | none => (zero, 11)
  | some x => if check x then (x, 0) else (zero, 11)
theorem apply_fin {r : R} {l : List Ed.E} (h : (check r && l.all Ed.may) = true) : apply r l = fin r l := by unfold apply fin; rw [if_pos h]; cases turns r l <;> rfl
theorem apply_no {r : R} {l : List Ed.E} (h : (check r && l.all Ed.may) = false) : apply r l = (zero, 1) := by unfold apply; rw [h]; rfl
end Ro

set_option maxRecDepth 100000 in
set_option maxHeartbeats 8000000 in
theorem rapply_yes (s : List Int) (ms : List (Int × Int)) (ts : List Lv.T) (ks : List (Int × Int × Int)) (a1 : Option Addr) (n1 c1 : Nat) (a2 : Option Addr) (n2 c2 : Nat) (a3 : Option Addr) (n3 c3 : Nat) (a4 : Option Addr) (n4 c4 : Nat) (i1 i2 i3 i4 i5 i6 i7 : Int) (ad : Option Addr) (len cap : Nat) (l : List Ed.E) (w : World) (h : RIn w a1 n1 c1 a2 n2 c2 a3 n3 c3 a4 n4 c4 ⟨s, ms, ts, ks, i1, i2, i3, i4, i5, i6, i7⟩) (hl : ERow w ad len l) (hlen : len ≤ 1000) (hc : Ro.check ⟨s, ms, ts, ks, i1, i2, i3, i4, i5, i6, i7⟩ = true) (hm : l.all Ed.may = true) (X : Ro.R) (ERR : Int) (hX : (X, ERR) = Ro.fin ⟨s, ms, ts, ks, i1, i2, i3, i4, i5, i6, i7⟩ l) :
    Calls Tryz.prog 14 #[.agg #[.slice a1 n1 c1, .slice a2 n2 c2, .slice a3 n3 c3, .slice a4 n4 c4, .int .i64 i1, .int .i64 i2, .int .i64 i3, .int .i64 i4, .int .i64 i5, .int .i64 i6, .int .i64 i7], .slice ad len cap] w (ApRes w X ERR) := by
  obtain ⟨W0, hW0⟩ : ∃ W0, W0 = (w.alloc (.cells #[.slice a1 n1 c1, .slice a2 n2 c2, .slice a3 n3 c3, .slice a4 n4 c4, .int .i64 i1, .int .i64 i2, .int .i64 i3, .int .i64 i4, .int .i64 i5, .int .i64 i6, .int .i64 i7] 34)).alloc (.cells #[.slice none 0 0, .slice none 0 0, .slice none 0 0, .slice none 0 0, .int .i64 0, .int .i64 0, .int .i64 0, .int .i64 0, .int .i64 0, .int .i64 0, .int .i64 0] 34) := ⟨_, rfl⟩
  have hb0 : Below w.heap.size w W0 := by rw [hW0]; exact below_two _ _ _
  obtain ⟨p, hp⟩ : ∃ p, p = w.heap.size := ⟨_, rfl⟩
  have e0 : W0.heap[p]? = some (.cells #[.slice a1 n1 c1, .slice a2 n2 c2, .slice a3 n3 c3, .slice a4 n4 c4, .int .i64 i1, .int .i64 i2, .int .i64 i3, .int .i64 i4, .int .i64 i5, .int .i64 i6, .int .i64 i7] 34 (0, 0)) := by
    rw [hW0, hp]; exact (Below.heap_alloc _ _ _ (by simp)).trans (heap_alloc_new _ _)
  have e1 : W0.heap[p + 1]? = some (.cells #[.slice none 0 0, .slice none 0 0, .slice none 0 0, .slice none 0 0, .int .i64 0, .int .i64 0, .int .i64 0, .int .i64 0, .int .i64 0, .int .i64 0, .int .i64 0] 34 (0, 0)) := by
    rw [hW0, hp]; have := heap_alloc_new (w.alloc (.cells #[.slice a1 n1 c1, .slice a2 n2 c2, .slice a3 n3 c3, .slice a4 n4 c4, .int .i64 i1, .int .i64 i2, .int .i64 i3, .int .i64 i4, .int .i64 i5, .int .i64 i6, .int .i64 i7] 34)) (.cells #[.slice none 0 0, .slice none 0 0, .slice none 0 0, .slice none 0 0, .int .i64 0, .int .i64 0, .int .i64 0, .int .i64 0, .int .i64 0, .int .i64 0, .int .i64 0] 34); rwa [World.size_alloc] at this
  have HI : Hid (∀ W, Below w.heap.size w W → RIn W a1 n1 c1 a2 n2 c2 a3 n3 c3 a4 n4 c4 ⟨s, ms, ts, ks, i1, i2, i3, i4, i5, i6, i7⟩) := (fun W hb => h.below hb : ∀ W, _ → _)
  have hpp : ¬ (p + 1 = p) := by omega
  have hpp2 : ¬ (p = p + 1) := by omega
  have HP : Hid (p = w.heap.size) := hp
  have E0 : Hid (W0.heap[p]? = some (.cells #[.slice a1 n1 c1, .slice a2 n2 c2, .slice a3 n3 c3, .slice a4 n4 c4, .int .i64 i1, .int .i64 i2, .int .i64 i3, .int .i64 i4, .int .i64 i5, .int .i64 i6, .int .i64 i7] 34 (0, 0))) := e0
  have E1 : Hid (W0.heap[p + 1]? = some (.cells #[.slice none 0 0, .slice none 0 0, .slice none 0 0, .slice none 0 0, .int .i64 0, .int .i64 0, .int .i64 0, .int .i64 0, .int .i64 0, .int .i64 0, .int .i64 0] 34 (0, 0))) := e1
  have HB0 : Hid (Below w.heap.size w W0) := hb0
  have HW0 : Hid (W0 = (w.alloc (.cells #[.slice a1 n1 c1, .slice a2 n2 c2, .slice a3 n3 c3, .slice a4 n4 c4, .int .i64 i1, .int .i64 i2, .int .i64 i3, .int .i64 i4, .int .i64 i5, .int .i64 i6, .int .i64 i7] 34)).alloc (.cells #[.slice none 0 0, .slice none 0 0, .slice none 0 0, .slice none 0 0, .int .i64 0, .int .i64 0, .int .i64 0, .int .i64 0, .int .i64 0, .int .i64 0, .int .i64 0] 34)) := hW0
  clear hW0
  have hll : Hid (l.length = len) := hl.1
  have HL : Hid (ERow w ad len l) := hl
  have hlb : len ≤ 1000 := hlen
  have HM : Hid (∀ e ∈ l, Ed.may e = true) := (fun e he => List.all_eq_true.mp hm e he : ∀ e ∈ l, _)
  have HX : Hid ((X, ERR) = Ro.fin ⟨s, ms, ts, ks, i1, i2, i3, i4, i5, i6, i7⟩ l) := hX
  have HI0 : Hid (Ro.Inv ⟨s, ms, ts, ks, i1, i2, i3, i4, i5, i6, i7⟩ 0) := Ro.check_inv hc
  have hco := fun W hb => rcontains_e ad len cap l W (by omega) (hl.below hb (Nat.le_refl _)) false (by rw [hm]; rfl)
  have hck := fun W hb => rcheck_in (r := ⟨s, ms, ts, ks, i1, i2, i3, i4, i5, i6, i7⟩) a1 n1 c1 a2 n2 c2 a3 n3 c3 a4 n4 c4 W (HI.out W hb) 0 (by rw [hc]; rfl)
  have how := fun W hb => rown_any s ms ts ks a1 n1 c1 a2 n2 c2 a3 n3 c3 a4 n4 c4 i1 i2 i3 i4 i5 i6 i7 W (HI.out W hb)
  unfold ROwnRes at how
  dsimp only at how
  have x0 := (blkc e0).1 0
  have x1 := (blkc e0).1 1
  have x2 := (blkc e0).1 2
  have x3 := (blkc e0).1 3
  have x4 := (blkc e0).1 4
  have x5 := (blkc e0).1 5
  have x6 := (blkc e0).1 6
  have x7 := (blkc e0).1 7
  have x8 := (blkc e0).1 8
  have x9 := (blkc e0).1 9
  have x10 := (blkc e0).1 10
  clear e0 e1 hb0 h hl hp hc hm hX hlen
  go_enter Tryz.func14, Tryz.ntmps14
  go_wp2_with fail
  rw [← HP.out, ← HW0.out]
  refine (hck _ HB0.out).mono ?_
  rintro e w1 ⟨rfl, hb1⟩
  have hw1 := HB0.out.trans (hb1.mono HB0.out.size)
  go_wp2_with (first
    | (go_at_call 29; go_must (refine (hco _ hw1).mono ?_; rintro e w2 ⟨rfl, hb2⟩; have hw2 := hw1.trans (hb2.mono hw1.size); have hG2 := ((hb1.trans (hb2.mono hb1.size)).block _ (ob_ltB E0.out)).trans E0.out; have hQ2 := ((hb1.trans (hb2.mono hb1.size)).block _ (ob_ltB E1.out)).trans E1.out; clear x0 x1 x2 x3 x4 x5 x6 x7 x8 x9 x10; have x0 := (blkc hG2).1 0; have x1 := (blkc hG2).1 1; have x2 := (blkc hG2).1 2; have x3 := (blkc hG2).1 3; have x4 := (blkc hG2).1 4; have x5 := (blkc hG2).1 5; have x6 := (blkc hG2).1 6; have x7 := (blkc hG2).1 7; have x8 := (blkc hG2).1 8; have x9 := (blkc hG2).1 9; have x10 := (blkc hG2).1 10))
    | (go_at_call 31; go_must (refine (how _ hw2).mono ?_; rintro e w3 ⟨A1, C1, A2, C2, A3, C3, A4, C4, rfl, hro, hb3⟩; have hw3 := hw2.trans (hb3.mono hw2.size); have hG3 := (hb3.block _ (ob_ltB hG2)).trans hG2; have hQ3 := (hb3.block _ (ob_ltB hQ2)).trans hQ2; clear x0 x1 x2 x3 x4 x5 x6 x7 x8 x9 x10; have x0 := (blkc hG3).1 0; have f0 := (blkc hG3).2 0; have x1 := (blkc hG3).1 1; have f1 := (blkc hG3).2 1; have x2 := (blkc hG3).1 2; have f2 := (blkc hG3).2 2; have x3 := (blkc hG3).1 3; have f3 := (blkc hG3).2 3; have x4 := (blkc hG3).1 4; have f4 := (blkc hG3).2 4; have x5 := (blkc hG3).1 5; have f5 := (blkc hG3).2 5; have x6 := (blkc hG3).1 6; have f6 := (blkc hG3).2 6; have x7 := (blkc hG3).1 7; have f7 := (blkc hG3).2 7; have x8 := (blkc hG3).1 8; have f8 := (blkc hG3).2 8; have x9 := (blkc hG3).1 9; have f9 := (blkc hG3).2 9; have x10 := (blkc hG3).1 10; have f10 := (blkc hG3).2 10)))
  have G0 : (w3.setCell ⟨p, 0, none⟩ (.slice A1 n1 C1)).heap[p]? = some (.cells #[.slice A1 n1 C1, .slice a2 n2 c2, .slice a3 n3 c3, .slice a4 n4 c4, .int .i64 i1, .int .i64 i2, .int .i64 i3, .int .i64 i4, .int .i64 i5, .int .i64 i6, .int .i64 i7] 34 (0, 0)) := bput hG3 _ rfl
  have G1 : ((w3.setCell ⟨p, 0, none⟩ (.slice A1 n1 C1)).setCell ⟨p, 1, none⟩ (.slice A2 n2 C2)).heap[p]? = some (.cells #[.slice A1 n1 C1, .slice A2 n2 C2, .slice a3 n3 c3, .slice a4 n4 c4, .int .i64 i1, .int .i64 i2, .int .i64 i3, .int .i64 i4, .int .i64 i5, .int .i64 i6, .int .i64 i7] 34 (0, 0)) := bput G0 _ rfl
  have G2 : (((w3.setCell ⟨p, 0, none⟩ (.slice A1 n1 C1)).setCell ⟨p, 1, none⟩ (.slice A2 n2 C2)).setCell ⟨p, 2, none⟩ (.slice A3 n3 C3)).heap[p]? = some (.cells #[.slice A1 n1 C1, .slice A2 n2 C2, .slice A3 n3 C3, .slice a4 n4 c4, .int .i64 i1, .int .i64 i2, .int .i64 i3, .int .i64 i4, .int .i64 i5, .int .i64 i6, .int .i64 i7] 34 (0, 0)) := bput G1 _ rfl
  have G3 : ((((w3.setCell ⟨p, 0, none⟩ (.slice A1 n1 C1)).setCell ⟨p, 1, none⟩ (.slice A2 n2 C2)).setCell ⟨p, 2, none⟩ (.slice A3 n3 C3)).setCell ⟨p, 3, none⟩ (.slice A4 n4 C4)).heap[p]? = some (.cells #[.slice A1 n1 C1, .slice A2 n2 C2, .slice A3 n3 C3, .slice A4 n4 C4, .int .i64 i1, .int .i64 i2, .int .i64 i3, .int .i64 i4, .int .i64 i5, .int .i64 i6, .int .i64 i7] 34 (0, 0)) := bput G2 _ rfl
  have G4 : (((((w3.setCell ⟨p, 0, none⟩ (.slice A1 n1 C1)).setCell ⟨p, 1, none⟩ (.slice A2 n2 C2)).setCell ⟨p, 2, none⟩ (.slice A3 n3 C3)).setCell ⟨p, 3, none⟩ (.slice A4 n4 C4)).setCell ⟨p, 4, none⟩ (.int .i64 i1)).heap[p]? = some (.cells #[.slice A1 n1 C1, .slice A2 n2 C2, .slice A3 n3 C3, .slice A4 n4 C4, .int .i64 i1, .int .i64 i2, .int .i64 i3, .int .i64 i4, .int .i64 i5, .int .i64 i6, .int .i64 i7] 34 (0, 0)) := bput G3 _ rfl
  have G5 : ((((((w3.setCell ⟨p, 0, none⟩ (.slice A1 n1 C1)).setCell ⟨p, 1, none⟩ (.slice A2 n2 C2)).setCell ⟨p, 2, none⟩ (.slice A3 n3 C3)).setCell ⟨p, 3, none⟩ (.slice A4 n4 C4)).setCell ⟨p, 4, none⟩ (.int .i64 i1)).setCell ⟨p, 5, none⟩ (.int .i64 i2)).heap[p]? = some (.cells #[.slice A1 n1 C1, .slice A2 n2 C2, .slice A3 n3 C3, .slice A4 n4 C4, .int .i64 i1, .int .i64 i2, .int .i64 i3, .int .i64 i4, .int .i64 i5, .int .i64 i6, .int .i64 i7] 34 (0, 0)) := bput G4 _ rfl
  have G6 : (((((((w3.setCell ⟨p, 0, none⟩ (.slice A1 n1 C1)).setCell ⟨p, 1, none⟩ (.slice A2 n2 C2)).setCell ⟨p, 2, none⟩ (.slice A3 n3 C3)).setCell ⟨p, 3, none⟩ (.slice A4 n4 C4)).setCell ⟨p, 4, none⟩ (.int .i64 i1)).setCell ⟨p, 5, none⟩ (.int .i64 i2)).setCell ⟨p, 6, none⟩ (.int .i64 i3)).heap[p]? = some (.cells #[.slice A1 n1 C1, .slice A2 n2 C2, .slice A3 n3 C3, .slice A4 n4 C4, .int .i64 i1, .int .i64 i2, .int .i64 i3, .int .i64 i4, .int .i64 i5, .int .i64 i6, .int .i64 i7] 34 (0, 0)) := bput G5 _ rfl
  have G7 : ((((((((w3.setCell ⟨p, 0, none⟩ (.slice A1 n1 C1)).setCell ⟨p, 1, none⟩ (.slice A2 n2 C2)).setCell ⟨p, 2, none⟩ (.slice A3 n3 C3)).setCell ⟨p, 3, none⟩ (.slice A4 n4 C4)).setCell ⟨p, 4, none⟩ (.int .i64 i1)).setCell ⟨p, 5, none⟩ (.int .i64 i2)).setCell ⟨p, 6, none⟩ (.int .i64 i3)).setCell ⟨p, 7, none⟩ (.int .i64 i4)).heap[p]? = some (.cells #[.slice A1 n1 C1, .slice A2 n2 C2, .slice A3 n3 C3, .slice A4 n4 C4, .int .i64 i1, .int .i64 i2, .int .i64 i3, .int .i64 i4, .int .i64 i5, .int .i64 i6, .int .i64 i7] 34 (0, 0)) := bput G6 _ rfl
  have G8 : (((((((((w3.setCell ⟨p, 0, none⟩ (.slice A1 n1 C1)).setCell ⟨p, 1, none⟩ (.slice A2 n2 C2)).setCell ⟨p, 2, none⟩ (.slice A3 n3 C3)).setCell ⟨p, 3, none⟩ (.slice A4 n4 C4)).setCell ⟨p, 4, none⟩ (.int .i64 i1)).setCell ⟨p, 5, none⟩ (.int .i64 i2)).setCell ⟨p, 6, none⟩ (.int .i64 i3)).setCell ⟨p, 7, none⟩ (.int .i64 i4)).setCell ⟨p, 8, none⟩ (.int .i64 i5)).heap[p]? = some (.cells #[.slice A1 n1 C1, .slice A2 n2 C2, .slice A3 n3 C3, .slice A4 n4 C4, .int .i64 i1, .int .i64 i2, .int .i64 i3, .int .i64 i4, .int .i64 i5, .int .i64 i6, .int .i64 i7] 34 (0, 0)) := bput G7 _ rfl
  have G9 : ((((((((((w3.setCell ⟨p, 0, none⟩ (.slice A1 n1 C1)).setCell ⟨p, 1, none⟩ (.slice A2 n2 C2)).setCell ⟨p, 2, none⟩ (.slice A3 n3 C3)).setCell ⟨p, 3, none⟩ (.slice A4 n4 C4)).setCell ⟨p, 4, none⟩ (.int .i64 i1)).setCell ⟨p, 5, none⟩ (.int .i64 i2)).setCell ⟨p, 6, none⟩ (.int .i64 i3)).setCell ⟨p, 7, none⟩ (.int .i64 i4)).setCell ⟨p, 8, none⟩ (.int .i64 i5)).setCell ⟨p, 9, none⟩ (.int .i64 i6)).heap[p]? = some (.cells #[.slice A1 n1 C1, .slice A2 n2 C2, .slice A3 n3 C3, .slice A4 n4 C4, .int .i64 i1, .int .i64 i2, .int .i64 i3, .int .i64 i4, .int .i64 i5, .int .i64 i6, .int .i64 i7] 34 (0, 0)) := bput G8 _ rfl
  have G10 : (((((((((((w3.setCell ⟨p, 0, none⟩ (.slice A1 n1 C1)).setCell ⟨p, 1, none⟩ (.slice A2 n2 C2)).setCell ⟨p, 2, none⟩ (.slice A3 n3 C3)).setCell ⟨p, 3, none⟩ (.slice A4 n4 C4)).setCell ⟨p, 4, none⟩ (.int .i64 i1)).setCell ⟨p, 5, none⟩ (.int .i64 i2)).setCell ⟨p, 6, none⟩ (.int .i64 i3)).setCell ⟨p, 7, none⟩ (.int .i64 i4)).setCell ⟨p, 8, none⟩ (.int .i64 i5)).setCell ⟨p, 9, none⟩ (.int .i64 i6)).setCell ⟨p, 10, none⟩ (.int .i64 i7)).heap[p]? = some (.cells #[.slice A1 n1 C1, .slice A2 n2 C2, .slice A3 n3 C3, .slice A4 n4 C4, .int .i64 i1, .int .i64 i2, .int .i64 i3, .int .i64 i4, .int .i64 i5, .int .i64 i6, .int .i64 i7] 34 (0, 0)) := bput G9 _ rfl
  have hgr : w3.grownBy (((((((((((w3.setCell ⟨p, 0, none⟩ (.slice A1 n1 C1)).setCell ⟨p, 1, none⟩ (.slice A2 n2 C2)).setCell ⟨p, 2, none⟩ (.slice A3 n3 C3)).setCell ⟨p, 3, none⟩ (.slice A4 n4 C4)).setCell ⟨p, 4, none⟩ (.int .i64 i1)).setCell ⟨p, 5, none⟩ (.int .i64 i2)).setCell ⟨p, 6, none⟩ (.int .i64 i3)).setCell ⟨p, 7, none⟩ (.int .i64 i4)).setCell ⟨p, 8, none⟩ (.int .i64 i5)).setCell ⟨p, 9, none⟩ (.int .i64 i6)).setCell ⟨p, 10, none⟩ (.int .i64 i7)) (some p) := turned_setL p [.slice A1 n1 C1, .slice A2 n2 C2, .slice A3 n3 C3, .slice A4 n4 C4, .int .i64 i1, .int .i64 i2, .int .i64 i3, .int .i64 i4, .int .i64 i5, .int .i64 i6, .int .i64 i7] 0 w3
  have hBw2 : w.heap.size ≤ w2.heap.size := hw2.size
  have hro3 : ROwn w.heap.size w3 A1 n1 C1 A2 n2 C2 A3 n3 C3 A4 n4 C4 ⟨s, ms, ts, ks, i1, i2, i3, i4, i5, i6, i7⟩ := ⟨lowns_base hro.o1 hBw2, lowns_base hro.o2 hBw2, lowns_base hro.o3 hBw2, lowns_base hro.o4 hBw2⟩
  have hro4 := hro3.other hG3 hgr
  have hb4 := below_grownB hw3 hgr hw3.size (fun q hq => by cases hq; have := HP.out; omega)
  have hQ4 := (hgr.block _ (ob_ltB hQ3) (fun e => hpp (Option.some.inj e))).trans hQ3
  have G10' := G10
  clear x0 x1 x2 x3 x4 x5 x6 x7 x8 x9 x10 f0 f1 f2 f3 f4 f5 f6 f7 f8 f9 f10 hgr G0 G1 G2 G3 G4 G5 G6 G7 G8 G9 G10 hG3 hQ3 hG2 hQ2 hro hro3
  generalize (((((((((((w3.setCell ⟨p, 0, none⟩ (.slice A1 n1 C1)).setCell ⟨p, 1, none⟩ (.slice A2 n2 C2)).setCell ⟨p, 2, none⟩ (.slice A3 n3 C3)).setCell ⟨p, 3, none⟩ (.slice A4 n4 C4)).setCell ⟨p, 4, none⟩ (.int .i64 i1)).setCell ⟨p, 5, none⟩ (.int .i64 i2)).setCell ⟨p, 6, none⟩ (.int .i64 i3)).setCell ⟨p, 7, none⟩ (.int .i64 i4)).setCell ⟨p, 8, none⟩ (.int .i64 i5)).setCell ⟨p, 9, none⟩ (.int .i64 i6)).setCell ⟨p, 10, none⟩ (.int .i64 i7)) = V at *
  have hlo : w.heap.size ≤ p := Nat.le_of_eq HP.out.symm
  have hst0 : RSt w.heap.size p V ⟨s, ms, ts, ks, i1, i2, i3, i4, i5, i6, i7⟩ A1 n1 C1 A2 n2 C2 A3 n3 C3 A4 n4 C4 := ⟨G10', hro4, hlo⟩
  have HRV : Hid (RHas w.heap.size p V ⟨s, ms, ts, ks, i1, i2, i3, i4, i5, i6, i7⟩) := (⟨A1, n1, C1, A2, n2, C2, A3, n3, C3, A4, n4, C4, hst0⟩ : RHas w.heap.size p V ⟨s, ms, ts, ks, i1, i2, i3, i4, i5, i6, i7⟩)
  clear hst0
  have HQV : Hid (V.heap[p + 1]? = some (.cells #[.slice none 0 0, .slice none 0 0, .slice none 0 0, .slice none 0 0, .int .i64 0, .int .i64 0, .int .i64 0, .int .i64 0, .int .i64 0, .int .i64 0, .int .i64 0] 34 (0, 0))) := hQ4
  have HBV : Hid (Below w.heap.size w V) := hb4
  clear G10' hro4 hQ4 hb4 hb3 hb2 hb1 hw1 hw2 hw3 hco hck how hBw2 E0 E1 HI HB0 HW0
  go_loopw [7, 20] (fun _ iv wr => ∃ (k : Nat) (x : Ro.R), k ≤ len ∧ iv = .int .i64 k ∧ Hid (Ro.turns ⟨s, ms, ts, ks, i1, i2, i3, i4, i5, i6, i7⟩ (l.take k) = some x) ∧ Hid (Ro.Inv x k) ∧ Hid (RHas w.heap.size p wr x) ∧ Hid (wr.heap[p + 1]? = some (.cells #[.slice none 0 0, .slice none 0 0, .slice none 0 0, .slice none 0 0, .int .i64 0, .int .i64 0, .int .i64 0, .int .i64 0, .int .i64 0, .int .i64 0, .int .i64 0] 34 (0, 0))) ∧ Hid (Below w.heap.size w wr)) (fun _ iv _ => len - (intOf iv).toNat)
  case atStart => exact ⟨0, ⟨s, ms, ts, ks, i1, i2, i3, i4, i5, i6, i7⟩, by omega, rfl, (rfl : _ = _), HI0, HRV, HQV, HBV⟩
  case round =>
    obtain ⟨k, x, hk, rfl, HT, HIx, HR, HQ, HB⟩ := hrel
    clear HRV HQV HBV HI0
    by_cases hlt : k < len
    · obtain ⟨Bk, O, k9, n9, i9, t9, a9, b9, c9, p9, q9, r9, f9, g9, rfl, hx, m0, m1, m2, m3, m4, m5, m6, m7, m8, m9, m10, m11⟩ := eget HL.out HB.out hlt
      have hk' : k < l.length := by rw [hll.out]; exact hlt
      have hme := HM.out _ (emem hk')
      rw [hx.out] at hme
      have HTK : Hid (Ro.turns ⟨s, ms, ts, ks, i1, i2, i3, i4, i5, i6, i7⟩ (l.take (k + 1)) = Ro.turn x ⟨k9, n9, i9, t9, a9, b9, c9, ⟨p9, q9, r9, f9, g9⟩⟩) := (by rw [etake hk', Ro.turns_snoc, HT.out, Option.bind_some, hx.out] : _ = _)
      have hi0 : (0 : Int) ≤ (k : Int) := by omega
      have hi1 : (k : Int) < (len : Int) := by omega
      have hU : Below wr.heap.size wr (wr.alloc (oed k9 n9 i9 t9 a9 b9 c9 p9 q9 r9 f9 g9)) := below_alloc _ _
      obtain ⟨A1, N1, C1, A2, N2, C2, A3, N3, C3, A4, N4, C4, hSt⟩ := HR.out.below hU
      have hBU : w.heap.size ≤ (wr.alloc (oed k9 n9 i9 t9 a9 b9 c9 p9 q9 r9 f9 g9)).heap.size := Nat.le_trans HB.out.size hU.size
      have hdo := rdo_any w.heap.size p x A1 N1 C1 A2 N2 C2 A3 N3 C3 A4 N4 C4 _ hSt hBU k (by omega) HIx.out k9 n9 i9 t9 a9 b9 c9 p9 q9 r9 f9 g9 hme
      unfold DoRes at hdo
      have HQU := (hU.block _ (ob_ltB HQ.out)).trans HQ.out
      have HBU : Hid (Below w.heap.size w (wr.alloc (oed k9 n9 i9 t9 a9 b9 c9 p9 q9 r9 f9 g9))) := (HB.out.trans (hU.mono HB.out.size) : Below _ _ _)
      have HQU2 : Hid ((wr.alloc (oed k9 n9 i9 t9 a9 b9 c9 p9 q9 r9 f9 g9)).heap[p + 1]? = some (.cells #[.slice none 0 0, .slice none 0 0, .slice none 0 0, .slice none 0 0, .int .i64 0, .int .i64 0, .int .i64 0, .int .i64 0, .int .i64 0, .int .i64 0, .int .i64 0] 34 (0, 0))) := HQU
      have HTI : Hid (∀ y, Ro.turn x ⟨k9, n9, i9, t9, a9, b9, c9, ⟨p9, q9, r9, f9, g9⟩⟩ = some y → Ro.Inv y (k + 1)) := (fun y hy => Ro.turn_inv HIx.out hy : ∀ y, _ → _)
      have HNO : Hid (Ro.turn x ⟨k9, n9, i9, t9, a9, b9, c9, ⟨p9, q9, r9, f9, g9⟩⟩ = none → X = Ro.zero ∧ ERR = 11) := (fun hn => by
        have h2 := Ro.turns_none _ (l.drop (k + 1)) _ (HTK.out.trans hn)
        rw [List.take_append_drop] at h2
        have h3 := HX.out
        unfold Ro.fin at h3
        rw [h2] at h3
        exact ⟨(Prod.mk.inj h3).1, (Prod.mk.inj h3).2⟩ : _ → _)
      clear hx hme HQU hSt HR HIx hBU hU
      cases ht : Ro.turn x ⟨k9, n9, i9, t9, a9, b9, c9, ⟨p9, q9, r9, f9, g9⟩⟩ with
      | none =>
        obtain ⟨rfl, rfl⟩ := HNO.out ht
        rw [ht] at hdo
        dsimp only [Option.isSome_none, Option.getD_none] at hdo
        clear ht HTK HTI HNO
        go_wp2_with (go_at_call 32; go_must (refine hdo.mono ?_; rintro e w6 ⟨rfl, _, hb6, hk6⟩; have hw6 := HBU.out.trans hb6; have hQ6 := hk6 _ _ _ hpp HQU2.out; have y0 := (blkc hQ6).1 0; have z0 := (blkc hQ6).2 0; have y1 := (blkc hQ6).1 1; have z1 := (blkc hQ6).2 1; have y2 := (blkc hQ6).1 2; have z2 := (blkc hQ6).2 2; have y3 := (blkc hQ6).1 3; have z3 := (blkc hQ6).2 3; have y4 := (blkc hQ6).1 4; have z4 := (blkc hQ6).2 4; have y5 := (blkc hQ6).1 5; have z5 := (blkc hQ6).2 5; have y6 := (blkc hQ6).1 6; have z6 := (blkc hQ6).2 6; have y7 := (blkc hQ6).1 7; have z7 := (blkc hQ6).2 7; have y8 := (blkc hQ6).1 8; have z8 := (blkc hQ6).2 8; have y9 := (blkc hQ6).1 9; have z9 := (blkc hQ6).2 9; have y10 := (blkc hQ6).1 10; have z10 := (blkc hQ6).2 10))
        have B0 : (w6.setCell ⟨p + 1, 0, none⟩ (.slice none 0 0)).heap[p + 1]? = some (.cells #[.slice none 0 0, .slice none 0 0, .slice none 0 0, .slice none 0 0, .int .i64 0, .int .i64 0, .int .i64 0, .int .i64 0, .int .i64 0, .int .i64 0, .int .i64 0] 34 (0, 0)) := bput hQ6 _ rfl
        have B1 : ((w6.setCell ⟨p + 1, 0, none⟩ (.slice none 0 0)).setCell ⟨p + 1, 1, none⟩ (.slice none 0 0)).heap[p + 1]? = some (.cells #[.slice none 0 0, .slice none 0 0, .slice none 0 0, .slice none 0 0, .int .i64 0, .int .i64 0, .int .i64 0, .int .i64 0, .int .i64 0, .int .i64 0, .int .i64 0] 34 (0, 0)) := bput B0 _ rfl
        have B2 : (((w6.setCell ⟨p + 1, 0, none⟩ (.slice none 0 0)).setCell ⟨p + 1, 1, none⟩ (.slice none 0 0)).setCell ⟨p + 1, 2, none⟩ (.slice none 0 0)).heap[p + 1]? = some (.cells #[.slice none 0 0, .slice none 0 0, .slice none 0 0, .slice none 0 0, .int .i64 0, .int .i64 0, .int .i64 0, .int .i64 0, .int .i64 0, .int .i64 0, .int .i64 0] 34 (0, 0)) := bput B1 _ rfl
        have B3 : ((((w6.setCell ⟨p + 1, 0, none⟩ (.slice none 0 0)).setCell ⟨p + 1, 1, none⟩ (.slice none 0 0)).setCell ⟨p + 1, 2, none⟩ (.slice none 0 0)).setCell ⟨p + 1, 3, none⟩ (.slice none 0 0)).heap[p + 1]? = some (.cells #[.slice none 0 0, .slice none 0 0, .slice none 0 0, .slice none 0 0, .int .i64 0, .int .i64 0, .int .i64 0, .int .i64 0, .int .i64 0, .int .i64 0, .int .i64 0] 34 (0, 0)) := bput B2 _ rfl
        have B4 : (((((w6.setCell ⟨p + 1, 0, none⟩ (.slice none 0 0)).setCell ⟨p + 1, 1, none⟩ (.slice none 0 0)).setCell ⟨p + 1, 2, none⟩ (.slice none 0 0)).setCell ⟨p + 1, 3, none⟩ (.slice none 0 0)).setCell ⟨p + 1, 4, none⟩ (.int .i64 0)).heap[p + 1]? = some (.cells #[.slice none 0 0, .slice none 0 0, .slice none 0 0, .slice none 0 0, .int .i64 0, .int .i64 0, .int .i64 0, .int .i64 0, .int .i64 0, .int .i64 0, .int .i64 0] 34 (0, 0)) := bput B3 _ rfl
        have B5 : ((((((w6.setCell ⟨p + 1, 0, none⟩ (.slice none 0 0)).setCell ⟨p + 1, 1, none⟩ (.slice none 0 0)).setCell ⟨p + 1, 2, none⟩ (.slice none 0 0)).setCell ⟨p + 1, 3, none⟩ (.slice none 0 0)).setCell ⟨p + 1, 4, none⟩ (.int .i64 0)).setCell ⟨p + 1, 5, none⟩ (.int .i64 0)).heap[p + 1]? = some (.cells #[.slice none 0 0, .slice none 0 0, .slice none 0 0, .slice none 0 0, .int .i64 0, .int .i64 0, .int .i64 0, .int .i64 0, .int .i64 0, .int .i64 0, .int .i64 0] 34 (0, 0)) := bput B4 _ rfl
        have B6 : (((((((w6.setCell ⟨p + 1, 0, none⟩ (.slice none 0 0)).setCell ⟨p + 1, 1, none⟩ (.slice none 0 0)).setCell ⟨p + 1, 2, none⟩ (.slice none 0 0)).setCell ⟨p + 1, 3, none⟩ (.slice none 0 0)).setCell ⟨p + 1, 4, none⟩ (.int .i64 0)).setCell ⟨p + 1, 5, none⟩ (.int .i64 0)).setCell ⟨p + 1, 6, none⟩ (.int .i64 0)).heap[p + 1]? = some (.cells #[.slice none 0 0, .slice none 0 0, .slice none 0 0, .slice none 0 0, .int .i64 0, .int .i64 0, .int .i64 0, .int .i64 0, .int .i64 0, .int .i64 0, .int .i64 0] 34 (0, 0)) := bput B5 _ rfl
        have B7 : ((((((((w6.setCell ⟨p + 1, 0, none⟩ (.slice none 0 0)).setCell ⟨p + 1, 1, none⟩ (.slice none 0 0)).setCell ⟨p + 1, 2, none⟩ (.slice none 0 0)).setCell ⟨p + 1, 3, none⟩ (.slice none 0 0)).setCell ⟨p + 1, 4, none⟩ (.int .i64 0)).setCell ⟨p + 1, 5, none⟩ (.int .i64 0)).setCell ⟨p + 1, 6, none⟩ (.int .i64 0)).setCell ⟨p + 1, 7, none⟩ (.int .i64 0)).heap[p + 1]? = some (.cells #[.slice none 0 0, .slice none 0 0, .slice none 0 0, .slice none 0 0, .int .i64 0, .int .i64 0, .int .i64 0, .int .i64 0, .int .i64 0, .int .i64 0, .int .i64 0] 34 (0, 0)) := bput B6 _ rfl
        have B8 : (((((((((w6.setCell ⟨p + 1, 0, none⟩ (.slice none 0 0)).setCell ⟨p + 1, 1, none⟩ (.slice none 0 0)).setCell ⟨p + 1, 2, none⟩ (.slice none 0 0)).setCell ⟨p + 1, 3, none⟩ (.slice none 0 0)).setCell ⟨p + 1, 4, none⟩ (.int .i64 0)).setCell ⟨p + 1, 5, none⟩ (.int .i64 0)).setCell ⟨p + 1, 6, none⟩ (.int .i64 0)).setCell ⟨p + 1, 7, none⟩ (.int .i64 0)).setCell ⟨p + 1, 8, none⟩ (.int .i64 0)).heap[p + 1]? = some (.cells #[.slice none 0 0, .slice none 0 0, .slice none 0 0, .slice none 0 0, .int .i64 0, .int .i64 0, .int .i64 0, .int .i64 0, .int .i64 0, .int .i64 0, .int .i64 0] 34 (0, 0)) := bput B7 _ rfl
        have B9 : ((((((((((w6.setCell ⟨p + 1, 0, none⟩ (.slice none 0 0)).setCell ⟨p + 1, 1, none⟩ (.slice none 0 0)).setCell ⟨p + 1, 2, none⟩ (.slice none 0 0)).setCell ⟨p + 1, 3, none⟩ (.slice none 0 0)).setCell ⟨p + 1, 4, none⟩ (.int .i64 0)).setCell ⟨p + 1, 5, none⟩ (.int .i64 0)).setCell ⟨p + 1, 6, none⟩ (.int .i64 0)).setCell ⟨p + 1, 7, none⟩ (.int .i64 0)).setCell ⟨p + 1, 8, none⟩ (.int .i64 0)).setCell ⟨p + 1, 9, none⟩ (.int .i64 0)).heap[p + 1]? = some (.cells #[.slice none 0 0, .slice none 0 0, .slice none 0 0, .slice none 0 0, .int .i64 0, .int .i64 0, .int .i64 0, .int .i64 0, .int .i64 0, .int .i64 0, .int .i64 0] 34 (0, 0)) := bput B8 _ rfl
        have B10 : (((((((((((w6.setCell ⟨p + 1, 0, none⟩ (.slice none 0 0)).setCell ⟨p + 1, 1, none⟩ (.slice none 0 0)).setCell ⟨p + 1, 2, none⟩ (.slice none 0 0)).setCell ⟨p + 1, 3, none⟩ (.slice none 0 0)).setCell ⟨p + 1, 4, none⟩ (.int .i64 0)).setCell ⟨p + 1, 5, none⟩ (.int .i64 0)).setCell ⟨p + 1, 6, none⟩ (.int .i64 0)).setCell ⟨p + 1, 7, none⟩ (.int .i64 0)).setCell ⟨p + 1, 8, none⟩ (.int .i64 0)).setCell ⟨p + 1, 9, none⟩ (.int .i64 0)).setCell ⟨p + 1, 10, none⟩ (.int .i64 0)).heap[p + 1]? = some (.cells #[.slice none 0 0, .slice none 0 0, .slice none 0 0, .slice none 0 0, .int .i64 0, .int .i64 0, .int .i64 0, .int .i64 0, .int .i64 0, .int .i64 0, .int .i64 0] 34 (0, 0)) := bput B9 _ rfl
        have hgr : w6.grownBy _ (some (p + 1)) := turned_setL (p + 1) [.slice none 0 0, .slice none 0 0, .slice none 0 0, .slice none 0 0, .int .i64 0, .int .i64 0, .int .i64 0, .int .i64 0, .int .i64 0, .int .i64 0, .int .i64 0] 0 w6
        have hbF := below_grownB hw6 hgr hw6.size (fun q hq => by cases hq; have := HP.out; omega)
        have d0 := (blkc B10).1 0
        have d1 := (blkc B10).1 1
        have d2 := (blkc B10).1 2
        have d3 := (blkc B10).1 3
        have d4 := (blkc B10).1 4
        have d5 := (blkc B10).1 5
        have d6 := (blkc B10).1 6
        have d7 := (blkc B10).1 7
        have d8 := (blkc B10).1 8
        have d9 := (blkc B10).1 9
        have d10 := (blkc B10).1 10
        refine bodyPost_ret (v := .tuple #[.agg #[.slice none 0 0, .slice none 0 0, .slice none 0 0, .slice none 0 0, .int .i64 0, .int .i64 0, .int .i64 0, .int .i64 0, .int .i64 0, .int .i64 0, .int .i64 0], .int .i64 11]) (by simp [results, Tryz.results14, go_sem, d0, d1, d2, d3, d4, d5, d6, d7, d8, d9, d10]) rfl ⟨none, 0, 0, none, 0, 0, none, 0, 0, none, 0, 0, rfl, rown_zero _ _, hbF⟩
      | some y =>
        rw [ht] at hdo
        dsimp only [Option.isSome_some, Option.getD_some] at hdo
        have HTY : Hid (Ro.turns ⟨s, ms, ts, ks, i1, i2, i3, i4, i5, i6, i7⟩ (l.take (k + 1)) = some y) := (HTK.out.trans ht : _ = _)
        have HIY : Hid (Ro.Inv y (k + 1)) := HTI.out y ht
        clear ht HTK HTI HNO
        go_wp2_with (go_at_call 32; go_must (refine hdo.mono ?_; rintro e w6 ⟨rfl, hR6, hb6, hk6⟩; have hw6 : Hid (Below w.heap.size w w6) := (HBU.out.trans hb6 : Below _ _ _); have hQ6 : Hid (w6.heap[p + 1]? = some (.cells #[.slice none 0 0, .slice none 0 0, .slice none 0 0, .slice none 0 0, .int .i64 0, .int .i64 0, .int .i64 0, .int .i64 0, .int .i64 0, .int .i64 0, .int .i64 0] 34 (0, 0))) := (hk6 _ _ _ hpp HQU2.out : _ = _); have HR6 : Hid (RHas w.heap.size p w6 y) := hR6 rfl; clear hR6))
        go_roundw
        case rel => exact ⟨k + 1, y, by omega, by go_num, HTY, HIY, HR6, hQ6, hw6⟩
        case measure => simp [intOf]; omega
    · obtain rfl : k = len := by omega
      have HTE : Hid (Ro.turns ⟨s, ms, ts, ks, i1, i2, i3, i4, i5, i6, i7⟩ l = some x) := (by have := HT.out; rwa [List.take_of_length_le (by rw [hll.out]; exact Nat.le_refl _)] at this : _ = _)
      obtain ⟨A1, N1, C1, A2, N2, C2, A3, N3, C3, A4, N4, C4, hSt⟩ := HR.out
      obtain ⟨l1, l2, l3, l4⟩ := hSt.own.len
      have b1 := HIx.out.l1; have b2 := HIx.out.l2; have b3 := HIx.out.l3; have b4 := HIx.out.l4
      have hcc : N3 ≤ C3 := by
        obtain ⟨_, _, e3, _, hc3⟩ := t_shape hSt.own.o3
        simp only [Value.slice.injEq] at e3
        omega
      have hck := fun R hR => rcheck_any x A1 N1 C1 A2 N2 C2 A3 N3 C3 A4 N4 C4 wr (by omega) (by omega) (by omega) hcc (trow_of_owns zeE hSt.own.o1 (by omega) (by omega)) (trow_of_owns meE hSt.own.o2 (by omega) (by omega)) (trow_of_owns leE hSt.own.o3 (by omega) (by omega)) (trow_of_owns keE hSt.own.o4 (by omega) (by omega)) R hR
      have hfx : (X, ERR) = if Ro.check x then (x, 0) else (Ro.zero, 11) := by have h3 := HX.out; unfold Ro.fin at h3; rw [HTE.out] at h3; exact h3
      have x0 := (blkc hSt.box).1 0
      have x1 := (blkc hSt.box).1 1
      have x2 := (blkc hSt.box).1 2
      have x3 := (blkc hSt.box).1 3
      have x4 := (blkc hSt.box).1 4
      have x5 := (blkc hSt.box).1 5
      have x6 := (blkc hSt.box).1 6
      have x7 := (blkc hSt.box).1 7
      have x8 := (blkc hSt.box).1 8
      have x9 := (blkc hSt.box).1 9
      have x10 := (blkc hSt.box).1 10
      have HST : Hid (RSt w.heap.size p wr x A1 N1 C1 A2 N2 C2 A3 N3 C3 A4 N4 C4) := hSt
      clear hSt l1 l2 l3 l4 b1 b2 b3 b4 hcc HT HTE HX HR HIx
      cases hz : Ro.check x with
      | false =>
        rw [hz] at hfx
        obtain ⟨rfl, rfl⟩ := Prod.mk.inj hfx
        have hc1 := hck 1 (by rw [hz]; rfl)
        clear hz hck hfx
        go_wp2_with (go_at_call 28; go_must (refine hc1.mono ?_; rintro e w6 ⟨rfl, hb6⟩; have hw6 := HB.out.trans (hb6.mono HB.out.size); have hQ6 := (hb6.block _ (ob_ltB HQ.out)).trans HQ.out; clear x0 x1 x2 x3 x4 x5 x6 x7 x8 x9 x10; have y0 := (blkc hQ6).1 0; have z0 := (blkc hQ6).2 0; have y1 := (blkc hQ6).1 1; have z1 := (blkc hQ6).2 1; have y2 := (blkc hQ6).1 2; have z2 := (blkc hQ6).2 2; have y3 := (blkc hQ6).1 3; have z3 := (blkc hQ6).2 3; have y4 := (blkc hQ6).1 4; have z4 := (blkc hQ6).2 4; have y5 := (blkc hQ6).1 5; have z5 := (blkc hQ6).2 5; have y6 := (blkc hQ6).1 6; have z6 := (blkc hQ6).2 6; have y7 := (blkc hQ6).1 7; have z7 := (blkc hQ6).2 7; have y8 := (blkc hQ6).1 8; have z8 := (blkc hQ6).2 8; have y9 := (blkc hQ6).1 9; have z9 := (blkc hQ6).2 9; have y10 := (blkc hQ6).1 10; have z10 := (blkc hQ6).2 10))
        have B0 : (w6.setCell ⟨p + 1, 0, none⟩ (.slice none 0 0)).heap[p + 1]? = some (.cells #[.slice none 0 0, .slice none 0 0, .slice none 0 0, .slice none 0 0, .int .i64 0, .int .i64 0, .int .i64 0, .int .i64 0, .int .i64 0, .int .i64 0, .int .i64 0] 34 (0, 0)) := bput hQ6 _ rfl
        have B1 : ((w6.setCell ⟨p + 1, 0, none⟩ (.slice none 0 0)).setCell ⟨p + 1, 1, none⟩ (.slice none 0 0)).heap[p + 1]? = some (.cells #[.slice none 0 0, .slice none 0 0, .slice none 0 0, .slice none 0 0, .int .i64 0, .int .i64 0, .int .i64 0, .int .i64 0, .int .i64 0, .int .i64 0, .int .i64 0] 34 (0, 0)) := bput B0 _ rfl
        have B2 : (((w6.setCell ⟨p + 1, 0, none⟩ (.slice none 0 0)).setCell ⟨p + 1, 1, none⟩ (.slice none 0 0)).setCell ⟨p + 1, 2, none⟩ (.slice none 0 0)).heap[p + 1]? = some (.cells #[.slice none 0 0, .slice none 0 0, .slice none 0 0, .slice none 0 0, .int .i64 0, .int .i64 0, .int .i64 0, .int .i64 0, .int .i64 0, .int .i64 0, .int .i64 0] 34 (0, 0)) := bput B1 _ rfl
        have B3 : ((((w6.setCell ⟨p + 1, 0, none⟩ (.slice none 0 0)).setCell ⟨p + 1, 1, none⟩ (.slice none 0 0)).setCell ⟨p + 1, 2, none⟩ (.slice none 0 0)).setCell ⟨p + 1, 3, none⟩ (.slice none 0 0)).heap[p + 1]? = some (.cells #[.slice none 0 0, .slice none 0 0, .slice none 0 0, .slice none 0 0, .int .i64 0, .int .i64 0, .int .i64 0, .int .i64 0, .int .i64 0, .int .i64 0, .int .i64 0] 34 (0, 0)) := bput B2 _ rfl
        have B4 : (((((w6.setCell ⟨p + 1, 0, none⟩ (.slice none 0 0)).setCell ⟨p + 1, 1, none⟩ (.slice none 0 0)).setCell ⟨p + 1, 2, none⟩ (.slice none 0 0)).setCell ⟨p + 1, 3, none⟩ (.slice none 0 0)).setCell ⟨p + 1, 4, none⟩ (.int .i64 0)).heap[p + 1]? = some (.cells #[.slice none 0 0, .slice none 0 0, .slice none 0 0, .slice none 0 0, .int .i64 0, .int .i64 0, .int .i64 0, .int .i64 0, .int .i64 0, .int .i64 0, .int .i64 0] 34 (0, 0)) := bput B3 _ rfl
        have B5 : ((((((w6.setCell ⟨p + 1, 0, none⟩ (.slice none 0 0)).setCell ⟨p + 1, 1, none⟩ (.slice none 0 0)).setCell ⟨p + 1, 2, none⟩ (.slice none 0 0)).setCell ⟨p + 1, 3, none⟩ (.slice none 0 0)).setCell ⟨p + 1, 4, none⟩ (.int .i64 0)).setCell ⟨p + 1, 5, none⟩ (.int .i64 0)).heap[p + 1]? = some (.cells #[.slice none 0 0, .slice none 0 0, .slice none 0 0, .slice none 0 0, .int .i64 0, .int .i64 0, .int .i64 0, .int .i64 0, .int .i64 0, .int .i64 0, .int .i64 0] 34 (0, 0)) := bput B4 _ rfl
        have B6 : (((((((w6.setCell ⟨p + 1, 0, none⟩ (.slice none 0 0)).setCell ⟨p + 1, 1, none⟩ (.slice none 0 0)).setCell ⟨p + 1, 2, none⟩ (.slice none 0 0)).setCell ⟨p + 1, 3, none⟩ (.slice none 0 0)).setCell ⟨p + 1, 4, none⟩ (.int .i64 0)).setCell ⟨p + 1, 5, none⟩ (.int .i64 0)).setCell ⟨p + 1, 6, none⟩ (.int .i64 0)).heap[p + 1]? = some (.cells #[.slice none 0 0, .slice none 0 0, .slice none 0 0, .slice none 0 0, .int .i64 0, .int .i64 0, .int .i64 0, .int .i64 0, .int .i64 0, .int .i64 0, .int .i64 0] 34 (0, 0)) := bput B5 _ rfl
        have B7 : ((((((((w6.setCell ⟨p + 1, 0, none⟩ (.slice none 0 0)).setCell ⟨p + 1, 1, none⟩ (.slice none 0 0)).setCell ⟨p + 1, 2, none⟩ (.slice none 0 0)).setCell ⟨p + 1, 3, none⟩ (.slice none 0 0)).setCell ⟨p + 1, 4, none⟩ (.int .i64 0)).setCell ⟨p + 1, 5, none⟩ (.int .i64 0)).setCell ⟨p + 1, 6, none⟩ (.int .i64 0)).setCell ⟨p + 1, 7, none⟩ (.int .i64 0)).heap[p + 1]? = some (.cells #[.slice none 0 0, .slice none 0 0, .slice none 0 0, .slice none 0 0, .int .i64 0, .int .i64 0, .int .i64 0, .int .i64 0, .int .i64 0, .int .i64 0, .int .i64 0] 34 (0, 0)) := bput B6 _ rfl
        have B8 : (((((((((w6.setCell ⟨p + 1, 0, none⟩ (.slice none 0 0)).setCell ⟨p + 1, 1, none⟩ (.slice none 0 0)).setCell ⟨p + 1, 2, none⟩ (.slice none 0 0)).setCell ⟨p + 1, 3, none⟩ (.slice none 0 0)).setCell ⟨p + 1, 4, none⟩ (.int .i64 0)).setCell ⟨p + 1, 5, none⟩ (.int .i64 0)).setCell ⟨p + 1, 6, none⟩ (.int .i64 0)).setCell ⟨p + 1, 7, none⟩ (.int .i64 0)).setCell ⟨p + 1, 8, none⟩ (.int .i64 0)).heap[p + 1]? = some (.cells #[.slice none 0 0, .slice none 0 0, .slice none 0 0, .slice none 0 0, .int .i64 0, .int .i64 0, .int .i64 0, .int .i64 0, .int .i64 0, .int .i64 0, .int .i64 0] 34 (0, 0)) := bput B7 _ rfl
        have B9 : ((((((((((w6.setCell ⟨p + 1, 0, none⟩ (.slice none 0 0)).setCell ⟨p + 1, 1, none⟩ (.slice none 0 0)).setCell ⟨p + 1, 2, none⟩ (.slice none 0 0)).setCell ⟨p + 1, 3, none⟩ (.slice none 0 0)).setCell ⟨p + 1, 4, none⟩ (.int .i64 0)).setCell ⟨p + 1, 5, none⟩ (.int .i64 0)).setCell ⟨p + 1, 6, none⟩ (.int .i64 0)).setCell ⟨p + 1, 7, none⟩ (.int .i64 0)).setCell ⟨p + 1, 8, none⟩ (.int .i64 0)).setCell ⟨p + 1, 9, none⟩ (.int .i64 0)).heap[p + 1]? = some (.cells #[.slice none 0 0, .slice none 0 0, .slice none 0 0, .slice none 0 0, .int .i64 0, .int .i64 0, .int .i64 0, .int .i64 0, .int .i64 0, .int .i64 0, .int .i64 0] 34 (0, 0)) := bput B8 _ rfl
        have B10 : (((((((((((w6.setCell ⟨p + 1, 0, none⟩ (.slice none 0 0)).setCell ⟨p + 1, 1, none⟩ (.slice none 0 0)).setCell ⟨p + 1, 2, none⟩ (.slice none 0 0)).setCell ⟨p + 1, 3, none⟩ (.slice none 0 0)).setCell ⟨p + 1, 4, none⟩ (.int .i64 0)).setCell ⟨p + 1, 5, none⟩ (.int .i64 0)).setCell ⟨p + 1, 6, none⟩ (.int .i64 0)).setCell ⟨p + 1, 7, none⟩ (.int .i64 0)).setCell ⟨p + 1, 8, none⟩ (.int .i64 0)).setCell ⟨p + 1, 9, none⟩ (.int .i64 0)).setCell ⟨p + 1, 10, none⟩ (.int .i64 0)).heap[p + 1]? = some (.cells #[.slice none 0 0, .slice none 0 0, .slice none 0 0, .slice none 0 0, .int .i64 0, .int .i64 0, .int .i64 0, .int .i64 0, .int .i64 0, .int .i64 0, .int .i64 0] 34 (0, 0)) := bput B9 _ rfl
        have hgr : w6.grownBy _ (some (p + 1)) := turned_setL (p + 1) [.slice none 0 0, .slice none 0 0, .slice none 0 0, .slice none 0 0, .int .i64 0, .int .i64 0, .int .i64 0, .int .i64 0, .int .i64 0, .int .i64 0, .int .i64 0] 0 w6
        have hbF := below_grownB hw6 hgr hw6.size (fun q hq => by cases hq; have := HP.out; omega)
        have d0 := (blkc B10).1 0
        have d1 := (blkc B10).1 1
        have d2 := (blkc B10).1 2
        have d3 := (blkc B10).1 3
        have d4 := (blkc B10).1 4
        have d5 := (blkc B10).1 5
        have d6 := (blkc B10).1 6
        have d7 := (blkc B10).1 7
        have d8 := (blkc B10).1 8
        have d9 := (blkc B10).1 9
        have d10 := (blkc B10).1 10
        refine bodyPost_ret (v := .tuple #[.agg #[.slice none 0 0, .slice none 0 0, .slice none 0 0, .slice none 0 0, .int .i64 0, .int .i64 0, .int .i64 0, .int .i64 0, .int .i64 0, .int .i64 0, .int .i64 0], .int .i64 11]) (by simp [results, Tryz.results14, go_sem, d0, d1, d2, d3, d4, d5, d6, d7, d8, d9, d10]) rfl ⟨none, 0, 0, none, 0, 0, none, 0, 0, none, 0, 0, rfl, rown_zero _ _, hbF⟩
      | true =>
        rw [hz] at hfx
        obtain ⟨rfl, rfl⟩ := Prod.mk.inj hfx
        have hc1 := hck 0 (by rw [hz]; rfl)
        clear hz hck hfx
        go_wp2_with (go_at_call 28; go_must (refine hc1.mono ?_; rintro e w6 ⟨rfl, hb6⟩; have hw6 := HB.out.trans (hb6.mono HB.out.size); have hQ6 := (hb6.block _ (ob_ltB HQ.out)).trans HQ.out; have hS6 := HST.out.below hb6; clear x0 x1 x2 x3 x4 x5 x6 x7 x8 x9 x10; have x0 := (blkc hS6.box).1 0; have x1 := (blkc hS6.box).1 1; have x2 := (blkc hS6.box).1 2; have x3 := (blkc hS6.box).1 3; have x4 := (blkc hS6.box).1 4; have x5 := (blkc hS6.box).1 5; have x6 := (blkc hS6.box).1 6; have x7 := (blkc hS6.box).1 7; have x8 := (blkc hS6.box).1 8; have x9 := (blkc hS6.box).1 9; have x10 := (blkc hS6.box).1 10; have y0 := (blkc hQ6).1 0; have z0 := (blkc hQ6).2 0; have y1 := (blkc hQ6).1 1; have z1 := (blkc hQ6).2 1; have y2 := (blkc hQ6).1 2; have z2 := (blkc hQ6).2 2; have y3 := (blkc hQ6).1 3; have z3 := (blkc hQ6).2 3; have y4 := (blkc hQ6).1 4; have z4 := (blkc hQ6).2 4; have y5 := (blkc hQ6).1 5; have z5 := (blkc hQ6).2 5; have y6 := (blkc hQ6).1 6; have z6 := (blkc hQ6).2 6; have y7 := (blkc hQ6).1 7; have z7 := (blkc hQ6).2 7; have y8 := (blkc hQ6).1 8; have z8 := (blkc hQ6).2 8; have y9 := (blkc hQ6).1 9; have z9 := (blkc hQ6).2 9; have y10 := (blkc hQ6).1 10; have z10 := (blkc hQ6).2 10))
        have B0 : (w6.setCell ⟨p + 1, 0, none⟩ (.slice A1 N1 C1)).heap[p + 1]? = some (.cells #[.slice A1 N1 C1, .slice none 0 0, .slice none 0 0, .slice none 0 0, .int .i64 0, .int .i64 0, .int .i64 0, .int .i64 0, .int .i64 0, .int .i64 0, .int .i64 0] 34 (0, 0)) := bput hQ6 _ rfl
        have B1 : ((w6.setCell ⟨p + 1, 0, none⟩ (.slice A1 N1 C1)).setCell ⟨p + 1, 1, none⟩ (.slice A2 N2 C2)).heap[p + 1]? = some (.cells #[.slice A1 N1 C1, .slice A2 N2 C2, .slice none 0 0, .slice none 0 0, .int .i64 0, .int .i64 0, .int .i64 0, .int .i64 0, .int .i64 0, .int .i64 0, .int .i64 0] 34 (0, 0)) := bput B0 _ rfl
        have B2 : (((w6.setCell ⟨p + 1, 0, none⟩ (.slice A1 N1 C1)).setCell ⟨p + 1, 1, none⟩ (.slice A2 N2 C2)).setCell ⟨p + 1, 2, none⟩ (.slice A3 N3 C3)).heap[p + 1]? = some (.cells #[.slice A1 N1 C1, .slice A2 N2 C2, .slice A3 N3 C3, .slice none 0 0, .int .i64 0, .int .i64 0, .int .i64 0, .int .i64 0, .int .i64 0, .int .i64 0, .int .i64 0] 34 (0, 0)) := bput B1 _ rfl
        have B3 : ((((w6.setCell ⟨p + 1, 0, none⟩ (.slice A1 N1 C1)).setCell ⟨p + 1, 1, none⟩ (.slice A2 N2 C2)).setCell ⟨p + 1, 2, none⟩ (.slice A3 N3 C3)).setCell ⟨p + 1, 3, none⟩ (.slice A4 N4 C4)).heap[p + 1]? = some (.cells #[.slice A1 N1 C1, .slice A2 N2 C2, .slice A3 N3 C3, .slice A4 N4 C4, .int .i64 0, .int .i64 0, .int .i64 0, .int .i64 0, .int .i64 0, .int .i64 0, .int .i64 0] 34 (0, 0)) := bput B2 _ rfl
        have B4 : (((((w6.setCell ⟨p + 1, 0, none⟩ (.slice A1 N1 C1)).setCell ⟨p + 1, 1, none⟩ (.slice A2 N2 C2)).setCell ⟨p + 1, 2, none⟩ (.slice A3 N3 C3)).setCell ⟨p + 1, 3, none⟩ (.slice A4 N4 C4)).setCell ⟨p + 1, 4, none⟩ (.int .i64 X.log)).heap[p + 1]? = some (.cells #[.slice A1 N1 C1, .slice A2 N2 C2, .slice A3 N3 C3, .slice A4 N4 C4, .int .i64 X.log, .int .i64 0, .int .i64 0, .int .i64 0, .int .i64 0, .int .i64 0, .int .i64 0] 34 (0, 0)) := bput B3 _ rfl
        have B5 : ((((((w6.setCell ⟨p + 1, 0, none⟩ (.slice A1 N1 C1)).setCell ⟨p + 1, 1, none⟩ (.slice A2 N2 C2)).setCell ⟨p + 1, 2, none⟩ (.slice A3 N3 C3)).setCell ⟨p + 1, 3, none⟩ (.slice A4 N4 C4)).setCell ⟨p + 1, 4, none⟩ (.int .i64 X.log)).setCell ⟨p + 1, 5, none⟩ (.int .i64 X.index)).heap[p + 1]? = some (.cells #[.slice A1 N1 C1, .slice A2 N2 C2, .slice A3 N3 C3, .slice A4 N4 C4, .int .i64 X.log, .int .i64 X.index, .int .i64 0, .int .i64 0, .int .i64 0, .int .i64 0, .int .i64 0] 34 (0, 0)) := bput B4 _ rfl
        have B6 : (((((((w6.setCell ⟨p + 1, 0, none⟩ (.slice A1 N1 C1)).setCell ⟨p + 1, 1, none⟩ (.slice A2 N2 C2)).setCell ⟨p + 1, 2, none⟩ (.slice A3 N3 C3)).setCell ⟨p + 1, 3, none⟩ (.slice A4 N4 C4)).setCell ⟨p + 1, 4, none⟩ (.int .i64 X.log)).setCell ⟨p + 1, 5, none⟩ (.int .i64 X.index)).setCell ⟨p + 1, 6, none⟩ (.int .i64 X.term)).heap[p + 1]? = some (.cells #[.slice A1 N1 C1, .slice A2 N2 C2, .slice A3 N3 C3, .slice A4 N4 C4, .int .i64 X.log, .int .i64 X.index, .int .i64 X.term, .int .i64 0, .int .i64 0, .int .i64 0, .int .i64 0] 34 (0, 0)) := bput B5 _ rfl
        have B7 : ((((((((w6.setCell ⟨p + 1, 0, none⟩ (.slice A1 N1 C1)).setCell ⟨p + 1, 1, none⟩ (.slice A2 N2 C2)).setCell ⟨p + 1, 2, none⟩ (.slice A3 N3 C3)).setCell ⟨p + 1, 3, none⟩ (.slice A4 N4 C4)).setCell ⟨p + 1, 4, none⟩ (.int .i64 X.log)).setCell ⟨p + 1, 5, none⟩ (.int .i64 X.index)).setCell ⟨p + 1, 6, none⟩ (.int .i64 X.term)).setCell ⟨p + 1, 7, none⟩ (.int .i64 X.ht)).heap[p + 1]? = some (.cells #[.slice A1 N1 C1, .slice A2 N2 C2, .slice A3 N3 C3, .slice A4 N4 C4, .int .i64 X.log, .int .i64 X.index, .int .i64 X.term, .int .i64 X.ht, .int .i64 0, .int .i64 0, .int .i64 0] 34 (0, 0)) := bput B6 _ rfl
        have B8 : (((((((((w6.setCell ⟨p + 1, 0, none⟩ (.slice A1 N1 C1)).setCell ⟨p + 1, 1, none⟩ (.slice A2 N2 C2)).setCell ⟨p + 1, 2, none⟩ (.slice A3 N3 C3)).setCell ⟨p + 1, 3, none⟩ (.slice A4 N4 C4)).setCell ⟨p + 1, 4, none⟩ (.int .i64 X.log)).setCell ⟨p + 1, 5, none⟩ (.int .i64 X.index)).setCell ⟨p + 1, 6, none⟩ (.int .i64 X.term)).setCell ⟨p + 1, 7, none⟩ (.int .i64 X.ht)).setCell ⟨p + 1, 8, none⟩ (.int .i64 X.hv)).heap[p + 1]? = some (.cells #[.slice A1 N1 C1, .slice A2 N2 C2, .slice A3 N3 C3, .slice A4 N4 C4, .int .i64 X.log, .int .i64 X.index, .int .i64 X.term, .int .i64 X.ht, .int .i64 X.hv, .int .i64 0, .int .i64 0] 34 (0, 0)) := bput B7 _ rfl
        have B9 : ((((((((((w6.setCell ⟨p + 1, 0, none⟩ (.slice A1 N1 C1)).setCell ⟨p + 1, 1, none⟩ (.slice A2 N2 C2)).setCell ⟨p + 1, 2, none⟩ (.slice A3 N3 C3)).setCell ⟨p + 1, 3, none⟩ (.slice A4 N4 C4)).setCell ⟨p + 1, 4, none⟩ (.int .i64 X.log)).setCell ⟨p + 1, 5, none⟩ (.int .i64 X.index)).setCell ⟨p + 1, 6, none⟩ (.int .i64 X.term)).setCell ⟨p + 1, 7, none⟩ (.int .i64 X.ht)).setCell ⟨p + 1, 8, none⟩ (.int .i64 X.hv)).setCell ⟨p + 1, 9, none⟩ (.int .i64 X.hc)).heap[p + 1]? = some (.cells #[.slice A1 N1 C1, .slice A2 N2 C2, .slice A3 N3 C3, .slice A4 N4 C4, .int .i64 X.log, .int .i64 X.index, .int .i64 X.term, .int .i64 X.ht, .int .i64 X.hv, .int .i64 X.hc, .int .i64 0] 34 (0, 0)) := bput B8 _ rfl
        have B10 : (((((((((((w6.setCell ⟨p + 1, 0, none⟩ (.slice A1 N1 C1)).setCell ⟨p + 1, 1, none⟩ (.slice A2 N2 C2)).setCell ⟨p + 1, 2, none⟩ (.slice A3 N3 C3)).setCell ⟨p + 1, 3, none⟩ (.slice A4 N4 C4)).setCell ⟨p + 1, 4, none⟩ (.int .i64 X.log)).setCell ⟨p + 1, 5, none⟩ (.int .i64 X.index)).setCell ⟨p + 1, 6, none⟩ (.int .i64 X.term)).setCell ⟨p + 1, 7, none⟩ (.int .i64 X.ht)).setCell ⟨p + 1, 8, none⟩ (.int .i64 X.hv)).setCell ⟨p + 1, 9, none⟩ (.int .i64 X.hc)).setCell ⟨p + 1, 10, none⟩ (.int .i64 X.mark)).heap[p + 1]? = some (.cells #[.slice A1 N1 C1, .slice A2 N2 C2, .slice A3 N3 C3, .slice A4 N4 C4, .int .i64 X.log, .int .i64 X.index, .int .i64 X.term, .int .i64 X.ht, .int .i64 X.hv, .int .i64 X.hc, .int .i64 X.mark] 34 (0, 0)) := bput B9 _ rfl
        have hgr : w6.grownBy _ (some (p + 1)) := turned_setL (p + 1) [.slice A1 N1 C1, .slice A2 N2 C2, .slice A3 N3 C3, .slice A4 N4 C4, .int .i64 X.log, .int .i64 X.index, .int .i64 X.term, .int .i64 X.ht, .int .i64 X.hv, .int .i64 X.hc, .int .i64 X.mark] 0 w6
        have hroF := hS6.own.other hQ6 hgr
        have hbF := below_grownB hw6 hgr hw6.size (fun q hq => by cases hq; have := HP.out; omega)
        have d0 := (blkc B10).1 0
        have d1 := (blkc B10).1 1
        have d2 := (blkc B10).1 2
        have d3 := (blkc B10).1 3
        have d4 := (blkc B10).1 4
        have d5 := (blkc B10).1 5
        have d6 := (blkc B10).1 6
        have d7 := (blkc B10).1 7
        have d8 := (blkc B10).1 8
        have d9 := (blkc B10).1 9
        have d10 := (blkc B10).1 10
        refine bodyPost_ret (v := .tuple #[.agg #[.slice A1 N1 C1, .slice A2 N2 C2, .slice A3 N3 C3, .slice A4 N4 C4, .int .i64 X.log, .int .i64 X.index, .int .i64 X.term, .int .i64 X.ht, .int .i64 X.hv, .int .i64 X.hc, .int .i64 X.mark], .int .i64 0]) (by simp [results, Tryz.results14, go_sem, d0, d1, d2, d3, d4, d5, d6, d7, d8, d9, d10]) rfl ⟨A1, N1, C1, A2, N2, C2, A3, N3, C3, A4, N4, C4, rfl, hroF, hbF⟩
end Go.Proofs.YtfogodbbgbnhkaaGreatDoor
