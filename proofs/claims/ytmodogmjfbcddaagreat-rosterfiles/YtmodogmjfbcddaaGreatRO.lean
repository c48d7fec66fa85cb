/- Whether one of edits may not be; an edit done, as the mathematics says. -/
import Derived.Test.YtmodogmjfbcddaaGreatRN
import Derived.Test.YtmodogmjfbcddaaGreatRNb
import Derived.Test.YtmodogmjfbcddaaGreatEF
namespace Go.Proofs.YtmodogmjfbcddaaGreat
open Go.RowKit

set_option maxRecDepth 100000 in
set_option maxHeartbeats 1000000 in
theorem rnot_any (k n i t a b c p q r : Int) (f g : ByteArray) (w : World) :
    Calls Tryz.prog 23 #[ed12 k n i t a b c p q r f g] w fun e w' => e = .returned (.bool (!Ed.may ⟨k, n, i, t, a, b, c, ⟨p, q, r, f, g⟩⟩)) ∧ Below w.heap.size w w' := by
  have hch := fun R hR W => echeck_any k n i t a b c p q r f g W R hR
  have c0 := cell_new w #[.int .i64 k, .int .i64 n, .int .i64 i, .int .i64 t, .int .i64 a, .int .i64 b, .int .i64 c, .int .i64 p, .int .i64 q, .int .i64 r, .string f, .string g] 46
  have ha := below_alloc w (oed k n i t a b c p q r f g)
  cases hm : Ed.may ⟨k, n, i, t, a, b, c, ⟨p, q, r, f, g⟩⟩ with
  | true =>
    have hc := fun W => hch 0 (by rw [hm]; rfl) W
    clear hm hch
    go_enter Tryz.func23, Tryz.ntmps23
    go_wp2_with (go_at_call 52; go_must (refine (hc _).mono ?_; rintro e w1 ⟨rfl, hb1⟩))
    go_ret
    exact ⟨rfl, ha.trans (hb1.mono ha.size)⟩
  | false =>
    have hc := fun W => hch 1 (by rw [hm]; rfl) W
    clear hm hch
    go_enter Tryz.func23, Tryz.ntmps23
    go_wp2_with (go_at_call 52; go_must (refine (hc _).mono ?_; rintro e w1 ⟨rfl, hb1⟩))
    go_ret
    exact ⟨rfl, ha.trans (hb1.mono ha.size)⟩

set_option maxRecDepth 100000 in
set_option maxHeartbeats 1000000 in
theorem rindex_e (ad : Option Addr) (len cap : Nat) (l : List Ed.E) (w : World) (hlen : len ≤ 1000000) (hr : ERow w ad len l) :
    Calls Tryz.prog 51 #[.slice ad len cap, .func (.func 23) #[] #[]] w fun e w' => ∃ z : Int, e = .returned (.int .i64 z) ∧ decide (0 ≤ z) = (!l.all Ed.may) ∧ Below w.heap.size w w' := by
  have hll : Hid (l.length = len) := hr.1
  obtain ⟨R, hR⟩ : ∃ R, R = l.all Ed.may := ⟨_, rfl⟩
  rw [← hR]
  have HR : Hid (R = (l.drop 0).all Ed.may) := hR
  clear hR
  go_enter Tryz.func51, Tryz.ntmps51
  go_wp2
  go_loopw [8] (fun i wr => ∃ k : Nat, k ≤ len ∧ i = .int .i64 k ∧ Hid (R = (l.drop k).all Ed.may) ∧ Below w.heap.size w wr) (fun i _ => len - (intOf i).toNat)
  case atStart => exact ⟨0, by omega, rfl, HR, Below.refl _ _⟩
  case round =>
    obtain ⟨j, hk, rfl, H, hbel⟩ := hrel
    clear HR
    by_cases hlt : j < len
    · obtain ⟨B, O, k, n, i, t, a, b, c, p, q, r, f, g, rfl, hx, q0, q1, q2, q3, q4, q5, q6, q7, q8, q9, q10, q11⟩ := eget hr hbel hlt
      have HS : Hid ((l.drop j).all Ed.may = (Ed.may ⟨k, n, i, t, a, b, c, ⟨p, q, r, f, g⟩⟩ && (l.drop (j + 1)).all Ed.may)) := (by rw [edrop (by rw [hll.out]; exact hlt), hx.out]; rfl : _ = _)
      have hd := rnot_any k n i t a b c p q r f g wr
      have i0 : (0 : Int) ≤ (j : Int) := by omega
      have i1 : (j : Int) < (len : Int) := by omega
      cases hz : Ed.may ⟨k, n, i, t, a, b, c, ⟨p, q, r, f, g⟩⟩ with
      | false =>
        rw [hz] at hd
        have HE : Hid (R = false) := (by rw [H.out, HS.out, hz]; rfl : R = false)
        clear H HS hx hz
        go_wp2_with (go_at_call 23; go_must (refine hd.mono ?_; rintro e w2 ⟨rfl, hb2⟩))
        go_ret
        exact ⟨(j : Int), rfl, by rw [HE.out]; exact decide_eq_true (by omega), hbel.trans (hb2.mono hbel.size)⟩
      | true =>
        rw [hz] at hd
        have HE : Hid (R = (l.drop (j + 1)).all Ed.may) := (by rw [H.out, HS.out, hz]; rfl : R = _)
        clear H HS hx hz
        go_wp2_with (go_at_call 23; go_must (refine hd.mono ?_; rintro e w2 ⟨rfl, hb2⟩))
        go_roundw
        case rel => exact ⟨j + 1, by omega, by go_num, HE, hbel.trans (hb2.mono hbel.size)⟩
        case measure => simp [intOf]; omega
    · obtain rfl : j = len := by omega
      have HE : Hid (R = true) := (by rw [H.out, List.drop_of_length_le (by rw [hll.out]; exact Nat.le_refl _)]; rfl : R = true)
      clear H
      go_wp2
      go_ret
      exact ⟨-1, rfl, by rw [HE.out]; rfl, hbel⟩

set_option maxRecDepth 100000 in
set_option maxHeartbeats 1000000 in
theorem rcontains_e (ad : Option Addr) (len cap : Nat) (l : List Ed.E) (w : World) (hlen : len ≤ 1000000) (hr : ERow w ad len l) (R : Bool) (hR : R = !l.all Ed.may) :
    Calls Tryz.prog 22 #[.slice ad len cap, .func (.func 23) #[] #[]] w fun e w' => e = .returned (.bool R) ∧ Below w.heap.size w w' := by
  have hi := rindex_e ad len cap l w hlen hr
  rw [← hR] at hi
  clear hR
  go_enter Tryz.func22, Tryz.ntmps22
  go_wp2_with (go_at_call 51; go_must (refine hi.mono ?_; rintro e w2 ⟨z, rfl, hz, hb2⟩))
  go_ret
  subst hz
  exact ⟨rfl, hb2⟩

/-- an edit done, as the mathematics says -/
theorem rdo_any (B p : Nat) (x : Ro.R) (a1 : Option Addr) (n1 c1 : Nat) (a2 : Option Addr) (n2 c2 : Nat) (a3 : Option Addr) (n3 c3 : Nat) (a4 : Option Addr) (n4 c4 : Nat) (w : World) (h : RSt B p w x a1 n1 c1 a2 n2 c2 a3 n3 c3 a4 n4 c4) (hB : B ≤ w.heap.size) (k : Nat) (hk : k ≤ 2000) (hI : Ro.Inv x k) (e1 e2 e3 e4 e5 e6 e7 e8 e9 e10 : Int) (f g : ByteArray) (hm : Ed.may ⟨e1, e2, e3, e4, e5, e6, e7, ⟨e8, e9, e10, f, g⟩⟩ = true) :
    Calls Tryz.prog 25 #[.pointer (some ⟨p, 0, none⟩), ed12 e1 e2 e3 e4 e5 e6 e7 e8 e9 e10 f g] w (DoRes B p w (Ro.turn x ⟨e1, e2, e3, e4, e5, e6, e7, ⟨e8, e9, e10, f, g⟩⟩).isSome ((Ro.turn x ⟨e1, e2, e3, e4, e5, e6, e7, ⟨e8, e9, e10, f, g⟩⟩).getD x)) := by
  obtain ⟨s, ms, ts, ks, i1, i2, i3, i4, i5, i6, i7⟩ := x
  obtain ⟨l1, l2, l3, l4⟩ := h.own.len
  have b1 := hI.l1; have b2 := hI.l2; have b3 := hI.l3; have b4 := hI.l4
  have hsg := hI.segs; have hmv := hI.moves; have hst := hI.stills
  dsimp only at l1 l2 l3 l4 b1 b2 b3 b4 hsg hmv hst
  have hno : ∀ {o : Option Ro.R} {d : Ro.R} {R : Bool} {y : Ro.R}, (R = true → o = some y) → (R = false → o = none) → (fun e w' => DoRes B p w R y e w') = (fun e w' => DoRes B p w R y e w') → ∀ e w', DoRes B p w R y e w' → DoRes B p w o.isSome (o.getD d) e w' := by
    intro o d R y h1 h2 _ e w' hd
    cases R with
    | true => rw [h1 rfl]; exact hd
    | false => rw [h2 rfl]; exact ⟨hd.1, (fun h => (by cases h)), hd.2.2⟩
  rcases Ed.kinds e1 with rfl | rfl | rfl | rfl | rfl | rfl | rfl | rfl | rfl | hk0
  · refine (rdo1 B p s ms ts ks a1 n1 c1 a2 n2 c2 a3 n3 c3 a4 n4 c4 i1 i2 i3 i4 i5 i6 i7 w h hB (by omega) (by omega) e2 e3 e4 e5 e6 e7 e8 e9 e10 f g).mono (hno ?_ ?_ rfl) <;> intro hR
    · simp only [Bool.and_eq_true, Bool.not_eq_true', decide_eq_false_iff_not] at hR; simp [Ro.turn, hR.1, hR.2]
    · simp only [Bool.and_eq_false_iff, Bool.not_eq_false', decide_eq_true_eq] at hR; simp [Ro.turn, hR]
  · refine (rdo2 B p s ms ts ks a1 n1 c1 a2 n2 c2 a3 n3 c3 a4 n4 c4 i1 i2 i3 i4 i5 i6 i7 w h hB (by omega) (by omega) hsg hmv e2 e3 e4 e5 e6 e7 e8 e9 e10 f g).mono (hno ?_ ?_ rfl) <;> intro hR
    · simp only [decide_eq_true_eq] at hR; simp [Ro.turn, hR]
    · simp only [decide_eq_false_iff_not] at hR; simp [Ro.turn, hR]
  · refine (rdo3 B p s ms ts ks a1 n1 c1 a2 n2 c2 a3 n3 c3 a4 n4 c4 i1 i2 i3 i4 i5 i6 i7 w h hB (by omega) e2 e3 e4 e5 e6 e7 e8 e9 e10 f g).mono (hno ?_ ?_ rfl) <;> intro hR
    · simp only [decide_eq_true_eq] at hR; rw [← l2] at hR; simp [Ro.turn, hR]
    · simp only [decide_eq_false_iff_not] at hR; rw [← l2] at hR; simp only [Ro.turn, if_neg hR]; rfl
  · have h4 : f.size ≤ 1000000 ∧ g.size ≤ 1000000 := by
      have hm : (decide (e2 = 0) && decide (e3 = 0) && decide (e4 = 0) && Ed.hz ⟨4, e2, e3, e4, e5, e6, e7, ⟨e8, e9, e10, f, g⟩⟩ && Lv.one ⟨e8, e9, e10, f, g⟩) = true := hm
      simp only [Bool.and_eq_true] at hm
      have ho := (Lv.one_iff _).mp hm.2
      have hf := ho.f
      have hg := ho.g
      simp only [Lv.key, Bool.and_eq_true, decide_eq_true_eq] at hf hg
      omega
    refine (rdo4 B p s ms ts ks a1 n1 c1 a2 n2 c2 a3 n3 c3 a4 n4 c4 i1 i2 i3 i4 i5 i6 i7 w h hB (by omega) e2 e3 e4 e5 e6 e7 e8 e9 e10 f g h4.1 h4.2).mono (hno ?_ ?_ rfl) <;> intro hR
    · rfl
    · cases hR
  · refine (rdo5 B p s ms ts ks a1 n1 c1 a2 n2 c2 a3 n3 c3 a4 n4 c4 i1 i2 i3 i4 i5 i6 i7 w h hB (by omega) e2 e3 e4 e5 e6 e7 e8 e9 e10 f g).mono (hno ?_ ?_ rfl) <;> intro hR
    · simp only [decide_eq_true_eq] at hR; rw [← l3] at hR; simp [Ro.turn, hR]
    · simp only [decide_eq_false_iff_not] at hR; rw [← l3] at hR; simp only [Ro.turn, if_neg hR]; rfl
  · refine (rdo6 B p s ms ts ks a1 n1 c1 a2 n2 c2 a3 n3 c3 a4 n4 c4 i1 i2 i3 i4 i5 i6 i7 w h hB (by omega) hst e2 e3 e4 e5 e6 e7 e8 e9 e10 f g).mono (hno ?_ ?_ rfl) <;> intro hR
    · rfl
    · cases hR
  · refine (rdo7 B p s ms ts ks a1 n1 c1 a2 n2 c2 a3 n3 c3 a4 n4 c4 i1 i2 i3 i4 i5 i6 i7 w h hB (by omega) e2 e3 e4 e5 e6 e7 e8 e9 e10 f g).mono (hno ?_ ?_ rfl) <;> intro hR
    · simp only [decide_eq_true_eq] at hR; rw [← l4] at hR; simp [Ro.turn, hR]
    · simp only [decide_eq_false_iff_not] at hR; rw [← l4] at hR; simp only [Ro.turn, if_neg hR]; rfl
  · refine (rdo8 B p s ms ts ks a1 n1 c1 a2 n2 c2 a3 n3 c3 a4 n4 c4 i1 i2 i3 i4 i5 i6 i7 w h hB e2 e3 e4 e5 e6 e7 e8 e9 e10 f g).mono (hno ?_ ?_ rfl) <;> intro hR
    · simp only [Bool.and_eq_true, Bool.not_eq_true', decide_eq_false_iff_not] at hR; simp [Ro.turn, hR.1, hR.2]
    · simp only [Bool.and_eq_false_iff, Bool.not_eq_false', decide_eq_true_eq] at hR; simp [Ro.turn, hR]
  · refine (rdo9 B p s ms ts ks a1 n1 c1 a2 n2 c2 a3 n3 c3 a4 n4 c4 i1 i2 i3 i4 i5 i6 i7 w h hB e2 e3 e4 e5 e6 e7 e8 e9 e10 f g).mono (hno ?_ ?_ rfl) <;> intro hR
    · simp only [Bool.not_eq_true', decide_eq_false_iff_not] at hR; simp [Ro.turn, hR]
    · simp only [Bool.not_eq_false', decide_eq_true_eq] at hR; simp [Ro.turn, hR]
  · exfalso
    have h1 : ¬ (e1 = 1 ∨ e1 = 5) := by omega
    have h2 : ¬ (e1 = 2) := by omega
    have h3 : ¬ (e1 = 3 ∨ e1 = 7 ∨ e1 = 9) := by omega
    have h4 : ¬ (e1 = 4) := by omega
    have h6 : ¬ (e1 = 6) := by omega
    have h8 : ¬ (e1 = 8) := by omega
    simp only [Ed.may, if_neg h1, if_neg h2, if_neg h3, if_neg h4, if_neg h6, if_neg h8] at hm
    cases hm
end Go.Proofs.YtmodogmjfbcddaaGreat
