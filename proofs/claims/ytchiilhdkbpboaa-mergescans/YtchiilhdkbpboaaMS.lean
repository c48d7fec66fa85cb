/- What the program's search among items, its copies of items and its look at lists do. -/
import Derived.Test.YtchiilhdkbpboaaOG
import Derived.Test.YtchiilhdkbpboaaTS
import Derived.Test.YtchiilhdkbpboaaShelf
namespace Go.Proofs.Ytchiilhdkbpboaa
open Go.RowKit

theorem cmp_lt : ∀ (a b : List UInt8), Lib.compareBytes a b < 0 ↔ Na.lt (a.map (·.toNat)) (b.map (·.toNat)) = true
  | [], [] => by simp [Lib.compareBytes, Na.lt]
  | [], _ :: _ => by simp [Lib.compareBytes, Na.lt]
  | _ :: _, [] => by simp [Lib.compareBytes, Na.lt]
  | a :: x, b :: y => by
    have ih := cmp_lt x y
    simp only [Lib.compareBytes, List.map_cons, Na.lt]
    by_cases h1 : a < b
    · have : a.toNat < b.toNat := h1
      simp [h1, this]
    · have h1' : ¬ a.toNat < b.toNat := h1
      by_cases h2 : b < a
      · have h2' : b.toNat < a.toNat := h2
        have h3 : ¬ a.toNat = b.toNat := by omega
        simp [h1, h2, h1', h3]
      · have h2' : ¬ b.toNat < a.toNat := h2
        have h3 : a.toNat = b.toNat := by omega
        simp [h1, h2, h3, ih]
theorem cmp_eq0 : ∀ (a b : List UInt8), Lib.compareBytes a b = 0 ↔ a = b
  | [], [] => by simp [Lib.compareBytes]
  | [], _ :: _ => by simp [Lib.compareBytes]
  | _ :: _, [] => by simp [Lib.compareBytes]
  | a :: x, b :: y => by
    have ih := cmp_eq0 x y
    simp only [Lib.compareBytes]
    by_cases h1 : a < b
    · have h3 : ¬ a = b := fun e => by subst e; exact absurd h1 (by simp)
      simp [h1, h3]
    · by_cases h2 : b < a
      · have h3 : ¬ a = b := fun e => by subst e; exact absurd h2 (by simp)
        simp [h1, h2, h3]
      · have h1' : ¬ a.toNat < b.toNat := h1
        have h2' : ¬ b.toNat < a.toNat := h2
        have h3 : a = b := UInt8.toNat_inj.mp (by omega)
        subst h3
        simp [ih]
theorem compare_kb (s t : ByteArray) : (Lib.compareBytes s.data.toList t.data.toList < 0 ↔ Na.lt (kb s) (kb t) = true) ∧ (Lib.compareBytes s.data.toList t.data.toList = 0 ↔ kb s = kb t) := by
  refine ⟨cmp_lt _ _, ?_⟩
  rw [cmp_eq0]
  constructor
  · intro h; unfold kb; rw [h]
  · intro h; rw [kb_inj h]

set_option maxRecDepth 100000 in
set_option maxHeartbeats 1000000 in
theorem mcmp_any (h : IH) (s : ByteArray) (w : World) : Calls Try.prog 36 #[iv h, .string s] w fun e w' => ∃ r : Int, e = .returned (.int .i64 r) ∧ (r < 0 ↔ Na.lt (kb h.key) (kb s) = true) ∧ (r = 0 ↔ kb h.key = kb s) ∧ Below w.heap.size w w' := by
  have hc := fun W => Try.strings_Compare h.key s W
  obtain ⟨q1, q2⟩ := compare_kb h.key s
  have hb0 := below_alloc w (.cells #[.string h.key, .bool h.dead, .bool h.far, .slice h.a h.n h.c, .int .i64 h.p.1, .int .i64 h.p.2.1, .int .i64 h.p.2.2.1, .int .u32 (h.p.2.2.2 : Nat)] 37)
  have Q : Hid ((Lib.compareBytes h.key.data.toList s.data.toList < 0 ↔ Na.lt (kb h.key) (kb s) = true) ∧ (Lib.compareBytes h.key.data.toList s.data.toList = 0 ↔ kb h.key = kb s)) := ⟨q1, q2⟩
  clear q1 q2
  generalize Lib.compareBytes h.key.data.toList s.data.toList = r at *
  obtain ⟨key, dead, far, a, n, c, ⟨p1, p2, p3, p4⟩⟩ := h
  simp only at hc hb0 Q
  go_enter Try.func36, Try.ntmps36
  go_wp2_with (go_at_call 37; go_must (refine (hc _).mono ?_; rintro e w1 ⟨rfl, hw⟩; rw [hw]; clear hw w1))
  go_ret
  exact ⟨r, rfl, Q.out.1, Q.out.2, hb0⟩
def MsRes (w : World) (xs : List It.I) (s : List Nat) (n : Nat) (e : Ending) (w' : World) : Prop := ∃ (i : Nat) (f : Bool), e = .returned (.tuple #[.int .i64 i, .bool f]) ∧ It.Found xs s n i f ∧ It.Srch xs s i i ∧ Below w.heap.size w w'
/-- the comparison, as a value -/
abbrev mcmpv : Value := .func (.func 36) #[] #[]

set_option maxRecDepth 100000 in
set_option maxHeartbeats 4000000 in
theorem msearch_any (a : Option Addr) (n c : Nat) (gs : List IH) (xs : List It.I) (s : ByteArray) (w : World) (hn : n ≤ 1000000) (hi : ItRow w a n gs xs) (hp : xs.Pairwise (fun a b => Na.lt a.1 b.1 = true)) :
    Calls Try.prog 35 #[.slice a n c, .string s, mcmpv] w (MsRes w xs (kb s) n) := by
  have hll : Hid (xs.length = n) := hi.len
  have HP : Hid (xs.Pairwise (fun a b => Na.lt a.1 b.1 = true)) := hp
  have HS : Hid (It.Srch xs (kb s) 0 n) := (⟨fun t ht => by omega, fun t h1 h2 => by have := hll.out; omega⟩ : It.Srch xs (kb s) 0 n)
  clear hp
  go_enter Try.func35, Try.ntmps35
  go_wp2
  go_loopw [9, 10] (fun u v wr => ∃ i j : Nat, u = .int .i64 i ∧ v = .int .i64 j ∧ i ≤ j ∧ j ≤ n ∧ Hid (It.Srch xs (kb s) i j) ∧ Below w.heap.size w wr) (fun u v _ => (intOf v).toNat - (intOf u).toNat)
  case atStart => exact ⟨0, n, rfl, rfl, by omega, by omega, HS, Below.refl _ _⟩
  case round =>
    obtain ⟨i, j, rfl, rfl, hij, hjn, H, hbel⟩ := hrel
    clear HS
    by_cases hlt : i < j
    · obtain ⟨hh, hhe⟩ : ∃ hh, hh = (i + j) / 2 := ⟨_, rfl⟩
      have hh1 : i ≤ hh := by omega
      have hh2 : hh < j := by omega
      have q0 : ((i : Int) + (j : Int)) / 2 = (hh : Int) := by rw [hhe]; omega
      have q1 : IntKind.i64.wrap ((i : Int) + (j : Int)) = (i : Int) + (j : Int) := by rw [IntKind.wrap_i64]; omega
      have q2 : IntKind.u64.wrap ((i : Int) + (j : Int)) = (i : Int) + (j : Int) := by simp only [IntKind.wrap_u64]; omega
      have q3 : IntKind.i64.wrap (hh : Int) = (hh : Int) := by rw [IntKind.wrap_i64]; omega
      have q4 : IntKind.i64.wrap ((hh : Int) + 1) = (hh : Int) + 1 := by rw [IntKind.wrap_i64]; omega
      have i0 : (0 : Int) ≤ (hh : Int) := by omega
      have i1 : (hh : Int) < (n : Int) := by omega
      clear hhe
      obtain ⟨b, off, rfl, hc⟩ := hi.at (by omega)
      have C := (hc hh (by omega)).below hbel (Nat.le_refl _)
      have hky := (hi.item (i := hh) (by omega)).key
      have hcm := fun W => mcmp_any (gs.getD hh ihz) s W
      have Hup : Hid (Na.lt (xs.getD hh It.zero).1 (kb s) = true → It.Srch xs (kb s) (hh + 1) j) := (fun h => It.srch_up HP.out H.out (by have := hll.out; omega) h : Na.lt (xs.getD hh It.zero).1 (kb s) = true → It.Srch xs (kb s) (hh + 1) j)
      have Hdn : Hid (Na.lt (xs.getD hh It.zero).1 (kb s) = false → It.Srch xs (kb s) i hh) := (fun h => It.srch_down HP.out H.out h : Na.lt (xs.getD hh It.zero).1 (kb s) = false → It.Srch xs (kb s) i hh)
      rw [← hky] at Hup Hdn
      clear hky hc H
      generalize gs.getD hh ihz = q at *
      obtain ⟨key, dead, far, qa, qn, qc, ⟨g1, g2, g3, g4⟩⟩ := q
      obtain ⟨y0, y1, y2, y3, y4, y5, y6, y7⟩ := C
      simp only at y0 y1 y2 y3 y4 y5 y6 y7 hcm Hup Hdn
      cases hless : Na.lt (kb key) (kb s) with
      | true =>
        have H2 : Hid (It.Srch xs (kb s) (hh + 1) j) := Hup.out hless
        simp only [hless, iff_true] at hcm
        clear Hup Hdn hless
        go_wp2_with (go_at_call 36; go_must (refine (hcm _).mono ?_; rintro e w2 ⟨r, rfl, hr1, -, hbel2⟩; have hb2 := hbel.trans (hbel2.mono hbel.size); have hd : decide (r < 0) = true := (by simp [hr1])))
        go_roundw
        case rel => exact ⟨hh + 1, j, by go_num, rfl, by omega, hjn, H2, hb2⟩
        case measure => simp [intOf]; omega
      | false =>
        have H2 : Hid (It.Srch xs (kb s) i hh) := Hdn.out hless
        simp only [hless, Bool.false_eq_true, iff_false] at hcm
        clear Hup Hdn hless
        go_wp2_with (go_at_call 36; go_must (refine (hcm _).mono ?_; rintro e w2 ⟨r, rfl, hr1, -, hbel2⟩; have hb2 := hbel.trans (hbel2.mono hbel.size); have hd : decide (r < 0) = false := (by simp only [decide_eq_false_iff_not]; exact hr1)))
        go_roundw
        case rel => exact ⟨i, hh, rfl, rfl, by omega, by omega, H2, hb2⟩
        case measure => simp [intOf]; omega
    · obtain rfl : i = j := by omega
      by_cases hin : i < n
      · have i0 : (0 : Int) ≤ (i : Int) := by omega
        have i1 : (i : Int) < (n : Int) := by omega
        have i2 : decide ((i : Int) < (n : Int)) = true := by simp; omega
        obtain ⟨b, off, rfl, hc⟩ := hi.at (by omega)
        have C := (hc i (by omega)).below hbel (Nat.le_refl _)
        have hky := (hi.item (i := i) (by omega)).key
        have hcm := fun W => mcmp_any (gs.getD i ihz) s W
        have Hno : Hid ((xs.getD i It.zero).1 ≠ kb s → It.Found xs (kb s) n i false) := (fun h => ⟨by omega, (fun h => by cases h), fun _ => It.srch_none HP.out H.out (fun _ => h)⟩ : (xs.getD i It.zero).1 ≠ kb s → It.Found xs (kb s) n i false)
        have Hyes : Hid ((xs.getD i It.zero).1 = kb s → It.Found xs (kb s) n i true) := (fun h => ⟨by omega, fun _ => ⟨hin, h⟩, (fun h => by cases h)⟩ : (xs.getD i It.zero).1 = kb s → It.Found xs (kb s) n i true)
        rw [← hky] at Hno Hyes
        clear hky hc
        generalize gs.getD i ihz = q at *
        obtain ⟨key, dead, far, qa, qn, qc, ⟨g1, g2, g3, g4⟩⟩ := q
        obtain ⟨y0, y1, y2, y3, y4, y5, y6, y7⟩ := C
        simp only at y0 y1 y2 y3 y4 y5 y6 y7 hcm Hno Hyes
        by_cases heq : kb key = kb s
        · have HF : Hid (It.Found xs (kb s) n i true) := Hyes.out heq
          simp only [heq, iff_true] at hcm
          clear Hno Hyes heq
          go_wp2_with (go_at_call 36; go_must (refine (hcm _).mono ?_; rintro e w2 ⟨r, rfl, -, rfl, hbel2⟩; have hb2 := hbel.trans (hbel2.mono hbel.size)))
          go_ret2
          exact ⟨i, true, rfl, HF.out, H.out, hb2⟩
        · have HF : Hid (It.Found xs (kb s) n i false) := Hno.out heq
          simp only [heq, iff_false] at hcm
          clear Hno Hyes heq
          go_wp2_with (go_at_call 36; go_must (refine (hcm _).mono ?_; rintro e w2 ⟨r, rfl, -, hr0, hbel2⟩; have hb2 := hbel.trans (hbel2.mono hbel.size); have hd : (r == 0) = false := (by simp; exact hr0)))
          go_ret2
          exact ⟨i, false, rfl, HF.out, H.out, hb2⟩
      · obtain rfl : i = n := by omega
        have i2 : decide ((i : Int) < (i : Int)) = false := by simp
        have i3 : ¬ ((i : Int) < (i : Int)) := by omega
        have HF : Hid (It.Found xs (kb s) i i false) := (⟨Nat.le_refl _, (fun h => by cases h), fun _ => It.srch_none HP.out H.out (fun h => by have := hll.out; omega)⟩ : It.Found xs (kb s) i i false)
        go_wp2
        go_ret2
        exact ⟨i, false, rfl, HF.out, H.out, hbel⟩

set_option maxRecDepth 100000 in
set_option maxHeartbeats 1000000 in
/-- where a key stands, or would stand -/
theorem mseek_any (a : Option Addr) (n c : Nat) (gs : List IH) (xs : List It.I) (s : ByteArray) (w : World) (hn : n ≤ 1000000) (hi : ItRow w a n gs xs) (hp : It.Up xs) :
    Calls Try.prog 27 #[.slice a n c, .string s] w (MsRes w xs (kb s) n) := by
  have hs := msearch_any a n c gs xs s w hn hi hp
  clear hi hp
  go_enter Try.func27, Try.ntmps27
  go_wp2_with (go_at_call 35; go_must (refine hs.mono ?_; rintro e w1 ⟨i, f, rfl, h1, h2, hb1⟩))
  go_ret2
  exact ⟨i, f, rfl, h1, h2, hb1⟩

set_option maxRecDepth 100000 in
theorem sclone_any (s : ByteArray) (w : World) (hs : s.size ≤ 100000) :
    Calls Try.prog 38 #[.string s] w fun e w' => e = .returned (.string s) ∧ Below w.heap.size w w' := by
  have hc := Try.stringslite_Clone s w (by omega)
  go_enter Try.func38, Try.ntmps38
  go_wp2_with (go_at_call 44; go_must (refine hc.mono ?_; rintro e w1 ⟨rfl, hb1⟩))
  go_ret
  exact ⟨rfl, hb1⟩
end Go.Proofs.Ytchiilhdkbpboaa
