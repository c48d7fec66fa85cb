/- What the law FramePuts does, given the program's Put, Size and Head. -/
import Derived.Test.YtjioipkohnlipaaG3
namespace Go.Proofs.Ytjioipkohnlipaa
open Go.RowKit

theorem fputs_dark (hA : ∀ w, Calls Try.prog 8 #[] w fun e w' => e = .returned (.bool true) ∧ Below w.heap.size w w') (a : Option Addr) (len cap : Nat) (fs : List Fr.F) (z : Int) (w : World) (h : IsFrames w a len cap fs) (hl : lightB fs = false) :
    Calls Try.prog 3 #[.slice a len cap, .int .i64 z] w fun e w' => e = .returned (.bool true) ∧ Below w.heap.size w w' := by
  have hL := light_any a len cap fs w h
  rw [hl] at hL
  clear hl
  go_enter Try.func3, Try.ntmps3
  go_wp2_with (first | (go_at_call 7; refine hL.mono ?_; rintro e w' ⟨rfl, hw⟩; subst hw) | (go_at_call 8; refine (hA _).mono ?_; rintro e w1 ⟨rfl, hbel⟩))
  go_ret
  exact ⟨rfl, by assumption⟩
theorem good_of {fs : List Fr.F} {w : World} {a : Option Addr} {len : Nat} (hr : FRow w a len fs) (hm : fs.all Fr.may = true) : Fr.Good fs := by
  intro f hf
  refine ⟨List.all_eq_true.mp hm f hf, ?_⟩
  obtain ⟨i, hi, e⟩ := List.mem_iff_getElem.mp hf
  obtain ⟨h1, _, h3⟩ := hr
  rcases h3 with h0 | ⟨b, off, _, hc⟩
  · omega
  · obtain ⟨A, L, C, _, _, r1, _⟩ := hc i (by omega)
    have : fs.getD i (0, []) = f := by rw [← e]; simp [hi]
    rw [this] at r1
    exact r1.2.2.1
theorem all_len_le : ∀ (fs : List Fr.F), fs.all Fr.may = true → (Fr.all fs).length ≤ tot fs + 8 * fs.length := by
  intro fs
  induction fs with
  | nil => intro _; simp [Fr.all]
  | cons f fs ih =>
    intro h
    rw [List.all_cons, Bool.and_eq_true] at h
    have h1 := ih h.2
    have h2 := Fr.size_le ((Fr.may_iff f).mp h.1).2.2
    rw [Fr.all_len_cons]
    simp only [tot, List.map_cons, List.sum_cons, List.length_cons] at *
    omega

set_option maxRecDepth 100000 in
set_option maxHeartbeats 2000000 in
theorem fputs_any (hP : PutC) (hZ : SizeC) (hH : HeadC) (hA : ∀ w, Calls Try.prog 8 #[] w fun e w' => e = .returned (.bool true) ∧ Below w.heap.size w w')
    (a : Option Addr) (len cap : Nat) (fs : List Fr.F) (z : Int) (w : World) (h : IsFrames w a len cap fs) (hl : lightB fs = true) (hz1 : -9223372036854775808 ≤ z) (hz2 : z ≤ 9223372036854775807) :
    Calls Try.prog 3 #[.slice a len cap, .int .i64 z] w fun e w' => e = .returned (.bool true) ∧ Below w.heap.size w w' := by
  have hL := light_any a len cap fs w h
  have hlt : fs.length < 100 ∧ tot fs ≤ 4000 := by simpa [lightB] using hl
  rw [hl] at hL
  have hr := h.1
  have hll : Hid (fs.length = len) := hr.1
  rw [hll.out] at hlt
  obtain ⟨hl100, htot⟩ := hlt
  have hsz0 := fun W => hZ z W hz1 hz2
  have hhd0 := fun W => hH z W hz1 hz2
  have hput := fun W (h : Below w.heap.size w W) => hP a len cap fs W (hr.below h (Nat.le_refl _)) (by omega) (by omega)
  have hrall := fun W (h : Below w.heap.size w W) (hg : Fr.Good fs) (hb : (Fr.all fs).length ≤ 1000000000) => frefall_any a len cap fs W hg hb (hr.below h (Nat.le_refl _))
  clear hl h
  by_cases hzr : 0 ≤ z ∧ z ≤ 1048576
  · obtain ⟨hz3, hz4⟩ := hzr
    obtain ⟨n, rfl⟩ : ∃ n : Nat, z = (n : Int) := ⟨z.toNat, by omega⟩
    have e1 : sizeZ (n : Int) = (Va.one n).length + 1 + n + 4 := by unfold sizeZ; rw [if_pos ⟨hz3, hz4⟩]; rfl
    have e2 : headZ (n : Int) = (Va.one n).length + 1 := by unfold headZ; rw [if_pos ⟨hz3, hz4⟩]; rfl
    rw [e1] at hsz0
    rw [e2] at hhd0
    have hone : ∀ (W : World) (y : Int), y = (n : Int) → Calls Try.prog 11 #[.int .u64 y] W (Made .u8 5 W (Va.one n)) := fun W y hy => hy ▸ one_any n n W (Nat.le_refl _) (by omega)
    have h10 := Va.one_len10 (u := n) (by omega)
    clear e1 e2
    unfold Made at hone
    generalize (Va.one n).length = o at *
    go_enter Try.func3, Try.ntmps3
    go_wp2_with (first
      | (go_at_call 7; refine hL.mono ?_; rintro e w' ⟨rfl, hw⟩; obtain rfl : w = w' := hw.symm)
      | (go_at_call 9; refine (hsz0 _).mono ?_; rintro e w1 ⟨rfl, hbel1⟩)
      | (go_at_call 10; have := hbel1; go_must (refine (hhd0 _).mono ?_; rintro e w2 ⟨rfl, hbel2⟩; have hB2 := hbel1.trans (hbel2.mono hbel1.size)))
      | (go_at_call 11; have := hB2; go_must (refine (hone _ _ ?_).mono ?_; (first | rfl | (simp only [IntKind.wrap_u64]; omega)); rintro e w3 ⟨a3, c3, rfl, _, hbel3⟩; have HB := hB2.trans (hbel3.mono hB2.size))))
    go_loopw [7, 8] (fun t i wr => ∃ k : Nat, k ≤ len ∧ i = .int .i64 k ∧ t = .bool ((fs.take k).all Fr.may) ∧ Below w.heap.size w wr) (fun _ i _ => len - (intOf i).toNat)
    case atStart => exact ⟨0, by omega, rfl, rfl, HB⟩
    case round =>
      obtain ⟨k, hk, rfl, rfl, hbel⟩ := hrel
      have hsz := hbel.size
      by_cases hlt : k < len
      · obtain ⟨b, off, rfl, hc⟩ := (hr.below hbel (Nat.le_refl _)).at (by omega)
        obtain ⟨A, L, C, p1, q1, r1, s1, t1, lo1, hi1⟩ := hc k hlt
        have hk' : k < fs.length := by rw [hll.out]; exact hlt
        have ht : Hid ((fs.take (k + 1)).all Fr.may = ((fs.take k).all Fr.may && Fr.may (fs.getD k (0, [])))) := (by rw [List.take_succ_eq_append_getElem hk', List.all_append]; simp [hk'] : (fs.take (k + 1)).all Fr.may = ((fs.take k).all Fr.may && Fr.may (fs.getD k (0, []))))
        clear hc s1 t1
        generalize fs.getD k (0, []) = f at *
        obtain ⟨x, y⟩ := f
        simp only at p1 r1
        have hy : Hid (y.length = L) := r1.1
        have hm := may1_any x A L C wr r1.2.1
        have hmm : Hid (mayB x L = Fr.may (x, y)) := (by rw [← hy.out]; rfl : mayB x L = Fr.may (x, y))
        clear r1
        rw [← hmm.out] at ht
        clear hmm
        generalize mayB x L = m at *
        cases hq : (fs.take k).all Fr.may with
        | true =>
          rw [hq] at ht
          clear hq hput hrall
          go_wp2_with (go_at_call 12; refine hm.mono ?_; rintro e w5 ⟨rfl, hbel5⟩)
          go_roundw
          case rel => exact ⟨k + 1, by omega, by go_num, by rw [ht.out]; simp, hbel.trans (hbel5.mono hsz)⟩
          case measure => simp [intOf]; omega
        | false =>
          rw [hq] at ht
          clear hq hput hrall
          go_wp2
          go_roundw
          case rel => exact ⟨k + 1, by omega, by go_num, by rw [ht.out]; rfl, hbel⟩
          case measure => simp [intOf]; omega
      · have hkl : Hid (fs.take k = fs) := (List.take_of_length_le (by rw [hll.out]; omega) : fs.take k = fs)
        rw [hkl.out]
        have hp := hput wr hbel
        cases hq : fs.all Fr.may with
        | true =>
          have hgood := good_of hr hq
          have hal := all_len_le fs hq
          rw [hll.out] at hal
          have hra := fun W h => hrall W h hgood (by omega)
          have hsm : ∀ x ∈ Fr.all fs, x < lim .u8 := Fr.all_small hgood
          unfold PutRes at hp
          rw [hq] at hp
          clear hq hput hrall hgood
          generalize Fr.all fs = q at *
          go_wp2_with (first
            | (go_at_call 13; refine hp.mono ?_; rintro e w6 (⟨_, a6, c6, rfl, hown6, hbel6⟩ | ⟨h, _⟩); rotate_left; (cases h); have hB6 := hbel.trans (hbel6.mono hsz))
            | (go_at_call 15; have := hB6; go_must (refine (hra _ hB6).mono ?_; rintro e w7 ⟨a7, c7, rfl, hown7, hbel7⟩; have hB7 := hB6.trans (hbel7.mono hB6.size)))
            | (go_at_call 14; have := hB7; go_must (refine (bytes_any _ _ _ _ _ _ _ _ _ ((row_of_owns hown6 hsm (by omega)).1.below hbel7 (Nat.le_refl _)) (row_of_owns hown7 hsm (by omega)).1).mono ?_; rintro e w8 ⟨rfl, m8, rfl⟩; have hB8 := hB7.trans (below_drewN _ _ m8)))
            | (go_at_call 8; refine (hA _).mono ?_; rintro e w9 ⟨rfl, hbel9⟩))
          go_ret
          exact ⟨rfl, hB8.trans (hbel9.mono hB8.size)⟩
        | false =>
          unfold PutRes at hp
          rw [hq] at hp
          clear hq hput hrall
          go_wp2_with (first
            | (go_at_call 13; refine hp.mono ?_; rintro e w6 (⟨h, _⟩ | ⟨_, a6, c6, rfl, hbel6⟩); (cases h); have hB6 := hbel.trans (hbel6.mono hsz))
            | (go_at_call 8; refine (hA _).mono ?_; rintro e w9 ⟨rfl, hbel9⟩))
          go_ret
          exact ⟨rfl, hB6.trans (hbel9.mono hB6.size)⟩
  · have e1 : sizeZ z = 0 := by unfold sizeZ; rw [if_neg hzr]
    have e2 : headZ z = 0 := by unfold headZ; rw [if_neg hzr]
    rw [e1] at hsz0
    rw [e2] at hhd0
    clear e1 e2
    by_cases hz0 : z < 0
    · go_enter Try.func3, Try.ntmps3
      go_wp2_with (first
        | (go_at_call 7; refine hL.mono ?_; rintro e w' ⟨rfl, hw⟩; obtain rfl : w = w' := hw.symm)
        | (go_at_call 9; refine (hsz0 _).mono ?_; rintro e w1 ⟨rfl, hbel1⟩)
        | (go_at_call 10; have := hbel1; go_must (refine (hhd0 _).mono ?_; rintro e w2 ⟨rfl, hbel2⟩; have HB := hbel1.trans (hbel2.mono hbel1.size))))
      go_loopw [7, 8] (fun t i wr => ∃ k : Nat, k ≤ len ∧ i = .int .i64 k ∧ t = .bool ((fs.take k).all Fr.may) ∧ Below w.heap.size w wr) (fun _ i _ => len - (intOf i).toNat)
      case atStart => exact ⟨0, by omega, rfl, rfl, HB⟩
      case round =>
        obtain ⟨k, hk, rfl, rfl, hbel⟩ := hrel
        have hsz := hbel.size
        by_cases hlt : k < len
        · obtain ⟨b, off, rfl, hc⟩ := (hr.below hbel (Nat.le_refl _)).at (by omega)
          obtain ⟨A, L, C, p1, q1, r1, s1, t1, lo1, hi1⟩ := hc k hlt
          have hk' : k < fs.length := by rw [hll.out]; exact hlt
          have ht : Hid ((fs.take (k + 1)).all Fr.may = ((fs.take k).all Fr.may && Fr.may (fs.getD k (0, [])))) := (by rw [List.take_succ_eq_append_getElem hk', List.all_append]; simp [hk'] : (fs.take (k + 1)).all Fr.may = ((fs.take k).all Fr.may && Fr.may (fs.getD k (0, []))))
          clear hc s1 t1
          generalize fs.getD k (0, []) = f at *
          obtain ⟨x, y⟩ := f
          simp only at p1 r1
          have hy : Hid (y.length = L) := r1.1
          have hm := may1_any x A L C wr r1.2.1
          have hmm : Hid (mayB x L = Fr.may (x, y)) := (by rw [← hy.out]; rfl : mayB x L = Fr.may (x, y))
          clear r1
          rw [← hmm.out] at ht
          clear hmm
          generalize mayB x L = m at *
          cases hq : (fs.take k).all Fr.may with
          | true =>
            rw [hq] at ht
            clear hq hput hrall
            go_wp2_with (go_at_call 12; refine hm.mono ?_; rintro e w5 ⟨rfl, hbel5⟩)
            go_roundw
            case rel => exact ⟨k + 1, by omega, by go_num, by rw [ht.out]; simp, hbel.trans (hbel5.mono hsz)⟩
            case measure => simp [intOf]; omega
          | false =>
            rw [hq] at ht
            clear hq hput hrall
            go_wp2
            go_roundw
            case rel => exact ⟨k + 1, by omega, by go_num, by rw [ht.out]; rfl, hbel⟩
            case measure => simp [intOf]; omega
        · have hkl : Hid (fs.take k = fs) := (List.take_of_length_le (by rw [hll.out]; omega) : fs.take k = fs)
          rw [hkl.out]
          have hp := hput wr hbel
          cases hq : fs.all Fr.may with
          | true =>
            have hgood := good_of hr hq
            have hal := all_len_le fs hq
            rw [hll.out] at hal
            have hra := fun W h => hrall W h hgood (by omega)
            have hsm : ∀ x ∈ Fr.all fs, x < lim .u8 := Fr.all_small hgood
            unfold PutRes at hp
            rw [hq] at hp
            clear hq hput hrall hgood
            generalize Fr.all fs = q at *
            go_wp2_with (first
              | (go_at_call 13; refine hp.mono ?_; rintro e w6 (⟨_, a6, c6, rfl, hown6, hbel6⟩ | ⟨h, _⟩); rotate_left; (cases h); have hB6 := hbel.trans (hbel6.mono hsz))
              | (go_at_call 15; have := hB6; go_must (refine (hra _ hB6).mono ?_; rintro e w7 ⟨a7, c7, rfl, hown7, hbel7⟩; have hB7 := hB6.trans (hbel7.mono hB6.size)))
              | (go_at_call 14; have := hB7; go_must (refine (bytes_any _ _ _ _ _ _ _ _ _ ((row_of_owns hown6 hsm (by omega)).1.below hbel7 (Nat.le_refl _)) (row_of_owns hown7 hsm (by omega)).1).mono ?_; rintro e w8 ⟨rfl, m8, rfl⟩; have hB8 := hB7.trans (below_drewN _ _ m8)))
              | (go_at_call 8; refine (hA _).mono ?_; rintro e w9 ⟨rfl, hbel9⟩))
            go_ret
            exact ⟨rfl, hB8.trans (hbel9.mono hB8.size)⟩
          | false =>
            unfold PutRes at hp
            rw [hq] at hp
            clear hq hput hrall
            go_wp2_with (first
              | (go_at_call 13; refine hp.mono ?_; rintro e w6 (⟨h, _⟩ | ⟨_, a6, c6, rfl, hbel6⟩); (cases h); have hB6 := hbel.trans (hbel6.mono hsz))
              | (go_at_call 8; refine (hA _).mono ?_; rintro e w9 ⟨rfl, hbel9⟩))
            go_ret
            exact ⟨rfl, hB6.trans (hbel9.mono hB6.size)⟩
    · have hz5 : 1048576 < z := by omega
      go_enter Try.func3, Try.ntmps3
      go_wp2_with (first
        | (go_at_call 7; refine hL.mono ?_; rintro e w' ⟨rfl, hw⟩; obtain rfl : w = w' := hw.symm)
        | (go_at_call 9; refine (hsz0 _).mono ?_; rintro e w1 ⟨rfl, hbel1⟩)
        | (go_at_call 10; have := hbel1; go_must (refine (hhd0 _).mono ?_; rintro e w2 ⟨rfl, hbel2⟩; have HB := hbel1.trans (hbel2.mono hbel1.size))))
      go_loopw [7, 8] (fun t i wr => ∃ k : Nat, k ≤ len ∧ i = .int .i64 k ∧ t = .bool ((fs.take k).all Fr.may) ∧ Below w.heap.size w wr) (fun _ i _ => len - (intOf i).toNat)
      case atStart => exact ⟨0, by omega, rfl, rfl, HB⟩
      case round =>
        obtain ⟨k, hk, rfl, rfl, hbel⟩ := hrel
        have hsz := hbel.size
        by_cases hlt : k < len
        · obtain ⟨b, off, rfl, hc⟩ := (hr.below hbel (Nat.le_refl _)).at (by omega)
          obtain ⟨A, L, C, p1, q1, r1, s1, t1, lo1, hi1⟩ := hc k hlt
          have hk' : k < fs.length := by rw [hll.out]; exact hlt
          have ht : Hid ((fs.take (k + 1)).all Fr.may = ((fs.take k).all Fr.may && Fr.may (fs.getD k (0, [])))) := (by rw [List.take_succ_eq_append_getElem hk', List.all_append]; simp [hk'] : (fs.take (k + 1)).all Fr.may = ((fs.take k).all Fr.may && Fr.may (fs.getD k (0, []))))
          clear hc s1 t1
          generalize fs.getD k (0, []) = f at *
          obtain ⟨x, y⟩ := f
          simp only at p1 r1
          have hy : Hid (y.length = L) := r1.1
          have hm := may1_any x A L C wr r1.2.1
          have hmm : Hid (mayB x L = Fr.may (x, y)) := (by rw [← hy.out]; rfl : mayB x L = Fr.may (x, y))
          clear r1
          rw [← hmm.out] at ht
          clear hmm
          generalize mayB x L = m at *
          cases hq : (fs.take k).all Fr.may with
          | true =>
            rw [hq] at ht
            clear hq hput hrall
            go_wp2_with (go_at_call 12; refine hm.mono ?_; rintro e w5 ⟨rfl, hbel5⟩)
            go_roundw
            case rel => exact ⟨k + 1, by omega, by go_num, by rw [ht.out]; simp, hbel.trans (hbel5.mono hsz)⟩
            case measure => simp [intOf]; omega
          | false =>
            rw [hq] at ht
            clear hq hput hrall
            go_wp2
            go_roundw
            case rel => exact ⟨k + 1, by omega, by go_num, by rw [ht.out]; rfl, hbel⟩
            case measure => simp [intOf]; omega
        · have hkl : Hid (fs.take k = fs) := (List.take_of_length_le (by rw [hll.out]; omega) : fs.take k = fs)
          rw [hkl.out]
          have hp := hput wr hbel
          cases hq : fs.all Fr.may with
          | true =>
            have hgood := good_of hr hq
            have hal := all_len_le fs hq
            rw [hll.out] at hal
            have hra := fun W h => hrall W h hgood (by omega)
            have hsm : ∀ x ∈ Fr.all fs, x < lim .u8 := Fr.all_small hgood
            unfold PutRes at hp
            rw [hq] at hp
            clear hq hput hrall hgood
            generalize Fr.all fs = q at *
            go_wp2_with (first
              | (go_at_call 13; refine hp.mono ?_; rintro e w6 (⟨_, a6, c6, rfl, hown6, hbel6⟩ | ⟨h, _⟩); rotate_left; (cases h); have hB6 := hbel.trans (hbel6.mono hsz))
              | (go_at_call 15; have := hB6; go_must (refine (hra _ hB6).mono ?_; rintro e w7 ⟨a7, c7, rfl, hown7, hbel7⟩; have hB7 := hB6.trans (hbel7.mono hB6.size)))
              | (go_at_call 14; have := hB7; go_must (refine (bytes_any _ _ _ _ _ _ _ _ _ ((row_of_owns hown6 hsm (by omega)).1.below hbel7 (Nat.le_refl _)) (row_of_owns hown7 hsm (by omega)).1).mono ?_; rintro e w8 ⟨rfl, m8, rfl⟩; have hB8 := hB7.trans (below_drewN _ _ m8)))
              | (go_at_call 8; refine (hA _).mono ?_; rintro e w9 ⟨rfl, hbel9⟩))
            go_ret
            exact ⟨rfl, hB8.trans (hbel9.mono hB8.size)⟩
          | false =>
            unfold PutRes at hp
            rw [hq] at hp
            clear hq hput hrall
            go_wp2_with (first
              | (go_at_call 13; refine hp.mono ?_; rintro e w6 (⟨h, _⟩ | ⟨_, a6, c6, rfl, hbel6⟩); (cases h); have hB6 := hbel.trans (hbel6.mono hsz))
              | (go_at_call 8; refine (hA _).mono ?_; rintro e w9 ⟨rfl, hbel9⟩))
            go_ret
            exact ⟨rfl, hB6.trans (hbel9.mono hB6.size)⟩
end Go.Proofs.Ytjioipkohnlipaa
