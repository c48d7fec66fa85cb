/- What slices.BinarySearchFunc over shares, the program's find and its Get do. -/
import Derived.Test.YtfeaablomceejaaTB2
import Derived.Test.YtfeaablomceejaaTA5
import Derived.Deep.RegionHeld3
namespace Go.Proofs.Ytfeaablomceejaa
open Go.RowKit

/-- compare, as a value -/
abbrev tcmpv : Value := .func (.func 33) #[] #[]
theorem icmp_neg {a b : Int} : icmp a b < 0 ↔ a < b := by unfold icmp; split <;> (try split) <;> omega
theorem tcompareB (x y : Ta.S) (w : World) : Calls Try.prog 33 #[sv x, sv y] w fun e w' => e = .returned (.int .i64 (icmp x.1 y.1)) ∧ Below w.heap.size w w' :=
  (tcompare_any x y w).mono fun e w' h => ⟨h.1, by rw [h.2]; exact (below_alloc _ _).alloc (by simp) _⟩
namespace Ta
theorem rise_at {l : List S} (h : l.Pairwise (fun a b => a.1 < b.1)) {p q : Nat} (hpq : p < q) (hq : q < l.length) : (l.getD p (0, 0)).1 < (l.getD q (0, 0)).1 := by
  have := (List.pairwise_iff_getElem.mp h) p q (by omega) hq hpq
  simpa [show p < l.length by omega, hq] using this
/-- where a search stands -/
def Srch (l : List S) (s : Int) (i j : Nat) : Prop := (∀ t, t < i → (l.getD t (0, 0)).1 < s) ∧ (∀ t, j ≤ t → t < l.length → s ≤ (l.getD t (0, 0)).1)
theorem srch_up {l : List S} {s : Int} {i j h : Nat} (hp : l.Pairwise (fun a b => a.1 < b.1)) (hs : Srch l s i j) (hh : h < l.length) (hlt : (l.getD h (0, 0)).1 < s) : Srch l s (h + 1) j :=
  ⟨fun t ht => by
    rcases Nat.lt_or_ge t h with h1 | h1
    · have := rise_at hp h1 hh; omega
    · obtain rfl : t = h := by omega
      exact hlt, hs.2⟩
theorem srch_down {l : List S} {s : Int} {i j h : Nat} (hp : l.Pairwise (fun a b => a.1 < b.1)) (hs : Srch l s i j) (hlt : s ≤ (l.getD h (0, 0)).1) : Srch l s i h :=
  ⟨hs.1, fun t h1 h2 => by
    rcases Nat.lt_or_ge h t with h3 | h3
    · have := rise_at hp h3 h2; omega
    · obtain rfl : t = h := by omega
      exact hlt⟩
theorem srch_none {l : List S} {s : Int} {i : Nat} (hp : l.Pairwise (fun a b => a.1 < b.1)) (hs : Srch l s i i) (hn : i < l.length → (l.getD i (0, 0)).1 ≠ s) : ∀ x ∈ l, x.1 ≠ s := by
  intro x hx
  obtain ⟨t, ht, rfl⟩ := List.getElem_of_mem hx
  have e : l.getD t (0, 0) = l[t] := by simp [ht]
  rw [← e]
  rcases Nat.lt_or_ge t i with h1 | h1
  · have := hs.1 t h1; omega
  · have h2 := hs.2 i (Nat.le_refl _) (by omega)
    have h3 := hn (by omega)
    rcases Nat.lt_or_ge i t with h4 | h4
    · have := rise_at hp h4 ht; omega
    · obtain rfl : t = i := by omega
      exact h3
end Ta
/-- where a segment stands -/
def Found (l : List Ta.S) (s : Int) (n i : Nat) (f : Bool) : Prop := i ≤ n ∧ (f = true → i < n ∧ (l.getD i (0, 0)).1 = s) ∧ (f = false → ∀ x ∈ l, x.1 ≠ s)

set_option maxRecDepth 100000 in
set_option maxHeartbeats 4000000 in
theorem tsearch_any (a : Option Addr) (n c : Nat) (l : List Ta.S) (s : Int) (w : World) (hn : n ≤ 1000000) (hr : ShRow w a n l) (hp : l.Pairwise (fun a b => a.1 < b.1)) :
    Calls Try.prog 34 #[.slice a n c, .agg #[.int .i64 s, .int .i64 0], tcmpv] w fun e w' => ∃ (i : Nat) (f : Bool), e = .returned (.tuple #[.int .i64 i, .bool f]) ∧ Found l s n i f ∧ Below w.heap.size w w' := by
  have hll : Hid (l.length = n) := hr.1
  have HP : Hid (l.Pairwise (fun a b => a.1 < b.1)) := hp
  have hb0 := below_alloc w (.cells #[.int .i64 s, .int .i64 0] 47)
  have c0 := cell_new w #[.int .i64 s, .int .i64 0] 47 0
  have c1 := cell_new w #[.int .i64 s, .int .i64 0] 47 1
  have hr1 := hr.below hb0 (Nat.le_refl _)
  have HS : Hid (Ta.Srch l s 0 n) := (⟨fun t ht => by omega, fun t h1 h2 => by have := hll.out; omega⟩ : Ta.Srch l s 0 n)
  clear hp hr
  go_enter Try.func34, Try.ntmps34
  go_wp2
  generalize hw1 : w.alloc (.cells #[.int .i64 s, .int .i64 0] 47) = w1 at *
  have hTl : w.heap.size < w1.heap.size := by rw [← hw1]; simp
  generalize hT : w.heap.size = T at *
  have HT : Hid (w.heap.size = T) := hT
  clear hT
  have Hb0 : Hid (Below T w w1) := hb0
  clear hw1 hb0
  go_loopw [9, 10] (fun u v wr => ∃ i j : Nat, u = .int .i64 i ∧ v = .int .i64 j ∧ i ≤ j ∧ j ≤ n ∧ Hid (Ta.Srch l s i j) ∧ Below w1.heap.size w1 wr) (fun u v _ => (intOf v).toNat - (intOf u).toNat)
  case atStart => exact ⟨0, n, rfl, rfl, by omega, by omega, HS, Below.refl _ _⟩
  case round =>
    obtain ⟨i, j, rfl, rfl, hij, hjn, H, hbel⟩ := hrel
    have t0 := (hbel.cell (p := ⟨T, 0, none⟩) hTl).trans c0
    have t1 := (hbel.cell (p := ⟨T, 1, none⟩) hTl).trans c1
    by_cases hlt : i < j
    · obtain ⟨hh, hhe⟩ : ∃ hh, hh = (i + j) / 2 := ⟨_, rfl⟩
      have hh1 : i ≤ hh := by omega
      have hh2 : hh < j := by omega
      have q0 : ((i : Int) + (j : Int)) / 2 = (hh : Int) := by rw [hhe]; omega
      have q1 : IntKind.i64.wrap ((i : Int) + (j : Int)) = (i : Int) + (j : Int) := by rw [IntKind.wrap_i64]; omega
      have q2 : IntKind.u64.wrap ((i : Int) + (j : Int)) = (i : Int) + (j : Int) := by rw [IntKind.wrap_u64]; omega
      have q3 : IntKind.i64.wrap (hh : Int) = (hh : Int) := by rw [IntKind.wrap_i64]; omega
      have i0 : (0 : Int) ≤ (hh : Int) := by omega
      have i1 : (hh : Int) < (n : Int) := by omega
      clear hhe
      obtain ⟨b, off, rfl, hc⟩ := (show ShRow w1 a n l from hr1).cell (by omega)
      obtain ⟨e0, e1⟩ := hc hh (by omega)
      have Hc : Hid (∀ W, Below w1.heap.size w1 W → W.cell? ⟨b, off + hh * 2, none⟩ = some (.int .i64 (l.getD hh (0, 0)).1) ∧ W.cell? ⟨b, off + hh * 2 + 1, none⟩ = some (.int .i64 (l.getD hh (0, 0)).2) ∧ W.cell? ⟨T, 0, none⟩ = some (.int .i64 s) ∧ W.cell? ⟨T, 1, none⟩ = some (.int .i64 0)) := (fun W hW => ⟨(hW.cell (p := ⟨b, off + hh * 2, none⟩) (cell_lt e0)).trans e0, (hW.cell (p := ⟨b, off + hh * 2 + 1, none⟩) (cell_lt e1)).trans e1, (hW.cell (p := ⟨T, 0, none⟩) hTl).trans c0, (hW.cell (p := ⟨T, 1, none⟩) hTl).trans c1⟩ : ∀ W, Below w1.heap.size w1 W → W.cell? ⟨b, off + hh * 2, none⟩ = some (.int .i64 (l.getD hh (0, 0)).1) ∧ W.cell? ⟨b, off + hh * 2 + 1, none⟩ = some (.int .i64 (l.getD hh (0, 0)).2) ∧ W.cell? ⟨T, 0, none⟩ = some (.int .i64 s) ∧ W.cell? ⟨T, 1, none⟩ = some (.int .i64 0))
      have p0 := (hbel.cell (p := ⟨b, off + hh * 2, none⟩) (cell_lt e0)).trans e0
      have p1 := (hbel.cell (p := ⟨b, off + hh * 2 + 1, none⟩) (cell_lt e1)).trans e1
      have Hup : Hid ((l.getD hh (0, 0)).1 < s → Ta.Srch l s (hh + 1) j) := (fun h => Ta.srch_up HP.out H.out (by have := hll.out; omega) h : (l.getD hh (0, 0)).1 < s → Ta.Srch l s (hh + 1) j)
      have Hdn : Hid (s ≤ (l.getD hh (0, 0)).1 → Ta.Srch l s i hh) := (fun h => Ta.srch_down HP.out H.out h : s ≤ (l.getD hh (0, 0)).1 → Ta.Srch l s i hh)
      have hcm := fun W => tcompareB (l.getD hh (0, 0)) (s, 0) W
      generalize l.getD hh (0, 0) = x at *
      obtain ⟨x1, x2⟩ := x
      simp only [sv] at p0 p1 Hup Hdn hcm Hc
      obtain ⟨r, hr⟩ : ∃ r, r = icmp x1 s := ⟨_, rfl⟩
      rw [← hr] at hcm
      have Hr : Hid (r < 0 ↔ x1 < s) := (by rw [hr]; exact icmp_neg : r < 0 ↔ x1 < s)
      clear hr hc e0 e1 c0 c1 HS
      by_cases hless : r < 0
      · have H2 : Hid (Ta.Srch l s (hh + 1) j) := Hup.out (Hr.out.mp hless)
        have hd : decide (r < 0) = true := by simp [hless]
        clear Hup Hdn Hr hless
        go_wp2_with fail
        go_region_held3 (fun w' => w'.cell? ⟨b, off + hh * 2, none⟩ = some (.int .i64 x1) ∧ w'.cell? ⟨b, off + hh * 2 + 1, none⟩ = some (.int .i64 x2) ∧ w'.cell? ⟨T, 0, none⟩ = some (.int .i64 s) ∧ w'.cell? ⟨T, 1, none⟩ = some (.int .i64 0)) (first | go_keep | (refine ⟨?_, ?_, ?_, ?_⟩ <;> assumption))
          ((go_at_call 33; go_must (refine (hcm _).mono ?_; rintro e w2 ⟨rfl, hbel2⟩; have hb2 := below_of_drew hbel2; have hb3 := hbel.trans (hb2.mono hbel.size); obtain ⟨a0, a1, a2, a3⟩ := Hc.out w2 hb3)))
        go_wp2
        go_roundw
        case rel => exact ⟨hh + 1, j, by go_num, rfl, by omega, hjn, H2, hb3⟩
        case measure => simp [intOf]; omega
      · have H2 : Hid (Ta.Srch l s i hh) := Hdn.out (by have := Hr.out; omega)
        have hd : decide (r < 0) = false := by simp; omega
        clear Hup Hdn Hr hless
        go_wp2_with fail
        go_region_held3 (fun w' => w'.cell? ⟨b, off + hh * 2, none⟩ = some (.int .i64 x1) ∧ w'.cell? ⟨b, off + hh * 2 + 1, none⟩ = some (.int .i64 x2) ∧ w'.cell? ⟨T, 0, none⟩ = some (.int .i64 s) ∧ w'.cell? ⟨T, 1, none⟩ = some (.int .i64 0)) (first | go_keep | (refine ⟨?_, ?_, ?_, ?_⟩ <;> assumption))
          ((go_at_call 33; go_must (refine (hcm _).mono ?_; rintro e w2 ⟨rfl, hbel2⟩; have hb2 := below_of_drew hbel2; have hb3 := hbel.trans (hb2.mono hbel.size); obtain ⟨a0, a1, a2, a3⟩ := Hc.out w2 hb3)))
        go_wp2
        go_roundw
        case rel => exact ⟨i, hh, rfl, rfl, by omega, by omega, H2, hb3⟩
        case measure => simp [intOf]; omega
    · obtain rfl : i = j := by omega
      by_cases hin : i < n
      · have i0 : (0 : Int) ≤ (i : Int) := by omega
        have i1 : (i : Int) < (n : Int) := by omega
        have i2 : decide ((i : Int) < (n : Int)) = true := by simp; omega
        obtain ⟨b, off, rfl, hc⟩ := (show ShRow w1 a n l from hr1).cell (by omega)
        obtain ⟨e0, e1⟩ := hc i (by omega)
        have Hc : Hid (∀ W, Below w1.heap.size w1 W → W.cell? ⟨b, off + i * 2, none⟩ = some (.int .i64 (l.getD i (0, 0)).1) ∧ W.cell? ⟨b, off + i * 2 + 1, none⟩ = some (.int .i64 (l.getD i (0, 0)).2) ∧ W.cell? ⟨T, 0, none⟩ = some (.int .i64 s) ∧ W.cell? ⟨T, 1, none⟩ = some (.int .i64 0)) := (fun W hW => ⟨(hW.cell (p := ⟨b, off + i * 2, none⟩) (cell_lt e0)).trans e0, (hW.cell (p := ⟨b, off + i * 2 + 1, none⟩) (cell_lt e1)).trans e1, (hW.cell (p := ⟨T, 0, none⟩) hTl).trans c0, (hW.cell (p := ⟨T, 1, none⟩) hTl).trans c1⟩ : ∀ W, Below w1.heap.size w1 W → W.cell? ⟨b, off + i * 2, none⟩ = some (.int .i64 (l.getD i (0, 0)).1) ∧ W.cell? ⟨b, off + i * 2 + 1, none⟩ = some (.int .i64 (l.getD i (0, 0)).2) ∧ W.cell? ⟨T, 0, none⟩ = some (.int .i64 s) ∧ W.cell? ⟨T, 1, none⟩ = some (.int .i64 0))
        have p0 := (hbel.cell (p := ⟨b, off + i * 2, none⟩) (cell_lt e0)).trans e0
        have p1 := (hbel.cell (p := ⟨b, off + i * 2 + 1, none⟩) (cell_lt e1)).trans e1
        have Hno : Hid ((l.getD i (0, 0)).1 ≠ s → ∀ x ∈ l, x.1 ≠ s) := (fun h => Ta.srch_none HP.out H.out (fun _ => h) : (l.getD i (0, 0)).1 ≠ s → ∀ x ∈ l, x.1 ≠ s)
        have Hx : Hid (∀ q, q = (l.getD i (0, 0)).1 → q = s → (l.getD i (0, 0)).1 = s) := (fun q h1 h2 => by rw [← h1]; exact h2 : ∀ q, q = (l.getD i (0, 0)).1 → q = s → (l.getD i (0, 0)).1 = s)
        have hcm := fun W => tcompareB (l.getD i (0, 0)) (s, 0) W
        obtain ⟨x, hx⟩ : ∃ x, x = l.getD i (0, 0) := ⟨_, rfl⟩
        rw [← hx] at p0 p1 hcm Hc
        have HX : Hid (x = l.getD i (0, 0)) := hx
        obtain ⟨x1, x2⟩ := x
        simp only [sv] at p0 p1 hcm Hc
        obtain ⟨r, hr⟩ : ∃ r, r = icmp x1 s := ⟨_, rfl⟩
        rw [← hr] at hcm
        have Hr : Hid (r = 0 ↔ x1 = s) := (by rw [hr]; exact icmp_zero : r = 0 ↔ x1 = s)
        clear hr hc e0 e1 c0 c1 HS hx
        obtain ⟨f, hf⟩ : ∃ f, f = decide (r = 0) := ⟨_, rfl⟩
        have hd : (r == 0) = f := by rw [hf]; by_cases h : r = 0 <;> simp [h]
        have HF : Hid (Found l s n i f) := (by
          refine ⟨by omega, fun h => ⟨hin, ?_⟩, fun h => Hno.out ?_⟩
          · rw [hf, decide_eq_true_eq] at h
            rw [← HX.out]; exact Hr.out.mp h
          · rw [hf, decide_eq_false_iff_not] at h
            rw [← HX.out]; exact fun e => h (Hr.out.mpr e) : Found l s n i f)
        clear hf Hr Hno Hx HX
        go_wp2_with fail
        go_region_held3 (fun w' => w'.cell? ⟨b, off + i * 2, none⟩ = some (.int .i64 x1) ∧ w'.cell? ⟨b, off + i * 2 + 1, none⟩ = some (.int .i64 x2) ∧ w'.cell? ⟨T, 0, none⟩ = some (.int .i64 s) ∧ w'.cell? ⟨T, 1, none⟩ = some (.int .i64 0)) (first | go_keep | (refine ⟨?_, ?_, ?_, ?_⟩ <;> assumption))
          ((go_at_call 33; go_must (refine (hcm _).mono ?_; rintro e w2 ⟨rfl, hbel2⟩; have hb2 := below_of_drew hbel2; have hb3 := hbel.trans (hb2.mono hbel.size); obtain ⟨a0, a1, a2, a3⟩ := Hc.out w2 hb3)))
        go_wp2
        go_ret2
        exact ⟨i, f, rfl, HF.out, by rw [HT.out]; exact Hb0.out.trans (hb3.mono (Nat.le_of_lt hTl))⟩
      · obtain rfl : i = n := by omega
        have i2 : decide ((i : Int) < (i : Int)) = false := by simp
        have HF : Hid (Found l s i i false) := (⟨Nat.le_refl _, (fun h => by cases h), fun _ => Ta.srch_none HP.out H.out (fun h => by have := hll.out; omega)⟩ : Found l s i i false)
        clear HS c0 c1 H
        go_wp2_with fail
        go_quiet (fail)
        have hb3 : Below w1.heap.size w1 (wr.drewN nq) := hbel.trans (below_drewN _ _ _)
        go_wp2
        go_ret2
        exact ⟨i, false, rfl, HF.out, by rw [HT.out]; exact Hb0.out.trans (hb3.mono (Nat.le_of_lt hTl))⟩

set_option maxRecDepth 100000 in
set_option maxHeartbeats 400000 in
theorem tfind_any (a : Option Addr) (n c : Nat) (l : List Ta.S) (s : Int) (w : World) (hn : n ≤ 1000000) (hr : ShRow w a n l) (hp : l.Pairwise (fun a b => a.1 < b.1)) :
    Calls Try.prog 25 #[.slice a n c, .int .i64 s] w fun e w' => ∃ (i : Nat) (f : Bool), e = .returned (.tuple #[.int .i64 i, .bool f]) ∧ Found l s n i f ∧ Below w.heap.size w w' := by
  have hs := tsearch_any a n c l s w hn hr hp
  go_enter Try.func25, Try.ntmps25
  go_wp2_with (go_at_call 34; go_must (refine hs.mono ?_; rintro e w2 ⟨i, f, rfl, hf, hb⟩))
  go_ret2
  exact ⟨i, f, rfl, hf, hb⟩

theorem Ta.get_found {l : List Ta.S} {s : Int} {n i : Nat} (hp : l.Pairwise (fun a b => a.1 < b.1)) (hl : l.length = n) (h : Found l s n i true) : Ta.get l s = (l.getD i (0, 0)).2 := by
  obtain ⟨h1, h2⟩ := h.2.1 rfl
  rw [← h2]
  have h3 : i < l.length := by omega
  clear h h1 h2 hl
  induction l generalizing i with
  | nil => simp at h3
  | cons x l ih =>
    rw [List.pairwise_cons] at hp
    cases i with
    | zero => simp [Ta.get]
    | succ i =>
      have hi' : i < l.length := by simpa using h3
      have := hp.1 (l.getD i (0, 0)) (by rw [show l.getD i (0, 0) = l[i] by simp [hi']]; exact List.getElem_mem _)
      rw [List.getD_cons_succ, Ta.get, if_neg (by omega)]
      exact ih hp.2 hi'

set_option maxRecDepth 100000 in
set_option maxHeartbeats 1000000 in
theorem tgetC : TGetC := by
  intro a n c l s w hn hi hs
  have hck := tcheck_any a n c l w hi.1
  have hll : Hid (l.length = n) := hi.1.1
  unfold Ta.getR
  cases hm : Ta.may l with
  | false =>
    simp only [hm, Bool.false_eq_true, if_false] at hck ⊢
    clear hm
    go_enter Try.func13, Try.ntmps13
    go_wp2_with (go_at_call 12; go_must (refine hck.mono ?_; rintro e w1 ⟨rfl, hb1⟩))
    go_ret
    exact ⟨rfl, hb1⟩
  | true =>
    simp only [hm, if_true] at hck ⊢
    have hp := (Ta.may_up hm).1
    have hf := fun W (h : Below w.heap.size w W) => tfind_any a n c l s W (by omega) (hi.1.below h (Nat.le_refl _)) hp
    have HP : Hid (l.Pairwise (fun a b => a.1 < b.1)) := hp
    obtain ⟨G, hG⟩ : ∃ G, G = Ta.get l s := ⟨_, rfl⟩
    rw [← hG]
    have HG : Hid (G = Ta.get l s) := hG
    have hsp : ∀ (i : Nat) (f : Bool), Found l s n i f → ∀ W, Below w.heap.size w W → (f = false ∧ Hid (G = 0)) ∨ (f = true ∧ ∃ b off, a = some ⟨b, off, none⟩ ∧ (0 : Int) ≤ (i : Int) ∧ (i : Int) < (n : Int) ∧ W.cell? ⟨b, off + i * 2 + 1, none⟩ = some (.int .i64 G)) := by
      intro i f hf W hW
      cases f with
      | false => exact .inl ⟨rfl, (by rw [HG.out, Ta.get_out (hf.2.2 rfl)] : G = 0)⟩
      | true =>
        have hin := (hf.2.1 rfl).1
        obtain ⟨b, off, e, hc⟩ := ShRow.cell (hi.1.below hW (Nat.le_refl _)) (by omega)
        refine .inr ⟨rfl, b, off, e, by omega, by omega, ?_⟩
        rw [HG.out, Ta.get_found HP.out hll.out hf]
        exact (hc i hin).2
    clear hm hp hG HG
    go_enter Try.func13, Try.ntmps13
    go_wp2_with (first
      | (go_at_call 12; go_must (refine hck.mono ?_; rintro e w1 ⟨rfl, hb1⟩))
      | (go_at_call 25; go_must (refine (hf _ hb1).mono ?_; rintro e w2 ⟨i, f, rfl, hfd, hb2⟩; have hb3 := hb1.trans (hb2.mono hb1.size); rcases hsp i f hfd w2 hb3 with ⟨rfl, hg⟩ | ⟨rfl, b, off, rfl, i0, i1, pc⟩)))
    · go_ret
      exact ⟨by rw [hg.out]; rfl, hb3⟩
    · go_ret
      exact ⟨rfl, hb3⟩
end Go.Proofs.Ytfeaablomceejaa
