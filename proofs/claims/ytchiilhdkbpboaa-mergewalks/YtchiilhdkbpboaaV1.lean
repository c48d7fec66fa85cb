/- Cells as values; what the reference's May, Fits and Same of cells do. -/
import Derived.Test.YtchiilhdkbpboaaBS
import Derived.Test.YtchiilhdkbpboaaMa
import Derived.Test.YtchiilhdkbpboaaCrc
import Derived.Deep.QuietTactic
import Derived.BigQuiet
namespace Go.Proofs.Ytchiilhdkbpboaa
open Go.RowKit

/-- a cell as a value: Far, where its bytes lie, its point -/
abbrev cv (f : Bool) (a : Option Addr) (n c : Nat) (p : Po.P) : Value := .agg #[.bool f, .slice a n c, .int .i64 p.1, .int .i64 p.2.1, .int .i64 p.2.2.1, .int .u32 (p.2.2.2 : Nat)]
theorem six_keep {w W : World} {c0 c1 c2 c3 c4 c5 : Value} {e : TypeId} (h : Below (w.alloc (.cells #[c0, c1, c2, c3, c4, c5] e)).heap.size (w.alloc (.cells #[c0, c1, c2, c3, c4, c5] e)) W) :
    (W.cell? ⟨w.heap.size, 0, none⟩ = some c0 ∧ W.cell? ⟨w.heap.size, 1, none⟩ = some c1 ∧ W.cell? ⟨w.heap.size, 2, none⟩ = some c2 ∧ W.cell? ⟨w.heap.size, 3, none⟩ = some c3 ∧ W.cell? ⟨w.heap.size, 4, none⟩ = some c4 ∧ W.cell? ⟨w.heap.size, 5, none⟩ = some c5) ∧ w.heap.size < W.heap.size ∧ Below w.heap.size w W := by
  have hl : w.heap.size < (w.alloc (.cells #[c0, c1, c2, c3, c4, c5] e)).heap.size := by simp
  have k : ∀ i, W.cell? ⟨w.heap.size, i, none⟩ = #[c0, c1, c2, c3, c4, c5][i]? := fun i => (h.cell (p := ⟨w.heap.size, i, none⟩) hl).trans (cell_new w _ e i)
  exact ⟨⟨k 0, k 1, k 2, k 3, k 4, k 5⟩, Nat.lt_of_lt_of_le hl h.size, (below_alloc _ _).trans (h.mono (by simp))⟩

set_option maxRecDepth 100000 in
set_option maxHeartbeats 1000000 in
theorem cemay_any (f : Bool) (a : Option Addr) (n c : Nat) (bs : List Nat) (p : Po.P) (w : World) (hn : bs.length = n) (hn2 : n ≤ 1000000000000000000) :
    Calls Try.prog 42 #[cv f a n c p] w fun e w' => e = .returned (.bool (Ce.may (f, bs, p))) ∧ Below w.heap.size w w' := by
  have hpm := fun W => pomay_any p.1 p.2.1 p.2.2.1 p.2.2.2 W
  obtain ⟨s, y, l, m⟩ := p
  simp only [cv]
  simp only at hpm
  have hb0 := below_alloc w (.cells #[.bool f, .slice a n c, .int .i64 s, .int .i64 y, .int .i64 l, .int .u32 (m : Nat)] 35)
  cases f with
  | true =>
    have Hm : Hid (Ce.may (true, bs, (s, y, l, m)) = (decide (n = 0) && Po.may (s, y, l, m))) := (by simp [Ce.may, hn] : Ce.may (true, bs, (s, y, l, m)) = (decide (n = 0) && Po.may (s, y, l, m)))
    clear hn
    by_cases h0 : n = 0
    · subst h0
      have Hm2 : Hid (Ce.may (true, bs, (s, y, l, m)) = Po.may (s, y, l, m)) := (by rw [Hm.out]; simp : Ce.may (true, bs, (s, y, l, m)) = Po.may (s, y, l, m))
      clear Hm
      go_enter Try.func42, Try.ntmps42
      go_wp2_with (go_at_call 48; go_must (refine (hpm _).mono ?_; rintro e w1 ⟨rfl, hbel1⟩))
      go_ret
      exact ⟨by rw [Hm2.out]; rfl, hb0.trans (hbel1.mono hb0.size)⟩
    · have Hm2 : Hid (Ce.may (true, bs, (s, y, l, m)) = false) := (by rw [Hm.out]; simp [h0] : Ce.may (true, bs, (s, y, l, m)) = false)
      have hd : ((n : Int) == 0) = false := by simp; omega
      clear Hm
      go_enter Try.func42, Try.ntmps42
      go_wp2
      go_ret
      exact ⟨by rw [Hm2.out]; rfl, hb0⟩
  | false =>
    by_cases h0 : n ≤ 32
    · have Hm : Hid (∀ q : Po.P, Ce.may (false, bs, q) = decide (q = Po.zero)) := (fun q => by simp [Ce.may, hn, h0] : ∀ q : Po.P, Ce.may (false, bs, q) = decide (q = Po.zero))
      clear hn hpm
      by_cases hs : s = 0
      · subst hs
        by_cases hy : y = 0
        · subst hy
          by_cases hl : l = 0
          · subst hl
            by_cases hm : m = 0
            · subst hm
              have H := Hm.out ((0, 0, 0, 0))
              rw [show decide ((0, 0, 0, 0) = Po.zero) = true by simp [Po.zero]] at H
              have H' : Hid (_) := H
              clear H Hm
              go_enter Try.func42, Try.ntmps42
              go_wp2
              go_ret
              exact ⟨by rw [H'.out]; rfl, hb0⟩
            · have hd : ((m : Int) == 0) = false := by simp; omega
              have H := Hm.out ((0, 0, 0, m))
              rw [show decide ((0, 0, 0, m) = Po.zero) = false by simp [Po.zero]; try omega] at H
              have H' : Hid (_) := H
              clear H Hm
              go_enter Try.func42, Try.ntmps42
              go_wp2
              go_ret
              exact ⟨by rw [H'.out]; rfl, hb0⟩
          · have hd : (l == 0) = false := by simpa using hl
            have H := Hm.out ((0, 0, l, m))
            rw [show decide ((0, 0, l, m) = Po.zero) = false by simp [Po.zero]; try omega] at H
            have H' : Hid (_) := H
            clear H Hm
            go_enter Try.func42, Try.ntmps42
            go_wp2
            go_ret
            exact ⟨by rw [H'.out]; rfl, hb0⟩
        · have hd : (y == 0) = false := by simpa using hy
          have H := Hm.out ((0, y, l, m))
          rw [show decide ((0, y, l, m) = Po.zero) = false by simp [Po.zero]; try omega] at H
          have H' : Hid (_) := H
          clear H Hm
          go_enter Try.func42, Try.ntmps42
          go_wp2
          go_ret
          exact ⟨by rw [H'.out]; rfl, hb0⟩
      · have hd : (s == 0) = false := by simpa using hs
        have H := Hm.out ((s, y, l, m))
        rw [show decide ((s, y, l, m) = Po.zero) = false by simp [Po.zero]; try omega] at H
        have H' : Hid (_) := H
        clear H Hm
        go_enter Try.func42, Try.ntmps42
        go_wp2
        go_ret
        exact ⟨by rw [H'.out]; rfl, hb0⟩
    · have Hm : Hid (Ce.may (false, bs, (s, y, l, m)) = false) := (by simp [Ce.may, hn, h0] : Ce.may (false, bs, (s, y, l, m)) = false)
      clear hn
      go_enter Try.func42, Try.ntmps42
      go_wp2
      go_ret
      exact ⟨by rw [Hm.out]; rfl, hb0⟩

/-- whether cells are alike -/
def Ce.same (x y : Ce.C) : Bool := decide (x = y)

set_option maxRecDepth 100000 in
set_option maxHeartbeats 2000000 in
theorem cesame_any (f : Bool) (a : Option Addr) (n c : Nat) (bs : List Nat) (p : Po.P) (f' : Bool) (a' : Option Addr) (n' c' : Nat) (bs' : List Nat) (p' : Po.P) (w : World) (hr : Row .u8 w a n bs) (hr' : Row .u8 w a' n' bs') :
    Calls Try.prog 30 #[cv f a n c p, cv f' a' n' c' p'] w fun e w' => e = .returned (.bool (Ce.same (f, bs, p) (f', bs', p'))) ∧ Below w.heap.size w w' := by
  obtain ⟨s, y, l, m⟩ := p
  obtain ⟨s', y', l', m'⟩ := p'
  simp only [cv]
  have hb0 : Below w.heap.size w ((w.alloc (.cells #[.bool f, .slice a n c, .int .i64 s, .int .i64 y, .int .i64 l, .int .u32 (m : Nat)] 35)).alloc (.cells #[.bool f', .slice a' n' c', .int .i64 s', .int .i64 y', .int .i64 l', .int .u32 (m' : Nat)] 35)) := (below_alloc _ _).alloc (by simp) _
  have hby := fun W (h : Below w.heap.size w W) => bytes_any a n c bs a' n' c' bs' W (hr.below h (Nat.le_refl _)) (hr'.below h (Nat.le_refl _))
  clear hr hr'
  have Hs : Hid (∀ r, r = decide ((f, bs, s, y, l, m) = (f', bs', s', y', l', m')) → Ce.same (f, bs, s, y, l, m) (f', bs', s', y', l', m') = r) := (fun r h => h ▸ rfl : ∀ r, r = decide ((f, bs, s, y, l, m) = (f', bs', s', y', l', m')) → Ce.same (f, bs, s, y, l, m) (f', bs', s', y', l', m') = r)
  generalize Ce.same (f, bs, s, y, l, m) (f', bs', s', y', l', m') = r at *
  by_cases hf : f = f'
  · subst hf
    by_cases hs : s = s'
    · subst hs
      by_cases hy : y = y'
      · subst hy
        by_cases hl : l = l'
        · subst hl
          by_cases hm : m = m'
          · subst hm
            have H' : Hid (r = decide (bs = bs')) := Hs.out _ (by simp [Prod.mk.injEq])
            clear Hs
            go_enter Try.func30, Try.ntmps30
            go_wp2_with (go_at_call 40; go_must (refine (hby _ hb0).mono ?_; rintro e w2 ⟨rfl, n2, rfl⟩))
            go_ret
            exact ⟨by rw [H'.out]; simp, hb0.trans (below_drewN _ _ _)⟩
          · have hd : ((m : Int) == (m' : Int)) = false := by simp; omega
            have H' : Hid (r = false) := Hs.out false (by symm; apply decide_eq_false; intro e; simp only [Prod.mk.injEq] at e; simp_all)
            clear Hs hby
            go_enter Try.func30, Try.ntmps30
            go_wp2
            go_ret
            exact ⟨by rw [H'.out]; rfl, hb0⟩
        · have hd : (l == l') = false := by simpa using hl
          have H' : Hid (r = false) := Hs.out false (by symm; apply decide_eq_false; intro e; simp only [Prod.mk.injEq] at e; simp_all)
          clear Hs hby
          go_enter Try.func30, Try.ntmps30
          go_wp2
          go_ret
          exact ⟨by rw [H'.out]; rfl, hb0⟩
      · have hd : (y == y') = false := by simpa using hy
        have H' : Hid (r = false) := Hs.out false (by symm; apply decide_eq_false; intro e; simp only [Prod.mk.injEq] at e; simp_all)
        clear Hs hby
        go_enter Try.func30, Try.ntmps30
        go_wp2
        go_ret
        exact ⟨by rw [H'.out]; rfl, hb0⟩
    · have hd : (s == s') = false := by simpa using hs
      have H' : Hid (r = false) := Hs.out false (by symm; apply decide_eq_false; intro e; simp only [Prod.mk.injEq] at e; simp_all)
      clear Hs hby
      go_enter Try.func30, Try.ntmps30
      go_wp2
      go_ret
      exact ⟨by rw [H'.out]; rfl, hb0⟩
  · have hd : (f == f') = false := by simpa using hf
    have H' : Hid (r = false) := Hs.out false (by symm; apply decide_eq_false; intro e; simp only [Prod.mk.injEq] at e; simp_all)
    clear Hs hby
    go_enter Try.func30, Try.ntmps30
    go_wp2
    go_ret
    exact ⟨by rw [H'.out]; rfl, hb0⟩
end Go.Proofs.Ytchiilhdkbpboaa
