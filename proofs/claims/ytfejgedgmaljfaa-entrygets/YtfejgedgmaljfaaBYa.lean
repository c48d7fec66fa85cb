/- What the program's counts, keyMayBe, follows and Check of an entry do. -/
import Derived.Test.YtfejgedgmaljfaaX1
import Derived.Test.YtfejgedgmaljfaaBEa
import Derived.Test.YtfejgedgmaljfaaE14d
import Derived.Deep.QuietTactic
import Derived.BigQuiet
namespace Go.Proofs.Ytfejgedgmaljfaa
open Go.RowKit

set_option maxRecDepth 100000 in
theorem counts_any (n : Int) (r : Bool) (w : World) (h : r = true ↔ 1 ≤ n ∧ n ≤ 2147483647) :
    Calls Try.prog 19 #[.int .i64 n] w fun e w' => e = .returned (.bool r) ∧ w' = w := by
  by_cases h1 : 1 ≤ n
  · by_cases h2 : n ≤ 2147483647
    · have H : Hid (r = true) := h.mpr ⟨h1, h2⟩
      clear h
      go_enter Try.func19, Try.ntmps19
      go_wp2
      go_ret
      exact ⟨by rw [H.out]; rfl, rfl⟩
    · have H : Hid (r = false) := (by cases r with | false => rfl | true => exact absurd (h.mp rfl).2 h2 : r = false)
      clear h
      go_enter Try.func19, Try.ntmps19
      go_wp2
      go_ret
      exact ⟨by rw [H.out]; rfl, rfl⟩
  · have H : Hid (r = false) := (by cases r with | false => rfl | true => exact absurd (h.mp rfl).1 h1 : r = false)
    clear h
    go_enter Try.func19, Try.ntmps19
    go_wp2
    go_ret
    exact ⟨by rw [H.out]; rfl, rfl⟩

/-- whether a key may be of a kind -/
def kmay (k : Int) (s : ByteArray) : Bool := if k = 0 then decide (s = ⟨#[]⟩) else decide ((k = 1 ∨ k = 2) ∧ s ≠ ⟨#[]⟩ ∧ s.size ≤ 64)

set_option maxRecDepth 100000 in
set_option maxHeartbeats 1000000 in
theorem keymay_any (k : Int) (s : ByteArray) (w : World) (hs2 : s.size ≤ 200) :
    Calls Try.prog 20 #[.int .i64 k, .string s] w fun e w' => e = .returned (.bool (kmay k s)) ∧ w' = w := by
  have HK : Hid (kmay k s = if k = 0 then decide (s = ⟨#[]⟩) else decide ((k = 1 ∨ k = 2) ∧ s ≠ ⟨#[]⟩ ∧ s.size ≤ 64)) := (rfl : kmay k s = if k = 0 then decide (s = ⟨#[]⟩) else decide ((k = 1 ∨ k = 2) ∧ s ≠ ⟨#[]⟩ ∧ s.size ≤ 64))
  generalize kmay k s = r at *
  by_cases hs : s = ⟨#[]⟩
  · subst hs
    by_cases k0 : k = 0
    · subst k0
      have H : Hid (r = true) := (by rw [HK.out]; simp : r = true)
      clear HK
      go_enter Try.func20, Try.ntmps20
      go_wp2
      go_ret
      exact ⟨by rw [H.out]; rfl, rfl⟩
    have H : Hid (r = false) := (by rw [HK.out, if_neg k0]; simp : r = false)
    clear HK
    have hk0 : (k == 0) = false := by simpa using k0
    by_cases k1 : k = 1
    · subst k1
      go_enter Try.func20, Try.ntmps20
      go_wp2
      go_ret
      exact ⟨by rw [H.out]; rfl, rfl⟩
    have hk1 : (k == 1) = false := by simpa using k1
    by_cases k2 : k = 2
    · subst k2
      go_enter Try.func20, Try.ntmps20
      go_wp2
      go_ret
      exact ⟨by rw [H.out]; rfl, rfl⟩
    have hk2 : (k == 2) = false := by simpa using k2
    go_enter Try.func20, Try.ntmps20
    go_wp2
    go_ret
    exact ⟨by rw [H.out]; rfl, rfl⟩
  · have hse : s.toList.isEmpty = false := by rw [isEmpty_kb]; simpa using hs
    by_cases k0 : k = 0
    · subst k0
      have H : Hid (r = false) := (by rw [HK.out]; simp [hs] : r = false)
      clear HK
      go_enter Try.func20, Try.ntmps20
      go_wp2
      go_ret
      exact ⟨by rw [H.out]; rfl, rfl⟩
    have hk0 : (k == 0) = false := by simpa using k0
    by_cases h64 : s.size ≤ 64
    · have d64 : decide ((s.size : Int) ≤ 64) = true := by simp; omega
      by_cases k1 : k = 1
      · subst k1
        have H : Hid (r = true) := (by rw [HK.out, if_neg k0]; simp [hs, h64] : r = true)
        clear HK
        go_enter Try.func20, Try.ntmps20
        go_wp2
        go_ret
        exact ⟨by rw [H.out]; rfl, rfl⟩
      have hk1 : (k == 1) = false := by simpa using k1
      by_cases k2 : k = 2
      · subst k2
        have H : Hid (r = true) := (by rw [HK.out, if_neg k0]; simp [hs, h64] : r = true)
        clear HK
        go_enter Try.func20, Try.ntmps20
        go_wp2
        go_ret
        exact ⟨by rw [H.out]; rfl, rfl⟩
      have hk2 : (k == 2) = false := by simpa using k2
      have H : Hid (r = false) := (by rw [HK.out, if_neg k0]; simp [k1, k2] : r = false)
      clear HK
      go_enter Try.func20, Try.ntmps20
      go_wp2
      go_ret
      exact ⟨by rw [H.out]; rfl, rfl⟩
    · have d64 : decide ((s.size : Int) ≤ 64) = false := by simp; omega
      have H : Hid (r = false) := (by rw [HK.out, if_neg k0]; simp [h64] : r = false)
      clear HK
      by_cases k1 : k = 1
      · subst k1
        go_enter Try.func20, Try.ntmps20
        go_wp2
        go_ret
        exact ⟨by rw [H.out]; rfl, rfl⟩
      have hk1 : (k == 1) = false := by simpa using k1
      by_cases k2 : k = 2
      · subst k2
        go_enter Try.func20, Try.ntmps20
        go_wp2
        go_ret
        exact ⟨by rw [H.out]; rfl, rfl⟩
      have hk2 : (k == 2) = false := by simpa using k2
      go_enter Try.func20, Try.ntmps20
      go_wp2
      go_ret
      exact ⟨by rw [H.out]; rfl, rfl⟩

set_option maxRecDepth 100000 in
set_option maxHeartbeats 1000000 in
theorem follows_any (i t k : Int) (s : ByteArray) (f : Bool) (a : Option Addr) (n c : Nat) (ps py pl : Int) (pm : Nat) (i' t' k' : Int) (s' : ByteArray) (f' : Bool) (a' : Option Addr) (n' c' : Nat) (ps' py' pl' : Int) (pm' : Nat) (r : Bool) (w : World) (hi : 1 ≤ i ∧ i ≤ 2147483647) (h : r = true ↔ i' = i + 1 ∧ t ≤ t') :
    Calls Try.prog 27 #[ev i t k s f a n c (ps, py, pl, pm), ev i' t' k' s' f' a' n' c' (ps', py', pl', pm')] w fun e w' => e = .returned (.bool r) ∧ Below w.heap.size w w' := by
  have hb0 : Below w.heap.size w ((w.alloc (.cells #[.int .i64 i, .int .i64 t, .int .i64 k, .string s, .bool f, .slice a n c, .int .i64 ps, .int .i64 py, .int .i64 pl, .int .u32 (pm : Nat)] 34)).alloc (.cells #[.int .i64 i', .int .i64 t', .int .i64 k', .string s', .bool f', .slice a' n' c', .int .i64 ps', .int .i64 py', .int .i64 pl', .int .u32 (pm' : Nat)] 34)) := (below_alloc _ _).alloc (by simp) _
  simp only [ev]
  have j1 : IntKind.i64.wrap (i + 1) = i + 1 := by rw [IntKind.wrap_i64]; omega
  by_cases h1 : i' = i + 1
  · have d1 : (i' == i + 1) = true := by simpa using h1
    by_cases h2 : t ≤ t'
    · have d2 : decide (t ≤ t') = true := by simpa using h2
      have H : Hid (r = true) := h.mpr ⟨h1, h2⟩
      clear h h1
      go_enter Try.func27, Try.ntmps27
      go_wp2
      go_ret
      exact ⟨by rw [H.out]; rfl, hb0⟩
    · have d2 : decide (t ≤ t') = false := by simpa using h2
      have H : Hid (r = false) := (by cases r with | false => rfl | true => exact absurd (h.mp rfl).2 h2 : r = false)
      clear h h1
      go_enter Try.func27, Try.ntmps27
      go_wp2
      go_ret
      exact ⟨by rw [H.out]; rfl, hb0⟩
  · have d1 : (i' == i + 1) = false := by simpa using h1
    have H : Hid (r = false) := (by cases r with | false => rfl | true => exact absurd (h.mp rfl).1 h1 : r = false)
    clear h h1
    go_enter Try.func27, Try.ntmps27
    go_wp2
    go_ret
    exact ⟨by rw [H.out]; rfl, hb0⟩
end Go.Proofs.Ytfejgedgmaljfaa

/- What the program's Check of an entry does. -/
namespace Go.Proofs.Ytfejgedgmaljfaa
open Go.RowKit

theorem En.may_prog (i t k : Int) (s : ByteArray) (x : Ce.C) : En.may (i, t, k, kb s, x) = (decide (1 ≤ i ∧ i ≤ 2147483647) && decide (1 ≤ t ∧ t ≤ 2147483647) && kmay k s && (decide (k ≠ 2) || Ce.same x Ce.zero) && Ce.may x) := by
  have e : (kb s = []) = (s = ⟨#[]⟩) := propext (kb_nil s)
  have hz : s = ⟨#[]⟩ → s.size ≤ 64 := by rintro rfl; decide
  simp only [En.may, kb_len, kmay, Ce.same, ne_eq, e]
  by_cases h1 : 1 ≤ i ∧ i ≤ 2147483647
  · by_cases h2 : 1 ≤ t ∧ t ≤ 2147483647
    · cases hc : Ce.may x with
      | false => simp
      | true =>
        by_cases h3 : s.size ≤ 64
        · rw [if_neg (by simp; omega)]
          by_cases k0 : k = 0
          · subst k0; simp [h1, h2]
          · rw [if_neg k0, if_neg k0]
            by_cases k2 : k = 2
            · subst k2; simp [h1, h2, h3]
            · rw [if_neg k2]; simp [h1, h2, h3, k2]
        · rw [if_pos (by omega)]
          have hne : ¬ s = ⟨#[]⟩ := fun h => h3 (hz h)
          simp [h3, hne]
    · rw [if_pos (by omega)]; simp [h2]
  · rw [if_pos (by omega)]; simp [h1]

set_option maxRecDepth 100000 in
set_option maxHeartbeats 4000000 in
theorem echeckC : ECheckC := by
  intro i t k s f a n c bs p w hn hs hfit hr hnil
  have hb0 := below_alloc w (.cells #[.int .i64 i, .int .i64 t, .int .i64 k, .string s, .bool f, .slice a n c, .int .i64 p.1, .int .i64 p.2.1, .int .i64 p.2.2.1, .int .u32 (p.2.2.2 : Nat)] 34)
  have hck := fun W (h : Below w.heap.size w W) => ccheckC f a n c bs p W (hr.below h (Nat.le_refl _)) hfit.2.2.2
  have hsame := fun W (h : Below w.heap.size w W) => csameC f a n c bs p false none 0 0 [] Po.zero W (by omega) (by omega) (hr.below h (Nat.le_refl _)) (row_nil .u8 W none)
  have hky := fun W => keymay_any k s W hs
  have hM := En.may_prog i t k s (f, bs, p)
  obtain ⟨R, hR⟩ : ∃ R, R = ecode (En.may (i, t, k, kb s, f, bs, p)) := ⟨_, rfl⟩
  rw [← hR]
  rw [hM] at hR
  have HR : Hid (R = ecode (decide (1 ≤ i ∧ i ≤ 2147483647) && decide (1 ≤ t ∧ t ≤ 2147483647) && kmay k s && (decide (k ≠ 2) || Ce.same (f, bs, p) Ce.zero) && Ce.may (f, bs, p))) := hR
  clear hM hR hr hfit hnil
  obtain ⟨ps, py, pl, pm⟩ := p
  simp only [ev, cv, Po.zero] at hck hsame hb0 ⊢
  rw [show (false, ([] : List Nat), (0 : Int), (0 : Int), (0 : Int), (0 : Nat)) = Ce.zero from rfl] at hsame
  obtain ⟨rc, hrc⟩ : ∃ rc : Nat, rc = if Ce.may (f, bs, ps, py, pl, pm) = true then 0 else 1 := ⟨_, rfl⟩
  rw [← hrc] at hck
  have HC : Hid (rc = ecode (Ce.may (f, bs, ps, py, pl, pm))) := hrc
  clear hrc
  generalize kmay k s = ry at *
  generalize Ce.same (f, bs, ps, py, pl, pm) Ce.zero = rs at *
  generalize Ce.may (f, bs, ps, py, pl, pm) = rm at *
  by_cases h1 : 1 ≤ i ∧ i ≤ 2147483647
  · have hci := fun W => counts_any i true W (by simp [h1])
    by_cases h2 : 1 ≤ t ∧ t ≤ 2147483647
    · have hct := fun W => counts_any t true W (by simp [h2])
      cases ry with
      | false =>
        have H : Hid (R = 1) := (by rw [HR.out]; simp [ecode] : R = 1)
        clear HR HC h1 h2 hsame hck
        go_enter Try.func8, Try.ntmps8
        go_wp2_with (first
          | (go_at_call 19; first | (refine (hci _).mono ?_; rintro e w' ⟨rfl, rfl⟩) | (refine (hct _).mono ?_; rintro e w' ⟨rfl, rfl⟩))
          | (go_at_call 20; refine (hky _).mono ?_; rintro e w' ⟨rfl, rfl⟩))
        go_ret
        exact ⟨by rw [H.out]; rfl, hb0⟩
      | true =>
        by_cases k2 : k = 2
        · subst k2
          cases rs with
          | false =>
            have H : Hid (R = 1) := (by rw [HR.out]; simp [ecode] : R = 1)
            clear HR HC h1 h2 hck
            go_enter Try.func8, Try.ntmps8
            go_wp2_with (first
              | (go_at_call 19; first | (refine (hci _).mono ?_; rintro e w' ⟨rfl, rfl⟩) | (refine (hct _).mono ?_; rintro e w' ⟨rfl, rfl⟩))
              | (go_at_call 20; refine (hky _).mono ?_; rintro e w' ⟨rfl, rfl⟩)
              | (go_at_call 21; go_must (refine (hsame _ hb0).mono ?_; rintro e w1 ⟨rfl, hbel1⟩)))
            go_ret
            exact ⟨by rw [H.out]; rfl, hb0.trans (hbel1.mono hb0.size)⟩
          | true =>
            have H : Hid (R = rc) := (by rw [HR.out, HC.out]; simp [h1, h2] : R = rc)
            clear HR HC h1 h2
            go_enter Try.func8, Try.ntmps8
            go_wp2_with (first
              | (go_at_call 19; first | (refine (hci _).mono ?_; rintro e w' ⟨rfl, rfl⟩) | (refine (hct _).mono ?_; rintro e w' ⟨rfl, rfl⟩))
              | (go_at_call 20; refine (hky _).mono ?_; rintro e w' ⟨rfl, rfl⟩)
              | (go_at_call 21; go_must (refine (hsame _ hb0).mono ?_; rintro e w1 ⟨rfl, hbel1⟩; obtain ⟨⟨z0, z1, z2, z3, z4, z5, z6, z7, z8, z9⟩, hlt1, hb1⟩ := ten_keep hbel1))
              | (go_at_call 22; go_must (refine (hck _ hb1).mono ?_; rintro e w2 ⟨rfl, hbel2⟩)))
            go_ret
            exact ⟨by rw [H.out]; rfl, hb1.trans (hbel2.mono hb1.size)⟩
        · have hk2 : (k == 2) = false := by simpa using k2
          have H : Hid (R = rc) := (by rw [HR.out, HC.out]; simp [h1, h2, k2] : R = rc)
          clear HR HC h1 h2 hsame
          go_enter Try.func8, Try.ntmps8
          go_wp2_with (first
            | (go_at_call 19; first | (refine (hci _).mono ?_; rintro e w' ⟨rfl, rfl⟩) | (refine (hct _).mono ?_; rintro e w' ⟨rfl, rfl⟩))
            | (go_at_call 20; refine (hky _).mono ?_; rintro e w' ⟨rfl, rfl⟩)
            | (go_at_call 22; go_must (refine (hck _ hb0).mono ?_; rintro e w2 ⟨rfl, hbel2⟩)))
          go_ret
          exact ⟨by rw [H.out]; rfl, hb0.trans (hbel2.mono hb0.size)⟩
    · have hct := fun W => counts_any t false W (by simp; omega)
      have H : Hid (R = 1) := (by rw [HR.out]; simp [ecode, h2] : R = 1)
      clear HR HC h1 h2 hsame hck
      go_enter Try.func8, Try.ntmps8
      go_wp2_with (first
        | (go_at_call 19; first | (refine (hci _).mono ?_; rintro e w' ⟨rfl, rfl⟩) | (refine (hct _).mono ?_; rintro e w' ⟨rfl, rfl⟩)))
      go_ret
      exact ⟨by rw [H.out]; rfl, hb0⟩
  · have hci := fun W => counts_any i false W (by simp; omega)
    have H : Hid (R = 1) := (by rw [HR.out]; simp [ecode, h1] : R = 1)
    clear HR HC h1 hsame hck
    go_enter Try.func8, Try.ntmps8
    go_wp2_with (first
      | (go_at_call 19; refine (hci _).mono ?_; rintro e w' ⟨rfl, rfl⟩))
    go_ret
    exact ⟨by rw [H.out]; rfl, hb0⟩
end Go.Proofs.Ytfejgedgmaljfaa
