/- What the program's Check and Same of cells, and bytes.Equal, do. -/
import Derived.Test.YtchiilhdkbpboaaV1
import Derived.Test.YtchiilhdkbpboaaQC
import Derived.Laws.BytesArg
import Derived.Laws.BytesString
namespace Go.Proofs.Ytchiilhdkbpboaa
open Go.RowKit

/-- the text of bytes -/
def nstr (bs : List Nat) : ByteArray := strOfNums (bs.map fun n : Nat => (n : Int))
theorem conv_any {w : World} {a : Option Addr} {n : Nat} {bs : List Nat} (c : Nat) (hr : Row .u8 w a n bs) : (convert 30 9 (.slice a n c)).run Try.prog w = .ok (.string (nstr bs)) w := by
  rcases hr.2.2.2 with h0 | ⟨b, off, rfl, hc⟩
  · subst h0
    obtain rfl : bs = [] := List.length_eq_zero_iff.mp hr.1
    rw [run_convert_bytes_string w _ _ 5 _ _ _ Try.underlying30 Try.underlying5 Try.underlying9]
    cases a <;> simp [Conv.bytesToString, loadCells, nstr, strOfNums] <;> rfl
  · refine run_convert_bytes_arg w 30 5 Try.underlying30 Try.underlying5 b off n c _ (by rw [List.length_map]; exact hr.1) (fun i hi => ?_) 9 Try.underlying9
    rw [hr.cell i hi]
    have : i < bs.length := by rw [hr.1]; exact hi
    simp [this]
theorem nstr_inj {bs bs' : List Nat} (h : ∀ x ∈ bs, x < 256) (h' : ∀ x ∈ bs', x < 256) (e : nstr bs = nstr bs') : bs = bs' := by
  have k : ∀ l : List Nat, (∀ x ∈ l, x < 256) → (nstr l).data.toList.map (·.toNat) = l := by
    intro l hl
    have e : (nstr l).data.toList.map (·.toNat) = l.map fun n => n % 256 := by simp [nstr, strOfNums]
    rw [e]
    apply List.ext_getElem (by simp)
    intro i h1 h2
    rw [List.getElem_map]
    exact Nat.mod_eq_of_lt (hl _ (List.getElem_mem h2))
  rw [← k bs h, ← k bs' h', e]
theorem nstr_beq {bs bs' : List Nat} (h : ∀ x ∈ bs, x < 256) (h' : ∀ x ∈ bs', x < 256) : ((nstr bs).toList == (nstr bs').toList) = decide (bs = bs') := by
  by_cases e : bs = bs'
  · subst e; simp
  · rw [decide_eq_false e, beq_eq_false_iff_ne]
    intro k
    rw [Lib.toList_data, Lib.toList_data] at k
    exact e (nstr_inj h h' (ByteArray.ext (Array.toList_inj.mp k)))

set_option maxRecDepth 100000 in
set_option maxHeartbeats 400000 in
theorem equal_any (a : Option Addr) (n c : Nat) (bs : List Nat) (a' : Option Addr) (n' c' : Nat) (bs' : List Nat) (w : World) (hr : Row .u8 w a n bs) (hr' : Row .u8 w a' n' bs') :
    Calls Try.prog 50 #[.slice a n c, .slice a' n' c'] w fun e w' => e = .returned (.bool (decide (bs = bs'))) ∧ w' = w := by
  have k1 := conv_any c hr
  have k2 := conv_any c' hr'
  rw [← nstr_beq hr.2.2.1 hr'.2.2.1]
  clear hr hr'
  go_enter Try.func50, Try.ntmps50
  go_wp2
  go_ret
  exact ⟨rfl, rfl⟩

set_option maxRecDepth 100000 in
set_option maxHeartbeats 2000000 in
theorem csame_any : ∀ (f : Bool) (a : Option Addr) (n c : Nat) (bs : List Nat) (p : Po.P) (f' : Bool) (a' : Option Addr) (n' c' : Nat) (bs' : List Nat) (p' : Po.P) (w : World), Row .u8 w a n bs → Row .u8 w a' n' bs' → Calls Try.prog 46 #[cv f a n c p, cv f' a' n' c' p'] w fun e w' => e = .returned (.bool (Ce.same (f, bs, p) (f', bs', p'))) ∧ Below w.heap.size w w' := by
  intro f a n c bs p f' a' n' c' bs' p' w hr hr'
  obtain ⟨s, y, l, m⟩ := p
  obtain ⟨s', y', l', m'⟩ := p'
  simp only [cv]
  have hb0 : Below w.heap.size w ((w.alloc (.cells #[.bool f, .slice a n c, .int .i64 s, .int .i64 y, .int .i64 l, .int .u32 (m : Nat)] 35)).alloc (.cells #[.bool f', .slice a' n' c', .int .i64 s', .int .i64 y', .int .i64 l', .int .u32 (m' : Nat)] 35)) := (below_alloc _ _).alloc (by simp) _
  have hby := fun W (h : Below w.heap.size w W) => equal_any a n c bs a' n' c' bs' W (hr.below h (Nat.le_refl _)) (hr'.below h (Nat.le_refl _))
  clear hr hr'
  have Hs : Hid (∀ r, r = decide ((f, bs, s, y, l, m) = (f', bs', s', y', l', m')) → Ce.same (f, bs, s, y, l, m) (f', bs', s', y', l', m') = r) := (fun r h => h ▸ rfl : ∀ r, r = decide ((f, bs, s, y, l, m) = (f', bs', s', y', l', m')) → Ce.same (f, bs, s, y, l, m) (f', bs', s', y', l', m') = r)
  generalize Ce.same (f, bs, s, y, l, m) (f', bs', s', y', l', m') = r at *
  by_cases hf : f = f'
  · subst hf
    by_cases hs : s = s'
    · subst hs
      by_cases hy : y = y'
      · subst hy
        by_cases hl : l = l'
        · subst hl
          by_cases hm : m = m'
          · subst hm
            have H' : Hid (r = decide (bs = bs')) := Hs.out _ (by simp [Prod.mk.injEq])
            clear Hs
            go_enter Try.func46, Try.ntmps46
            go_wp2_with (go_at_call 50; go_must (refine (hby _ hb0).mono ?_; rintro e w2 ⟨rfl, rfl⟩))
            go_ret
            exact ⟨by rw [H'.out]; rfl, hb0⟩
          · have hd : ((m : Int) == (m' : Int)) = false := by simp; omega
            have H' : Hid (r = false) := Hs.out false (by symm; apply decide_eq_false; intro e; simp only [Prod.mk.injEq] at e; simp_all)
            clear Hs hby
            go_enter Try.func46, Try.ntmps46
            go_wp2
            go_ret
            exact ⟨by rw [H'.out]; rfl, hb0⟩
        · have hd : (l == l') = false := by simpa using hl
          have H' : Hid (r = false) := Hs.out false (by symm; apply decide_eq_false; intro e; simp only [Prod.mk.injEq] at e; simp_all)
          clear Hs hby
          go_enter Try.func46, Try.ntmps46
          go_wp2
          go_ret
          exact ⟨by rw [H'.out]; rfl, hb0⟩
      · have hd : (y == y') = false := by simpa using hy
        have H' : Hid (r = false) := Hs.out false (by symm; apply decide_eq_false; intro e; simp only [Prod.mk.injEq] at e; simp_all)
        clear Hs hby
        go_enter Try.func46, Try.ntmps46
        go_wp2
        go_ret
        exact ⟨by rw [H'.out]; rfl, hb0⟩
    · have hd : (s == s') = false := by simpa using hs
      have H' : Hid (r = false) := Hs.out false (by symm; apply decide_eq_false; intro e; simp only [Prod.mk.injEq] at e; simp_all)
      clear Hs hby
      go_enter Try.func46, Try.ntmps46
      go_wp2
      go_ret
      exact ⟨by rw [H'.out]; rfl, hb0⟩
  · have hd : (f == f') = false := by simpa using hf
    have H' : Hid (r = false) := Hs.out false (by symm; apply decide_eq_false; intro e; simp only [Prod.mk.injEq] at e; simp_all)
    clear Hs hby
    go_enter Try.func46, Try.ntmps46
    go_wp2
    go_ret
    exact ⟨by rw [H'.out]; rfl, hb0⟩

set_option maxRecDepth 100000 in
set_option maxHeartbeats 2000000 in
theorem ccheck_any : ∀ (f : Bool) (a : Option Addr) (n c : Nat) (bs : List Nat) (p : Po.P) (w : World), Row .u8 w a n bs → Po.Fits p → Calls Try.prog 47 #[cv f a n c p] w fun e w' => e = .returned (.int .i64 (if Ce.may (f, bs, p) = true then 0 else 1 : Nat)) ∧ Below w.heap.size w w' := by
  intro f a n c bs p w hr hfit
  have hn : bs.length = n := hr.1
  have hn2 := hr.2.1
  obtain ⟨rp, hrp⟩ : ∃ rp : Nat, rp = if Po.may p = true then 0 else 1 := ⟨_, rfl⟩
  have hpm := fun W => pcheck_any p W hfit
  rw [← hrp] at hpm
  obtain ⟨r, hR⟩ : ∃ r : Nat, r = if Ce.may (f, bs, p) = true then 0 else 1 := ⟨_, rfl⟩
  rw [← hR]
  have HR : Hid (r = if Ce.may (f, bs, p) = true then 0 else 1) := hR
  have HP : Hid (rp = if Po.may p = true then 0 else 1) := hrp
  clear hr hfit hR hrp
  obtain ⟨s, y, l, m⟩ := p
  simp only [cv]
  simp only [pv] at hpm
  have hb0 := below_alloc w (.cells #[.bool f, .slice a n c, .int .i64 s, .int .i64 y, .int .i64 l, .int .u32 (m : Nat)] 35)
  cases f with
  | true =>
    have Hm : Hid (Ce.may (true, bs, (s, y, l, m)) = (decide (n = 0) && Po.may (s, y, l, m))) := (by simp [Ce.may, hn] : Ce.may (true, bs, (s, y, l, m)) = (decide (n = 0) && Po.may (s, y, l, m)))
    clear hn
    by_cases h0 : n = 0
    · subst h0
      have Hm2 : Hid (Ce.may (true, bs, (s, y, l, m)) = Po.may (s, y, l, m)) := (by rw [Hm.out]; simp : Ce.may (true, bs, (s, y, l, m)) = Po.may (s, y, l, m))
      have Hr : Hid (rp = r) := (by rw [HP.out, HR.out, Hm2.out] : rp = r)
      clear Hm Hm2 HP HR
      go_enter Try.func47, Try.ntmps47
      go_wp2_with (go_at_call 51; go_must (refine (hpm _).mono ?_; rintro e w1 ⟨rfl, hbel1⟩))
      go_ret
      exact ⟨by rw [← Hr.out]; rfl, hb0.trans (hbel1.mono hb0.size)⟩
    · have Hm2 : Hid (Ce.may (true, bs, (s, y, l, m)) = false) := (by rw [Hm.out]; simp [h0] : Ce.may (true, bs, (s, y, l, m)) = false)
      have Hr : Hid (r = 1) := (by rw [HR.out, Hm2.out]; rfl : r = 1)
      clear Hm Hm2 HP HR
      go_enter Try.func47, Try.ntmps47
      go_wp2
      go_ret
      exact ⟨by rw [Hr.out]; rfl, hb0⟩
  | false =>
    by_cases h0 : n ≤ 32
    · have Hm : Hid (∀ q : Po.P, Ce.may (false, bs, q) = decide (q = Po.zero)) := (fun q => by simp [Ce.may, hn, h0] : ∀ q : Po.P, Ce.may (false, bs, q) = decide (q = Po.zero))
      clear hn hpm
      by_cases hs : s = 0
      · subst hs
        by_cases hy : y = 0
        · subst hy
          by_cases hl : l = 0
          · subst hl
            by_cases hm : m = 0
            · subst hm
              have H := Hm.out ((0, 0, 0, 0))
              rw [show decide ((0, 0, 0, 0) = Po.zero) = true by simp [Po.zero]] at H
              have H' : Hid (r = 0) := (by rw [HR.out, H]; rfl : r = 0)
              clear H Hm HR HP
              go_enter Try.func47, Try.ntmps47
              go_wp2
              go_ret
              exact ⟨by rw [H'.out]; rfl, hb0⟩
            · have hd : ((m : Int) == 0) = false := by simp; omega
              have H := Hm.out ((0, 0, 0, m))
              rw [show decide ((0, 0, 0, m) = Po.zero) = false by simp [Po.zero]; try omega] at H
              have H' : Hid (r = 1) := (by rw [HR.out, H]; rfl : r = 1)
              clear H Hm HR HP
              go_enter Try.func47, Try.ntmps47
              go_wp2
              go_ret
              exact ⟨by rw [H'.out]; rfl, hb0⟩
          · have hd : (l == 0) = false := by simpa using hl
            have H := Hm.out ((0, 0, l, m))
            rw [show decide ((0, 0, l, m) = Po.zero) = false by simp [Po.zero]; try omega] at H
            have H' : Hid (r = 1) := (by rw [HR.out, H]; rfl : r = 1)
            clear H Hm HR HP
            go_enter Try.func47, Try.ntmps47
            go_wp2
            go_ret
            exact ⟨by rw [H'.out]; rfl, hb0⟩
        · have hd : (y == 0) = false := by simpa using hy
          have H := Hm.out ((0, y, l, m))
          rw [show decide ((0, y, l, m) = Po.zero) = false by simp [Po.zero]; try omega] at H
          have H' : Hid (r = 1) := (by rw [HR.out, H]; rfl : r = 1)
          clear H Hm HR HP
          go_enter Try.func47, Try.ntmps47
          go_wp2
          go_ret
          exact ⟨by rw [H'.out]; rfl, hb0⟩
      · have hd : (s == 0) = false := by simpa using hs
        have H := Hm.out ((s, y, l, m))
        rw [show decide ((s, y, l, m) = Po.zero) = false by simp [Po.zero]; try omega] at H
        have H' : Hid (r = 1) := (by rw [HR.out, H]; rfl : r = 1)
        clear H Hm HR HP
        go_enter Try.func47, Try.ntmps47
        go_wp2
        go_ret
        exact ⟨by rw [H'.out]; rfl, hb0⟩
    · have Hm : Hid (Ce.may (false, bs, (s, y, l, m)) = false) := (by simp [Ce.may, hn, h0] : Ce.may (false, bs, (s, y, l, m)) = false)
      have Hr : Hid (r = 1) := (by rw [HR.out, Hm.out]; rfl : r = 1)
      clear hn Hm HR HP
      go_enter Try.func47, Try.ntmps47
      go_wp2
      go_ret
      exact ⟨by rw [Hr.out]; rfl, hb0⟩
end Go.Proofs.Ytchiilhdkbpboaa
