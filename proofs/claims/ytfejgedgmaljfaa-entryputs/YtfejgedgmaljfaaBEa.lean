/- Entries as values; what the reference's number and May of an entry do. -/
import Derived.Test.YtfejgedgmaljfaaBV
import Derived.Test.YtfejgedgmaljfaaBMa
import Derived.Test.YtfejgedgmaljfaaK1
import Derived.Laws.Closers25
import Derived.Laws.BytesArg
namespace Go.Proofs.Ytfejgedgmaljfaa
open Go.RowKit

/-- an entry as a value -/
abbrev ev (i t k : Int) (s : ByteArray) (f : Bool) (a : Option Addr) (n c : Nat) (p : Po.P) : Value := .agg #[.int .i64 i, .int .i64 t, .int .i64 k, .string s, .bool f, .slice a n c, .int .i64 p.1, .int .i64 p.2.1, .int .i64 p.2.2.1, .int .u32 (p.2.2.2 : Nat)]
theorem ten_keep {w W : World} {c0 c1 c2 c3 c4 c5 c6 c7 c8 c9 : Value} {e : TypeId} (h : Below (w.alloc (.cells #[c0, c1, c2, c3, c4, c5, c6, c7, c8, c9] e)).heap.size (w.alloc (.cells #[c0, c1, c2, c3, c4, c5, c6, c7, c8, c9] e)) W) :
    (W.cell? ⟨w.heap.size, 0, none⟩ = some c0 ∧ W.cell? ⟨w.heap.size, 1, none⟩ = some c1 ∧ W.cell? ⟨w.heap.size, 2, none⟩ = some c2 ∧ W.cell? ⟨w.heap.size, 3, none⟩ = some c3 ∧ W.cell? ⟨w.heap.size, 4, none⟩ = some c4 ∧ W.cell? ⟨w.heap.size, 5, none⟩ = some c5 ∧ W.cell? ⟨w.heap.size, 6, none⟩ = some c6 ∧ W.cell? ⟨w.heap.size, 7, none⟩ = some c7 ∧ W.cell? ⟨w.heap.size, 8, none⟩ = some c8 ∧ W.cell? ⟨w.heap.size, 9, none⟩ = some c9) ∧ w.heap.size < W.heap.size ∧ Below w.heap.size w W := by
  have hl : w.heap.size < (w.alloc (.cells #[c0, c1, c2, c3, c4, c5, c6, c7, c8, c9] e)).heap.size := by simp
  have k : ∀ i, W.cell? ⟨w.heap.size, i, none⟩ = #[c0, c1, c2, c3, c4, c5, c6, c7, c8, c9][i]? := fun i => (h.cell (p := ⟨w.heap.size, i, none⟩) hl).trans (cell_new w _ e i)
  exact ⟨⟨k 0, k 1, k 2, k 3, k 4, k 5, k 6, k 7, k 8, k 9⟩, Nat.lt_of_lt_of_le hl h.size, (below_alloc _ _).trans (h.mono (by simp))⟩

set_option maxRecDepth 100000 in
set_option maxHeartbeats 1000000 in
theorem number_any (a : Option Addr) (len cap most : Nat) (bs : List Nat) (w : World) (hcap : len ≤ cap) (hbig : len ≤ 100000) (hm : most ≤ 2147483647) (hr : Row .u8 w a len bs) :
    Calls Try.prog 34 #[.slice a len cap, .int .u64 most] w fun e w' => e = .returned (.tuple #[.int .i64 ((En.number bs most).1 : Nat), .int .i64 ((En.number bs most).2 : Nat)]) ∧ Below w.heap.size w w' := by
  have hg := fun W h => refget_any a len cap bs W hcap hbig h
  have hle := Va.get_le (bs := bs)
  rw [hr.1] at hle
  have hnum : Hid (En.number bs most = if (Va.get bs).2 = 0 ∨ most < (Va.get bs).1 then (0, 0) else Va.get bs) := (rfl : En.number bs most = if (Va.get bs).2 = 0 ∨ most < (Va.get bs).1 then (0, 0) else Va.get bs)
  generalize En.number bs most = X at *
  generalize Va.get bs = R at *
  obtain ⟨u, n⟩ := R
  simp only at hg hle
  have H0 : Hid ((n = 0 ∨ most < u) → X = (0, 0)) := (fun h => by rw [hnum.out, if_pos h] : (n = 0 ∨ most < u) → X = (0, 0))
  have H1 : Hid (¬ (n = 0 ∨ most < u) → X = (u, n)) := (fun h => by rw [hnum.out, if_neg h] : ¬ (n = 0 ∨ most < u) → X = (u, n))
  clear hnum
  by_cases hn : n = 0
  · subst hn
    have H : Hid (X = (0, 0)) := H0.out (.inl rfl)
    clear H0 H1
    go_enter Try.func34, Try.ntmps34
    go_wp2_with (go_at_call 47; go_must (refine (hg _ hr).mono ?_; rintro e w1 ⟨rfl, hbel1⟩))
    go_ret2
    exact ⟨by rw [H.out]; rfl, hbel1⟩
  · have hdn : ((n : Int) == 0) = false := by simp; omega
    by_cases hu : most < u
    · have hdu : decide ((most : Int) < (u : Int)) = true := by simp; omega
      have H : Hid (X = (0, 0)) := H0.out (.inr hu)
      clear H0 H1
      go_enter Try.func34, Try.ntmps34
      go_wp2_with (go_at_call 47; go_must (refine (hg _ hr).mono ?_; rintro e w1 ⟨rfl, hbel1⟩))
      go_ret2
      exact ⟨by rw [H.out]; rfl, hbel1⟩
    · have hdu : decide ((most : Int) < (u : Int)) = false := by simp; omega
      have H : Hid (X = (u, n)) := H1.out (by omega)
      have j1 : IntKind.i64.wrap (u : Int) = (u : Int) := by rw [IntKind.wrap_i64]; omega
      clear H0 H1
      go_enter Try.func34, Try.ntmps34
      go_wp2_with (go_at_call 47; go_must (refine (hg _ hr).mono ?_; rintro e w1 ⟨rfl, hbel1⟩))
      go_ret2
      exact ⟨by rw [H.out]; rfl, hbel1⟩

set_option maxRecDepth 100000 in
set_option maxHeartbeats 2000000 in
theorem enmay_any (i t k : Int) (s : ByteArray) (f : Bool) (a : Option Addr) (n c : Nat) (bs : List Nat) (p : Po.P) (w : World) (hr : Row .u8 w a n bs) (hss : s.size ≤ maxLen) :
    Calls Try.prog 9 #[ev i t k s f a n c p] w fun e w' => e = .returned (.bool (En.may (i, t, k, kb s, (f, bs, p)))) ∧ Below w.heap.size w w' := by
  unfold maxLen at hss
  have hcm := fun W => cemay_any f a n c bs p W hr.1 hr.2.1
  have hsame := fun W (h : Below w.heap.size w W) => cesame_any f a n c bs p false none 0 0 [] Po.zero W (hr.below h (Nat.le_refl _)) (⟨rfl, by omega, by simp, .inl rfl⟩)
  obtain ⟨ps, py, pl, pm⟩ := p
  simp only [ev, cv, Po.zero] at hcm hsame ⊢
  have hb0 := below_alloc w (.cells #[.int .i64 i, .int .i64 t, .int .i64 k, .string s, .bool f, .slice a n c, .int .i64 ps, .int .i64 py, .int .i64 pl, .int .u32 (pm : Nat)] 34)
  have Hm : Hid (En.may (i, t, k, kb s, (f, bs, ps, py, pl, pm)) = if i < 1 ∨ 2147483647 < i ∨ t < 1 ∨ 2147483647 < t ∨ Ce.may (f, bs, ps, py, pl, pm) = false ∨ 64 < s.size then false else if k = 0 then decide (s = ⟨#[]⟩) else if k = 2 then decide (s ≠ ⟨#[]⟩) && Ce.same (f, bs, ps, py, pl, pm) (false, [], 0, 0, 0, 0) else decide (k = 1) && decide (s ≠ ⟨#[]⟩)) := by
    have : En.may (i, t, k, kb s, (f, bs, ps, py, pl, pm)) = if i < 1 ∨ 2147483647 < i ∨ t < 1 ∨ 2147483647 < t ∨ Ce.may (f, bs, ps, py, pl, pm) = false ∨ 64 < s.size then false else if k = 0 then decide (s = ⟨#[]⟩) else if k = 2 then decide (s ≠ ⟨#[]⟩) && Ce.same (f, bs, ps, py, pl, pm) (false, [], 0, 0, 0, 0) else decide (k = 1) && decide (s ≠ ⟨#[]⟩) := by
      have e : (kb s = []) = (s = ⟨#[]⟩) := propext (kb_nil s)
      simp only [En.may, kb_len, Ce.same, Ce.zero, Po.zero, ne_eq, e]
      rfl
    exact this
  generalize En.may (i, t, k, kb s, (f, bs, ps, py, pl, pm)) = X at *
  by_cases h1 : i < 1
  · have H : Hid (X = false) := (by rw [Hm.out, if_pos (.inl h1)] : X = false)
    clear Hm
    go_enter Try.func9, Try.ntmps9
    go_wp2
    go_ret
    exact ⟨by rw [H.out]; rfl, hb0⟩
  by_cases h2 : 2147483647 < i
  · have H : Hid (X = false) := (by rw [Hm.out, if_pos (.inr (.inl h2))] : X = false)
    clear Hm
    go_enter Try.func9, Try.ntmps9
    go_wp2
    go_ret
    exact ⟨by rw [H.out]; rfl, hb0⟩
  by_cases h3 : t < 1
  · have H : Hid (X = false) := (by rw [Hm.out, if_pos (.inr (.inr (.inl h3)))] : X = false)
    clear Hm
    go_enter Try.func9, Try.ntmps9
    go_wp2
    go_ret
    exact ⟨by rw [H.out]; rfl, hb0⟩
  by_cases h4 : 2147483647 < t
  · have H : Hid (X = false) := (by rw [Hm.out, if_pos (.inr (.inr (.inr (.inl h4))))] : X = false)
    clear Hm
    go_enter Try.func9, Try.ntmps9
    go_wp2
    go_ret
    exact ⟨by rw [H.out]; rfl, hb0⟩
  cases hM : Ce.may (f, bs, ps, py, pl, pm) with
  | false =>
    rw [hM] at hcm
    have H : Hid (X = false) := (by rw [Hm.out, if_pos (.inr (.inr (.inr (.inr (.inl hM)))))] : X = false)
    clear Hm
    go_enter Try.func9, Try.ntmps9
    go_wp2_with (first | (go_at_call 23; go_must (refine (hcm _).mono ?_; rintro e w1 ⟨rfl, hbel1⟩; obtain ⟨⟨z0, z1, z2, z3, z4, z5, z6, z7, z8, z9⟩, hlt1, hb1⟩ := ten_keep hbel1)))
    go_ret
    exact ⟨by rw [H.out]; rfl, hb1⟩
  | true =>
    rw [hM] at hcm
    by_cases h6 : 64 < s.size
    · have H : Hid (X = false) := (by rw [Hm.out, if_pos (.inr (.inr (.inr (.inr (.inr h6)))))] : X = false)
      clear Hm
      go_enter Try.func9, Try.ntmps9
      go_wp2_with (first | (go_at_call 23; go_must (refine (hcm _).mono ?_; rintro e w1 ⟨rfl, hbel1⟩; obtain ⟨⟨z0, z1, z2, z3, z4, z5, z6, z7, z8, z9⟩, hlt1, hb1⟩ := ten_keep hbel1)))
      go_ret
      exact ⟨by rw [H.out]; rfl, hb1⟩
    have Hm2 : Hid (X = if k = 0 then decide (s = ⟨#[]⟩) else if k = 2 then decide (s ≠ ⟨#[]⟩) && Ce.same (f, bs, ps, py, pl, pm) (false, [], 0, 0, 0, 0) else decide (k = 1) && decide (s ≠ ⟨#[]⟩)) := (by rw [Hm.out, if_neg (by rw [hM]; simp; omega)] : X = if k = 0 then decide (s = ⟨#[]⟩) else if k = 2 then decide (s ≠ ⟨#[]⟩) && Ce.same (f, bs, ps, py, pl, pm) (false, [], 0, 0, 0, 0) else decide (k = 1) && decide (s ≠ ⟨#[]⟩))
    clear hM Hm
    have Hm := Hm2
    clear Hm2
    generalize Ce.same (f, bs, ps, py, pl, pm) (false, [], 0, 0, 0, 0) = r at *
    by_cases hs : s = ⟨#[]⟩
    · subst hs
      by_cases k0 : k = 0
      · subst k0
        have H : Hid (X = true) := (by rw [Hm.out]; simp : X = true)
        clear Hm
        go_enter Try.func9, Try.ntmps9
        go_wp2_with (first | (go_at_call 23; go_must (refine (hcm _).mono ?_; rintro e w1 ⟨rfl, hbel1⟩; obtain ⟨⟨z0, z1, z2, z3, z4, z5, z6, z7, z8, z9⟩, hlt1, hb1⟩ := ten_keep hbel1)))
        go_ret
        exact ⟨by rw [H.out]; rfl, hb1⟩
      by_cases k2 : k = 2
      · subst k2
        have H : Hid (X = false) := (by rw [Hm.out]; simp : X = false)
        clear Hm
        go_enter Try.func9, Try.ntmps9
        go_wp2_with (first | (go_at_call 23; go_must (refine (hcm _).mono ?_; rintro e w1 ⟨rfl, hbel1⟩; obtain ⟨⟨z0, z1, z2, z3, z4, z5, z6, z7, z8, z9⟩, hlt1, hb1⟩ := ten_keep hbel1)))
        go_ret
        exact ⟨by rw [H.out]; rfl, hb1⟩
      by_cases k1 : k = 1
      · subst k1
        have H : Hid (X = false) := (by rw [Hm.out]; simp : X = false)
        clear Hm
        go_enter Try.func9, Try.ntmps9
        go_wp2_with (first | (go_at_call 23; go_must (refine (hcm _).mono ?_; rintro e w1 ⟨rfl, hbel1⟩; obtain ⟨⟨z0, z1, z2, z3, z4, z5, z6, z7, z8, z9⟩, hlt1, hb1⟩ := ten_keep hbel1)))
        go_ret
        exact ⟨by rw [H.out]; rfl, hb1⟩
      have hk0 : (k == 0) = false := by simpa using k0
      have hk2 : (k == 2) = false := by simpa using k2
      have hk1 : (k == 1) = false := by simpa using k1
      have H : Hid (X = false) := (by rw [Hm.out, if_neg k0, if_neg k2]; simp [k1] : X = false)
      clear Hm
      go_enter Try.func9, Try.ntmps9
      go_wp2_with (first | (go_at_call 23; go_must (refine (hcm _).mono ?_; rintro e w1 ⟨rfl, hbel1⟩; obtain ⟨⟨z0, z1, z2, z3, z4, z5, z6, z7, z8, z9⟩, hlt1, hb1⟩ := ten_keep hbel1)))
      go_ret
      exact ⟨by rw [H.out]; rfl, hb1⟩
    · have hse : s.toList.isEmpty = false := by rw [isEmpty_kb]; simpa using hs
      by_cases k0 : k = 0
      · subst k0
        have H : Hid (X = false) := (by rw [Hm.out]; simp [hs] : X = false)
        clear Hm
        go_enter Try.func9, Try.ntmps9
        go_wp2_with (first | (go_at_call 23; go_must (refine (hcm _).mono ?_; rintro e w1 ⟨rfl, hbel1⟩; obtain ⟨⟨z0, z1, z2, z3, z4, z5, z6, z7, z8, z9⟩, hlt1, hb1⟩ := ten_keep hbel1)))
        go_ret
        exact ⟨by rw [H.out]; rfl, hb1⟩
      by_cases k2 : k = 2
      · subst k2
        have H : Hid (X = r) := (by rw [Hm.out]; simp [hs] : X = r)
        clear Hm
        go_enter Try.func9, Try.ntmps9
        go_wp2_with (first | (go_at_call 24; go_must (refine (hsame _ hb1).mono ?_; rintro e w2 ⟨rfl, hbel2⟩)) | (go_at_call 23; go_must (refine (hcm _).mono ?_; rintro e w1 ⟨rfl, hbel1⟩; obtain ⟨⟨z0, z1, z2, z3, z4, z5, z6, z7, z8, z9⟩, hlt1, hb1⟩ := ten_keep hbel1)))
        go_ret
        exact ⟨by rw [H.out]; rfl, hb1.trans (hbel2.mono hb1.size)⟩
      by_cases k1 : k = 1
      · subst k1
        have H : Hid (X = true) := (by rw [Hm.out]; simp [hs] : X = true)
        clear Hm
        go_enter Try.func9, Try.ntmps9
        go_wp2_with (first | (go_at_call 23; go_must (refine (hcm _).mono ?_; rintro e w1 ⟨rfl, hbel1⟩; obtain ⟨⟨z0, z1, z2, z3, z4, z5, z6, z7, z8, z9⟩, hlt1, hb1⟩ := ten_keep hbel1)))
        go_ret
        exact ⟨by rw [H.out]; rfl, hb1⟩
      have hk0 : (k == 0) = false := by simpa using k0
      have hk2 : (k == 2) = false := by simpa using k2
      have hk1 : (k == 1) = false := by simpa using k1
      have H : Hid (X = false) := (by rw [Hm.out, if_neg k0, if_neg k2]; simp [k1] : X = false)
      clear Hm
      go_enter Try.func9, Try.ntmps9
      go_wp2_with (first | (go_at_call 23; go_must (refine (hcm _).mono ?_; rintro e w1 ⟨rfl, hbel1⟩; obtain ⟨⟨z0, z1, z2, z3, z4, z5, z6, z7, z8, z9⟩, hlt1, hb1⟩ := ten_keep hbel1)))
      go_ret
      exact ⟨by rw [H.out]; rfl, hb1⟩
end Go.Proofs.Ytfejgedgmaljfaa

/- Texts out of rows of bytes. -/
namespace Go.Proofs.Ytfejgedgmaljfaa
open Go.RowKit

theorem conv_row {w : World} {b off n cap : Nat} {bs : List Nat} (hr : Row .u8 w (some ⟨b, off, none⟩) n bs) : (convert 27 9 (.slice (some ⟨b, off, none⟩) n cap)).run Try.prog w = .ok (.string (bstr bs)) w := by
  refine run_convert_bytes_arg w 27 5 Try.underlying27 Try.underlying5 b off n cap _ (by rw [List.length_map]; exact hr.1) (fun i hi => ?_) 9 Try.underlying9
  rw [hr.cell i hi]
  have : i < bs.length := by rw [hr.1]; exact hi
  simp [this]
end Go.Proofs.Ytfejgedgmaljfaa

/- Rows of entries. -/
namespace Go.Proofs.Ytfejgedgmaljfaa
open Go.RowKit

/-- what every entry in memory keeps to -/
def EFit (e : En.E) : Prop := (-9223372036854775808 ≤ e.1 ∧ e.1 ≤ 9223372036854775807) ∧ (-9223372036854775808 ≤ e.2.1 ∧ e.2.1 ≤ 9223372036854775807) ∧ (-9223372036854775808 ≤ e.2.2.1 ∧ e.2.2.1 ≤ 9223372036854775807) ∧ Po.Fits e.2.2.2.2.2.2
/-- an entry's cells at a place -/
def EAt (w : World) (b o : Nat) (e : En.E) : Prop :=
  ∃ (s : ByteArray) (A : Option Addr) (L C : Nat), w.cell? ⟨b, o, none⟩ = some (.int .i64 e.1) ∧ w.cell? ⟨b, o + 1, none⟩ = some (.int .i64 e.2.1) ∧ w.cell? ⟨b, o + 2, none⟩ = some (.int .i64 e.2.2.1) ∧ w.cell? ⟨b, o + 3, none⟩ = some (.string s) ∧ w.cell? ⟨b, o + 4, none⟩ = some (.bool e.2.2.2.2.1) ∧ w.cell? ⟨b, o + 5, none⟩ = some (.slice A L C) ∧ w.cell? ⟨b, o + 6, none⟩ = some (.int .i64 e.2.2.2.2.2.2.1) ∧ w.cell? ⟨b, o + 7, none⟩ = some (.int .i64 e.2.2.2.2.2.2.2.1) ∧ w.cell? ⟨b, o + 8, none⟩ = some (.int .i64 e.2.2.2.2.2.2.2.2.1) ∧ w.cell? ⟨b, o + 9, none⟩ = some (.int .u32 (e.2.2.2.2.2.2.2.2.2 : Nat)) ∧ kb s = e.2.2.2.1 ∧ s.size ≤ maxLen ∧ Row .u8 w A L e.2.2.2.2.2.1 ∧ (A = none → L = 0 ∧ C = 0) ∧ EFit e
/-- A slice that reads as the entries es. -/
def ERow (w : World) (a : Option Addr) (len : Nat) (es : List En.E) : Prop :=
  es.length = len ∧ len ≤ 1000000000000000 ∧ (len = 0 ∨ ∃ b off, a = some ⟨b, off, none⟩ ∧ ∀ i, i < len → EAt w b (off + i * 10) (es.getD i En.zero))
theorem EAt.below {w w' : World} {B b o : Nat} {e : En.E} (h : EAt w b o e) (hb : Below B w w') (hB : w.heap.size ≤ B) : EAt w' b o e := by
  obtain ⟨s, A, L, C, h0, h1, h2, h3, h4, h5, h6, h7, h8, h9, hk, hs, hr, hn, hf⟩ := h
  have hlt : b < w.heap.size := cell_lt h0
  have k : ∀ i, w'.cell? ⟨b, i, none⟩ = w.cell? ⟨b, i, none⟩ := fun i => hb.cell (p := ⟨b, i, none⟩) (Nat.lt_of_lt_of_le hlt hB)
  exact ⟨s, A, L, C, (k _).trans h0, (k _).trans h1, (k _).trans h2, (k _).trans h3, (k _).trans h4, (k _).trans h5, (k _).trans h6, (k _).trans h7, (k _).trans h8, (k _).trans h9, hk, hs, hr.below hb hB, hn, hf⟩
theorem ERow.below {w w' : World} {B : Nat} {a : Option Addr} {l : Nat} {es : List En.E} (h : ERow w a l es) (hb : Below B w w') (hB : w.heap.size ≤ B) : ERow w' a l es := by
  obtain ⟨h1, h2, h3⟩ := h
  refine ⟨h1, h2, ?_⟩
  rcases h3 with h0 | ⟨b, off, e, hc⟩
  · exact .inl h0
  · exact .inr ⟨b, off, e, fun i hi => (hc i hi).below hb hB⟩
theorem ERow.at {w : World} {a : Option Addr} {n : Nat} {es : List En.E} (h : ERow w a n es) (hn : 0 < n) :
    ∃ b off, a = some ⟨b, off, none⟩ ∧ ∀ i, i < n → EAt w b (off + i * 10) (es.getD i En.zero) := by
  obtain ⟨_, _, h0 | h0⟩ := h
  · omega
  · exact h0
theorem eeq_of_getD {a b : List En.E} (hl : a.length = b.length) (h : ∀ j, j < a.length → a.getD j En.zero = b.getD j En.zero) : a = b := by
  apply List.ext_getElem hl
  intro i h1 h2
  have := h i h1
  simpa [h1, h2] using this

theorem Try.info34 : (Try.prog.info? 34).map (fun i => (i.zero, i.size, i.bytes)) = some (some (.agg #[.int .i64 0, .int .i64 0, .int .i64 0, .string ⟨#[]⟩, .bool false, .slice none 0 0, .int .i64 0, .int .i64 0, .int .i64 0, .int .u32 0]), 10, 104) := by kernel_rfl

/-- the cells of entries, each cell's bytes a row of its own -/
def EHeld (w : World) (B : Nat) : List En.E → List Value → Prop
  | [], cs => cs = []
  | e :: es, cs => ∃ s A C rest, cs = .int .i64 e.1 :: .int .i64 e.2.1 :: .int .i64 e.2.2.1 :: .string s :: .bool e.2.2.2.2.1 :: .slice A e.2.2.2.2.2.1.length C :: .int .i64 e.2.2.2.2.2.2.1 :: .int .i64 e.2.2.2.2.2.2.2.1 :: .int .i64 e.2.2.2.2.2.2.2.2.1 :: .int .u32 (e.2.2.2.2.2.2.2.2.2 : Nat) :: rest ∧ kb s = e.2.2.2.1 ∧ s.size ≤ maxLen ∧ w.ownsRow B 5 1 (.slice A e.2.2.2.2.2.1.length C) e.2.2.2.2.2.1.length (kcells .u8 e.2.2.2.2.2.1) ∧ (∀ x ∈ e.2.2.2.2.2.1, x < 256) ∧ e.2.2.2.2.2.1.length ≤ 1000000000 ∧ EFit e ∧ EHeld w B es rest
theorem EHeld.length {w : World} {B : Nat} : ∀ {es : List En.E} {cs : List Value}, EHeld w B es cs → cs.length = es.length * 10 := by
  intro es
  induction es with
  | nil => intro cs h; rw [show cs = [] from h]; rfl
  | cons e es ih => rintro cs ⟨s, A, C, rest, rfl, _, _, _, _, _, _, h⟩; simp [ih h]; omega
theorem EHeld.snoc {w : World} {B : Nat} {e : En.E} {s : ByteArray} {A : Option Addr} {C : Nat} (hs : kb s = e.2.2.2.1 ∧ s.size ≤ maxLen ∧ w.ownsRow B 5 1 (.slice A e.2.2.2.2.2.1.length C) e.2.2.2.2.2.1.length (kcells .u8 e.2.2.2.2.2.1) ∧ (∀ x ∈ e.2.2.2.2.2.1, x < 256) ∧ e.2.2.2.2.2.1.length ≤ 1000000000 ∧ EFit e) :
    ∀ {es : List En.E} {cs : List Value}, EHeld w B es cs → EHeld w B (es ++ [e]) (cs ++ [.int .i64 e.1, .int .i64 e.2.1, .int .i64 e.2.2.1, .string s, .bool e.2.2.2.2.1, .slice A e.2.2.2.2.2.1.length C, .int .i64 e.2.2.2.2.2.2.1, .int .i64 e.2.2.2.2.2.2.2.1, .int .i64 e.2.2.2.2.2.2.2.2.1, .int .u32 (e.2.2.2.2.2.2.2.2.2 : Nat)]) := by
  obtain ⟨h1, h2, h3, h4, h5, h6⟩ := hs
  intro es
  induction es with
  | nil => intro cs h; rw [show cs = [] from h]; exact ⟨s, A, C, [], rfl, h1, h2, h3, h4, h5, h6, rfl⟩
  | cons g es ih => rintro cs ⟨s', A', C', rest, rfl, k1, k2, k3, k4, k5, k6, k7⟩; exact ⟨s', A', C', _, rfl, k1, k2, k3, k4, k5, k6, ih k7⟩
theorem EHeld.below {w w' : World} {B : Nat} (hb : Below w.heap.size w w') : ∀ {es : List En.E} {cs : List Value}, EHeld w B es cs → EHeld w' B es cs := by
  intro es
  induction es with
  | nil => intro cs h; exact h
  | cons e es ih => rintro cs ⟨s, A, C, rest, rfl, h1, h2, h3, h4⟩; exact ⟨s, A, C, rest, rfl, h1, h2, owns_below h3 hb, h4.1, h4.2.1, h4.2.2.1, ih h4.2.2.2⟩
theorem EHeld.grown {w w' : World} {B B' : Nat} {t : TypeId} {z : Nat} {v : Value} {n : Nat} {xs : List Value} (hv : w.ownsRow B' t z v n xs) (he : (5 : Nat) ≠ t) (hg : w.grownBy w' v.ownBlock) : ∀ {es : List En.E} {cs : List Value}, EHeld w B es cs → EHeld w' B es cs := by
  intro es
  induction es with
  | nil => intro cs h; exact h
  | cons e es ih => rintro cs ⟨s, A, C, rest, rfl, h1, h2, h3, h4⟩; exact ⟨s, A, C, rest, rfl, h1, h2, h3.kept hg (own_apart h3 hv he), h4.1, h4.2.1, h4.2.2.1, ih h4.2.2.2⟩
theorem EHeld.get {w : World} {B : Nat} : ∀ {es : List En.E} {cs : List Value}, EHeld w B es cs → ∀ i, i < es.length → ∃ s A C, (∀ j, j < 10 → cs[i * 10 + j]? = ([.int .i64 (es.getD i En.zero).1, .int .i64 (es.getD i En.zero).2.1, .int .i64 (es.getD i En.zero).2.2.1, .string s, .bool (es.getD i En.zero).2.2.2.2.1, .slice A (es.getD i En.zero).2.2.2.2.2.1.length C, .int .i64 (es.getD i En.zero).2.2.2.2.2.2.1, .int .i64 (es.getD i En.zero).2.2.2.2.2.2.2.1, .int .i64 (es.getD i En.zero).2.2.2.2.2.2.2.2.1, .int .u32 ((es.getD i En.zero).2.2.2.2.2.2.2.2.2 : Nat)] : List Value)[j]?) ∧ kb s = (es.getD i En.zero).2.2.2.1 ∧ s.size ≤ maxLen ∧ w.ownsRow B 5 1 (.slice A (es.getD i En.zero).2.2.2.2.2.1.length C) (es.getD i En.zero).2.2.2.2.2.1.length (kcells .u8 (es.getD i En.zero).2.2.2.2.2.1) ∧ (∀ x ∈ (es.getD i En.zero).2.2.2.2.2.1, x < 256) ∧ (es.getD i En.zero).2.2.2.2.2.1.length ≤ 1000000000 ∧ EFit (es.getD i En.zero) := by
  intro es
  induction es with
  | nil => intro cs h i hi; simp at hi
  | cons e es ih =>
    rintro cs ⟨s, A, C, rest, rfl, h1, h2, h3, h4, h5, h6, h7⟩ i hi
    cases i with
    | zero =>
      refine ⟨s, A, C, ?_, h1, h2, h3, h4, h5, h6⟩
      intro j hj
      match j, hj with
      | 0, _ | 1, _ | 2, _ | 3, _ | 4, _ | 5, _ | 6, _ | 7, _ | 8, _ | 9, _ => rfl
    | succ i =>
      obtain ⟨s', A', C', q1, q2⟩ := ih h7 i (by simpa using hi)
      refine ⟨s', A', C', ?_, q2⟩
      intro j hj
      have := q1 j hj
      rw [show (i + 1) * 10 + j = i * 10 + j + 1 + 1 + 1 + 1 + 1 + 1 + 1 + 1 + 1 + 1 by omega]
      simpa using this
theorem erow_of_owns {w : World} {B B' : Nat} {a : Option Addr} {n cap : Nat} {es : List En.E} {cs : List Value} (h : w.ownsRow B 34 10 (.slice a n cap) n cs) (hh : EHeld w B' es cs) (hn : n ≤ 1000000000) : ERow w a n es ∧ es.length = n ∧ (a = none → n = 0 ∧ cap = 0) := by
  have hl := h.1
  rw [hh.length] at hl
  have hfn : es.length = n := by omega
  rcases h.2 with ⟨e, rfl⟩ | ⟨g, cap', cur, e, _, hg, hnc, hm, hsz, htk⟩
  · simp only [Value.slice.injEq] at e
    obtain ⟨rfl, _, rfl⟩ := e
    exact ⟨⟨hfn, by omega, .inl rfl⟩, hfn, fun _ => ⟨rfl, rfl⟩⟩
  · simp only [Value.slice.injEq] at e
    obtain ⟨rfl, _, rfl⟩ := e
    refine ⟨⟨hfn, by omega, .inr ⟨g, 0, rfl, fun i hi => ?_⟩⟩, hfn, fun h => by cases h⟩
    obtain ⟨s, A, C, q1, q2, q3, q4, q5, q6, q7⟩ := hh.get i (by omega)
    have hc : ∀ j, j < n * 10 → w.cell? ⟨g, j, none⟩ = cs[j]? := by
      intro j hj
      simp only [World.cell?, hg]
      show (if (none : Option _).isSome then none else cur[j]?) = _
      rw [if_neg (by simp), ← htk, List.getElem?_take, if_pos hj]; simp
    obtain ⟨r1, r2, r3⟩ := row_of_owns q4 q5 (by omega)
    have k : ∀ j, j < 10 → w.cell? ⟨g, 0 + i * 10 + j, none⟩ = ([.int .i64 (es.getD i En.zero).1, .int .i64 (es.getD i En.zero).2.1, .int .i64 (es.getD i En.zero).2.2.1, .string s, .bool (es.getD i En.zero).2.2.2.2.1, .slice A (es.getD i En.zero).2.2.2.2.2.1.length C, .int .i64 (es.getD i En.zero).2.2.2.2.2.2.1, .int .i64 (es.getD i En.zero).2.2.2.2.2.2.2.1, .int .i64 (es.getD i En.zero).2.2.2.2.2.2.2.2.1, .int .u32 ((es.getD i En.zero).2.2.2.2.2.2.2.2.2 : Nat)] : List Value)[j]? := fun j hj => by
      rw [Nat.zero_add, hc _ (by omega)]; exact q1 j hj
    exact ⟨s, A, _, C, k 0 (by omega), k 1 (by omega), k 2 (by omega), k 3 (by omega), k 4 (by omega), k 5 (by omega), k 6 (by omega), k 7 (by omega), k 8 (by omega), k 9 (by omega), q2, q3, r1, r2, q7⟩

/-- append of one entry to a row of entries -/
theorem append_en {w0 w : World} {B : Nat} {ops : Array Oper} {rest : List Oper} {o : Oper} {a : Act} {Q : Exit → Act → World → Prop} (hgd : o.guard = none) (s x : Operand)
    (ho : o.op = .call { callee := .builtin .append, args := #[s, x], argTypes := #[22, 22] })
    (v : Value) (n : Nat) (cs : List Value) (hs : a.eval s = v) (hown : w.ownsRow B 34 10 v n cs)
    (b c : Nat) (c0 c1 c2 c3 c4 c5 c6 c7 c8 c9 : Value) (hx : a.eval x = .slice (some ⟨b, 0, none⟩) 1 c) (hc : w.cell? ⟨b, 0, none⟩ = some c0 ∧ w.cell? ⟨b, 1, none⟩ = some c1 ∧ w.cell? ⟨b, 2, none⟩ = some c2 ∧ w.cell? ⟨b, 3, none⟩ = some c3 ∧ w.cell? ⟨b, 4, none⟩ = some c4 ∧ w.cell? ⟨b, 5, none⟩ = some c5 ∧ w.cell? ⟨b, 6, none⟩ = some c6 ∧ w.cell? ⟨b, 7, none⟩ = some c7 ∧ w.cell? ⟨b, 8, none⟩ = some c8 ∧ w.cell? ⟨b, 9, none⟩ = some c9) (h1c : ∀ u ∈ [c0, c1, c2, c3, c4, c5, c6, c7, c8, c9], u.oneCell' = true)
    (hn : n ≤ 1000000000) (hbel : Below B w0 w) (hB : B ≤ w.heap.size)
    (h : ∀ a' c' w', w'.ownsRow B 34 10 (.slice a' (n + 1) c') (n + 1) (cs ++ [c0, c1, c2, c3, c4, c5, c6, c7, c8, c9]) → Below B w0 w' → B ≤ w'.heap.size → w.grownBy w' v.ownBlock → wpList Try.prog ops Q rest (a.put o.dst (.slice a' (n + 1) c')) w') : wpList Try.prog ops Q (o :: rest) a w := by
  obtain ⟨i0, hi, hz0, hz1, hz2⟩ := info_parts Try.info34
  obtain ⟨h0, h1, h2, h3, h4, h5, h6, h7, h8, h9⟩ := hc
  refine wpList_append_own w hgd s x 22 ho B 34 i0 (.agg #[.int .i64 0, .int .i64 0, .int .i64 0, .string ⟨#[]⟩, .bool false, .slice none 0 0, .int .i64 0, .int .i64 0, .int .i64 0, .int .u32 0]) 10 104 Try.underlying22 hi hz0 hz1 hz2 rfl (by decide) v n cs hs hown ⟨b, 0, none⟩ 1 c [c0, c1, c2, c3, c4, c5, c6, c7, c8, c9] hx rfl ?_ h1c (by unfold maxLen; omega) (by omega) hB ?_
  · intro j u hj
    rw [add_at]
    match j, hj with
    | 0, hj => simp at hj; subst hj; exact h0
    | 1, hj => simp at hj; subst hj; exact h1
    | 2, hj => simp at hj; subst hj; exact h2
    | 3, hj => simp at hj; subst hj; exact h3
    | 4, hj => simp at hj; subst hj; exact h4
    | 5, hj => simp at hj; subst hj; exact h5
    | 6, hj => simp at hj; subst hj; exact h6
    | 7, hj => simp at hj; subst hj; exact h7
    | 8, hj => simp at hj; subst hj; exact h8
    | 9, hj => simp at hj; subst hj; exact h9
    | j + 10, hj => simp at hj
  · intro v' w' hown' hg _
    rcases hown'.2 with ⟨rfl, h0⟩ | ⟨g, cap, cur, rfl, _⟩
    · omega
    · exact h _ _ w' hown' (hbel.grown hg hB (fun k hk => (hown.lt k hk).1)) (Nat.le_trans hB hg.size) hg

/-- ten cells, one behind the other -/
def ECells (W : World) (b o : Nat) (c0 c1 c2 c3 c4 c5 c6 c7 c8 c9 : Value) : Prop := W.cell? ⟨b, o, none⟩ = some c0 ∧ W.cell? ⟨b, o + 1, none⟩ = some c1 ∧ W.cell? ⟨b, o + 2, none⟩ = some c2 ∧ W.cell? ⟨b, o + 3, none⟩ = some c3 ∧ W.cell? ⟨b, o + 4, none⟩ = some c4 ∧ W.cell? ⟨b, o + 5, none⟩ = some c5 ∧ W.cell? ⟨b, o + 6, none⟩ = some c6 ∧ W.cell? ⟨b, o + 7, none⟩ = some c7 ∧ W.cell? ⟨b, o + 8, none⟩ = some c8 ∧ W.cell? ⟨b, o + 9, none⟩ = some c9
theorem ECells.below {W W' : World} {b o : Nat} {c0 c1 c2 c3 c4 c5 c6 c7 c8 c9 : Value} (h : ECells W b o c0 c1 c2 c3 c4 c5 c6 c7 c8 c9) (hb : Below W.heap.size W W') : ECells W' b o c0 c1 c2 c3 c4 c5 c6 c7 c8 c9 := by
  obtain ⟨h0, h1, h2, h3, h4, h5, h6, h7, h8, h9⟩ := h
  have hlt : b < W.heap.size := cell_lt h0
  have k : ∀ i, W'.cell? ⟨b, i, none⟩ = W.cell? ⟨b, i, none⟩ := fun i => hb.cell (p := ⟨b, i, none⟩) hlt
  exact ⟨(k _).trans h0, (k _).trans h1, (k _).trans h2, (k _).trans h3, (k _).trans h4, (k _).trans h5, (k _).trans h6, (k _).trans h7, (k _).trans h8, (k _).trans h9⟩
end Go.Proofs.Ytfejgedgmaljfaa
