/- Edits: reading a row of edits; Put of the program. -/
import Derived.Test.YtkbnojjjfonniaaEH
namespace Go.Proofs.Ytkbnojjjfonniaa
open Go.RowKit

theorem eget {w wr : World} {ad : Option Addr} {len j : Nat} {l : List Ed.E} (h : ERow w ad len l) (hb : Below w.heap.size w wr) (hj : j < len) :
    ∃ B O k n i t a b c p q r f g, ad = some ⟨B, O, none⟩ ∧ Hid (l.getD j Ed.zero = ⟨k, n, i, t, a, b, c, ⟨p, q, r, f, g⟩⟩) ∧ wr.cell? ⟨B, O + j * 12, none⟩ = some (.int .i64 k) ∧ wr.cell? ⟨B, O + j * 12 + 1, none⟩ = some (.int .i64 n) ∧ wr.cell? ⟨B, O + j * 12 + 2, none⟩ = some (.int .i64 i) ∧ wr.cell? ⟨B, O + j * 12 + 3, none⟩ = some (.int .i64 t) ∧ wr.cell? ⟨B, O + j * 12 + 4, none⟩ = some (.int .i64 a) ∧ wr.cell? ⟨B, O + j * 12 + 5, none⟩ = some (.int .i64 b) ∧ wr.cell? ⟨B, O + j * 12 + 6, none⟩ = some (.int .i64 c) ∧ wr.cell? ⟨B, O + j * 12 + 7, none⟩ = some (.int .i64 p) ∧ wr.cell? ⟨B, O + j * 12 + 8, none⟩ = some (.int .i64 q) ∧ wr.cell? ⟨B, O + j * 12 + 9, none⟩ = some (.int .i64 r) ∧ wr.cell? ⟨B, O + j * 12 + 10, none⟩ = some (.string f) ∧ wr.cell? ⟨B, O + j * 12 + 11, none⟩ = some (.string g) := by
  obtain ⟨B, O, rfl, hc⟩ := h.at (by omega)
  have hr := hc j hj
  generalize hx : l.getD j Ed.zero = x at hr
  obtain ⟨k, n, i, t, a, b, c, p, q, r, f, g⟩ := x
  refine ⟨B, O, k, n, i, t, a, b, c, p, q, r, f, g, rfl, (rfl : _ = _), ?_, ?_, ?_, ?_, ?_, ?_, ?_, ?_, ?_, ?_, ?_, ?_⟩
  · have := hr 0 _ rfl; exact (hb.cell (p := ⟨B, O + j * 12, none⟩) (cell_lt this)).trans this
  · have := hr 1 _ rfl; exact (hb.cell (p := ⟨B, O + j * 12 + 1, none⟩) (cell_lt this)).trans this
  · have := hr 2 _ rfl; exact (hb.cell (p := ⟨B, O + j * 12 + 2, none⟩) (cell_lt this)).trans this
  · have := hr 3 _ rfl; exact (hb.cell (p := ⟨B, O + j * 12 + 3, none⟩) (cell_lt this)).trans this
  · have := hr 4 _ rfl; exact (hb.cell (p := ⟨B, O + j * 12 + 4, none⟩) (cell_lt this)).trans this
  · have := hr 5 _ rfl; exact (hb.cell (p := ⟨B, O + j * 12 + 5, none⟩) (cell_lt this)).trans this
  · have := hr 6 _ rfl; exact (hb.cell (p := ⟨B, O + j * 12 + 6, none⟩) (cell_lt this)).trans this
  · have := hr 7 _ rfl; exact (hb.cell (p := ⟨B, O + j * 12 + 7, none⟩) (cell_lt this)).trans this
  · have := hr 8 _ rfl; exact (hb.cell (p := ⟨B, O + j * 12 + 8, none⟩) (cell_lt this)).trans this
  · have := hr 9 _ rfl; exact (hb.cell (p := ⟨B, O + j * 12 + 9, none⟩) (cell_lt this)).trans this
  · have := hr 10 _ rfl; exact (hb.cell (p := ⟨B, O + j * 12 + 10, none⟩) (cell_lt this)).trans this
  · have := hr 11 _ rfl; exact (hb.cell (p := ⟨B, O + j * 12 + 11, none⟩) (cell_lt this)).trans this
theorem edrop {l : List Ed.E} {k : Nat} (hk : k < l.length) : l.drop k = l.getD k Ed.zero :: l.drop (k + 1) := by
  rw [List.drop_eq_getElem_cons hk]; simp [hk]
theorem etake {l : List Ed.E} {k : Nat} (hk : k < l.length) : l.take (k + 1) = l.take k ++ [l.getD k Ed.zero] := by
  rw [List.take_succ_eq_append_getElem hk]; simp [hk]
theorem emem {l : List Ed.E} {k : Nat} (hk : k < l.length) : l.getD k Ed.zero ∈ l := by
  simp [hk]
theorem eone_len {e : Ed.E} (h : Ed.may e = true) : (Ed.one e).length ≤ 250 := by
  obtain ⟨m1, m2, m3, m4, m5, m6⟩ := Ed.may_nums h
  have hp := Va.put_len ((Ed.nums e).map Int.toNat) (fun u hu => by have := Ed.toNat_map m1 u hu; omega)
  have hc : Ed.cnt e.kind ≤ 6 := by
    obtain ⟨c1, c2, c3, c4, c5, c6, c7, c8, c9⟩ := Ed.cnt_of
    rcases Ed.kinds e.kind with h | h | h | h | h | h | h | h | h | h
    case inr.inr.inr.inr.inr.inr.inr.inr.inr => omega
    all_goals (rw [h]; omega)
  have ht : (Ed.texts e).length ≤ 150 := by
    unfold Ed.texts
    split
    · next h4 =>
      obtain ⟨_, k2, k3⟩ := m6 h4
      have l1 := Va.one_len10 (u := e.tab.first.size) (by omega)
      have l2 := Va.one_len10 (u := e.tab.last.size) (by omega)
      simp only [Ed.text, List.length_append, kb_len]; omega
    · simp
  rw [List.length_map, m4] at hp
  simp only [Ed.one, List.length_cons, List.length_append]; omega
/-- the edits that can be put -/
def Good (l : List Ed.E) : Prop := 1 ≤ l.length ∧ l.length ≤ 200 ∧ ∀ e ∈ l, Ed.may e = true
def EPRes (w : World) (l : List Ed.E) (e : Ending) (w' : World) : Prop :=
  (Good l ∧ ∃ a c, e = .returned (.tuple #[.slice a (Ed.put l).length c, .int .i64 0]) ∧ w'.ownsRow w.heap.size 5 1 (.slice a (Ed.put l).length c) (Ed.put l).length (kcells .u8 (Ed.put l)) ∧ Below w.heap.size w w') ∨
  (¬ Good l ∧ e = .returned (.tuple #[.slice none 0 0, .int .i64 1]) ∧ Below w.heap.size w w')

set_option maxRecDepth 100000 in
set_option maxHeartbeats 2000000 in
theorem eput_any (ad : Option Addr) (len cap : Nat) (l : List Ed.E) (w : World) (hr : ERow w ad len l) :
    Calls Try.prog 10 #[.slice ad len cap] w (EPRes w l) := by
  have hll : Hid (l.length = len) := hr.1
  by_cases h1 : (len : Int) < 1
  · have HG : Hid (¬ Good l) := (fun h => by have := h.1; rw [hll.out] at this; omega : ¬ Good l)
    go_enter Try.func10, Try.ntmps10
    go_wp2
    go_ret2
    exact .inr ⟨HG.out, rfl, Below.refl _ _⟩
  by_cases h2 : (200 : Int) < (len : Int)
  · have HG : Hid (¬ Good l) := (fun h => by have := h.2.1; rw [hll.out] at this; omega : ¬ Good l)
    go_enter Try.func10, Try.ntmps10
    go_wp2
    go_ret2
    exact .inr ⟨HG.out, rfl, Below.refl _ _⟩
  have hput := fun W q h => eput1 len W q h
  have hl10 : (Va.one len).length ≤ 10 := Va.one_len10 (by omega)
  obtain ⟨hd, hhd⟩ : ∃ hd, hd = Va.one len := ⟨_, rfl⟩
  rw [← hhd] at hput hl10
  have HD : Hid (hd = Va.one len) := hhd
  clear hhd
  have i1 : ((len : Nat) : Int) < 18446744073709551616 := by omega
  have hck := fun k n i t a b c p q r f g W R h => echeck_any k n i t a b c p q r f g W R h
  have hby := fun k n i t a b c p q r f g W h => ebytes_any k n i t a b c p q r f g W h
  go_enter Try.func10, Try.ntmps10
  go_wp2_with (go_at_call 23; go_must (refine (hput _ _ (row_newz .u64 _ _ _ len (by go_num) (by show len < 18446744073709551616; omega))).mono ?_; rintro e w2 ⟨a2, c2, rfl, hown2, hb2⟩; have hown2 := lowns_base (B' := w.heap.size) hown2 (by simp); have hb2 := (below_alloc w _).trans (hb2.mono (by simp))))
  go_loopw [4, 23] (fun v iv wr => ∃ (j : Nat) (a' : Option Addr) (m c' : Nat), j ≤ len ∧ iv = .int .i64 j ∧ v = .slice a' m c' ∧ m ≤ 10 + 250 * j ∧ Hid (∀ e ∈ l.take j, Ed.may e = true) ∧ wr.ownsRow w.heap.size 5 1 (.slice a' m c') m (kcells .u8 (hd ++ (l.take j).flatMap Ed.one)) ∧ Below w.heap.size w wr) (fun _ iv _ => len - (intOf iv).toNat)
  case atStart => exact ⟨0, a2, hd.length, c2, by omega, rfl, rfl, by omega, (by simp : ∀ e ∈ l.take 0, Ed.may e = true), by simpa using hown2, hb2⟩
  case round =>
    obtain ⟨j, a', m, c', hj, rfl, rfl, hm, HM, hown, hbel⟩ := hrel
    by_cases hlt : j < len
    · obtain ⟨B, O, k, n, i, t, a, b, c, p, q, r, f, g, rfl, hx, q0, q1, q2, q3, q4, q5, q6, q7, q8, q9, q10, q11⟩ := eget hr hbel hlt
      have hj' : j < l.length := by rw [hll.out]; exact hlt
      have i2 : (0 : Int) ≤ (j : Int) := by omega
      have i3 : (j : Int) < (len : Int) := by omega
      have hb3 := hbel.alloc hbel.size (oed k n i t a b c p q r f g)
      have hown3 := hown.alloc (oed k n i t a b c p q r f g)
      have hK : ∀ W, Below (wr.heap.size + 1) (wr.alloc (oed k n i t a b c p q r f g)) W → C12 W wr.heap.size k n i t a b c p q r f g := fun W h => c12_of ((h.block _ (by omega)).trans (heap_alloc_new wr _))
      cases hmay : Ed.may ⟨k, n, i, t, a, b, c, ⟨p, q, r, f, g⟩⟩ with
      | false =>
        have HG : Hid (¬ Good l) := (fun h => by have := h.2.2 _ (emem hj'); rw [hx.out, hmay] at this; exact absurd this (by decide) : ¬ Good l)
        have hck1 := fun W => hck k n i t a b c p q r f g W 1 (by rw [hmay]; rfl)
        clear hx hmay HM
        go_wp2_with (go_at_call 8; go_must (refine (hck1 _).mono ?_; rintro e w5 ⟨rfl, hb5⟩))
        go_ret2
        exact .inr ⟨HG.out, rfl, hb3.trans (hb5.mono hb3.size)⟩
      | true =>
        have hck1 := fun W => hck k n i t a b c p q r f g W 0 (by rw [hmay]; rfl)
        have hby1 := fun W => hby k n i t a b c p q r f g W hmay
        have hlo := eone_len hmay
        have hso := Ed.one_small (e := ⟨k, n, i, t, a, b, c, ⟨p, q, r, f, g⟩⟩) (by have := (Ed.may_nums hmay).2.2.1; omega)
        have HM2 : Hid (∀ e ∈ l.take (j + 1), Ed.may e = true) := (by
          intro e he
          rw [etake hj', hx.out] at he
          rcases List.mem_append.mp he with he | he
          · exact HM.out e he
          · rw [List.mem_singleton.mp he]; exact hmay : ∀ e ∈ l.take (j + 1), Ed.may e = true)
        have HP : Hid ((l.take (j + 1)).flatMap Ed.one = (l.take j).flatMap Ed.one ++ Ed.one ⟨k, n, i, t, a, b, c, ⟨p, q, r, f, g⟩⟩) := (by rw [etake hj', hx.out]; simp : _ = _)
        generalize Ed.one ⟨k, n, i, t, a, b, c, ⟨p, q, r, f, g⟩⟩ = o at *
        clear hx hmay HM
        go_wp2_with (first
          | (go_at_call 8; go_must (refine (hck1 _).mono ?_; rintro e w5 ⟨rfl, hb5⟩; have hk5 := owns_below hown3 hb5; have hB5 := hb3.trans (hb5.mono hb3.size); obtain ⟨d0, d1, d2, d3, d4, d5, d6, d7, d8, d9, d10, d11⟩ := hK _ (by simpa using hb5)))
          | (go_at_call 24; go_must (refine (hby1 _).mono ?_; rintro e w6 ⟨a6, c6, rfl, hown6, hb6⟩; have hk6 := owns_below hk5 hb6; have hB6 := hB5.trans (hb6.mono hB5.size); have hr6 := row_of_owns hown6 hso (by omega)))
          | (at_builtin; go_must (refine append_u8g (w0 := w) (B := w.heap.size) rfl (.tmp 32) (.tmp 34) rfl _ m _ rfl hk6 a6 o.length c6 o rfl hr6.1 hr6.2.1 (by omega) hB6 hB6.size ?_; intro a7 c7 w7 hown7 hb7 hsz7 hg7)))
        go_roundw
        case rel => exact ⟨j + 1, a7, m + o.length, c7, by omega, by go_num, rfl, by omega, HM2, by rw [HP.out, ← List.append_assoc]; exact hown7, hb7⟩
        case measure => simp [intOf]; omega
    · obtain rfl : j = len := by omega
      have HT : Hid (l.take j = l) := (List.take_of_length_le (by rw [hll.out]; exact Nat.le_refl _) : l.take j = l)
      have HM2 : Hid (∀ e ∈ l, Ed.may e = true) := (by have := HM.out; rw [HT.out] at this; exact this : ∀ e ∈ l, Ed.may e = true)
      clear HM
      go_wp2
      go_ret2
      have hl := hown.1
      rw [kcells_length, Nat.mul_one] at hl
      rw [HT.out, HD.out] at hown
      rw [HT.out, HD.out] at hl
      have e : Va.one j ++ l.flatMap Ed.one = Ed.put l := by rw [Ed.put, hll.out]
      rw [e] at hown hl
      subst hl
      exact .inl ⟨⟨by rw [hll.out]; omega, by rw [hll.out]; omega, HM2.out⟩, a', c', rfl, hown, hbel⟩
end Go.Proofs.Ytkbnojjjfonniaa
