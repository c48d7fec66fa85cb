/- Edits: reading a row of edits. -/
import Derived.Test.YtfogodbbgbnhkaaGreatDoorEB
import Derived.Test.YtfogodbbgbnhkaaGreatDoorEH
namespace Go.Proofs.YtfogodbbgbnhkaaGreatDoor
open Go.RowKit

theorem eget {w wr : World} {ad : Option Addr} {len j : Nat} {l : List Ed.E} (h : ERow w ad len l) (hb : Below w.heap.size w wr) (hj : j < len) :
    ∃ B O k n i t a b c p q r f g, ad = some ⟨B, O, none⟩ ∧ Hid (l.getD j Ed.zero = ⟨k, n, i, t, a, b, c, ⟨p, q, r, f, g⟩⟩) ∧ wr.cell? ⟨B, O + j * 12, none⟩ = some (.int .i64 k) ∧ wr.cell? ⟨B, O + j * 12 + 1, none⟩ = some (.int .i64 n) ∧ wr.cell? ⟨B, O + j * 12 + 2, none⟩ = some (.int .i64 i) ∧ wr.cell? ⟨B, O + j * 12 + 3, none⟩ = some (.int .i64 t) ∧ wr.cell? ⟨B, O + j * 12 + 4, none⟩ = some (.int .i64 a) ∧ wr.cell? ⟨B, O + j * 12 + 5, none⟩ = some (.int .i64 b) ∧ wr.cell? ⟨B, O + j * 12 + 6, none⟩ = some (.int .i64 c) ∧ wr.cell? ⟨B, O + j * 12 + 7, none⟩ = some (.int .i64 p) ∧ wr.cell? ⟨B, O + j * 12 + 8, none⟩ = some (.int .i64 q) ∧ wr.cell? ⟨B, O + j * 12 + 9, none⟩ = some (.int .i64 r) ∧ wr.cell? ⟨B, O + j * 12 + 10, none⟩ = some (.string f) ∧ wr.cell? ⟨B, O + j * 12 + 11, none⟩ = some (.string g) := by
  obtain ⟨B, O, rfl, hc⟩ := h.at (by omega)
  have hr := hc j hj
  generalize hx : l.getD j Ed.zero = x at hr
  obtain ⟨k, n, i, t, a, b, c, p, q, r, f, g⟩ := x
  refine ⟨B, O, k, n, i, t, a, b, c, p, q, r, f, g, rfl, (rfl : _ = _), ?_, ?_, ?_, ?_, ?_, ?_, ?_, ?_, ?_, ?_, ?_, ?_⟩
  · have := hr 0 _ rfl; exact (hb.cell (p := ⟨B, O + j * 12, none⟩) (cell_lt this)).trans this
  · have := hr 1 _ rfl; exact (hb.cell (p := ⟨B, O + j * 12 + 1, none⟩) (cell_lt this)).trans this
  · have := hr 2 _ rfl; exact (hb.cell (p := ⟨B, O + j * 12 + 2, none⟩) (cell_lt this)).trans this
  · have := hr 3 _ rfl; exact (hb.cell (p := ⟨B, O + j * 12 + 3, none⟩) (cell_lt this)).trans this
  · have := hr 4 _ rfl; exact (hb.cell (p := ⟨B, O + j * 12 + 4, none⟩) (cell_lt this)).trans this
  · have := hr 5 _ rfl; exact (hb.cell (p := ⟨B, O + j * 12 + 5, none⟩) (cell_lt this)).trans this
  · have := hr 6 _ rfl; exact (hb.cell (p := ⟨B, O + j * 12 + 6, none⟩) (cell_lt this)).trans this
  · have := hr 7 _ rfl; exact (hb.cell (p := ⟨B, O + j * 12 + 7, none⟩) (cell_lt this)).trans this
  · have := hr 8 _ rfl; exact (hb.cell (p := ⟨B, O + j * 12 + 8, none⟩) (cell_lt this)).trans this
  · have := hr 9 _ rfl; exact (hb.cell (p := ⟨B, O + j * 12 + 9, none⟩) (cell_lt this)).trans this
  · have := hr 10 _ rfl; exact (hb.cell (p := ⟨B, O + j * 12 + 10, none⟩) (cell_lt this)).trans this
  · have := hr 11 _ rfl; exact (hb.cell (p := ⟨B, O + j * 12 + 11, none⟩) (cell_lt this)).trans this
theorem edrop {l : List Ed.E} {k : Nat} (hk : k < l.length) : l.drop k = l.getD k Ed.zero :: l.drop (k + 1) := by
  rw [List.drop_eq_getElem_cons hk]; simp [hk]
theorem etake {l : List Ed.E} {k : Nat} (hk : k < l.length) : l.take (k + 1) = l.take k ++ [l.getD k Ed.zero] := by
  rw [List.take_succ_eq_append_getElem hk]; simp [hk]
theorem emem {l : List Ed.E} {k : Nat} (hk : k < l.length) : l.getD k Ed.zero ∈ l := by
  simp [hk]
end Go.Proofs.YtfogodbbgbnhkaaGreatDoor

/- Edits: reading a row of edits; Put of the program. -/
namespace Go.Proofs.YtfogodbbgbnhkaaGreatDoor
open Go.RowKit

theorem eone_len {e : Ed.E} (h : Ed.may e = true) : (Ed.one e).length ≤ 250 := by
  obtain ⟨m1, m2, m3, m4, m5, m6⟩ := Ed.may_nums h
  have hp := Va.put_len ((Ed.nums e).map Int.toNat) (fun u hu => by have := Ed.toNat_map m1 u hu; omega)
  have hc : Ed.cnt e.kind ≤ 6 := by
    obtain ⟨c1, c2, c3, c4, c5, c6, c7, c8, c9⟩ := Ed.cnt_of
    rcases Ed.kinds e.kind with h | h | h | h | h | h | h | h | h | h
    case inr.inr.inr.inr.inr.inr.inr.inr.inr => omega
    all_goals (rw [h]; omega)
  have ht : (Ed.texts e).length ≤ 150 := by
    unfold Ed.texts
    split
    · next h4 =>
      obtain ⟨_, k2, k3⟩ := m6 h4
      have l1 := Va.one_len10 (u := e.tab.first.size) (by omega)
      have l2 := Va.one_len10 (u := e.tab.last.size) (by omega)
      simp only [Ed.text, List.length_append, kb_len]; omega
    · simp
  rw [List.length_map, m4] at hp
  simp only [Ed.one, List.length_cons, List.length_append]; omega
/-- the edits that can be put -/
def Good (l : List Ed.E) : Prop := 1 ≤ l.length ∧ l.length ≤ 200 ∧ ∀ e ∈ l, Ed.may e = true
def EPRes (w : World) (l : List Ed.E) (e : Ending) (w' : World) : Prop :=
  (Good l ∧ ∃ a c, e = .returned (.tuple #[.slice a (Ed.put l).length c, .int .i64 0]) ∧ w'.ownsRow w.heap.size 5 1 (.slice a (Ed.put l).length c) (Ed.put l).length (kcells .u8 (Ed.put l)) ∧ Below w.heap.size w w') ∨
  (¬ Good l ∧ e = .returned (.tuple #[.slice none 0 0, .int .i64 1]) ∧ Below w.heap.size w w')

set_option maxRecDepth 100000 in
set_option maxHeartbeats 2000000 in
theorem eput_any (ad : Option Addr) (len cap : Nat) (l : List Ed.E) (w : World) (hr : ERow w ad len l) :
    Calls Tryz.prog 95 #[.slice ad len cap] w (EPRes w l) := by
  have hll : Hid (l.length = len) := hr.1
  by_cases h1 : (len : Int) < 1
  · have HG : Hid (¬ Good l) := (fun h => by have := h.1; rw [hll.out] at this; omega : ¬ Good l)
    go_enter Tryz.func95, Tryz.ntmps95
    go_wp2
    go_ret2
    exact .inr ⟨HG.out, rfl, Below.refl _ _⟩
  by_cases h2 : (200 : Int) < (len : Int)
  · have HG : Hid (¬ Good l) := (fun h => by have := h.2.1; rw [hll.out] at this; omega : ¬ Good l)
    go_enter Tryz.func95, Tryz.ntmps95
    go_wp2
    go_ret2
    exact .inr ⟨HG.out, rfl, Below.refl _ _⟩
  have hput := fun W q h => eput1 len W q h
  have hl10 : (Va.one len).length ≤ 10 := Va.one_len10 (by omega)
  obtain ⟨hd, hhd⟩ : ∃ hd, hd = Va.one len := ⟨_, rfl⟩
  rw [← hhd] at hput hl10
  have HD : Hid (hd = Va.one len) := hhd
  clear hhd
  have i1 : ((len : Nat) : Int) < 18446744073709551616 := by omega
  have hck := fun k n i t a b c p q r f g W R h => echeck_any k n i t a b c p q r f g W R h
  have hby := fun k n i t a b c p q r f g W h => ebytes_any k n i t a b c p q r f g W h
  go_enter Tryz.func95, Tryz.ntmps95
  go_wp2_with (go_at_call 144; go_must (refine (hput _ _ (row_newz .u64 _ _ _ len (by go_num) (by show len < 18446744073709551616; omega))).mono ?_; rintro e w2 ⟨a2, c2, rfl, hown2, hb2⟩; have hown2 := lowns_base (B' := w.heap.size) hown2 (by simp); have hb2 := (below_alloc w _).trans (hb2.mono (by simp))))
  go_loopw [4, 23] (fun v iv wr => ∃ (j : Nat) (a' : Option Addr) (m c' : Nat), j ≤ len ∧ iv = .int .i64 j ∧ v = .slice a' m c' ∧ m ≤ 10 + 250 * j ∧ Hid (∀ e ∈ l.take j, Ed.may e = true) ∧ wr.ownsRow w.heap.size 5 1 (.slice a' m c') m (kcells .u8 (hd ++ (l.take j).flatMap Ed.one)) ∧ Below w.heap.size w wr) (fun _ iv _ => len - (intOf iv).toNat)
  case atStart => exact ⟨0, a2, hd.length, c2, by omega, rfl, rfl, by omega, (by simp : ∀ e ∈ l.take 0, Ed.may e = true), by simpa using hown2, hb2⟩
  case round =>
    obtain ⟨j, a', m, c', hj, rfl, rfl, hm, HM, hown, hbel⟩ := hrel
    by_cases hlt : j < len
    · obtain ⟨B, O, k, n, i, t, a, b, c, p, q, r, f, g, rfl, hx, q0, q1, q2, q3, q4, q5, q6, q7, q8, q9, q10, q11⟩ := eget hr hbel hlt
      have hj' : j < l.length := by rw [hll.out]; exact hlt
      have i2 : (0 : Int) ≤ (j : Int) := by omega
      have i3 : (j : Int) < (len : Int) := by omega
      have hb3 := hbel.alloc hbel.size (oed k n i t a b c p q r f g)
      have hown3 := hown.alloc (oed k n i t a b c p q r f g)
      have hK : ∀ W, Below (wr.heap.size + 1) (wr.alloc (oed k n i t a b c p q r f g)) W → C12 W wr.heap.size k n i t a b c p q r f g := fun W h => c12_of ((h.block _ (by omega)).trans (heap_alloc_new wr _))
      cases hmay : Ed.may ⟨k, n, i, t, a, b, c, ⟨p, q, r, f, g⟩⟩ with
      | false =>
        have HG : Hid (¬ Good l) := (fun h => by have := h.2.2 _ (emem hj'); rw [hx.out, hmay] at this; exact absurd this (by decide) : ¬ Good l)
        have hck1 := fun W => hck k n i t a b c p q r f g W 1 (by rw [hmay]; rfl)
        clear hx hmay HM
        go_wp2_with (go_at_call 64; go_must (refine (hck1 _).mono ?_; rintro e w5 ⟨rfl, hb5⟩))
        go_ret2
        exact .inr ⟨HG.out, rfl, hb3.trans (hb5.mono hb3.size)⟩
      | true =>
        have hck1 := fun W => hck k n i t a b c p q r f g W 0 (by rw [hmay]; rfl)
        have hby1 := fun W => hby k n i t a b c p q r f g W hmay
        have hlo := eone_len hmay
        have hso := Ed.one_small (e := ⟨k, n, i, t, a, b, c, ⟨p, q, r, f, g⟩⟩) (by have := (Ed.may_nums hmay).2.2.1; omega)
        have HM2 : Hid (∀ e ∈ l.take (j + 1), Ed.may e = true) := (by
          intro e he
          rw [etake hj', hx.out] at he
          rcases List.mem_append.mp he with he | he
          · exact HM.out e he
          · rw [List.mem_singleton.mp he]; exact hmay : ∀ e ∈ l.take (j + 1), Ed.may e = true)
        have HP : Hid ((l.take (j + 1)).flatMap Ed.one = (l.take j).flatMap Ed.one ++ Ed.one ⟨k, n, i, t, a, b, c, ⟨p, q, r, f, g⟩⟩) := (by rw [etake hj', hx.out]; simp : _ = _)
        generalize Ed.one ⟨k, n, i, t, a, b, c, ⟨p, q, r, f, g⟩⟩ = o at *
        clear hx hmay HM
        go_wp2_with (first
          | (go_at_call 64; go_must (refine (hck1 _).mono ?_; rintro e w5 ⟨rfl, hb5⟩; have hk5 := owns_below hown3 hb5; have hB5 := hb3.trans (hb5.mono hb3.size); obtain ⟨d0, d1, d2, d3, d4, d5, d6, d7, d8, d9, d10, d11⟩ := hK _ (by simpa using hb5)))
          | (go_at_call 145; go_must (refine (hby1 _).mono ?_; rintro e w6 ⟨a6, c6, rfl, hown6, hb6⟩; have hk6 := owns_below hk5 hb6; have hB6 := hB5.trans (hb6.mono hB5.size); have hr6 := row_of_owns hown6 hso (by omega)))
          | (at_builtin; go_must (refine append_u8g (w0 := w) (B := w.heap.size) rfl (.tmp 32) (.tmp 34) rfl _ m _ rfl hk6 a6 o.length c6 o rfl hr6.1 hr6.2.1 (by omega) hB6 hB6.size ?_; intro a7 c7 w7 hown7 hb7 hsz7 hg7)))
        go_roundw
        case rel => exact ⟨j + 1, a7, m + o.length, c7, by omega, by go_num, rfl, by omega, HM2, by rw [HP.out, ← List.append_assoc]; exact hown7, hb7⟩
        case measure => simp [intOf]; omega
    · obtain rfl : j = len := by omega
      have HT : Hid (l.take j = l) := (List.take_of_length_le (by rw [hll.out]; exact Nat.le_refl _) : l.take j = l)
      have HM2 : Hid (∀ e ∈ l, Ed.may e = true) := (by have := HM.out; rw [HT.out] at this; exact this : ∀ e ∈ l, Ed.may e = true)
      clear HM
      go_wp2
      go_ret2
      have hl := hown.1
      rw [kcells_length, Nat.mul_one] at hl
      rw [HT.out, HD.out] at hown
      rw [HT.out, HD.out] at hl
      have e : Va.one j ++ l.flatMap Ed.one = Ed.put l := by rw [Ed.put, hll.out]
      rw [e] at hown hl
      subst hl
      exact .inl ⟨⟨by rw [hll.out]; omega, by rw [hll.out]; omega, HM2.out⟩, a', c', rfl, hown, hbel⟩
end Go.Proofs.YtfogodbbgbnhkaaGreatDoor

/- Edits, as mathematics: how the program reads them. -/
namespace Go.Proofs.YtfogodbbgbnhkaaGreatDoor.Ed

def pnums (bs : List Nat) (n : Nat) : Option (List Nat × Nat) :=
  if (Va.all bs n).2.2 = 0 ∧ ∀ u ∈ (Va.all bs n).1, u ≤ 2147483647 then some ((Va.all bs n).1, (Va.all bs n).2.1) else none
theorem al_mem : ∀ (n : Nat) (bs : List Nat) (a : Nat) (acc : List Nat), (Va.al n bs a acc).2.2 = 0 → ∀ u ∈ acc, u ∈ (Va.al n bs a acc).1
  | 0, _, _, _, _, u, hu => hu
  | n + 1, bs, a, acc, h, u, hu => by
    by_cases hg : (Va.get (bs.drop a)).2 = 0
    · rw [Va.al_none hg] at h; simp at h
    · rw [Va.al_some hg] at h ⊢
      exact al_mem n bs _ _ h u (by simp [hu])
theorem al_len : ∀ (n : Nat) (bs : List Nat) (a : Nat) (acc : List Nat), a ≤ bs.length → (Va.al n bs a acc).2.2 = 0 → (Va.al n bs a acc).1.length = acc.length + n ∧ (Va.al n bs a acc).2.1 ≤ bs.length
  | 0, _, _, _, ha, _ => ⟨rfl, ha⟩
  | n + 1, bs, a, acc, ha, h => by
    by_cases hg : (Va.get (bs.drop a)).2 = 0
    · rw [Va.al_none hg] at h; simp at h
    · rw [Va.al_some hg] at h ⊢
      have hle := Va.get_le (bs := bs.drop a)
      rw [List.length_drop] at hle
      have := al_len n bs _ _ (by omega) h
      simp only [List.length_append, List.length_singleton] at this
      exact ⟨by omega, this.2⟩
theorem al_code : ∀ (n : Nat) (bs : List Nat) (a : Nat) (acc : List Nat), (Va.al n bs a acc).2.2 = 0 ∨ (Va.al n bs a acc).2.2 = 2
  | 0, _, _, _ => .inl rfl
  | n + 1, bs, a, acc => by
    by_cases hg : (Va.get (bs.drop a)).2 = 0
    · rw [Va.al_none hg]; exact .inr rfl
    · rw [Va.al_some hg]; exact al_code n bs _ _
theorem nread_al (j : Nat) : ∀ (n : Nat) (bs : List Nat) (a : Nat) (acc : List Nat), (∀ u ∈ acc, u ≤ 2147483647) →
    nread n bs (j + a) acc = (if (Va.al n (bs.drop j) a acc).2.2 = 0 ∧ ∀ u ∈ (Va.al n (bs.drop j) a acc).1, u ≤ 2147483647 then some ((Va.al n (bs.drop j) a acc).1, j + (Va.al n (bs.drop j) a acc).2.1) else none)
  | 0, bs, a, acc, h => by
    rw [if_pos ⟨rfl, h⟩]; rfl
  | n + 1, bs, a, acc, h => by
    have hd : (bs.drop j).drop a = bs.drop (j + a) := by rw [List.drop_drop]
    by_cases hg : (Va.get (bs.drop (j + a))).2 = 0
    · rw [Va.al_none (by rw [hd]; exact hg), if_neg (by simp), nread, if_pos (by unfold number; rw [if_pos (.inl hg)])]
    · rw [Va.al_some (by rw [hd]; exact hg), hd]
      by_cases hb : 2147483647 < (Va.get (bs.drop (j + a))).1
      · rw [nread, if_pos (by unfold number; rw [if_pos (.inr hb)]), if_neg]
        rintro ⟨h0, h1⟩
        have := h1 _ (al_mem _ _ _ _ h0 (Va.get (bs.drop (j + a))).1 (by simp))
        omega
      · have e : number (bs.drop (j + a)) = Va.get (bs.drop (j + a)) := by unfold number; rw [if_neg (by omega)]
        rw [nread, e, if_neg hg, Nat.add_assoc]
        exact nread_al j n bs _ _ (by
          intro u hu
          rcases List.mem_append.mp hu with hu | hu
          · exact h u hu
          · rw [List.mem_singleton.mp hu]; omega)
theorem nread_pnums (bs : List Nat) (j n : Nat) : nread n bs j [] = (match pnums (bs.drop j) n with | none => none | some (l, m) => some (l, j + m)) := by
  have := nread_al j n bs 0 [] (by simp)
  rw [Nat.add_zero] at this
  rw [this]
  unfold pnums Va.all
  split <;> rfl
theorem pnums_len {bs : List Nat} {n m : Nat} {l : List Nat} (h : pnums bs n = some (l, m)) : l.length = n ∧ m ≤ bs.length ∧ ∀ u ∈ l, u ≤ 2147483647 := by
  unfold pnums at h
  split at h
  · rename_i hc
    simp only [Option.some.injEq, Prod.mk.injEq] at h
    obtain ⟨rfl, rfl⟩ := h
    have := al_len n bs 0 [] (by omega) hc.1
    exact ⟨by simpa [Va.all] using this.1, this.2, hc.2⟩
  · cases h

def pkey (bs : List Nat) : Option (ByteArray × Nat) :=
  if (Va.get bs).2 = 0 ∨ 64 < (Va.get bs).1 ∨ bs.length < (Va.get bs).2 + (Va.get bs).1 then none
  else some (bstr ((bs.drop (Va.get bs).2).take (Va.get bs).1), (Va.get bs).2 + (Va.get bs).1)
theorem bstr_size {bs : List Nat} (hs : ∀ x ∈ bs, x < 256) : (bstr bs).size = bs.length := by rw [← kb_len, kb_bstr hs]
theorem pkey_some {bs : List Nat} {a m : Nat} {s : ByteArray} (h : pkey (bs.drop a) = some (s, m)) (ha : a ≤ bs.length) : rtext bs a = some (s, a + m) ∧ a + m ≤ bs.length := by
  unfold pkey at h
  split at h
  · cases h
  · rename_i hc
    simp only [Option.some.injEq, Prod.mk.injEq] at h
    obtain ⟨rfl, rfl⟩ := h
    rw [List.length_drop] at hc
    have e : number (bs.drop a) = Va.get (bs.drop a) := by unfold number; rw [if_neg (by omega)]
    unfold rtext
    rw [e, if_neg (by omega), List.drop_drop]
    exact ⟨by simp; omega, by omega⟩
theorem pkey_none {bs : List Nat} {a : Nat} (hs : ∀ x ∈ bs, x < 256) (h : pkey (bs.drop a) = none) (ha : a ≤ bs.length) : rtext bs a = none ∨ ∃ s e, rtext bs a = some (s, e) ∧ 64 < s.size := by
  cases hr : rtext bs a with
  | none => exact .inl rfl
  | some x =>
    obtain ⟨s, e⟩ := x
    right
    refine ⟨s, e, rfl, ?_⟩
    unfold rtext at hr
    split at hr
    · cases hr
    · rename_i hc
      simp only [Option.some.injEq, Prod.mk.injEq] at hr
      obtain ⟨rfl, rfl⟩ := hr
      have hn : number (bs.drop a) = Va.get (bs.drop a) := by
        have h0 : (number (bs.drop a)).2 ≠ 0 := by omega
        unfold number at h0 ⊢
        split at h0
        · simp at h0
        · rename_i hq; rw [if_neg hq]
      rw [hn] at hc ⊢
      unfold pkey at h
      split at h
      · rename_i hq
        rw [List.length_drop] at hq
        have hb : 64 < (Va.get (bs.drop a)).1 := by omega
        rw [bstr_size (fun x hx => hs x (List.mem_of_mem_drop (List.mem_of_mem_take hx))), List.length_take, List.length_drop]
        omega
      · cases h
def ptab (bs : List Nat) : Option (Lv.T × Nat) :=
  match pnums bs 3 with
  | none => none
  | some (l, a) => match pkey (bs.drop a) with
    | none => none
    | some (f, m) => match pkey (bs.drop (a + m)) with
      | none => none
      | some (g, m2) => some (⟨l.getD 0 0, l.getD 1 0, l.getD 2 0, f, g⟩, a + m + m2)
/-- the j-th number of the row, out of those from F on -/
def rj (F : Nat) (l : List Nat) (j : Nat) : Nat := if F ≤ j then l.getD (j - F) 0 else 0
def prow (k : Int) (l : List Nat) : E := ⟨k, rj (pfr k) l 0, rj (pfr k) l 1, rj (pfr k) l 2, rj (pfr k) l 3, rj (pfr k) l 4, rj (pfr k) l 5, Lv.zero⟩
def pfirst (bs : List Nat) : Option (E × Nat) :=
  if bs = [] then none
  else if bs.getD 0 0 = 4 then
    match ptab (bs.drop 1) with
    | none => none
    | some (t, m) => some ({ zero with kind := 4, tab := t }, 1 + m)
  else match pnums (bs.drop 1) (pto (bs.getD 0 0 : Nat) - pfr (bs.getD 0 0 : Nat)) with
    | none => none
    | some (l, m) => some (prow (bs.getD 0 0 : Nat) l, 1 + m)
/-- what may be of what is read -/
def good (o : Option (E × Nat)) : Option (E × Nat) := match o with | none => none | some (e, k) => if may e = true then some (e, k) else none
theorem pto_cnt {k : Int} (h : k ≠ 4) : pto k - pfr k = cnt k := by
  rcases kinds k with h1 | h1 | h1 | h1 | h1 | h1 | h1 | h1 | h1 | h1
  case inr.inr.inr.inl => exact absurd h1 h
  case inr.inr.inr.inr.inr.inr.inr.inr.inr =>
    rw [cnt_none h1]
    have e2 : pto k = 0 := by unfold pto; rw [if_neg (by omega), if_neg (by omega), if_neg (by omega), if_neg (by omega)]
    rw [e2]; omega
  all_goals (subst h1; rfl)
theorem prow_fill {k : Int} {l : List Nat} (h : k ≠ 4) (hp : parts k ≠ []) (hl : l.length = cnt k) : prow k l = fill k l := by
  obtain ⟨c1, c2, c3, c4, c5, c6, c7, c8, c9⟩ := cnt_of
  rcases kinds k with rfl | rfl | rfl | rfl | rfl | rfl | rfl | rfl | rfl | h1
  · rw [c1] at hl; obtain ⟨a, rfl⟩ := len1 hl; rfl
  · rw [c2] at hl; obtain ⟨a, b, rfl⟩ := len2 hl; rfl
  · rw [c3] at hl; obtain ⟨a, rfl⟩ := len1 hl; rfl
  · exact absurd rfl h
  · rw [c5] at hl; obtain ⟨a, rfl⟩ := len1 hl; rfl
  · rw [c6] at hl; obtain ⟨a, b, c, rfl⟩ := len3 hl; rfl
  · rw [c7] at hl; obtain ⟨a, rfl⟩ := len1 hl; rfl
  · rw [c8] at hl; obtain ⟨a, b, c, d, e, f, rfl⟩ := len6 hl; rfl
  · rw [c9] at hl; obtain ⟨a, rfl⟩ := len1 hl; rfl
  · exact absurd (parts_none h1) hp
theorem may_key {e : E} (h : e.kind = 4) (hl : 64 < e.tab.first.size ∨ 64 < e.tab.last.size) : may e = false := by
  cases hm : may e with
  | false => rfl
  | true =>
    obtain ⟨_, _, _, _, _, m6⟩ := may_nums hm
    obtain ⟨_, k2, k3⟩ := m6 h
    omega
theorem good_no {e : E} {k : Nat} (h : may e = false) : good (some (e, k)) = none := by simp [good, h]
theorem pfirst_first {bs : List Nat} (hs : ∀ x ∈ bs, x < 256) : good (pfirst bs) = good (first bs) := by
  unfold pfirst first
  by_cases hne : bs = []
  · rw [if_pos hne, if_pos (.inl hne)]
  · rw [if_neg hne]
    have hl : 1 ≤ bs.length := List.length_pos_iff.mpr hne
    have hds : ∀ x ∈ bs.drop 1, x < 256 := fun x hx => hs x (List.mem_of_mem_drop hx)
    generalize bs.getD 0 0 = K at *
    by_cases h4 : K = 4
    · subst h4
      rw [if_pos rfl, if_neg (by rintro (h | h); (· exact hne h); (· exact absurd h (by decide))), nread_pnums, show cnt ((4 : Nat) : Int) = 3 from rfl]
      simp only [if_true]
      unfold ptab
      cases hn : pnums (bs.drop 1) 3 with
      | none => rfl
      | some x =>
        obtain ⟨l, a⟩ := x
        obtain ⟨n1, n2, n3⟩ := pnums_len hn
        obtain ⟨l0, l1, l2, rfl⟩ := len3 n1
        simp only [List.drop_drop]
        rw [List.length_drop] at n2
        unfold first2
        cases hk : pkey (bs.drop (1 + a)) with
        | none =>
          rcases pkey_none hs hk (by omega) with h | ⟨s, e, h, h6⟩
          · rw [h]
          · rw [h]
            simp only
            cases rtext bs e with
            | none => rfl
            | some y => exact (good_no (may_key rfl (.inl h6))).symm
        | some y =>
          obtain ⟨f, m⟩ := y
          obtain ⟨p1, p2⟩ := pkey_some hk (by omega)
          rw [p1]
          simp only
          rw [show 1 + (a + m) = 1 + a + m by omega]
          cases hk2 : pkey (bs.drop (1 + a + m)) with
          | none =>
            rcases pkey_none hs hk2 p2 with h | ⟨s, e, h, h6⟩
            · rw [h]
            · rw [h]; exact (good_no (may_key rfl (.inr h6))).symm
          | some z =>
            obtain ⟨g, m2⟩ := z
            obtain ⟨q1, q2⟩ := pkey_some hk2 p2
            rw [q1]
            simp only
            congr 1
            simp [fill, keyed, zero]; omega
    · have h4' : ((K : Nat) : Int) ≠ 4 := by omega
      rw [if_neg h4, pto_cnt h4']
      by_cases hp : parts (K : Nat) = []
      · rw [if_pos (.inr hp)]
        have hK : ((K : Nat) : Int) < 1 ∨ 9 < ((K : Nat) : Int) := by
          rcases kinds (K : Nat) with h | h | h | h | h | h | h | h | h | h
          case inr.inr.inr.inr.inr.inr.inr.inr.inr => exact h
          all_goals (rw [h] at hp; exact absurd hp (by decide))
        cases pnums (bs.drop 1) (cnt (K : Nat)) with
        | none => rfl
        | some x => exact good_no (may_none hK)
      · rw [if_neg (by rintro (h | h); (· exact hne h); (· exact hp h)), nread_pnums]
        cases hn : pnums (bs.drop 1) (cnt (K : Nat)) with
        | none => rfl
        | some x =>
          obtain ⟨l, m⟩ := x
          simp only
          rw [if_neg h4, prow_fill h4' hp (pnums_len hn).1]
theorem sc_good (n : Nat) (bs : List Nat) (a : Nat) (l : List E) (hs : ∀ x ∈ bs, x < 256) : sc (n + 1) bs a l = (match good (pfirst (bs.drop a)) with | none => none | some (e, k) => sc n bs (a + k) (l ++ [e])) := by
  rw [pfirst_first (fun x hx => hs x (List.mem_of_mem_drop hx)), sc]
  cases first (bs.drop a) with
  | none => rfl
  | some x =>
    obtain ⟨e, k⟩ := x
    by_cases h : may e = true
    · simp [good, h]
    · simp [good, h]
end Go.Proofs.YtfogodbbgbnhkaaGreatDoor.Ed

/- Edits: getNumbers of the program. -/
namespace Go.Proofs.YtfogodbbgbnhkaaGreatDoor
open Go.RowKit

def GNRes (w : World) (n : Nat) (R : Option (List Nat × Nat)) (e : Ending) (w' : World) : Prop := match R with
  | none => e = .returned (.tuple #[.slice none 0 0, .int .i64 0, .int .i64 2]) ∧ Below w.heap.size w w'
  | some (l, m) => ∃ g, e = .returned (.tuple #[.slice (some ⟨g, 0, none⟩) n n, .int .i64 (m : Nat), .int .i64 0]) ∧ w'.ownsRow w.heap.size 3 1 (.slice (some ⟨g, 0, none⟩) n n) n (kcells .i64 l) ∧ Below w.heap.size w w'
theorem rat {k : IntKind} {w : World} {a : Option Addr} {n : Nat} {l : List Nat} (h : Row k w a n l) {j : Nat} (hj : j < n) : ∃ b off, a = some ⟨b, off, none⟩ ∧ w.cell? ⟨b, off + j, none⟩ = some (.int k (l.getD j 0 : Nat)) := by
  rcases h.2.2.2 with h0 | ⟨b, off, e, hc⟩
  · omega
  · exact ⟨b, off, e, hc j hj⟩
theorem made_ints (n : Nat) : (madeCells (Value.int .i64 0).cells (n * 1)).toList = kcells .i64 (List.replicate n 0) := by
  rw [Nat.mul_one]
  apply List.ext_getElem?
  intro j
  simp only [kcells, List.map_replicate]
  rw [List.getElem?_replicate]
  by_cases h : j < n <;> simp [madeCells, Value.cells, h, Nat.mod_one]
theorem set_ints (l : List Nat) (n j x : Nat) (hj : j < n) (hl : l.length = n) (hx : l.getD j 0 = x) : (kcells .i64 (l.take j ++ List.replicate (n - j) 0)).set j (.int .i64 (x : Nat)) = kcells .i64 (l.take (j + 1) ++ List.replicate (n - (j + 1)) 0) := by
  have e1 : (l.take j).length = j := by rw [List.length_take]; omega
  have e2 : n - j = (n - (j + 1)) + 1 := by omega
  rw [e2, List.replicate_succ, Va.take_snoc l j (by omega), hx]
  simp only [kcells, List.map_append, List.map_cons, List.map_nil, List.append_assoc]
  have e3 : ((l.take j).map fun n : Nat => Value.int .i64 (n : Int)).length = j := by rw [List.length_map, e1]
  rw [List.set_append_right _ _ (by omega), e3, Nat.sub_self]
  rfl

set_option maxRecDepth 100000 in
set_option maxHeartbeats 2000000 in
theorem egnums_any (a : Option Addr) (len cap : Nat) (bs : List Nat) (n : Nat) (w : World) (hn : n ≤ 6) (hbig : len ≤ 100000) (hshape : Shape a len cap) (hr : Row .u8 w a len bs) :
    Calls Tryz.prog 197 #[.slice a len cap, .int .i64 (n : Nat)] w (GNRes w n (Ed.pnums bs n)) := by
  have hall := all_any a len cap bs n w (by omega) hbig hshape hr
  have hcode := Ed.al_code n bs 0 []
  have hlenL := Ed.al_len n bs 0 [] (by omega)
  have HP : Hid (Ed.pnums bs n = if (Va.all bs n).2.2 = 0 ∧ ∀ u ∈ (Va.all bs n).1, u ≤ 2147483647 then some ((Va.all bs n).1, (Va.all bs n).2.1) else none) := (rfl : _ = _)
  change (Va.all bs n).2.2 = 0 ∨ (Va.all bs n).2.2 = 2 at hcode
  change (Va.all bs n).2.2 = 0 → (Va.all bs n).1.length = 0 + n ∧ (Va.all bs n).2.1 ≤ bs.length at hlenL
  generalize Ed.pnums bs n = P at *
  have hle : bs.length = len := hr.1
  have hlt64 : ∀ u ∈ (Va.all bs n).1, (Va.all bs n).2.2 = 0 → u < 18446744073709551616 := by
    have : ∀ (m : Nat) (q : Nat) (acc : List Nat), (∀ u ∈ acc, u < 18446744073709551616) → (Va.al m bs q acc).2.2 = 0 → ∀ u ∈ (Va.al m bs q acc).1, u < 18446744073709551616 := by
      intro m
      induction m with
      | zero => intro q acc h _ u hu; exact h u hu
      | succ m ih =>
        intro q acc h h0 u hu
        by_cases hg : (Va.get (bs.drop q)).2 = 0
        · rw [Va.al_none hg] at h0; simp at h0
        · rw [Va.al_some hg] at h0 hu
          refine ih _ _ ?_ h0 u hu
          intro v hv
          rcases List.mem_append.mp hv with hv | hv
          · exact h v hv
          · rw [List.mem_singleton.mp hv]; exact Va.get_lt _
    exact fun u hu h0 => this n 0 [] (by simp) h0 u hu
  generalize Va.all bs n = R at *
  obtain ⟨L, A, C⟩ := R
  simp only at hcode hlenL hlt64 HP
  rcases hcode with rfl | rfl
  · obtain ⟨hL, hA⟩ := hlenL rfl
    rw [Nat.zero_add] at hL
    have hA : A ≤ 100000 := by omega
    have H64 : Hid (∀ u ∈ L, u < 18446744073709551616) := (fun u hu => hlt64 u hu rfl : ∀ u ∈ L, u < 18446744073709551616)
    have HQ : Hid (P = if (∀ u ∈ L, u ≤ 2147483647) then some (L, A) else none) := (by rw [HP.out]; simp : P = _)
    clear hlt64 HP
    unfold AllRes at hall
    simp only at hall
    rw [hL] at hall
    have hL : Hid (L.length = n) := hL
    clear hlenL hle
    obtain ⟨i0, hi0, hz0, hz1, hz2⟩ := info_parts (show (Tryz.prog.info? 3).map (fun i => (i.zero, i.size, i.bytes)) = some (some (.int .i64 0), 1, 8) by kernel_rfl)
    go_enter Tryz.func197, Tryz.ntmps197
    go_wp2_with (first
      | (go_at_call 215; go_must (refine hall.mono ?_; rintro e w2 ⟨a1, c1, rfl, hown1, hb2⟩; have hr1 := (row_of_owns hown1 (fun x hx => by show x < 18446744073709551616; exact H64.out x hx) (by omega)).1; clear hall hr hshape))
      | (at_make; go_must (refine make_full _ rfl _ _ 27 rfl w.heap.size 3 i0 _ 1 Tryz.underlying27 hi0 hz0 hz1 .i64 .i64 n rfl rfl (by rw [hz2]; omega) (by unfold maxLen; omega) hb2.size ?_; intro w3 hmade hb3; rw [made_ints] at hmade)))
    go_loopw [27] (fun iv wr => ∃ (j : Nat), j ≤ n ∧ iv = .int .i64 j ∧ Hid (∀ u ∈ L.take j, u ≤ 2147483647) ∧ wr.ownsRow w.heap.size 3 1 (.slice (some ⟨w2.heap.size, 0, none⟩) n n) n (kcells .i64 (L.take j ++ List.replicate (n - j) 0)) ∧ Below w2.heap.size w2 wr) (fun iv _ => n - (intOf iv).toNat)
    case atStart => exact ⟨0, by omega, rfl, (by simp : ∀ u ∈ L.take 0, u ≤ 2147483647), hmade, hb3⟩
    case round =>
      obtain ⟨j, hj, rfl, HM, hown, hbel⟩ := hrel
      have hB := hb2.trans (hbel.mono hb2.size)
      by_cases hlt : j < n
      · obtain ⟨b, off, rfl, hc0⟩ := rat hr1 hlt
        have hc : wr.cell? ⟨b, off + j, none⟩ = _ := (hbel.cell (p := ⟨b, off + j, none⟩) (cell_lt hc0)).trans hc0
        have hj' : j < L.length := by rw [hL.out]; exact hlt
        have HS : Hid (∀ x, L.getD j 0 = x → (kcells .i64 (L.take j ++ List.replicate (n - j) 0)).set j (.int .i64 (x : Nat)) = kcells .i64 (L.take (j + 1) ++ List.replicate (n - (j + 1)) 0)) := (fun x hx => set_ints L n j x hlt hL.out hx : ∀ x, _)
        have HT : Hid (L.take (j + 1) = L.take j ++ [L.getD j 0]) := (Va.take_snoc L j hj' : _ = _)
        have hmemL : Hid (L.getD j 0 ∈ L) := (by simp [hj'] : L.getD j 0 ∈ L)
        have hx64 := H64.out _ hmemL.out
        obtain ⟨k1, k2⟩ := own_cells hown (j := j) (v := .int .i64 0) (by
          have e1 : (L.take j).length = j := by rw [List.length_take]; omega
          simp only [kcells, List.map_append]
          rw [List.getElem?_append_right (by rw [List.length_map, e1]; exact Nat.le_refl _), List.length_map, e1, Nat.sub_self, show n - j = (n - (j + 1)) + 1 by omega, List.replicate_succ]
          rfl)
        have HS := HS.out _ rfl
        have HS : Hid (_ = _) := HS
        clear hc0
        generalize hx : L.getD j 0 = x at *
        have hx : Hid (_ = _) := hx
        have i0 : (0 : Int) ≤ (j : Int) := by omega
        have i5 : (j : Int) < (n : Int) := by omega
        by_cases hbig2 : 2147483647 < x
        · have i6 : (2147483647 : Int) < (x : Int) := by omega
          have HN : Hid (P = none) := (by rw [HQ.out, if_neg]; intro h; have := h x hmemL.out; omega : P = none)
          clear HS HT hmemL HQ HM hx
          go_wp2
          go_ret3
          rw [HN.out]
          exact ⟨rfl, hB⟩
        · have i6 : ¬ (2147483647 : Int) < (x : Int) := by omega
          have i7 : (x : Int) ≤ 9223372036854775807 := by omega
          have HM2 : Hid (∀ u ∈ L.take (j + 1), u ≤ 2147483647) := (by
            intro u hu
            rw [HT.out] at hu
            rcases List.mem_append.mp hu with hu | hu
            · exact HM.out u hu
            · rw [List.mem_singleton.mp hu]; omega : ∀ u ∈ L.take (j + 1), u ≤ 2147483647)
          clear HT hmemL HM hx
          go_wp2
          go_roundw
          case rel => exact ⟨j + 1, by omega, by go_num, HM2, by rw [← HS.out]; exact own_store hown j _, below_put hbel (Nat.le_refl _) _ _⟩
          case measure => simp [intOf]; omega
      · obtain rfl : j = n := by omega
        have HE : Hid (P = some (L, A)) := (by
          have e : L.take j = L := List.take_of_length_le (by rw [hL.out]; exact Nat.le_refl _)
          rw [HQ.out, if_pos (fun u hu => HM.out u (by rw [e]; exact hu))] : P = some (L, A))
        have HC : Hid (L.take j ++ List.replicate (j - j) 0 = L) := (by
          rw [List.take_of_length_le (by rw [hL.out]; exact Nat.le_refl _)]; simp : _ = _)
        clear HQ HM
        go_wp2
        go_ret3
        rw [HE.out]
        rw [HC.out] at hown
        exact ⟨w2.heap.size, rfl, hown, hB⟩
  · have HN : Hid (P = none) := (by rw [HP.out, if_neg (by simp)] : P = none)
    clear HP hlenL hlt64
    unfold AllRes at hall
    simp only at hall
    go_enter Tryz.func197, Tryz.ntmps197
    go_wp2_with (go_at_call 215; go_must (refine hall.mono ?_; rintro e w2 ⟨a1, c1, rfl, hown1, hb2⟩))
    go_ret3
    rw [HN.out]
    exact ⟨rfl, hb2⟩
end Go.Proofs.YtfogodbbgbnhkaaGreatDoor
