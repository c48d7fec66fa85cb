/- Edits: Get of the program. -/
import Derived.Test.YtkbnojjjfonniaaEM
namespace Go.Proofs.Ytkbnojjjfonniaa
open Go.RowKit

theorem edE : Elem 22 32 12 112 (.agg #[.int .i64 0, .int .i64 0, .int .i64 0, .int .i64 0, .int .i64 0, .int .i64 0, .int .i64 0, .int .i64 0, .int .i64 0, .int .i64 0, .string ⟨#[]⟩, .string ⟨#[]⟩]) := ⟨Try.underlying22, by kernel_rfl, rfl, by decide, by decide⟩
theorem set_twelve (cs rest : List Value) (j : Nat) (hcs : cs.length = j * 12) (hr : 12 ≤ rest.length) (v0 v1 v2 v3 v4 v5 v6 v7 v8 v9 v10 v11 : Value) :
    (((((((((((((cs ++ rest).set (j * 12) v0).set (j * 12 + 1) v1).set (j * 12 + 2) v2).set (j * 12 + 3) v3).set (j * 12 + 4) v4).set (j * 12 + 5) v5).set (j * 12 + 6) v6).set (j * 12 + 7) v7).set (j * 12 + 8) v8).set (j * 12 + 9) v9).set (j * 12 + 10) v10).set (j * 12 + 11) v11) = (cs ++ [v0, v1, v2, v3, v4, v5, v6, v7, v8, v9, v10, v11]) ++ rest.drop 12 := by
  rw [← hcs]
  obtain ⟨r0, r1, r2, r3, r4, r5, r6, r7, r8, r9, r10, r11, t, rfl⟩ : ∃ r0 r1 r2 r3 r4 r5 r6 r7 r8 r9 r10 r11 t, rest = r0 :: r1 :: r2 :: r3 :: r4 :: r5 :: r6 :: r7 :: r8 :: r9 :: r10 :: r11 :: t := by
    match rest, hr with
    | r0 :: r1 :: r2 :: r3 :: r4 :: r5 :: r6 :: r7 :: r8 :: r9 :: r10 :: r11 :: t, _ => exact ⟨r0, r1, r2, r3, r4, r5, r6, r7, r8, r9, r10, r11, t, rfl⟩
  simp [List.set_append_right]
theorem twelve_left {cs rest : List Value} {j : Nat} (hcs : cs.length = j * 12) (hr : 12 ≤ rest.length) : ∃ r0 r1 r2 r3 r4 r5 r6 r7 r8 r9 r10 r11, (cs ++ rest)[j * 12]? = some r0 ∧ (cs ++ rest)[j * 12 + 1]? = some r1 ∧ (cs ++ rest)[j * 12 + 2]? = some r2 ∧ (cs ++ rest)[j * 12 + 3]? = some r3 ∧ (cs ++ rest)[j * 12 + 4]? = some r4 ∧ (cs ++ rest)[j * 12 + 5]? = some r5 ∧ (cs ++ rest)[j * 12 + 6]? = some r6 ∧ (cs ++ rest)[j * 12 + 7]? = some r7 ∧ (cs ++ rest)[j * 12 + 8]? = some r8 ∧ (cs ++ rest)[j * 12 + 9]? = some r9 ∧ (cs ++ rest)[j * 12 + 10]? = some r10 ∧ (cs ++ rest)[j * 12 + 11]? = some r11 := by
  rw [← hcs]
  match rest, hr with
  | r0 :: r1 :: r2 :: r3 :: r4 :: r5 :: r6 :: r7 :: r8 :: r9 :: r10 :: r11 :: t, _ => exact ⟨r0, r1, r2, r3, r4, r5, r6, r7, r8, r9, r10, r11, by simp, by simp, by simp, by simp, by simp, by simp, by simp, by simp, by simp, by simp, by simp, by simp⟩
namespace Ed
theorem ptab_le {bs : List Nat} {t : Lv.T} {m : Nat} (h : ptab bs = some (t, m)) : m ≤ bs.length := by
  unfold ptab at h
  split at h
  · cases h
  · rename_i l A hn
    have hA := (pnums_len hn).2.1
    split at h
    · cases h
    · rename_i f m1 h1
      have := (pkey_some h1 hA).2
      split at h
      · cases h
      · rename_i g m2 h2
        have := (pkey_some h2 this).2
        simp only [Option.some.injEq, Prod.mk.injEq] at h
        omega
theorem pfirst_le {bs : List Nat} {x : E} {k : Nat} (h : pfirst bs = some (x, k)) : k ≤ bs.length := by
  unfold pfirst at h
  split at h
  · cases h
  · rename_i hne
    have hl : 1 ≤ bs.length := List.length_pos_iff.mpr hne
    split at h
    · split at h
      · cases h
      · rename_i t m ht
        have := ptab_le ht
        rw [List.length_drop] at this
        simp only [Option.some.injEq, Prod.mk.injEq] at h
        omega
    · split at h
      · cases h
      · rename_i l m hn
        have := (pnums_len hn).2.1
        rw [List.length_drop] at this
        simp only [Option.some.injEq, Prod.mk.injEq] at h
        omega
theorem sc_no {N j : Nat} (hj : j < N) {bs : List Nat} {a : Nat} {l : List E} (hs : ∀ x ∈ bs, x < 256) (h : good (pfirst (bs.drop a)) = none) : sc (N - j) bs a l = none := by
  rw [show N - j = (N - (j + 1)) + 1 by omega, sc_good _ _ _ _ hs, h]
theorem sc_yes {N j : Nat} (hj : j < N) {bs : List Nat} {a : Nat} {l : List E} {e : E} {k : Nat} (hs : ∀ x ∈ bs, x < 256) (h : pfirst (bs.drop a) = some (e, k)) (hm : may e = true) : sc (N - j) bs a l = sc (N - (j + 1)) bs (a + k) (l ++ [e]) := by
  rw [show N - j = (N - (j + 1)) + 1 by omega, sc_good _ _ _ _ hs, h]
  simp [good, hm]
theorem get_zero {bs : List Nat} (h : (Va.get bs).2 = 0 ∨ (Va.get bs).1 < 1 ∨ 200 < (Va.get bs).1) : get bs = [] := by
  unfold get
  by_cases h1 : (number bs).2 = 0 ∨ 200 < (number bs).1
  · rw [if_pos h1]
  · rw [if_neg h1]
    have e : (number bs).1 = 0 := by
      unfold number at h1 ⊢
      split at h1
      · simp at h1
      · rename_i hq; rw [if_neg hq]; omega
    rw [e]
    simp only [sc]
    split <;> rfl
/-- what is told at the end -/
def fin (S : Option (List E × Nat)) (len : Nat) : List E := match S with | none => [] | some (l, e) => if e = len then l else []
theorem get_more {bs : List Nat} {N at' : Nat} (h : Va.get bs = (N, at')) (h1 : at' ≠ 0) (h3 : N ≤ 200) : get bs = fin (sc N bs at' []) bs.length := by
  have e : number bs = (N, at') := by unfold number; rw [h, if_neg (by simp only; omega)]
  unfold get
  rw [e, if_neg (by simp only; omega)]
  rfl
theorem sc_len : ∀ (n : Nat) (bs : List Nat) (a : Nat) (acc l : List E) (e : Nat), sc n bs a acc = some (l, e) → l.length = acc.length + n
  | 0, bs, a, acc, l, e, h => by
    simp only [sc, Option.some.injEq, Prod.mk.injEq] at h
    rw [← h.1]; rfl
  | n + 1, bs, a, acc, l, e, h => by
    simp only [sc] at h
    split at h
    · cases h
    · split at h
      · have := sc_len n _ _ _ _ _ h
        simp only [List.length_append, List.length_singleton] at this
        omega
      · cases h
end Ed
/-- edits of the call's own are told, or none -/
def EGRes (w : World) (L : List Ed.E) (e : Ending) (w' : World) : Prop :=
  (L = [] ∧ e = .returned (.tuple #[.slice none 0 0, .int .i64 2]) ∧ Below w.heap.size w w') ∨
  (L ≠ [] ∧ ∃ g, e = .returned (.tuple #[.slice (some ⟨g, 0, none⟩) L.length L.length, .int .i64 0]) ∧ w'.ownsRow w.heap.size 32 12 (.slice (some ⟨g, 0, none⟩) L.length L.length) L.length (tcells ee L) ∧ Below w.heap.size w w')

set_option maxRecDepth 100000 in
set_option maxHeartbeats 4000000 in
theorem epget_any (a : Option Addr) (len cap : Nat) (bs : List Nat) (w : World) (hbig : len ≤ 100000) (hshape : Shape a len cap) (hr : Row .u8 w a len bs) :
    Calls Try.prog 15 #[.slice a len cap] w (EGRes w (Ed.get bs)) := by
  have hget := fun W h => get_any a len cap bs W h
  have hle := Va.get_le (bs := bs)
  rw [hr.1] at hle
  have hlt := Va.get_lt bs
  have hlen : Hid (bs.length = len) := hr.1
  have hsm : Hid (∀ x ∈ bs, x < 256) := (hr.2.2.1 : ∀ x ∈ bs, x < 256)
  have hg0 := Ed.get_zero (bs := bs)
  have hg1 := fun N at' h => Ed.get_more (bs := bs) (N := N) (at' := at') h
  generalize Ed.get bs = P at *
  generalize Va.get bs = G at *
  obtain ⟨N, A0⟩ := G
  simp only at hget hle hlt hg0
  by_cases hA0 : A0 = 0
  · subst hA0
    have HN : Hid (P = []) := (hg0 (.inl rfl) : P = [])
    rw [show code 0 = 2 from rfl] at hget
    clear hg0 hg1
    go_enter Try.func15, Try.ntmps15
    go_wp2_with (go_at_call 29; go_must (refine (hget _ hr).mono ?_; rintro e w2 ⟨rfl, rfl⟩))
    go_ret2
    exact .inl ⟨HN.out, rfl, Below.refl _ _⟩
  rw [show code A0 = 0 from by unfold code; rw [if_neg hA0]] at hget
  by_cases hN1 : N < 1
  · have HN : Hid (P = []) := (hg0 (.inr (.inl hN1)) : P = [])
    have i1 : (N : Int) < 1 := by omega
    clear hg0 hg1
    go_enter Try.func15, Try.ntmps15
    go_wp2_with (go_at_call 29; go_must (refine (hget _ hr).mono ?_; rintro e w2 ⟨rfl, rfl⟩))
    go_ret2
    exact .inl ⟨HN.out, rfl, Below.refl _ _⟩
  have i1 : ¬ (N : Int) < 1 := by omega
  by_cases hN2 : 200 < N
  · have HN : Hid (P = []) := (hg0 (.inr (.inr hN2)) : P = [])
    have i2 : (200 : Int) < (N : Int) := by omega
    clear hg0 hg1
    go_enter Try.func15, Try.ntmps15
    go_wp2_with (go_at_call 29; go_must (refine (hget _ hr).mono ?_; rintro e w2 ⟨rfl, rfl⟩))
    go_ret2
    exact .inl ⟨HN.out, rfl, Below.refl _ _⟩
  have i2 : ¬ (200 : Int) < (N : Int) := by omega
  have HP0 := hg1 N A0 rfl hA0 (by omega)
  rw [hlen.out] at HP0
  obtain ⟨S0, hS0⟩ : ∃ S0, S0 = Ed.sc N bs A0 [] := ⟨_, rfl⟩
  rw [← hS0] at HP0
  have HP : Hid (P = Ed.fin S0 len) := HP0
  have HS0 : Hid (S0 = Ed.sc N bs A0 []) := hS0
  clear hg0 hg1 hS0 HP0
  have hn0 : 0 < len := by omega
  rcases hshape with ⟨h0, -⟩ | ⟨b, off, rfl, hlc⟩
  · omega
  have hge : ∀ (A : Nat) W q l' c', A ≤ len → Row .u8 W (some ⟨b, off, none⟩) len bs → ERest b off len cap A q l' c' → Calls Try.prog 30 #[.slice q l' c'] W (GERes W (Ed.pfirst (bs.drop A))) := fun A W q l' c' hA hW hR => by
    obtain ⟨r1, r2⟩ := hR.row hW hA hlc
    exact egedit_any q l' c' _ W (by have := hR.1; omega) r2 r1
  have hck := fun k n i t a b c p q r f g W R h => echeck_any k n i t a b c p q r f g W R h
  obtain ⟨i0, hi0, hz0, hz1, hz2⟩ := info_parts (show (Try.prog.info? 32).map (fun i => (i.zero, i.size, i.bytes)) = some (some (.agg #[.int .i64 0, .int .i64 0, .int .i64 0, .int .i64 0, .int .i64 0, .int .i64 0, .int .i64 0, .int .i64 0, .int .i64 0, .int .i64 0, .string ⟨#[]⟩, .string ⟨#[]⟩]), 12, 112) by kernel_rfl)
  have k1 : (N : Int) ≤ 9223372036854775807 := by omega
  go_enter Try.func15, Try.ntmps15
  go_wp2_with (first
    | (go_at_call 29; go_must (refine (hget _ hr).mono ?_; rintro e w2 ⟨rfl, hw⟩; obtain rfl : w = w2 := hw.symm; clear hw))
    | (at_make; go_must (refine make_full _ rfl _ _ 22 rfl w.heap.size 32 i0 _ 12 Try.underlying22 hi0 hz0 hz1 .i64 .i64 N rfl rfl (by rw [hz2]; omega) (by unfold maxLen; omega) (Nat.le_refl _) ?_; intro w3 hmade hb3)))
  have hml : (madeCells (Value.agg #[.int .i64 0, .int .i64 0, .int .i64 0, .int .i64 0, .int .i64 0, .int .i64 0, .int .i64 0, .int .i64 0, .int .i64 0, .int .i64 0, .string ⟨#[]⟩, .string ⟨#[]⟩]).cells (N * 12)).toList.length = N * 12 := by simp [size_madeCells]
  generalize (madeCells (Value.agg #[.int .i64 0, .int .i64 0, .int .i64 0, .int .i64 0, .int .i64 0, .int .i64 0, .int .i64 0, .int .i64 0, .int .i64 0, .int .i64 0, .string ⟨#[]⟩, .string ⟨#[]⟩]).cells (N * 12)).toList = made at hmade hml
  go_loopw [5, 33] (fun av iv wr => ∃ (j A : Nat) (xs : List Ed.E) (rest : List Value), j ≤ N ∧ A ≤ len ∧ av = .int .i64 A ∧ iv = .int .i64 j ∧ Hid (S0 = Ed.sc (N - j) bs A xs) ∧ Hid (xs.length = j) ∧ Hid (rest.length = (N - j) * 12) ∧ wr.ownsRow w.heap.size 32 12 (.slice (some ⟨w.heap.size, 0, none⟩) N N) N (tcells ee xs ++ rest) ∧ Below w.heap.size w wr) (fun _ iv _ => N - (intOf iv).toNat)
  case atStart => exact ⟨0, A0, [], made, by omega, hle, rfl, rfl, HS0, (rfl : ([] : List Ed.E).length = 0), (hml : made.length = (N - 0) * 12), hmade, hb3⟩
  case round =>
    obtain ⟨j, A, xs, rest, hj, hA, rfl, rfl, HS, HX, HR, hown, hbel⟩ := hrel
    have hrw := hr.below hbel (Nat.le_refl _)
    by_cases hlt : j < N
    · have j0 : (0 : Int) ≤ (j : Int) := by omega
      have j1 : (j : Int) < (N : Int) := by omega
      have a0 : (0 : Int) ≤ (A : Int) := by omega
      have a1 : (A : Int) ≤ (len : Int) := by omega
      have a2 : (len : Int) ≤ (cap : Int) := by omega
      have hgA := fun W q l' c' => hge A W q l' c' hA
      cases hpf : Ed.pfirst (bs.drop A) with
      | none =>
        have HN : Hid (P = []) := (by rw [HP.out, HS.out, Ed.sc_no hlt hsm.out (by rw [hpf]; rfl)]; rfl : P = [])
        rw [hpf] at hgA
        have hgA : ∀ W q l' c', Row .u8 W (some ⟨b, off, none⟩) len bs → ERest b off len cap A q l' c' → Calls Try.prog 30 #[.slice q l' c'] W fun e w' => ∃ k s : Int, e = .returned (.tuple #[ed12 k 0 0 0 0 0 0 0 0 0 ⟨#[]⟩ ⟨#[]⟩, .int .i64 s, .int .i64 2]) ∧ Below W.heap.size W w' := hgA
        clear HP HS HX HR hpf hge HS0
        by_cases hcA : cap = A
        · subst hcA
          go_wp2_with (go_at_call 30; go_must (refine (hgA _ _ _ _ hrw ⟨by omega, .inl ⟨by omega, by omega⟩⟩).mono ?_; rintro e w4 ⟨K, S, rfl, hb4⟩; have hB4 := hbel.trans (hb4.mono hbel.size)))
          go_ret2
          exact .inl ⟨HN.out, rfl, hB4.alloc hB4.size _⟩
        · go_wp2_with (go_at_call 30; go_must (refine (hgA _ _ _ _ hrw ⟨rfl, .inr ⟨rfl, rfl⟩⟩).mono ?_; rintro e w4 ⟨K, S, rfl, hb4⟩; have hB4 := hbel.trans (hb4.mono hbel.size)))
          go_ret2
          exact .inl ⟨HN.out, rfl, hB4.alloc hB4.size _⟩
      | some y =>
        obtain ⟨⟨k, n, i, t, a, bb, c, ⟨p, q, r, f, g⟩⟩, m⟩ := y
        have hm := Ed.pfirst_le hpf
        rw [List.length_drop, hlen.out] at hm
        rw [hpf] at hgA
        have hgA : ∀ W q' l' c', Row .u8 W (some ⟨b, off, none⟩) len bs → ERest b off len cap A q' l' c' → Calls Try.prog 30 #[.slice q' l' c'] W fun e w' => e = .returned (.tuple #[ed12 k n i t a bb c p q r f g, .int .i64 (m : Nat), .int .i64 0]) ∧ Below W.heap.size W w' := hgA
        have hcA : ¬ cap = A := fun h => by
          have : bs.drop A = [] := List.drop_of_length_le (by rw [hlen.out]; omega)
          rw [this] at hpf
          cases hpf
        cases hmay : Ed.may ⟨k, n, i, t, a, bb, c, ⟨p, q, r, f, g⟩⟩ with
        | false =>
          have HN : Hid (P = []) := (by rw [HP.out, HS.out, Ed.sc_no hlt hsm.out (by rw [hpf]; exact Ed.good_no hmay)]; rfl : P = [])
          have hck1 := fun W => hck k n i t a bb c p q r f g W 1 (by rw [hmay]; rfl)
          clear HP HS HX HR hpf hge HS0 hmay
          go_wp2_with (first
            | (go_at_call 30; go_must (refine (hgA _ _ _ _ hrw ⟨rfl, .inr ⟨rfl, rfl⟩⟩).mono ?_; rintro e w4 ⟨rfl, hb4⟩; have hB4 := hbel.trans (hb4.mono hbel.size); have hB5 := hB4.alloc hB4.size (oed k n i t a bb c p q r f g)))
            | (go_at_call 8; go_must (refine (hck1 _).mono ?_; rintro e w6 ⟨rfl, hb6⟩)))
          go_ret2
          exact .inl ⟨HN.out, rfl, hB5.trans (hb6.mono hB5.size)⟩
        | true =>
          have HS2 : Hid (S0 = Ed.sc (N - (j + 1)) bs (A + m) (xs ++ [⟨k, n, i, t, a, bb, c, ⟨p, q, r, f, g⟩⟩])) := (by rw [HS.out, Ed.sc_yes hlt hsm.out hpf hmay] : S0 = _)
          have hck1 := fun W => hck k n i t a bb c p q r f g W 0 (by rw [hmay]; rfl)
          have hcsl : Hid ((tcells ee xs).length = j * 12) := (by rw [tcells_length eeE, HX.out] : _ = _)
          have hrl : Hid (12 ≤ rest.length) := (by rw [HR.out]; omega : 12 ≤ rest.length)
          have HX2 : Hid ((xs ++ [Ed.E.mk k n i t a bb c ⟨p, q, r, f, g⟩]).length = j + 1) := (by rw [List.length_append, HX.out]; rfl : _ = _)
          have HR2 : Hid ((rest.drop 12).length = (N - (j + 1)) * 12) := (by rw [List.length_drop, HR.out]; omega : _ = _)
          have jm : IntKind.i64.wrap ((A : Int) + (m : Int)) = ((A + m : Nat) : Int) := by rw [IntKind.wrap_i64]; omega
          clear HP HS HX HR hpf hge HS0 hmay
          obtain ⟨d0, d1, d2, d3, d4, d5, d6, d7, d8, d9, d10, d11, e0, e1, e2, e3, e4, e5, e6, e7, e8, e9, e10, e11⟩ := twelve_left hcsl.out hrl.out
          go_wp2_with (first
            | (go_at_call 30; go_must (refine (hgA _ _ _ _ hrw ⟨rfl, .inr ⟨rfl, rfl⟩⟩).mono ?_; rintro e w4 ⟨rfl, hb4⟩; have hB4 := hbel.trans (hb4.mono hbel.size); have hB5 := hB4.alloc hB4.size (oed k n i t a bb c p q r f g); have hown5 := (owns_below hown hb4).alloc (oed k n i t a bb c p q r f g)))
            | (go_at_call 8; go_must (refine (hck1 _).mono ?_; rintro e w6 ⟨rfl, hb6⟩; have hB6 := hB5.trans (hb6.mono hB5.size); have hown6 := owns_below hown5 hb6; obtain ⟨u0, u1, u2, u3, u4, u5, u6, u7, u8, u9, u10, u11⟩ := blk12 (ob_below (heap_alloc_new w4 (oed k n i t a bb c p q r f g)) hb6); obtain ⟨x0, y0⟩ := own_cells hown6 e0; obtain ⟨x1, y1⟩ := own_cells hown6 e1; obtain ⟨x2, y2⟩ := own_cells hown6 e2; obtain ⟨x3, y3⟩ := own_cells hown6 e3; obtain ⟨x4, y4⟩ := own_cells hown6 e4; obtain ⟨x5, y5⟩ := own_cells hown6 e5; obtain ⟨x6, y6⟩ := own_cells hown6 e6; obtain ⟨x7, y7⟩ := own_cells hown6 e7; obtain ⟨x8, y8⟩ := own_cells hown6 e8; obtain ⟨x9, y9⟩ := own_cells hown6 e9; obtain ⟨x10, y10⟩ := own_cells hown6 e10; obtain ⟨x11, y11⟩ := own_cells hown6 e11)))
          have hown7 := (own_store (own_store (own_store (own_store (own_store (own_store (own_store (own_store (own_store (own_store (own_store (own_store hown6 (j * 12) (.int .i64 k)) (j * 12 + 1) (.int .i64 n)) (j * 12 + 2) (.int .i64 i)) (j * 12 + 3) (.int .i64 t)) (j * 12 + 4) (.int .i64 a)) (j * 12 + 5) (.int .i64 bb)) (j * 12 + 6) (.int .i64 c)) (j * 12 + 7) (.int .i64 p)) (j * 12 + 8) (.int .i64 q)) (j * 12 + 9) (.int .i64 r)) (j * 12 + 10) (.string f)) (j * 12 + 11) (.string g))
          rw [set_twelve _ rest j hcsl.out hrl.out] at hown7
          go_roundw
          case rel => exact ⟨j + 1, A + m, xs ++ [⟨k, n, i, t, a, bb, c, ⟨p, q, r, f, g⟩⟩], rest.drop 12, by omega, by omega, by simp, by go_num, HS2, HX2, HR2, by rw [tcells_append]; exact hown7, (below_put (below_put (below_put (below_put (below_put (below_put (below_put (below_put (below_put (below_put (below_put (below_put hB6 (Nat.le_refl _) _ _) (Nat.le_refl _) _ _) (Nat.le_refl _) _ _) (Nat.le_refl _) _ _) (Nat.le_refl _) _ _) (Nat.le_refl _) _ _) (Nat.le_refl _) _ _) (Nat.le_refl _) _ _) (Nat.le_refl _) _ _) (Nat.le_refl _) _ _) (Nat.le_refl _) _ _) (Nat.le_refl _) _ _)⟩
          case measure => simp [intOf]; omega
    · obtain rfl : j = N := by omega
      have HE : Hid (P = if A = len then xs else []) := (by rw [HP.out, HS.out, Nat.sub_self]; rfl : P = _)
      have hrest : Hid (rest = []) := (List.length_eq_zero_iff.mp (by rw [HR.out, Nat.sub_self, Nat.zero_mul]) : rest = [])
      clear HP HS HR HS0 hge
      by_cases hAl : A < len
      · have a3 : (A : Int) < (len : Int) := by omega
        go_wp2
        go_ret2
        exact .inl ⟨by rw [HE.out, if_neg (by omega)], rfl, hbel⟩
      · have a3 : ¬ (A : Int) < (len : Int) := by omega
        go_wp2
        go_ret2
        rw [HE.out, if_pos (by omega)]
        rw [hrest.out, List.append_nil] at hown
        refine .inr ⟨fun h => ?_, w.heap.size, by rw [HX.out]; rfl, by rw [HX.out]; exact hown, hbel⟩
        have := HX.out
        rw [h] at this
        simp at this; omega
end Go.Proofs.Ytkbnojjjfonniaa
