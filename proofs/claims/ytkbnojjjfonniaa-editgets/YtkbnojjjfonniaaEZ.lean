/- Edits: those of bytes, as the reference reads them; the law of getting. -/
import Derived.Test.YtkbnojjjfonniaaEV
import Derived.Test.YtkbnojjjfonniaaERD
namespace Go.Proofs.Ytkbnojjjfonniaa
open Go.RowKit

theorem rfirst_any (a : Option Addr) (len cap : Nat) (bs : List Nat) (w : World) (hbig : len ≤ 100000) (hshape : Shape a len cap) (hr : Row .u8 w a len bs) :
    Calls Try.prog 32 #[.slice a len cap] w (RFRes w (Ed.first bs)) := by
  by_cases h0 : len = 0
  · subst h0
    have hbs : bs = [] := List.length_eq_zero_iff.mp hr.1
    have e : Ed.first bs = none := by rw [Ed.first, if_pos (.inl hbs)]
    rw [e]
    exact rfirst_nil a cap w
  · rcases hshape with ⟨h1, -⟩ | ⟨b, off, rfl, hlc⟩
    · exact absurd h1 h0
    · have hne : bs ≠ [] := fun h => by have := hr.1; rw [h] at this; exact h0 this.symm
      have hK256 : bs.getD 0 0 < 256 := hr.2.2.1 _ (by
        rw [List.getD_eq_getElem?_getD, List.getElem?_eq_getElem (by rw [hr.1]; omega)]
        exact List.getElem_mem _)
      have hpar := fun W => rparts_any ((bs.getD 0 0 : Nat) : Int) W
      by_cases hp : Ed.parts (bs.getD 0 0 : Nat) = []
      · have e : Ed.first bs = none := by rw [Ed.first, if_pos (.inr hp)]
        have hP : (pstr (bs.getD 0 0 : Nat)).toList = [] := by
          have : kb (pstr (bs.getD 0 0 : Nat)) = [] := by rw [pstr_parts, hp]
          rw [(kb_nil _).mp this, Lib.toList_data]
        exact rfirst_other b off len cap bs w _ rfl (by omega) hK256 _ e hr _ hP hpar
      · have hP2 : ¬ (pstr (bs.getD 0 0 : Nat)).toList = [] := fun h => hp (by
          rw [← pstr_parts, kb_nil]
          exact toList_inj (by rw [h, Lib.toList_data]))
        have hc6 : Ed.cnt (bs.getD 0 0 : Nat) ≤ 6 := by
          obtain ⟨c1, c2, c3, c4, c5, c6, c7, c8, c9⟩ := Ed.cnt_of
          rcases Ed.kinds (bs.getD 0 0 : Nat) with h | h | h | h | h | h | h | h | h | h
          case inr.inr.inr.inr.inr.inr.inr.inr.inr => rw [Ed.cnt_none h]; omega
          all_goals (rw [h]; omega)
        refine rfirst_main b off len cap bs w _ (pstr (bs.getD 0 0 : Nat)) (Ed.cnt (bs.getD 0 0 : Nat)) _ rfl (by omega) hbig hlc hK256 hc6 hr (by simpa using hP2) (pstr_parts _) rfl ?_ hpar (fun W => ?_)
        · show Ed.first bs = _
          rw [Ed.first, if_neg (by rintro (h | h); (· exact hne h); (· exact hp h))]
          cases hn : Ed.nread (Ed.cnt (bs.getD 0 0 : Nat)) bs 1 [] with
          | none => rfl
          | some x =>
            obtain ⟨l, A⟩ := x
            have hll : l.length = Ed.cnt (bs.getD 0 0 : Nat) := by
              rw [Ed.nread_pnums] at hn
              cases hq : Ed.pnums (bs.drop 1) (Ed.cnt (bs.getD 0 0 : Nat)) with
              | none => rw [hq] at hn; cases hn
              | some y =>
                obtain ⟨l', m'⟩ := y
                rw [hq] at hn
                simp only [Option.some.injEq, Prod.mk.injEq] at hn
                rw [← hn.1]; exact (Ed.pnums_len hq).1
            simp only
            rw [Ed.fillTo_end hp hll]
        · have := rnumbers_any ((bs.getD 0 0 : Nat) : Int) 0 0 0 0 0 0 0 0 0 ⟨#[]⟩ ⟨#[]⟩ W (Ed.nums_zero _)
          refine this.mono ?_
          rintro e w' ⟨a2, c2, rfl, _, hb⟩
          exact ⟨a2, c2, by rw [List.length_map]; rfl, hb⟩
set_option maxRecDepth 100000 in
set_option maxHeartbeats 8000000 in
theorem rget16_any (a : Option Addr) (len cap : Nat) (bs : List Nat) (w : World) (hbig : len ≤ 100000) (hshape : Shape a len cap) (hr : Row .u8 w a len bs) :
    Calls Try.prog 16 #[.slice a len cap] w fun e w' => ∃ g c, e = .returned (.slice g (Ed.get bs).length c) ∧ ERow w' g (Ed.get bs).length (Ed.get bs) ∧ Below w.heap.size w w' := by
  have hcap : len ≤ cap := by rcases hshape with ⟨h1, h2⟩ | ⟨_, _, _, h⟩; (· omega); (· exact h)
  have hnum := rnumber_any a len cap bs w hbig hcap hr
  have hnl := (Ed.number_le bs).1
  rw [hr.1] at hnl
  have hlen : Hid (bs.length = len) := hr.1
  have hsm : Hid (∀ x ∈ bs, x < 256) := (hr.2.2.1 : ∀ x ∈ bs, x < 256)
  have HP : Hid (Ed.get bs = if (Ed.number bs).2 = 0 ∨ 200 < (Ed.number bs).1 then [] else Ed.fin (Ed.sc (Ed.number bs).1 bs (Ed.number bs).2 []) len) := (by rw [Ed.get, hr.1]; rfl : _ = _)
  generalize Ed.get bs = P at *
  generalize Ed.number bs = Q at *
  obtain ⟨N, A0⟩ := Q
  simp only at hnum hnl HP
  have hnone : ∀ W, Below w.heap.size w W → P = [] → ∃ g c, Ending.returned (.slice none 0 0) = .returned (.slice g P.length c) ∧ ERow W g P.length P ∧ Below w.heap.size w W := fun W hW h => by
    subst h
    exact ⟨none, 0, rfl, TRow.nil _ _, hW⟩
  have hnone : Hid (∀ W, Below w.heap.size w W → P = [] → ∃ g c, Ending.returned (.slice none 0 0) = .returned (.slice g P.length c) ∧ ERow W g P.length P ∧ Below w.heap.size w W) := hnone
  by_cases hA0 : A0 = 0
  · subst hA0
    have HN : Hid (P = []) := (by rw [HP.out, if_pos (.inl rfl)] : P = [])
    clear HP
    go_enter Try.func16, Try.ntmps16
    go_wp2_with (go_at_call 31; go_must (refine hnum.mono ?_; rintro e w2 ⟨rfl, hb2⟩))
    go_ret
    exact hnone.out _ hb2 HN.out
  have i0 : ¬ (A0 : Int) = 0 := by omega
  have d0 : ((A0 : Int) == 0) = false := by simp; omega
  by_cases hN2 : 200 < N
  · have HN : Hid (P = []) := (by rw [HP.out, if_pos (.inr hN2)] : P = [])
    have i2 : (200 : Int) < (N : Int) := by omega
    clear HP
    go_enter Try.func16, Try.ntmps16
    go_wp2_with (go_at_call 31; go_must (refine hnum.mono ?_; rintro e w2 ⟨rfl, hb2⟩))
    go_ret
    exact hnone.out _ hb2 HN.out
  have i2 : ¬ (200 : Int) < (N : Int) := by omega
  have d2 : decide ((200 : Int) < (N : Int)) = false := by simp; omega
  obtain ⟨S0, hS0⟩ : ∃ S0, S0 = Ed.sc N bs A0 [] := ⟨_, rfl⟩
  have HQ : Hid (P = Ed.fin S0 len) := (by rw [HP.out, if_neg (by omega), hS0] : P = _)
  have HS0 : Hid (S0 = Ed.sc (N - 0) bs A0 []) := hS0
  clear HP hS0
  rcases hshape with ⟨h0, -⟩ | ⟨b, off, rfl, hlc⟩
  · omega
  have hge : ∀ (A : Nat) W q l' c', A ≤ len → Row .u8 W (some ⟨b, off, none⟩) len bs → ERest b off len cap A q l' c' → Calls Try.prog 32 #[.slice q l' c'] W (RFRes W (Ed.first (bs.drop A))) := fun A W q l' c' hA hW hR => by
    obtain ⟨r1, r2⟩ := hR.row hW hA hlc
    exact rfirst_any q l' c' _ W (by have := hR.1; omega) r2 r1
  have hmy := fun k n i t a b c p q r f g W => rmay16_any k n i t a b c p q r f g W
  go_enter Try.func16, Try.ntmps16
  go_wp2_with (go_at_call 31; go_must (refine hnum.mono ?_; rintro e w2 ⟨rfl, hb2⟩; have hm2 := made_t (s := 12) (enc := ee) w2 (B := w.heap.size) (E := 32) hb2.size rfl; have hB2 := hb2.alloc hb2.size (.cells #[] 32)))
  go_loopw [4, 5, 6] (fun av lv iv wr => ∃ (j A c' : Nat) (a' : Option Addr) (xs : List Ed.E), j ≤ N ∧ A ≤ len ∧ iv = .int .i64 j ∧ av = .int .i64 A ∧ lv = .slice a' j c' ∧ Hid (S0 = Ed.sc (N - j) bs A xs) ∧ wr.ownsRow w.heap.size 32 12 (.slice a' j c') j (tcells ee xs) ∧ Below w.heap.size w wr) (fun _ _ iv _ => N - (intOf iv).toNat)
  case atStart => exact ⟨0, A0, 0, _, [], by omega, hnl, rfl, rfl, rfl, HS0, hm2, hB2⟩
  case round =>
    obtain ⟨j, A, c', a', xs, hj, hA, rfl, rfl, rfl, HS, hown, hbel⟩ := hrel
    have hrw := hr.below hbel (Nat.le_refl _)
    have hsz := hbel.size
    by_cases hlt : j < N
    · have j0 : (0 : Int) ≤ (j : Int) := by omega
      have j1 : (j : Int) < (N : Int) := by omega
      have a0 : (0 : Int) ≤ (A : Int) := by omega
      have a1 : (A : Int) ≤ (len : Int) := by omega
      have a2 : (len : Int) ≤ (cap : Int) := by omega
      have hgA := fun W q l' c' => hge A W q l' c' hA
      have hscn : Hid (Ed.sc (N - j) bs A xs = match Ed.first (bs.drop A) with | none => none | some (e, k) => if Ed.may e = true then Ed.sc (N - (j + 1)) bs (A + k) (xs ++ [e]) else none) := (by rw [show N - j = (N - (j + 1)) + 1 by omega, Ed.sc]; cases Ed.first (bs.drop A) <;> rfl : _ = _)
      cases hpf : Ed.first (bs.drop A) with
      | none =>
        have HN : Hid (P = []) := (by rw [HQ.out, HS.out, hscn.out, hpf]; rfl : P = [])
        rw [hpf] at hgA
        have hgA : ∀ W q l' c', Row .u8 W (some ⟨b, off, none⟩) len bs → ERest b off len cap A q l' c' → Calls Try.prog 32 #[.slice q l' c'] W fun e w' => e = .returned (.tuple #[ed12 0 0 0 0 0 0 0 0 0 0 ⟨#[]⟩ ⟨#[]⟩, .int .i64 0]) ∧ Below W.heap.size W w' := hgA
        clear HQ HS hpf hge HS0 hscn
        by_cases hcA : cap = A
        · subst hcA
          go_wp2_with (go_at_call 32; go_must (refine (hgA _ _ _ _ hrw ⟨by omega, .inl ⟨by omega, by omega⟩⟩).mono ?_; rintro e w4 ⟨rfl, hb4⟩; have hB4 := hbel.trans (hb4.mono hsz)))
          go_ret
          exact hnone.out _ (hB4.alloc hB4.size _) HN.out
        · go_wp2_with (go_at_call 32; go_must (refine (hgA _ _ _ _ hrw ⟨rfl, .inr ⟨rfl, rfl⟩⟩).mono ?_; rintro e w4 ⟨rfl, hb4⟩; have hB4 := hbel.trans (hb4.mono hsz)))
          go_ret
          exact hnone.out _ (hB4.alloc hB4.size _) HN.out
      | some y =>
        obtain ⟨⟨k, n, i, t, a, bb, c, ⟨p, q, r, f, g⟩⟩, m⟩ := y
        obtain ⟨hm0, hm, _⟩ := Ed.first_ok (fun x hx => hsm.out x (List.mem_of_mem_drop hx)) hpf
        rw [List.length_drop, hlen.out] at hm
        rw [hpf] at hgA
        have hgA : ∀ W q' l' c', Row .u8 W (some ⟨b, off, none⟩) len bs → ERest b off len cap A q' l' c' → Calls Try.prog 32 #[.slice q' l' c'] W fun e w' => e = .returned (.tuple #[ed12 k n i t a bb c p q r f g, .int .i64 (m : Nat)]) ∧ Below W.heap.size W w' := hgA
        have hcA : ¬ cap = A := fun h => by omega
        have m0 : ¬ (m : Int) = 0 := by omega
        have dm0 : ((m : Int) == 0) = false := by simp; omega
        have hmy1 := fun W => hmy k n i t a bb c p q r f g W
        cases hmay : Ed.may ⟨k, n, i, t, a, bb, c, ⟨p, q, r, f, g⟩⟩ with
        | false =>
          have HN : Hid (P = []) := (by rw [HQ.out, HS.out, hscn.out, hpf]; simp only; rw [if_neg (by rw [hmay]; decide)]; rfl : P = [])
          rw [hmay] at hmy1
          clear HQ HS hpf hge HS0 hscn hmay
          go_wp2_with (first
            | (go_at_call 32; go_must (refine (hgA _ _ _ _ hrw ⟨rfl, .inr ⟨rfl, rfl⟩⟩).mono ?_; rintro e w4 ⟨rfl, hb4⟩; have hB4 := hbel.trans (hb4.mono hsz); have hB5 := hB4.alloc hB4.size (oed k n i t a bb c p q r f g)))
            | (go_at_call 9; go_must (refine (hmy1 _).mono ?_; rintro e w6 ⟨rfl, hb6⟩)))
          go_ret
          exact hnone.out _ (hB5.trans (hb6.mono hB5.size)) HN.out
        | true =>
          have HS2 : Hid (S0 = Ed.sc (N - (j + 1)) bs (A + m) (xs ++ [⟨k, n, i, t, a, bb, c, ⟨p, q, r, f, g⟩⟩])) := (by rw [HS.out, hscn.out, hpf]; simp only; rw [if_pos hmay] : S0 = _)
          rw [hmay] at hmy1
          have jm : IntKind.i64.wrap ((A : Int) + (m : Int)) = ((A + m : Nat) : Int) := by rw [IntKind.wrap_i64]; omega
          clear HQ HS hpf hge HS0 hscn hmay
          go_wp2_with (first
            | (go_at_call 32; go_must (refine (hgA _ _ _ _ hrw ⟨rfl, .inr ⟨rfl, rfl⟩⟩).mono ?_; rintro e w4 ⟨rfl, hb4⟩; have hB4 := hbel.trans (hb4.mono hsz); have hB5 := hB4.alloc hB4.size (oed k n i t a bb c p q r f g); have hown5 := (owns_below hown hb4).alloc (oed k n i t a bb c p q r f g)))
            | (go_at_call 9; go_must (refine (hmy1 _).mono ?_; rintro e w6 ⟨rfl, hb6⟩; have hB6 := hB5.trans (hb6.mono hB5.size); have hown6 := owns_below hown5 hb6; obtain ⟨u0, u1, u2, u3, u4, u5, u6, u7, u8, u9, u10, u11⟩ := blk12 (ob_below (heap_alloc_new w4 (oed k n i t a bb c p q r f g)) hb6); have hls := lit_edit w6 k n i t a bb c p q r f g (o := w6.heap.size) rfl))
            | (at_builtin; go_must (refine append_t edE eeE (w0 := w) (B := w.heap.size) rfl (.tmp 40) (.tmp 42) rfl _ _ _ rfl (hown6.alloc _) (some ⟨w6.heap.size, 0, none⟩) 1 1 [⟨k, n, i, t, a, bb, c, ⟨p, q, r, f, g⟩⟩] rfl hls (fun h => by cases h) (by omega) (hB6.alloc hB6.size _) (hB6.alloc hB6.size _).size ?_; intro a8 c8 w8 _ _ _ hown8 hb8 _)))
          go_roundw
          case rel => exact ⟨j + 1, A + m, c8, a8, xs ++ [⟨k, n, i, t, a, bb, c, ⟨p, q, r, f, g⟩⟩], by omega, by omega, by go_num, by simp, rfl, HS2, hown8, hb8⟩
          case measure => simp [intOf]; omega
    · obtain rfl : j = N := by omega
      have j1 : ¬ (j : Int) < (j : Int) := by omega
      have HE : Hid (P = if A = len then xs else []) := (by rw [HQ.out, HS.out, Nat.sub_self]; rfl : P = _)
      have hXl := hown.1
      rw [tcells_length eeE] at hXl
      have hXl : Hid (xs.length = j) := (by omega : xs.length = j)
      clear HQ HS HS0 hge
      by_cases hAl : A = len
      · have a3 : ((A : Int) == (len : Int)) = true := by simp [hAl]
        have a4 : (A : Int) = (len : Int) := by omega
        have HE2 : Hid (P = xs) := (by rw [HE.out, if_pos hAl] : P = xs)
        clear HE a4
        subst hAl
        go_wp2
        go_ret
        rw [HE2.out, hXl.out]
        exact ⟨a', ⟨c', rfl⟩, trow_of_owns (d := Ed.zero) eeE hown (by omega) (by omega), hbel⟩
      · have a3 : ¬ (A : Int) = (len : Int) := by omega
        have HN : Hid (P = []) := (by rw [HE.out, if_neg hAl] : P = [])
        clear HE
        go_wp2
        go_ret
        obtain ⟨g9, c9, y1, y2, y3⟩ := hnone.out _ hbel HN.out
        exact ⟨g9, ⟨c9, y1⟩, y2, y3⟩
end Go.Proofs.Ytkbnojjjfonniaa
