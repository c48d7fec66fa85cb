/- What the reference's Get of a block does. -/
import Derived.Test.YtikieblokfjphaaGreatBL2
import Derived.Test.YtikieblokfjphaaGreatIT1
import Derived.Test.YtikieblokfjphaaGreatTRa
import Derived.Laws.BytesArg
import Derived.SliceStrings
namespace Go.Proofs.YtikieblokfjphaaGreat
open Go.RowKit

theorem conv_row {w : World} {b off n cap : Nat} {bs : List Nat} (hr : Row .u8 w (some ⟨b, off, none⟩) n bs) : (convert 22 9 (.slice (some ⟨b, off, none⟩) n cap)).run Tryz.prog w = .ok (.string (bstr bs)) w := by
  refine run_convert_bytes_arg w 22 5 Tryz.underlying22 Tryz.underlying5 b off n cap _ (by rw [List.length_map]; exact hr.1) (fun i hi => ?_) 9 Tryz.underlying9
  rw [hr.cell i hi]
  have : i < bs.length := by rw [hr.1]; exact hi
  simp [this]
namespace Bl
/-- an item at a place, in places of the whole -/
theorem one_at {last bs : List Nat} {p u k1 v k2 : Nat} (h1 : Va.get (bs.drop p) = (u, k1)) (h2 : Va.get (bs.drop (p + k1)) = (v, k2)) (hp : p ≤ bs.length) :
    one last (bs.drop p) = if k1 = 0 ∨ k2 = 0 ∨ last.length < u ∨ 64 < v then none else if bs.length ≤ p + k1 + k2 + v then none
      else if bs.getD (p + k1 + k2 + v) 0 = 1 then some ((last.take u ++ (bs.drop (p + k1 + k2)).take v, true, Ce.zero), k1 + k2 + v + 1)
      else if (Ce.get (bs.drop (p + k1 + k2 + v + 1))).2 = 0 then none else some ((last.take u ++ (bs.drop (p + k1 + k2)).take v, false, (Ce.get (bs.drop (p + k1 + k2 + v + 1))).1), k1 + k2 + v + 1 + (Ce.get (bs.drop (p + k1 + k2 + v + 1))).2) := by
  unfold one
  simp only [h1, List.drop_drop, h2]
  have e1 : ((bs.drop p).length ≤ k1 + k2 + v) ↔ (bs.length ≤ p + k1 + k2 + v) := by rw [List.length_drop]; omega
  have e2 : (bs.drop p).getD (k1 + k2 + v) 0 = bs.getD (p + k1 + k2 + v) 0 := by
    rw [List.getD_eq_getElem?_getD, List.getD_eq_getElem?_getD, List.getElem?_drop]
    congr 2; omega
  have e3 : p + (k1 + k2) = p + k1 + k2 := by omega
  have e4 : p + (k1 + k2 + v + 1) = p + k1 + k2 + v + 1 := by omega
  simp only [e1, e2, e3, e4]
theorem sc_step {N k : Nat} (hk : k < N) (bs : List Nat) (p : Nat) (last : List Nat) (O : List It.I) : sc (N - k) bs p last O = match one last (bs.drop p) with | none => none | some (x, q) => sc (N - (k + 1)) bs (p + q) x.1 (O ++ [x]) := by
  rw [show N - k = (N - (k + 1)) + 1 by omega, sc]
  cases one last (bs.drop p) <;> rfl
end Bl
theorem kb_take (s : ByteArray) (u : Nat) : kb (s.extract 0 u) = (kb s).take u := by
  unfold kb
  rw [ByteArray.data_extract, Array.toList_extract, List.extract_eq_take_drop, List.map_take, List.map_drop]
  simp
theorem own_dead (W : World) (B : Nat) {s : ByteArray} {l : List Nat} (hk : kb s = l) (hs : s.size ≤ maxLen) : OwnIt W B ⟨s, true, false, none, 0, 0, Po.zero⟩ (l, true, Ce.zero) :=
  ⟨⟨hk, rfl, rfl, rfl, ⟨rfl, Nat.zero_le _, (fun x hx => by cases hx), .inl rfl⟩, (fun _ => ⟨rfl, rfl⟩), Nat.le_refl _, (by show Po.Fits Po.zero; unfold Po.Fits Po.zero; decide), hs⟩, ⟨rfl, .inl ⟨rfl, rfl⟩⟩⟩
def BGetRes (w : World) (L : List It.I) (e : Ending) (w' : World) : Prop :=
  ∃ a c hs, e = .returned (.slice a L.length c) ∧ InI w' a L.length c hs L ∧ Below w.heap.size w w'
/-- the same, of the call's own -/
def BGetOwn (w : World) (L : List It.I) (e : Ending) (w' : World) : Prop :=
  ∃ a c hs, e = .returned (.slice a L.length c) ∧ w'.ownsRow w.heap.size 40 8 (.slice a L.length c) L.length (tcells ih hs) ∧ ItHeld w' w.heap.size hs L ∧ Below w.heap.size w w'
theorem bget_none {w w' : World} {L : List It.I} (h : L = []) (hb : Below w.heap.size w w') : BGetOwn w L (.returned (.slice none 0 0)) w' := by
  subst h
  exact ⟨none, 0, [], rfl, ⟨rfl, .inl ⟨rfl, rfl⟩⟩, ItHeld.nil _ _, hb⟩
/-- the rest of a slice, cut within it or at its end -/
def Rest (b off n c p : Nat) (a' : Option Addr) (l' c' : Nat) : Prop := l' = n - p ∧ ((l' = 0 ∧ c' = 0) ∨ (a' = some ⟨b, off + p, none⟩ ∧ c' = c - p))
theorem Rest.row {b off n c p : Nat} {a' : Option Addr} {l' c' : Nat} {bs : List Nat} {W : World} (h : Rest b off n c p a' l' c') (hr : Row .u8 W (some ⟨b, off, none⟩) n bs) (hp : p ≤ n) (hc : n ≤ c) : Row .u8 W a' l' (bs.drop p) ∧ l' ≤ c' ∧ Shape a' l' c' := by
  have h1 := hr.drop p hp
  obtain ⟨rfl, ⟨h2, rfl⟩ | ⟨rfl, rfl⟩⟩ := h
  · rw [h2]
    refine ⟨⟨by rw [List.length_drop, hr.1]; exact h2, by omega, h1.2.2.1, .inl rfl⟩, Nat.le_refl _, ?_⟩
    cases a' <;> simp [Shape]
  · exact ⟨h1, by omega, by simp [Shape]; omega⟩

set_option maxRecDepth 100000 in
set_option maxHeartbeats 8000000 in
theorem brefget_loop (b off n c : Nat) (bs : List Nat) (w : World) (hn : n ≤ 100000) (hlc : n ≤ c) (hr : Row .u8 w (some ⟨b, off, none⟩) n bs) (N at0 : Nat) (h0 : Va.get bs = (N, at0)) (hN : N ≤ 256) (hat : 0 < at0) :
    Calls Tryz.prog 16 #[.slice (some ⟨b, off, none⟩) n c] w (BGetOwn w (Bl.get bs)) := by
  have hlen : bs.length = n := hr.1
  have hg0 := refget_any (some ⟨b, off, none⟩) n c bs w hlc hn hr
  have hle0 := Va.get_le (bs := bs)
  rw [h0] at hg0 hle0
  simp only at hg0 hle0
  rw [hlen] at hle0
  have HGn : Hid (Bl.sc N bs at0 [] [] = none → Bl.get bs = []) := (fun h => by unfold Bl.get; rw [h0]; simp only; rw [if_neg (by omega), h] : Bl.sc N bs at0 [] [] = none → Bl.get bs = [])
  have HGs : Hid (∀ l e, Bl.sc N bs at0 [] [] = some (l, e) → Bl.get bs = if e = n ∧ Bl.may l = true ∧ Bl.put l = bs then l else []) := (fun l e h => by unfold Bl.get; rw [h0]; simp only; rw [if_neg (by omega), h]; simp only [hlen] : ∀ l e, Bl.sc N bs at0 [] [] = some (l, e) → Bl.get bs = if e = n ∧ Bl.may l = true ∧ Bl.put l = bs then l else [])
  have hrr : Hid (∀ W, Below w.heap.size w W → Row .u8 W (some ⟨b, off, none⟩) n bs) := (fun W hW => hr.below hW (Nat.le_refl _) : ∀ W, Below w.heap.size w W → Row .u8 W (some ⟨b, off, none⟩) n bs)
  have HLen : Hid (bs.length = n) := hlen
  have hm0 := fun W => made_t (s := 8) (enc := ih) W (B := w.heap.size) (E := 40)
  have jN : IntKind.i64.wrap (N : Int) = (N : Int) := by rw [IntKind.wrap_i64]; omega
  have hat0 : ((at0 : Int) == 0) = false := by simp; omega
  have hN2 : decide ((256 : Int) < (N : Int)) = false := by simp; omega
  obtain ⟨S0, hS0⟩ : ∃ S0, S0 = Bl.sc N bs at0 [] [] := ⟨_, rfl⟩
  rw [← hS0] at HGn HGs
  have HS0 : Hid (S0 = Bl.sc (N - 0) bs at0 (kb ⟨#[]⟩) []) := (by rw [hS0]; rfl : S0 = Bl.sc (N - 0) bs at0 (kb ⟨#[]⟩) [])
  generalize Bl.get bs = G at *
  clear hS0 hr hlen h0 hat
  go_enter Tryz.func16, Tryz.ntmps16
  go_wp2_with (go_at_call 41; go_must (refine hg0.mono ?_; rintro e w0 ⟨rfl, hbel0⟩))
  go_loopw [4, 5, 6, 7] (fun pv lv sv iv wr => ∃ (k p m c' : Nat) (gg : Option Addr) (last : ByteArray) (O : List It.I) (hs : List IH), k ≤ N ∧ m ≤ k ∧ p ≤ n ∧ iv = .int .i64 k ∧ pv = .int .i64 p ∧ lv = .slice gg m c' ∧ sv = .string last ∧ last.size ≤ 64 * k ∧ Hid (S0 = Bl.sc (N - k) bs p (kb last) O) ∧ Hid (O.length = m) ∧ wr.ownsRow w.heap.size 40 8 (.slice gg m c') m (tcells ih hs) ∧ ItHeld wr w.heap.size hs O ∧ Below w.heap.size w wr) (fun _ _ _ iv _ => N - (intOf iv).toNat)
  case atStart => exact ⟨0, at0, 0, 0, _, ⟨#[]⟩, [], [], by omega, by omega, hle0, rfl, rfl, rfl, rfl, by decide, HS0, (rfl : ([] : List It.I).length = 0), hm0 w0 hbel0.size rfl, ItHeld.nil _ _, hbel0.alloc hbel0.size _⟩
  case round =>
    obtain ⟨k, p, m, c', gg, last, O, hs, hk, hmk, hp, rfl, rfl, rfl, rfl, hlast, HS, HO, hown, hheld, hbel⟩ := hrel
    clear hm0 HS0 hg0 hbel0
    by_cases hlt : k < N
    · have hi1 : (k : Int) < (N : Int) := by omega
      obtain ⟨u, k1, e1⟩ : ∃ u k1, Va.get (bs.drop p) = (u, k1) := ⟨_, _, rfl⟩
      obtain ⟨v, k2, e2⟩ : ∃ v k2, Va.get (bs.drop (p + k1)) = (v, k2) := ⟨_, _, rfl⟩
      have hk1 := Va.get_le (bs := bs.drop p)
      have hk2 := Va.get_le (bs := bs.drop (p + k1))
      have hu := Va.get_lt (bs.drop p)
      have hv := Va.get_lt (bs.drop (p + k1))
      rw [e1, List.length_drop, HLen.out] at hk1
      rw [e2, List.length_drop, HLen.out] at hk2
      rw [e1] at hu
      rw [e2] at hv
      simp only at hk1 hk2 hu hv
      have hst : Hid (S0 = match Bl.one (kb last) (bs.drop p) with | none => none | some (x, q) => Bl.sc (N - (k + 1)) bs (p + q) x.1 (O ++ [x])) := (by rw [HS.out]; exact Bl.sc_step hlt _ _ _ _ : S0 = match Bl.one (kb last) (bs.drop p) with | none => none | some (x, q) => Bl.sc (N - (k + 1)) bs (p + q) x.1 (O ++ [x]))
      have hone := Bl.one_at (last := kb last) e1 e2 (by rw [HLen.out]; exact hp)
      rw [kb_len, HLen.out] at hone
      have hg1 : ∀ W a' l' c', Below w.heap.size w W → Rest b off n c p a' l' c' → Calls Tryz.prog 41 #[.slice a' l' c'] W fun e w' => e = .returned (.tuple #[.int .u64 (u : Nat), .int .i64 (k1 : Nat)]) ∧ Below W.heap.size W w' := fun W a' l' c' hW hR => by
        obtain ⟨q1, q2, _⟩ := hR.row (hrr.out W hW) hp hlc
        have := refget_any a' l' c' (bs.drop p) W q2 (by have := hR.1; omega) q1
        rw [e1] at this
        exact this
      have hg2 : ∀ W a' l' c', Below w.heap.size w W → Rest b off n c (p + k1) a' l' c' → Calls Tryz.prog 41 #[.slice a' l' c'] W fun e w' => e = .returned (.tuple #[.int .u64 (v : Nat), .int .i64 (k2 : Nat)]) ∧ Below W.heap.size W w' := fun W a' l' c' hW hR => by
        obtain ⟨q1, q2, _⟩ := hR.row (hrr.out W hW) (by omega) hlc
        have := refget_any a' l' c' (bs.drop (p + k1)) W q2 (by have := hR.1; omega) q1
        rw [e2] at this
        exact this
      obtain ⟨P1, hP1⟩ : ∃ P1, P1 = p + k1 := ⟨_, rfl⟩
      rw [← hP1] at hg2 hone hk2
      have HP1 : Hid (P1 = p + k1) := hP1
      have hP1n : P1 ≤ n := by omega
      have j0 : (0 : Int) ≤ (p : Int) := by omega
      have j1 : (p : Int) ≤ (n : Int) := by omega
      have j2 : (n : Int) ≤ (c : Int) := by omega
      have j2' : (p : Int) ≤ (c : Int) := by omega
      have j3 : IntKind.i64.wrap ((p : Int) + (k1 : Int)) = (P1 : Int) := by rw [IntKind.wrap_i64]; omega
      have j4 : (0 : Int) ≤ (P1 : Int) := by omega
      have j5 : (P1 : Int) ≤ (n : Int) := by omega
      have j5' : (P1 : Int) ≤ (c : Int) := by omega
      have jL : IntKind.u64.wrap (last.size : Int) = (last.size : Int) := by rw [IntKind.wrap_u64]; omega
      clear e1 e2 HS hP1
      by_cases hc1 : c = p
      · obtain rfl : n = c := by omega
        obtain rfl : n = p := by omega
        obtain rfl : k1 = 0 := by omega
        obtain rfl : P1 = n := by have := HP1.out; omega
        have H : Hid (G = []) := HGn.out (by rw [hst.out, hone, if_pos (.inl rfl)])
        clear hst hone hheld hown
        go_wp2_with (first
          | (go_at_call 41; have := hb1; go_must (refine (hg2 _ _ _ _ hb1 ⟨by omega, (.inl ⟨by omega, rfl⟩)⟩).mono ?_; rintro e w2 ⟨rfl, hbel2⟩; have hb2 := hb1.trans (hbel2.mono hb1.size)))
          | (go_at_call 41; go_must (refine (hg1 _ _ _ _ hbel ⟨by omega, (.inl ⟨by omega, rfl⟩)⟩).mono ?_; rintro e w1 ⟨rfl, hbel1⟩; have hb1 := hbel.trans (hbel1.mono hbel.size))))
        go_ret
        exact bget_none H.out hb2
      · by_cases hz1 : k1 = 0
        · have hc2 : ¬ (c = P1) := by have := HP1.out; omega
          have d1 : ((k1 : Int) == 0) = true := by simp; omega
          have Hz : Hid (k1 = 0) := hz1
          clear hz1
          have H : Hid (G = []) := HGn.out (by rw [hst.out, hone, if_pos (.inl Hz.out)])
          clear hst hone hheld hown
          go_wp2_with (first
            | (go_at_call 41; have := hb1; go_must (refine (hg2 _ _ _ _ hb1 ⟨by omega, (.inr ⟨rfl, by omega⟩)⟩).mono ?_; rintro e w2 ⟨rfl, hbel2⟩; have hb2 := hb1.trans (hbel2.mono hb1.size)))
            | (go_at_call 41; go_must (refine (hg1 _ _ _ _ hbel ⟨by omega, (.inr ⟨rfl, by omega⟩)⟩).mono ?_; rintro e w1 ⟨rfl, hbel1⟩; have hb1 := hbel.trans (hbel1.mono hbel.size))))
          go_ret
          exact bget_none H.out hb2
        · have d1 : ((k1 : Int) == 0) = false := by simp; omega
          by_cases hc2 : c = P1
          · obtain rfl : P1 = c := hc2.symm
            obtain rfl : n = P1 := by omega
            have hz2 : k2 = 0 := by omega
            have d2 : ((k2 : Int) == 0) = true := by simp; omega
            have Hz : Hid (k2 = 0) := hz2
            clear hz2
            have H : Hid (G = []) := HGn.out (by rw [hst.out, hone, if_pos (.inr (.inl Hz.out))])
            clear hst hone hheld hown
            go_wp2_with (first
              | (go_at_call 41; have := hb1; go_must (refine (hg2 _ _ _ _ hb1 ⟨by omega, (.inl ⟨by omega, rfl⟩)⟩).mono ?_; rintro e w2 ⟨rfl, hbel2⟩; have hb2 := hb1.trans (hbel2.mono hb1.size)))
              | (go_at_call 41; go_must (refine (hg1 _ _ _ _ hbel ⟨by omega, (.inr ⟨rfl, by omega⟩)⟩).mono ?_; rintro e w1 ⟨rfl, hbel1⟩; have hb1 := hbel.trans (hbel1.mono hbel.size))))
            go_ret
            exact bget_none H.out hb2
          · by_cases hz2 : k2 = 0
            · have d2 : ((k2 : Int) == 0) = true := by simp; omega
              have Hz : Hid (k2 = 0) := hz2
              clear hz2
              have H : Hid (G = []) := HGn.out (by rw [hst.out, hone, if_pos (.inr (.inl Hz.out))])
              clear hst hone hheld hown
              go_wp2_with (first
                | (go_at_call 41; have := hb1; go_must (refine (hg2 _ _ _ _ hb1 ⟨by omega, (.inr ⟨rfl, by omega⟩)⟩).mono ?_; rintro e w2 ⟨rfl, hbel2⟩; have hb2 := hb1.trans (hbel2.mono hb1.size)))
                | (go_at_call 41; go_must (refine (hg1 _ _ _ _ hbel ⟨by omega, (.inr ⟨rfl, by omega⟩)⟩).mono ?_; rintro e w1 ⟨rfl, hbel1⟩; have hb1 := hbel.trans (hbel1.mono hbel.size))))
              go_ret
              exact bget_none H.out hb2
            · have d2 : ((k2 : Int) == 0) = false := by simp; omega
              by_cases hu2 : last.size < u
              · have d3 : decide ((last.size : Int) < (u : Int)) = true := by simp; omega
                have Hz : Hid (last.size < u) := hu2
                have H : Hid (G = []) := HGn.out (by rw [hst.out, hone, if_pos (.inr (.inr (.inl Hz.out)))])
                clear hst hone hheld hown
                go_wp2_with (first
                  | (go_at_call 41; have := hb1; go_must (refine (hg2 _ _ _ _ hb1 ⟨by omega, (.inr ⟨rfl, by omega⟩)⟩).mono ?_; rintro e w2 ⟨rfl, hbel2⟩; have hb2 := hb1.trans (hbel2.mono hb1.size)))
                  | (go_at_call 41; go_must (refine (hg1 _ _ _ _ hbel ⟨by omega, (.inr ⟨rfl, by omega⟩)⟩).mono ?_; rintro e w1 ⟨rfl, hbel1⟩; have hb1 := hbel.trans (hbel1.mono hbel.size))))
                go_ret
                exact bget_none H.out hb2
              · have d3 : decide ((last.size : Int) < (u : Int)) = false := by simp; omega
                by_cases hv2 : 64 < v
                · have d4 : decide ((64 : Int) < (v : Int)) = true := by simp; omega
                  have Hz : Hid (64 < v) := hv2
                  have H : Hid (G = []) := HGn.out (by rw [hst.out, hone, if_pos (.inr (.inr (.inr Hz.out)))])
                  clear hst hone hheld hown
                  go_wp2_with (first
                    | (go_at_call 41; have := hb1; go_must (refine (hg2 _ _ _ _ hb1 ⟨by omega, (.inr ⟨rfl, by omega⟩)⟩).mono ?_; rintro e w2 ⟨rfl, hbel2⟩; have hb2 := hb1.trans (hbel2.mono hb1.size)))
                    | (go_at_call 41; go_must (refine (hg1 _ _ _ _ hbel ⟨by omega, (.inr ⟨rfl, by omega⟩)⟩).mono ?_; rintro e w1 ⟨rfl, hbel1⟩; have hb1 := hbel.trans (hbel1.mono hbel.size))))
                  go_ret
                  exact bget_none H.out hb2
                · have d4 : decide ((64 : Int) < (v : Int)) = false := by simp; omega
                  obtain ⟨P2, hP2⟩ : ∃ P2, P2 = P1 + k2 := ⟨_, rfl⟩
                  obtain ⟨E, hE⟩ : ∃ E, E = P2 + v := ⟨_, rfl⟩
                  rw [← hP2] at hone
                  rw [← hE] at hone
                  rw [if_neg (by omega)] at hone
                  have j6 : IntKind.i64.wrap ((P1 : Int) + (k2 : Int)) = (P2 : Int) := by rw [IntKind.wrap_i64]; omega
                  have j7 : IntKind.i64.wrap (v : Int) = (v : Int) := by rw [IntKind.wrap_i64]; omega
                  have j8 : IntKind.i64.wrap ((P2 : Int) + (v : Int)) = (E : Int) := by rw [IntKind.wrap_i64]; omega
                  have HP2 : Hid (P2 = P1 + k2) := hP2
                  have HE : Hid (E = P2 + v) := hE
                  by_cases hen : n ≤ E
                  · have d5 : decide ((n : Int) ≤ (E : Int)) = true := by simp; omega
                    have d5n : n ≤ E := hen
                    have Hz : Hid (n ≤ E) := hen
                    clear hen hP2 hE
                    have H : Hid (G = []) := HGn.out (by rw [hst.out, hone, if_pos Hz.out])
                    clear hst hone hheld hown
                    go_wp2_with (first
                      | (go_at_call 41; have := hb1; go_must (refine (hg2 _ _ _ _ hb1 ⟨by omega, (.inr ⟨rfl, by omega⟩)⟩).mono ?_; rintro e w2 ⟨rfl, hbel2⟩; have hb2 := hb1.trans (hbel2.mono hb1.size)))
                      | (go_at_call 41; go_must (refine (hg1 _ _ _ _ hbel ⟨by omega, (.inr ⟨rfl, by omega⟩)⟩).mono ?_; rintro e w1 ⟨rfl, hbel1⟩; have hb1 := hbel.trans (hbel1.mono hbel.size))))
                    go_ret
                    exact bget_none H.out hb2
                  · have d5 : decide ((n : Int) ≤ (E : Int)) = false := by simp; omega
                    have d5n : ¬ n ≤ E := hen
                    rw [if_neg (by omega)] at hone
                    have hkey : Hid (∀ W, Below w.heap.size w W → Row .u8 W (some ⟨b, off + P2, none⟩) v ((bs.drop P2).take v)) := (fun W hW => ((hrr.out W hW).drop P2 (by omega)).take v (by omega) : ∀ W, Below w.heap.size w W → Row .u8 W (some ⟨b, off + P2, none⟩) v ((bs.drop P2).take v))
                    have hxc : Hid (∀ W, Below w.heap.size w W → W.cell? ⟨b, off + E, none⟩ = some (.int .u8 (bs.getD E 0 : Nat))) := (fun W hW => (hrr.out W hW).cell E (by omega) : ∀ W, Below w.heap.size w W → W.cell? ⟨b, off + E, none⟩ = some (.int .u8 (bs.getD E 0 : Nat)))
                    generalize hkv : (bs.drop P2).take v = kv at *
                    have hkvl : Hid (kv.length = v) := (by rw [← hkv, List.length_take, List.length_drop, HLen.out]; omega : kv.length = v)
                    have hkvs : Hid (∀ y ∈ kv, y < 256) := (fun y hy => (hkey.out w (Below.refl _ _)).2.2.1 y hy : ∀ y ∈ kv, y < 256)
                    generalize bs.getD E 0 = x at *
                    obtain ⟨E1, hE1⟩ : ∃ E1, E1 = E + 1 := ⟨_, rfl⟩
                    rw [← hE1] at hone
                    have HE1 : Hid (E1 = E + 1) := hE1
                    have j9 : IntKind.i64.wrap ((E : Int) + 1) = (E1 : Int) := by rw [IntKind.wrap_i64]; omega
                    have j10 : (0 : Int) ≤ (P2 : Int) := by omega
                    have j11 : (P2 : Int) ≤ (E : Int) := by omega
                    have j12 : (E : Int) ≤ (c : Int) := by omega
                    have j13 : (0 : Int) ≤ (E : Int) := by omega
                    have j14 : (E : Int) < (n : Int) := by omega
                    have j15 : IntKind.i64.wrap (u : Int) = (u : Int) := by rw [IntKind.wrap_i64]; omega
                    have j16 : (0 : Int) ≤ (u : Int) := by omega
                    have j17 : (u : Int) ≤ (last.size : Int) := by omega
                    have z1 : E - P2 = v := by omega
                    have hc3 : ¬ (c = P2) := by omega
                    have hE1n : E1 ≤ n := by omega
                    have hul : u ≤ last.size := by omega
                    have hks : (bstr kv).size ≤ 64 := by rw [← kb_len, kb_bstr hkvs.out, hkvl.out]; omega
                    have hu3 : u ≤ 100000 := by omega
                    have hkbe : kb (last.extract 0 u ++ bstr kv) = (kb last).take u ++ kv := by rw [kb_app, kb_take, kb_bstr hkvs.out]
                    have Hkb : Hid (kb (last.extract 0 u ++ bstr kv) = (kb last).take u ++ kv) := hkbe
                    have Hsz : Hid ((last.extract 0 u ++ bstr kv).size ≤ 64 * (k + 1)) := (by rw [← kb_len, hkbe, List.length_append, List.length_take, kb_len, hkvl.out]; omega : (last.extract 0 u ++ bstr kv).size ≤ 64 * (k + 1))
                    have HO2 : Hid (∀ y : It.I, (O ++ [y]).length = m + 1) := (fun y => by rw [List.length_append, HO.out]; rfl : ∀ y : It.I, (O ++ [y]).length = m + 1)
                    clear hP2 hE hE1 hkv hkbe
                    by_cases hx1 : x = 1
                    · have d6 : ((x : Int) == 1) = true := by simp; omega
                      have HS2 : Hid (S0 = Bl.sc (N - (k + 1)) bs E1 ((kb last).take u ++ kv) (O ++ [((kb last).take u ++ kv, true, Ce.zero)])) := (by
                        rw [hst.out, hone, if_pos hx1]
                        simp only
                        rw [show p + (k1 + k2 + v + 1) = E1 by have := HP1.out; have := HP2.out; have := HE.out; have := HE1.out; omega] : S0 = Bl.sc (N - (k + 1)) bs E1 ((kb last).take u ++ kv) (O ++ [((kb last).take u ++ kv, true, Ce.zero)]))
                      rw [← Hkb.out] at HS2
                      clear hx1 hst hone
                      go_wp2_with (first
                        | (go_at_call 41; have := hb1; go_must (refine (hg2 _ _ _ _ hb1 ⟨by omega, (.inr ⟨rfl, by omega⟩)⟩).mono ?_; rintro e w2 ⟨rfl, hbel2⟩; have hb2 := hb1.trans (hbel2.mono hb1.size); have hown2 := owns_below hown1 hbel2; have hh2 := hh1.below hbel2; have hcv1 : (convert 22 9 (.slice (some ⟨b, off + P2, none⟩) v (c - P2))).run Tryz.prog w2.drew = .ok (.string (bstr kv)) w2.drew := conv_row (cap := c - P2) (hkey.out w2.drew hb2.drew); have hbz := hb2.alloc hb2.size (.cells #[.string ⟨#[]⟩, .bool false, .bool false, .slice none 0 0, .int .i64 0, .int .i64 0, .int .i64 0, .int .u32 0] 40); have hcv2 : (convert 22 9 (.slice (some ⟨b, off + P2, none⟩) v (c - P2))).run Tryz.prog (w2.alloc (.cells #[.string ⟨#[]⟩, .bool false, .bool false, .slice none 0 0, .int .i64 0, .int .i64 0, .int .i64 0, .int .u32 0] 40)).drew = .ok (.string (bstr kv)) (w2.alloc (.cells #[.string ⟨#[]⟩, .bool false, .bool false, .slice none 0 0, .int .i64 0, .int .i64 0, .int .i64 0, .int .u32 0] 40)).drew := conv_row (cap := c - P2) (hkey.out _ hbz.drew); have hx3 := hxc.out _ hbz; have hx2 := hxc.out w2 hb2; clear hbel2))
                        | (go_at_call 41; go_must (refine (hg1 _ _ _ _ hbel ⟨by omega, (.inr ⟨rfl, by omega⟩)⟩).mono ?_; rintro e w1 ⟨rfl, hbel1⟩; have hb1 := hbel.trans (hbel1.mono hbel.size); have hown1 := owns_below hown hbel1; have hh1 := hheld.below hbel1)))
                      clear hown hheld hbel hown1 hh1 hbel1 hb1 hbz hg1 hg2
                      go_region
                      all_goals (
                        clear hcv1 hcv2 hx3
                        generalize last.extract 0 u ++ bstr kv = key at *
                        have hbA := hb2.alloc hb2.size (.cells #[.string key, .bool true, .bool false, .slice none 0 0, .int .i64 0, .int .i64 0, .int .i64 0, .int .u32 0] 40)
                        have hownA := (hown2.alloc (.cells #[.string key, .bool true, .bool false, .slice none 0 0, .int .i64 0, .int .i64 0, .int .i64 0, .int .u32 0] 40)).drew
                        have hhA := hh2.below (below_alloc w2 (.cells #[.string key, .bool true, .bool false, .slice none 0 0, .int .i64 0, .int .i64 0, .int .i64 0, .int .u32 0] 40)).drew
                        have hne : some w2.heap.size ≠ (Value.slice gg m c').ownBlock := fun e => by have := (hown2.lt _ e.symm).2; omega
                        have hlit := lit_item (w2.alloc (.cells #[.string key, .bool true, .bool false, .slice none 0 0, .int .i64 0, .int .i64 0, .int .i64 0, .int .u32 0] 40)).drew ⟨key, true, false, none, 0, 0, Po.zero⟩ (g := w2.heap.size + 1) (by simp)
                        simp only [Po.zero] at hlit
                        go_wp2_with (at_builtin; go_must (refine append_tg itemE ihE (w0 := w) (B := w.heap.size) rfl (.tmp 115) (.tmp 117) rfl _ m hs rfl (hownA.alloc _) (some ⟨w2.heap.size + 1, 0, none⟩) 1 1 [⟨key, true, false, none, 0, 0, (0, 0, 0, 0)⟩] rfl hlit (fun h => by cases h) (by omega) (hbA.drew.alloc hbA.size _) (hbA.drew.alloc hbA.size _).size ?_; intro a4 c4 w4 hg4 _ _ _ hown4 hb4 _; have hk4 : w4.cell? ⟨w2.heap.size, 0, none⟩ = some (.string key) := (grown_cell hg4 (p := ⟨w2.heap.size, 0, none⟩) (by simp; omega) hne).trans ((cell_past (w2.alloc (.cells #[.string key, .bool true, .bool false, .slice none 0 0, .int .i64 0, .int .i64 0, .int .i64 0, .int .u32 0] 40)).drew _ ⟨w2.heap.size, 0, none⟩ (by simp)).trans (cell_new w2 _ _ 0))))
                        have hh4 := ((hhA.below (below_alloc _ _)).grown (hownA.alloc _) (by decide) hg4).snoc (own_dead w4 w.heap.size (s := key) rfl (by have := Hsz.out; unfold maxLen; omega))
                        exact ⟨⟨k + 1, E1, m + 1, c4, a4, key, _, _, by omega, by omega, hE1n, by go_num, rfl, rfl, rfl, Hsz.out, HS2, HO2.out _, hown4, hh4, hb4⟩, by simp [intOf]; omega⟩)
                    · have d6 : ((x : Int) == 1) = false := by simp; omega
                      rw [if_neg hx1] at hone
                      have hrc : ∀ W a' l' c', Below w.heap.size w W → Rest b off n c E1 a' l' c' → Calls Tryz.prog 42 #[.slice a' l' c'] W (RCGet W (Ce.get (bs.drop E1))) := fun W a' l' c' hW hR => by
                        obtain ⟨q1, q2, q3⟩ := hR.row (hrr.out W hW) hE1n hlc
                        exact cerefget_any a' l' c' (bs.drop E1) W (by have := hR.1; omega) q3 q1
                      have hcsm := Ce.get_small (bs := bs.drop E1) (fun y hy => (hrr.out w (Below.refl _ _)).2.2.1 y (List.mem_of_mem_drop hy))
                      have hcle := Ce.get_le (bs.drop E1)
                      rw [List.length_drop, HLen.out] at hcle
                      unfold RCGet at hrc
                      generalize Ce.get (bs.drop E1) = RC at *
                      obtain ⟨⟨cf, cb, q0, q1, q2, q3⟩, long⟩ := RC
                      simp only [cv] at hrc hone hcsm hcle
                      have hcf := hcsm.2.2
                      have hcb : Hid ((∀ y ∈ cb, y < 256) ∧ cb.length ≤ 32) := (⟨hcsm.1, hcsm.2.1⟩ : (∀ y ∈ cb, y < 256) ∧ cb.length ≤ 32)
                      have HCF : Hid (Po.Fits (q0, q1, q2, q3)) := hcf
                      obtain ⟨E2, hE2⟩ : ∃ E2, E2 = E1 + long := ⟨_, rfl⟩
                      have HE2 : Hid (E2 = E1 + long) := hE2
                      have j18 : IntKind.i64.wrap ((E1 : Int) + (long : Int)) = (E2 : Int) := by rw [IntKind.wrap_i64]; omega
                      have j19 : (0 : Int) ≤ (E1 : Int) := by omega
                      have j20 : (E1 : Int) ≤ (n : Int) := by omega
                      have j21 : (E1 : Int) ≤ (c : Int) := by omega
                      have hE2n : E2 ≤ n := by omega
                      clear hcsm hcf hx1 hE2
                      by_cases hc4 : c = E1
                      · obtain rfl : c = E1 := hc4
                        have d7 : ((long : Int) == 0) = true := by simp; omega
                        have H : Hid (G = []) := HGn.out (by rw [hst.out, hone, if_pos (by omega)])
                        clear hst hone
                        go_wp2_with (first
                          | (go_at_call 41; have := hb1; go_must (refine (hg2 _ _ _ _ hb1 ⟨by omega, (.inr ⟨rfl, by omega⟩)⟩).mono ?_; rintro e w2 ⟨rfl, hbel2⟩; have hb2 := hb1.trans (hbel2.mono hb1.size); have hown2 := owns_below hown1 hbel2; have hh2 := hh1.below hbel2; have hcv1 : (convert 22 9 (.slice (some ⟨b, off + P2, none⟩) v (c - P2))).run Tryz.prog w2.drew = .ok (.string (bstr kv)) w2.drew := conv_row (cap := c - P2) (hkey.out w2.drew hb2.drew); have hbz := hb2.alloc hb2.size (.cells #[.string ⟨#[]⟩, .bool false, .bool false, .slice none 0 0, .int .i64 0, .int .i64 0, .int .i64 0, .int .u32 0] 40); have hcv2 : (convert 22 9 (.slice (some ⟨b, off + P2, none⟩) v (c - P2))).run Tryz.prog (w2.alloc (.cells #[.string ⟨#[]⟩, .bool false, .bool false, .slice none 0 0, .int .i64 0, .int .i64 0, .int .i64 0, .int .u32 0] 40)).drew = .ok (.string (bstr kv)) (w2.alloc (.cells #[.string ⟨#[]⟩, .bool false, .bool false, .slice none 0 0, .int .i64 0, .int .i64 0, .int .i64 0, .int .u32 0] 40)).drew := conv_row (cap := c - P2) (hkey.out _ hbz.drew); have hx3 := hxc.out _ hbz; have hx2 := hxc.out w2 hb2; clear hbel2))
                          | (go_at_call 41; go_must (refine (hg1 _ _ _ _ hbel ⟨by omega, (.inr ⟨rfl, by omega⟩)⟩).mono ?_; rintro e w1 ⟨rfl, hbel1⟩; have hb1 := hbel.trans (hbel1.mono hbel.size); have hown1 := owns_below hown hbel1; have hh1 := hheld.below hbel1)))
                        clear hown hheld hbel hown1 hh1 hbel1 hb1 hbz hg1 hg2
                        go_region
                        all_goals (
                          clear hcv1 hcv2 hx3
                          generalize last.extract 0 u ++ bstr kv = key at *
                          have hbA := hb2.alloc hb2.size (.cells #[.string key, .bool false, .bool false, .slice none 0 0, .int .i64 0, .int .i64 0, .int .i64 0, .int .u32 0] 40)
                          go_wp2_with (go_at_call 42; go_must (refine (hrc _ _ _ _ hbA.drew ⟨by omega, (.inl ⟨by omega, rfl⟩)⟩).mono ?_; rintro e w5 ⟨a5, c5, rfl, hrow5, ⟨hnil5, hown5⟩, hbel5⟩; have hb5 := hbA.drew.trans (hbel5.mono hbA.size)))
                          go_ret
                          exact bget_none H.out (hb5.alloc hb5.size _))
                      · by_cases hz3 : long = 0
                        · have d7 : ((long : Int) == 0) = true := by simp; omega
                          have H : Hid (G = []) := HGn.out (by rw [hst.out, hone, if_pos hz3])
                          clear hst hone hz3
                          go_wp2_with (first
                            | (go_at_call 41; have := hb1; go_must (refine (hg2 _ _ _ _ hb1 ⟨by omega, (.inr ⟨rfl, by omega⟩)⟩).mono ?_; rintro e w2 ⟨rfl, hbel2⟩; have hb2 := hb1.trans (hbel2.mono hb1.size); have hown2 := owns_below hown1 hbel2; have hh2 := hh1.below hbel2; have hcv1 : (convert 22 9 (.slice (some ⟨b, off + P2, none⟩) v (c - P2))).run Tryz.prog w2.drew = .ok (.string (bstr kv)) w2.drew := conv_row (cap := c - P2) (hkey.out w2.drew hb2.drew); have hbz := hb2.alloc hb2.size (.cells #[.string ⟨#[]⟩, .bool false, .bool false, .slice none 0 0, .int .i64 0, .int .i64 0, .int .i64 0, .int .u32 0] 40); have hcv2 : (convert 22 9 (.slice (some ⟨b, off + P2, none⟩) v (c - P2))).run Tryz.prog (w2.alloc (.cells #[.string ⟨#[]⟩, .bool false, .bool false, .slice none 0 0, .int .i64 0, .int .i64 0, .int .i64 0, .int .u32 0] 40)).drew = .ok (.string (bstr kv)) (w2.alloc (.cells #[.string ⟨#[]⟩, .bool false, .bool false, .slice none 0 0, .int .i64 0, .int .i64 0, .int .i64 0, .int .u32 0] 40)).drew := conv_row (cap := c - P2) (hkey.out _ hbz.drew); have hx3 := hxc.out _ hbz; have hx2 := hxc.out w2 hb2; clear hbel2))
                            | (go_at_call 41; go_must (refine (hg1 _ _ _ _ hbel ⟨by omega, (.inr ⟨rfl, by omega⟩)⟩).mono ?_; rintro e w1 ⟨rfl, hbel1⟩; have hb1 := hbel.trans (hbel1.mono hbel.size); have hown1 := owns_below hown hbel1; have hh1 := hheld.below hbel1)))
                          clear hown hheld hbel hown1 hh1 hbel1 hb1 hbz hg1 hg2
                          go_region
                          all_goals (
                            clear hcv1 hcv2 hx3
                            generalize last.extract 0 u ++ bstr kv = key at *
                            have hbA := hb2.alloc hb2.size (.cells #[.string key, .bool false, .bool false, .slice none 0 0, .int .i64 0, .int .i64 0, .int .i64 0, .int .u32 0] 40)
                            go_wp2_with (go_at_call 42; go_must (refine (hrc _ _ _ _ hbA.drew ⟨by omega, (.inr ⟨rfl, by omega⟩)⟩).mono ?_; rintro e w5 ⟨a5, c5, rfl, hrow5, ⟨hnil5, hown5⟩, hbel5⟩; have hb5 := hbA.drew.trans (hbel5.mono hbA.size)))
                            go_ret
                            exact bget_none H.out (hb5.alloc hb5.size _))
                        · have d7 : ((long : Int) == 0) = false := by simp; omega
                          rw [if_neg hz3] at hone
                          have HS2 : Hid (S0 = Bl.sc (N - (k + 1)) bs E2 ((kb last).take u ++ kv) (O ++ [((kb last).take u ++ kv, false, cf, cb, q0, q1, q2, q3)])) := (by
                            rw [hst.out, hone]
                            simp only
                            rw [show p + (k1 + k2 + v + 1 + long) = E2 by have := HP1.out; have := HP2.out; have := HE.out; have := HE1.out; have := HE2.out; omega] : S0 = Bl.sc (N - (k + 1)) bs E2 ((kb last).take u ++ kv) (O ++ [((kb last).take u ++ kv, false, cf, cb, q0, q1, q2, q3)]))
                          rw [← Hkb.out] at HS2
                          clear hst hone hz3
                          go_wp2_with (first
                            | (go_at_call 41; have := hb1; go_must (refine (hg2 _ _ _ _ hb1 ⟨by omega, (.inr ⟨rfl, by omega⟩)⟩).mono ?_; rintro e w2 ⟨rfl, hbel2⟩; have hb2 := hb1.trans (hbel2.mono hb1.size); have hown2 := owns_below hown1 hbel2; have hh2 := hh1.below hbel2; have hcv1 : (convert 22 9 (.slice (some ⟨b, off + P2, none⟩) v (c - P2))).run Tryz.prog w2.drew = .ok (.string (bstr kv)) w2.drew := conv_row (cap := c - P2) (hkey.out w2.drew hb2.drew); have hbz := hb2.alloc hb2.size (.cells #[.string ⟨#[]⟩, .bool false, .bool false, .slice none 0 0, .int .i64 0, .int .i64 0, .int .i64 0, .int .u32 0] 40); have hcv2 : (convert 22 9 (.slice (some ⟨b, off + P2, none⟩) v (c - P2))).run Tryz.prog (w2.alloc (.cells #[.string ⟨#[]⟩, .bool false, .bool false, .slice none 0 0, .int .i64 0, .int .i64 0, .int .i64 0, .int .u32 0] 40)).drew = .ok (.string (bstr kv)) (w2.alloc (.cells #[.string ⟨#[]⟩, .bool false, .bool false, .slice none 0 0, .int .i64 0, .int .i64 0, .int .i64 0, .int .u32 0] 40)).drew := conv_row (cap := c - P2) (hkey.out _ hbz.drew); have hx3 := hxc.out _ hbz; have hx2 := hxc.out w2 hb2; clear hbel2))
                            | (go_at_call 41; go_must (refine (hg1 _ _ _ _ hbel ⟨by omega, (.inr ⟨rfl, by omega⟩)⟩).mono ?_; rintro e w1 ⟨rfl, hbel1⟩; have hb1 := hbel.trans (hbel1.mono hbel.size); have hown1 := owns_below hown hbel1; have hh1 := hheld.below hbel1)))
                          clear hown hheld hbel hown1 hh1 hbel1 hb1 hbz hg1 hg2
                          go_region
                          all_goals (
                            clear hcv1 hcv2 hx3
                            generalize last.extract 0 u ++ bstr kv = key at *
                            have hbA := hb2.alloc hb2.size (.cells #[.string key, .bool false, .bool false, .slice none 0 0, .int .i64 0, .int .i64 0, .int .i64 0, .int .u32 0] 40)
                            have hownA := (hown2.alloc (.cells #[.string key, .bool false, .bool false, .slice none 0 0, .int .i64 0, .int .i64 0, .int .i64 0, .int .u32 0] 40)).drew
                            have hhA := hh2.below (below_alloc w2 (.cells #[.string key, .bool false, .bool false, .slice none 0 0, .int .i64 0, .int .i64 0, .int .i64 0, .int .u32 0] 40)).drew
                            have hne : some w2.heap.size ≠ (Value.slice gg m c').ownBlock := fun e => by have := (hown2.lt _ e.symm).2; omega
                            have hrowI := World.ownsRow_lit (base := w.heap.size) (e := 40) (size := 8) w2 #[.string key, .bool false, .bool false, .slice none 0 0, .int .i64 0, .int .i64 0, .int .i64 0, .int .u32 0] 1 hb2.size (by decide) rfl
                            go_wp2_with (first
                              | (at_builtin; have hI6 := (own_store (own_store (own_store (own_store (own_store (own_store (hI5) 2 (.bool cf)) 3 (.slice a5 cb.length c5)) 4 (.int .i64 q0)) 5 (.int .i64 q1)) 6 (.int .i64 q2)) 7 (.int .u32 (q3 : Nat))).alloc (.cells #[.bool cf, .slice a5 cb.length c5, .int .i64 q0, .int .i64 q1, .int .i64 q2, .int .u32 (q3 : Nat)] 38); have hg6 := ((((((turned_set w5 w2.heap.size 2 (.bool cf))).trans (turned_set (w5.setCell ⟨w2.heap.size, 2, none⟩ (.bool cf)) w2.heap.size 3 (.slice a5 cb.length c5))).trans (turned_set ((w5.setCell ⟨w2.heap.size, 2, none⟩ (.bool cf)).setCell ⟨w2.heap.size, 3, none⟩ (.slice a5 cb.length c5)) w2.heap.size 4 (.int .i64 q0))).trans (turned_set (((w5.setCell ⟨w2.heap.size, 2, none⟩ (.bool cf)).setCell ⟨w2.heap.size, 3, none⟩ (.slice a5 cb.length c5)).setCell ⟨w2.heap.size, 4, none⟩ (.int .i64 q0)) w2.heap.size 5 (.int .i64 q1))).trans (turned_set ((((w5.setCell ⟨w2.heap.size, 2, none⟩ (.bool cf)).setCell ⟨w2.heap.size, 3, none⟩ (.slice a5 cb.length c5)).setCell ⟨w2.heap.size, 4, none⟩ (.int .i64 q0)).setCell ⟨w2.heap.size, 5, none⟩ (.int .i64 q1)) w2.heap.size 6 (.int .i64 q2))).trans (turned_set (((((w5.setCell ⟨w2.heap.size, 2, none⟩ (.bool cf)).setCell ⟨w2.heap.size, 3, none⟩ (.slice a5 cb.length c5)).setCell ⟨w2.heap.size, 4, none⟩ (.int .i64 q0)).setCell ⟨w2.heap.size, 5, none⟩ (.int .i64 q1)).setCell ⟨w2.heap.size, 6, none⟩ (.int .i64 q2)) w2.heap.size 7 (.int .u32 (q3 : Nat))); have hownB := ((owns_below hownA hbel5).kept hg6 (.inr (fun e => hne e.symm))).alloc (.cells #[.bool cf, .slice a5 cb.length c5, .int .i64 q0, .int .i64 q1, .int .i64 q2, .int .u32 (q3 : Nat)] 38); have hhB := ((hhA.below hbel5).grown hI5 (by decide) hg6).below (below_alloc ((((((w5.setCell ⟨w2.heap.size, 2, none⟩ (.bool cf)).setCell ⟨w2.heap.size, 3, none⟩ (.slice a5 cb.length c5)).setCell ⟨w2.heap.size, 4, none⟩ (.int .i64 q0)).setCell ⟨w2.heap.size, 5, none⟩ (.int .i64 q1)).setCell ⟨w2.heap.size, 6, none⟩ (.int .i64 q2)).setCell ⟨w2.heap.size, 7, none⟩ (.int .u32 (q3 : Nat))) (.cells #[.bool cf, .slice a5 cb.length c5, .int .i64 q0, .int .i64 q1, .int .i64 q2, .int .u32 (q3 : Nat)] 38)); have hcrow := ((hown5.mono hbA.size).kept hg6 (own_apart (hown5.mono hbA.size) hI5 (by decide))).alloc (.cells #[.bool cf, .slice a5 cb.length c5, .int .i64 q0, .int .i64 q1, .int .i64 q2, .int .u32 (q3 : Nat)] 38); have hbB := (hb5.grown hg6 hb5.size (fun k hk => by cases hk; exact hb2.size)).alloc (by simpa using hb5.size) (.cells #[.bool cf, .slice a5 cb.length c5, .int .i64 q0, .int .i64 q1, .int .i64 q2, .int .u32 (q3 : Nat)] 38); have hlit := lit_item (((((((w5.setCell ⟨w2.heap.size, 2, none⟩ (.bool cf)).setCell ⟨w2.heap.size, 3, none⟩ (.slice a5 cb.length c5)).setCell ⟨w2.heap.size, 4, none⟩ (.int .i64 q0)).setCell ⟨w2.heap.size, 5, none⟩ (.int .i64 q1)).setCell ⟨w2.heap.size, 6, none⟩ (.int .i64 q2)).setCell ⟨w2.heap.size, 7, none⟩ (.int .u32 (q3 : Nat))).alloc (.cells #[.bool cf, .slice a5 cb.length c5, .int .i64 q0, .int .i64 q1, .int .i64 q2, .int .u32 (q3 : Nat)] 38)) ⟨key, false, cf, a5, cb.length, c5, (q0, q1, q2, q3)⟩ (g := w5.heap.size + 1) (by simp); dsimp only at hlit; clear m0 f0 m1 f1 m2 f2 m3 f3 m4 f4 m5 f5 m6 f6 m7 f7; go_must (refine append_tg itemE ihE (w0 := w) (B := w.heap.size) rfl (.tmp 115) (.tmp 117) rfl _ m hs rfl (hownB.alloc _) (some ⟨w5.heap.size + 1, 0, none⟩) 1 1 [⟨key, false, cf, a5, cb.length, c5, (q0, q1, q2, q3)⟩] rfl hlit (fun h => by cases h) (by omega) (hbB.alloc hbB.size _) (hbB.alloc hbB.size _).size ?_; intro a4 c4 w4 hg4 _ _ _ hown4 hb4 _; have hk4 : w4.cell? ⟨w2.heap.size, 0, none⟩ = some (.string key) := (grown_cell hg4 (p := ⟨w2.heap.size, 0, none⟩) (by simp; omega) hne).trans ((cell_past _ _ ⟨w2.heap.size, 0, none⟩ (by simp; omega)).trans (own_cells hI6 (j := 0) rfl).1)))
                              | (go_at_call 42; go_must (refine (hrc _ _ _ _ hbA.drew ⟨by omega, (.inr ⟨rfl, by omega⟩)⟩).mono ?_; rintro e w5 ⟨a5, c5, rfl, hrow5, ⟨hnil5, hown5⟩, hbel5⟩; have hb5 := hbA.drew.trans (hbel5.mono hbA.size); have hI5 := owns_below hrowI.drew hbel5; have hlt5 := (own_lt hI5).1; obtain ⟨m0, f0⟩ := own_cells hI5 (j := 0) rfl; obtain ⟨m1, f1⟩ := own_cells hI5 (j := 1) rfl; obtain ⟨m2, f2⟩ := own_cells hI5 (j := 2) rfl; obtain ⟨m3, f3⟩ := own_cells hI5 (j := 3) rfl; obtain ⟨m4, f4⟩ := own_cells hI5 (j := 4) rfl; obtain ⟨m5, f5⟩ := own_cells hI5 (j := 5) rfl; obtain ⟨m6, f6⟩ := own_cells hI5 (j := 6) rfl; obtain ⟨m7, f7⟩ := own_cells hI5 (j := 7) rfl)))
                            have hro := row_of_owns hcrow hcb.out.1 (Nat.le_trans hcb.out.2 (by decide))
                            have hit : OwnIt (((((((w5.setCell ⟨w2.heap.size, 2, none⟩ (.bool cf)).setCell ⟨w2.heap.size, 3, none⟩ (.slice a5 cb.length c5)).setCell ⟨w2.heap.size, 4, none⟩ (.int .i64 q0)).setCell ⟨w2.heap.size, 5, none⟩ (.int .i64 q1)).setCell ⟨w2.heap.size, 6, none⟩ (.int .i64 q2)).setCell ⟨w2.heap.size, 7, none⟩ (.int .u32 (q3 : Nat))).alloc (.cells #[.bool cf, .slice a5 cb.length c5, .int .i64 q0, .int .i64 q1, .int .i64 q2, .int .u32 (q3 : Nat)] 38)) w.heap.size ⟨key, false, cf, a5, cb.length, c5, (q0, q1, q2, q3)⟩ (kb key, false, cf, cb, q0, q1, q2, q3) := ⟨⟨rfl, rfl, rfl, rfl, hro.1, hro.2.1, hro.2.2, HCF.out, by have := Hsz.out; show key.size ≤ maxLen; unfold maxLen; omega⟩, hcrow⟩
                            have hh4 := ((hhB.snoc hit).below (below_alloc _ _)).grown (hownB.alloc _) (by decide) hg4
                            exact ⟨⟨k + 1, E2, m + 1, c4, a4, key, _, _, by omega, by omega, hE2n, by go_num, rfl, rfl, rfl, Hsz.out, HS2, HO2.out _, hown4, hh4, hb4⟩, by simp [intOf]; omega⟩)
    · obtain rfl : k = N := by omega
      have hS : Hid (S0 = some (O, p)) := (by rw [HS.out, Nat.sub_self]; rfl : S0 = some (O, p))
      have HG2 : Hid (G = if p = n ∧ Bl.may O = true ∧ Bl.put O = bs then O else []) := HGs.out O p hS.out
      have hrow : ItRow wr gg m hs O := ⟨trow_of_owns ihE hown (by omega) (by omega), hheld.all⟩
      have hshape := t_shape hown
      clear HS hS HGn HGs
      by_cases hpn : p = n
      · subst hpn
        have d1 : ((p : Int) != (p : Int)) = false := by simp
        have hma := fun W (h : Below wr.heap.size wr W) => brefmay_any gg m c' hs O W (by omega) (hrow.below h (Nat.le_refl _))
        cases hmy : Bl.may O with
        | false =>
          have H : Hid (G = []) := (by rw [HG2.out, if_neg (by rw [hmy]; simp)] : G = [])
          rw [hmy] at hma
          clear HG2 hmy
          go_wp2_with (go_at_call 43; go_must (refine (hma _ (Below.refl _ _)).mono ?_; rintro e w5 ⟨rfl, hb5⟩; have hb6 := hbel.trans (hb5.mono hbel.size)))
          go_ret
          exact bget_none H.out hb6
        | true =>
          have hpu := fun W (h : Below wr.heap.size wr W) => brefput_any gg m c' hs O W (hrow.below h (Nat.le_refl _)) hmy
          have hps : Hid (∀ y ∈ Bl.put O, y < lim .u8) := (by
            intro y hy
            unfold Bl.put at hy
            rcases List.mem_append.mp hy with hy | hy
            · exact Va.one_small _ y hy
            · refine Bl.putGo_small (fun x hx => ?_) y hy
              obtain ⟨t, ht, rfl⟩ := List.getElem_of_mem hx
              have hI := hrow.item (i := t) (by rw [← hrow.len]; exact ht)
              rw [show O.getD t It.zero = O[t] by simp [ht]] at hI
              refine ⟨fun z hz => ?_, fun z hz => hI.row.2.2.1 z hz, ?_⟩
              · rw [← hI.key] at hz
                exact kb_small _ z hz
              · have := hI.fits
                rw [hI.pt] at this
                exact this.2.2.2 : ∀ y ∈ Bl.put O, y < lim .u8)
          have hby := fun W a' l' c' (h : Below w.heap.size w W) (hq : Row .u8 W a' l' (Bl.put O)) => bytes_any a' l' c' (Bl.put O) (some ⟨b, off, none⟩) p c bs W hq (hrr.out W h)
          rw [hmy] at hma HG2
          unfold Made at hpu
          have hpl : Hid ((Bl.put O).length ≤ 1000000) := (Bl.put_len (by rw [HO.out]; omega) hmy : (Bl.put O).length ≤ 1000000)
          generalize hPO : Bl.put O = PO at *
          clear hmy hPO
          by_cases heq : PO = bs
          · have hdq : decide (PO = bs) = true := by simp [heq]
            have H : Hid (G = O) := (by rw [HG2.out, if_pos ⟨rfl, rfl, heq⟩] : G = O)
            rw [hdq] at hby
            clear HG2 heq hdq
            go_wp2_with (first
              | (go_at_call 19; go_must (refine (hby _ _ _ _ hb8 hr7.1).mono ?_; rintro e w8 ⟨rfl, q8, hw8⟩))
              | (go_at_call 44; go_must (refine (hpu _ hb5).mono ?_; rintro e w7 ⟨a7, c7, rfl, hown7, hb7⟩; have hb8 := hb6.trans (hb7.mono hb6.size); have hr7 := row_of_owns hown7 hps.out (Nat.le_trans hpl.out (by decide))))
              | (go_at_call 43; go_must (refine (hma _ (Below.refl _ _)).mono ?_; rintro e w5 ⟨rfl, hb5⟩; have hb6 := hbel.trans (hb5.mono hbel.size))))
            subst hw8
            go_ret
            rw [H.out]
            have hb9 := hb8.trans (below_drewN w.heap.size w7 q8)
            have hb10 : Below wr.heap.size wr (w7.drewN q8) := (hb5.trans (hb7.mono hb5.size)).trans (below_drewN _ _ _)
            obtain ⟨_, _, e, -, -⟩ := hshape
            simp only [Value.slice.injEq] at e
            obtain ⟨rfl, _, rfl⟩ := e
            have hlO := HO.out
            subst hlO
            exact ⟨gg, c', hs, rfl, owns_below hown hb10, hheld.below hb10, hb9⟩
          · have hdq : decide (PO = bs) = false := by simp [heq]
            have H : Hid (G = []) := (by rw [HG2.out, if_neg (fun q => heq q.2.2)] : G = [])
            rw [hdq] at hby
            clear HG2 heq hdq
            go_wp2_with (first
              | (go_at_call 19; go_must (refine (hby _ _ _ _ hb8 hr7.1).mono ?_; rintro e w8 ⟨rfl, q8, hw8⟩))
              | (go_at_call 44; go_must (refine (hpu _ hb5).mono ?_; rintro e w7 ⟨a7, c7, rfl, hown7, hb7⟩; have hb8 := hb6.trans (hb7.mono hb6.size); have hr7 := row_of_owns hown7 hps.out (Nat.le_trans hpl.out (by decide))))
              | (go_at_call 43; go_must (refine (hma _ (Below.refl _ _)).mono ?_; rintro e w5 ⟨rfl, hb5⟩; have hb6 := hbel.trans (hb5.mono hbel.size))))
            subst hw8
            go_ret
            exact bget_none H.out (hb8.trans (below_drewN w.heap.size w7 q8))
      · have d1 : ((p : Int) != (n : Int)) = true := by simp; omega
        have H : Hid (G = []) := (by rw [HG2.out, if_neg (fun q => hpn q.1)] : G = [])
        clear HG2 hpn
        go_wp2
        go_ret
        exact bget_none H.out hbel

set_option maxRecDepth 100000 in
set_option maxHeartbeats 1000000 in
theorem brefget_own (a : Option Addr) (n c : Nat) (bs : List Nat) (w : World) (hn : n ≤ 100000) (hlc : n ≤ c) (hr : Row .u8 w a n bs) :
    Calls Tryz.prog 16 #[.slice a n c] w (BGetOwn w (Bl.get bs)) := by
  obtain ⟨N, at0, h0⟩ : ∃ N at0, Va.get bs = (N, at0) := ⟨_, _, rfl⟩
  have hle0 := Va.get_le (bs := bs)
  have hg0 := refget_any a n c bs w hlc hn hr
  rw [h0] at hle0 hg0
  rw [hr.1] at hle0
  simp only at hle0 hg0
  by_cases h1 : at0 = 0
  · have H : Hid (Bl.get bs = []) := (by unfold Bl.get; rw [h0]; simp only; rw [if_pos (.inl h1)] : Bl.get bs = [])
    have d1 : ((at0 : Int) == 0) = true := by simp; omega
    generalize Bl.get bs = G at *
    clear h0 h1
    go_enter Tryz.func16, Tryz.ntmps16
    go_wp2_with (go_at_call 41; go_must (refine hg0.mono ?_; rintro e w0 ⟨rfl, hbel0⟩))
    go_ret
    exact bget_none H.out hbel0
  · by_cases h2 : 256 < N
    · have H : Hid (Bl.get bs = []) := (by unfold Bl.get; rw [h0]; simp only; rw [if_pos (.inr h2)] : Bl.get bs = [])
      have d1 : ((at0 : Int) == 0) = false := by simp; omega
      have d2 : decide ((256 : Int) < (N : Int)) = true := by simp; omega
      generalize Bl.get bs = G at *
      clear h0 h1
      go_enter Tryz.func16, Tryz.ntmps16
      go_wp2_with (go_at_call 41; go_must (refine hg0.mono ?_; rintro e w0 ⟨rfl, hbel0⟩))
      go_ret
      exact bget_none H.out hbel0
    · obtain ⟨b, off, rfl, _⟩ := hr.at (by omega)
      exact brefget_loop b off n c bs w hn hlc hr N at0 h0 (by omega) (by omega)
theorem brefget_any (a : Option Addr) (n c : Nat) (bs : List Nat) (w : World) (hn : n ≤ 100000) (hlc : n ≤ c) (hr : Row .u8 w a n bs) :
    Calls Tryz.prog 16 #[.slice a n c] w (BGetRes w (Bl.get bs)) := (brefget_own a n c bs w hn hlc hr).mono fun e w' ⟨a', c', hs, h1, h2, h3, h4⟩ => by
  have hL : (Bl.get bs).length ≤ 256 := by
    by_cases h : Bl.get bs = []
    · rw [h]; exact Nat.zero_le _
    · have := (Bl.get_ok h).1
      simp only [Bl.may, Bool.and_eq_true, decide_eq_true_eq] at this
      exact this.1.2
  obtain ⟨a2, c2, e', g1, g2⟩ := t_shape h2
  simp only [Value.slice.injEq] at e'
  obtain ⟨rfl, -, rfl⟩ := e'
  exact ⟨a', c', hs, h1, ⟨⟨trow_of_owns ihE h2 (by omega) (by omega), h3.all⟩, g1, g2⟩, h4⟩
end Go.Proofs.YtikieblokfjphaaGreat
