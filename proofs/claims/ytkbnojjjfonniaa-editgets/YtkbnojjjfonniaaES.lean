/- Edits: the numbers that one has, as the reference tells them. -/
import Derived.Test.YtkbnojjjfonniaaEP
namespace Go.Proofs.Ytkbnojjjfonniaa
open Go.RowKit

theorem lit_ints (w : World) (C : Array Value) (l : List Nat) (n : Nat) (hC : C.toList = l.map fun x : Nat => Value.int .i64 (x : Int)) (hn : l.length = n) (hb : n ≤ 1000) {g : Nat} (hg : w.heap.size = g) : IRow (w.alloc (.cells C 3)) (some ⟨g, 0, none⟩) n l := by
  subst hg
  refine ⟨hn, by omega, .inr ⟨_, 0, rfl, fun i hi j v hj => ?_⟩⟩
  have hj0 : j = 0 := by
    have := (List.getElem?_eq_some_iff.mp hj).1
    simp [ie] at this; omega
  subst hj0
  simp only [ie, List.getElem?_cons_zero, Option.some.injEq] at hj
  subst hj
  rw [cell_new]
  have : C[0 + i * 1 + 0]? = C.toList[i]? := by simp
  rw [this, hC, List.getElem?_map]
  have hi' : i < l.length := by omega
  simp [hi']
theorem parts_letters (k : Int) : ∀ x ∈ Ed.parts k, x = 78 ∨ x = 73 ∨ x = 84 ∨ x = 72 ∨ x = 66 := by
  intro x hx
  rcases Ed.kinds k with rfl | rfl | rfl | rfl | rfl | rfl | rfl | rfl | rfl | h
  case inr.inr.inr.inr.inr.inr.inr.inr.inr => rw [Ed.parts_none h] at hx; cases hx
  all_goals (simp [Ed.parts] at hx; omega)
theorem parts_len (k : Int) : (Ed.parts k).length ≤ 4 := by
  rcases Ed.kinds k with rfl | rfl | rfl | rfl | rfl | rfl | rfl | rfl | rfl | h
  case inr.inr.inr.inr.inr.inr.inr.inr.inr => rw [Ed.parts_none h]; simp
  all_goals decide

set_option maxRecDepth 100000 in
set_option maxHeartbeats 4000000 in
theorem rnumbers_walk (k : Int) (n i t a b c p q r : Int) (f g P : ByteArray) (PL : List Nat) (L : List Nat) (w : World) (hkb : Hid (kb P = PL)) (hPl : PL.length ≤ 4) (hlet : Hid (∀ x ∈ PL, x = 78 ∨ x = 73 ∨ x = 84 ∨ x = 72 ∨ x = 66))
    (hpos : Hid (∀ x ∈ PL, ∀ y ∈ Ed.letter ⟨k, n, i, t, a, b, c, ⟨p, q, r, f, g⟩⟩ x, 0 ≤ y ∧ y ≤ 2147483647)) (hL : Hid (L = (PL.flatMap (Ed.letter ⟨k, n, i, t, a, b, c, ⟨p, q, r, f, g⟩⟩)).map Int.toNat))
    (hpar : ∀ W, Calls Try.prog 19 #[.int .i64 k] W fun e w' => e = .returned (.string P) ∧ Below W.heap.size W w') :
    Calls Try.prog 46 #[ed12 k n i t a b c p q r f g] w (Made .u64 52 w L) := by
  obtain ⟨N, hN⟩ : ∃ N, P.size = N := ⟨_, rfl⟩
  have hNl : Hid (PL.length = N) := (by rw [← hkb.out, kb_len, hN] : PL.length = N)
  have hN4 : N ≤ 4 := by rw [← hNl.out]; exact hPl
  have hK : ∀ W, Below (w.heap.size + 1) (w.alloc (oed k n i t a b c p q r f g)) W → C12 W w.heap.size k n i t a b c p q r f g := fun W h => c12_of ((h.block _ (by omega)).trans (heap_alloc_new w _))
  have h0 : Below (w.heap.size + 1) (w.alloc (oed k n i t a b c p q r f g)) ((w.alloc (oed k n i t a b c p q r f g)).alloc (.cells #[] 3)) := (Below.refl _ _).alloc (by simp) _
  have hm0 : ((w.alloc (oed k n i t a b c p q r f g)).alloc (.cells #[] 3)).ownsRow (w.heap.size + 1) 3 1 (.slice (some ⟨w.heap.size + 1, 0, none⟩) 0 0) 0 (tcells ie []) := made_t _ (by simp) (by simp)
  go_enter Try.func46, Try.ntmps46
  go_wp2_with (go_at_call 19; go_must (refine (hpar _).mono ?_; rintro e w2 ⟨rfl, hb2⟩; have hB2 := h0.trans (hb2.mono (by simp)); have hown2 := owns_below hm0 hb2; clear h0 hm0))
  go_loopw [3, 5] (fun v iv wr => ∃ (j m c' : Nat) (a' : Option Addr) (O : List Nat), j ≤ N ∧ m ≤ 3 * j ∧ iv = .int .i64 j ∧ v = .slice a' m c' ∧ Hid (O = ((PL.take j).flatMap (Ed.letter ⟨k, n, i, t, a, b, c, ⟨p, q, r, f, g⟩⟩)).map Int.toNat) ∧ wr.ownsRow (w.heap.size + 1) 3 1 (.slice a' m c') m (tcells ie O) ∧ Below (w.heap.size + 1) (w.alloc (oed k n i t a b c p q r f g)) wr) (fun _ iv _ => N - (intOf iv).toNat)
  case atStart => exact ⟨0, 0, 0, _, [], by omega, by omega, rfl, rfl, (rfl : [] = _), hown2, hB2⟩
  case round =>
    obtain ⟨j, m, c', a', O, hj, hm, rfl, rfl, HO, hown, hbel⟩ := hrel
    have hs1 : w.heap.size + 1 ≤ wr.heap.size := by have := hbel.size; simpa using this
    by_cases hlt : j < N
    · have hj' : j < P.size := by omega
      have hg := kb_getD hj'
      have i0 : (0 : Int) ≤ (j : Int) := by omega
      have i1 : (j : Int) < (N : Int) := by omega
      obtain ⟨x, hx⟩ : ∃ x, (P[j]'hj').toNat = x := ⟨_, rfl⟩
      rw [hx, hkb.out] at hg
      have hjL : j < PL.length := by rw [hNl.out]; exact hlt
      have hmem : x ∈ PL := by
        rw [← hg, List.getD_eq_getElem?_getD, List.getElem?_eq_getElem hjL]
        exact List.getElem_mem _
      have hxx := hlet.out x hmem
      have hps := hpos.out x hmem
      have HT : Hid (((PL.take (j + 1)).flatMap (Ed.letter ⟨k, n, i, t, a, b, c, ⟨p, q, r, f, g⟩⟩)).map Int.toNat = O ++ (Ed.letter ⟨k, n, i, t, a, b, c, ⟨p, q, r, f, g⟩⟩ x).map Int.toNat) := (by
        rw [Va.take_snoc PL j hjL, hg, HO.out]; simp : _ = _)
      obtain ⟨q0, q1, q2, q3, q4, q5, q6, q7, q8, q9, q10, q11⟩ := hK _ hbel
      clear hg hmem
      rcases hxx with rfl | rfl | rfl | rfl | rfl
      · have bn := hps n (by simp [Ed.letter])
        obtain ⟨Nn, eNn⟩ : ∃ Nn : Nat, n = Nn := ⟨n.toNat, by omega⟩
        have HO2 : Hid (O ++ [Nn] = ((PL.take (j + 1)).flatMap (Ed.letter ⟨k, n, i, t, a, b, c, ⟨p, q, r, f, g⟩⟩)).map Int.toNat) := (by rw [HT.out]; simp [Ed.letter, eNn] : _ = _)
        have hls := lit_ints wr #[.int .i64 (Nn : Nat)] [Nn] 1 rfl rfl (by omega) (g := wr.heap.size) rfl
        rw [← eNn] at hls
        clear HT hps bn
        clear eNn
        go_wp2_with (at_builtin; go_must (refine append_t intE ieE (w0 := w.alloc (oed k n i t a b c p q r f g)) (B := w.heap.size + 1) rfl (.tmp 23) (.tmp 26) rfl _ _ _ rfl (hown.alloc _) (some ⟨wr.heap.size, 0, none⟩) 1 1 [Nn] rfl hls (fun h => by cases h) (by omega) (hbel.alloc hs1 _) (by simp; omega) ?_; intro a3 c3 w3 _ _ _ hown3 hb3 _))
        go_roundw
        case rel => exact ⟨j + 1, m + 1, c3, a3, _, by omega, by omega, by go_num, rfl, HO2, hown3, hb3⟩
        case measure => simp [intOf]; omega
      · have bi := hps i (by simp [Ed.letter])
        obtain ⟨In, eIn⟩ : ∃ In : Nat, i = In := ⟨i.toNat, by omega⟩
        have HO2 : Hid (O ++ [In] = ((PL.take (j + 1)).flatMap (Ed.letter ⟨k, n, i, t, a, b, c, ⟨p, q, r, f, g⟩⟩)).map Int.toNat) := (by rw [HT.out]; simp [Ed.letter, eIn] : _ = _)
        have hls := lit_ints wr #[.int .i64 (In : Nat)] [In] 1 rfl rfl (by omega) (g := wr.heap.size) rfl
        rw [← eIn] at hls
        clear HT hps bi
        clear eIn
        go_wp2_with (at_builtin; go_must (refine append_t intE ieE (w0 := w.alloc (oed k n i t a b c p q r f g)) (B := w.heap.size + 1) rfl (.tmp 30) (.tmp 33) rfl _ _ _ rfl (hown.alloc _) (some ⟨wr.heap.size, 0, none⟩) 1 1 [In] rfl hls (fun h => by cases h) (by omega) (hbel.alloc hs1 _) (by simp; omega) ?_; intro a3 c3 w3 _ _ _ hown3 hb3 _))
        go_roundw
        case rel => exact ⟨j + 1, m + 1, c3, a3, _, by omega, by omega, by go_num, rfl, HO2, hown3, hb3⟩
        case measure => simp [intOf]; omega
      · have bt := hps t (by simp [Ed.letter])
        obtain ⟨Tn, eTn⟩ : ∃ Tn : Nat, t = Tn := ⟨t.toNat, by omega⟩
        have HO2 : Hid (O ++ [Tn] = ((PL.take (j + 1)).flatMap (Ed.letter ⟨k, n, i, t, a, b, c, ⟨p, q, r, f, g⟩⟩)).map Int.toNat) := (by rw [HT.out]; simp [Ed.letter, eTn] : _ = _)
        have hls := lit_ints wr #[.int .i64 (Tn : Nat)] [Tn] 1 rfl rfl (by omega) (g := wr.heap.size) rfl
        rw [← eTn] at hls
        clear HT hps bt
        clear eTn
        go_wp2_with (at_builtin; go_must (refine append_t intE ieE (w0 := w.alloc (oed k n i t a b c p q r f g)) (B := w.heap.size + 1) rfl (.tmp 37) (.tmp 40) rfl _ _ _ rfl (hown.alloc _) (some ⟨wr.heap.size, 0, none⟩) 1 1 [Tn] rfl hls (fun h => by cases h) (by omega) (hbel.alloc hs1 _) (by simp; omega) ?_; intro a3 c3 w3 _ _ _ hown3 hb3 _))
        go_roundw
        case rel => exact ⟨j + 1, m + 1, c3, a3, _, by omega, by omega, by go_num, rfl, HO2, hown3, hb3⟩
        case measure => simp [intOf]; omega
      · have ba := hps a (by simp [Ed.letter])
        have bb := hps b (by simp [Ed.letter])
        have bc := hps c (by simp [Ed.letter])
        obtain ⟨An, eAn⟩ : ∃ An : Nat, a = An := ⟨a.toNat, by omega⟩
        obtain ⟨Bn, eBn⟩ : ∃ Bn : Nat, b = Bn := ⟨b.toNat, by omega⟩
        obtain ⟨Cn, eCn⟩ : ∃ Cn : Nat, c = Cn := ⟨c.toNat, by omega⟩
        have HO2 : Hid (O ++ [An, Bn, Cn] = ((PL.take (j + 1)).flatMap (Ed.letter ⟨k, n, i, t, a, b, c, ⟨p, q, r, f, g⟩⟩)).map Int.toNat) := (by rw [HT.out]; simp [Ed.letter, eAn, eBn, eCn] : _ = _)
        have hls := lit_ints wr #[.int .i64 (An : Nat), .int .i64 (Bn : Nat), .int .i64 (Cn : Nat)] [An, Bn, Cn] 3 rfl rfl (by omega) (g := wr.heap.size) rfl
        rw [← eAn] at hls
        rw [← eBn] at hls
        rw [← eCn] at hls
        clear HT hps ba bb bc
        clear eAn eBn eCn
        go_wp2_with (at_builtin; go_must (refine append_t intE ieE (w0 := w.alloc (oed k n i t a b c p q r f g)) (B := w.heap.size + 1) rfl (.tmp 44) (.tmp 54) rfl _ _ _ rfl (hown.alloc _) (some ⟨wr.heap.size, 0, none⟩) 3 3 [An, Bn, Cn] rfl hls (fun h => by cases h) (by omega) (hbel.alloc hs1 _) (by simp; omega) ?_; intro a3 c3 w3 _ _ _ hown3 hb3 _))
        go_roundw
        case rel => exact ⟨j + 1, m + 3, c3, a3, _, by omega, by omega, by go_num, rfl, HO2, hown3, hb3⟩
        case measure => simp [intOf]; omega
      · have bp := hps p (by simp [Ed.letter])
        have bq := hps q (by simp [Ed.letter])
        have br := hps r (by simp [Ed.letter])
        obtain ⟨Pn, ePn⟩ : ∃ Pn : Nat, p = Pn := ⟨p.toNat, by omega⟩
        obtain ⟨Qn, eQn⟩ : ∃ Qn : Nat, q = Qn := ⟨q.toNat, by omega⟩
        obtain ⟨Rn, eRn⟩ : ∃ Rn : Nat, r = Rn := ⟨r.toNat, by omega⟩
        have HO2 : Hid (O ++ [Pn, Qn, Rn] = ((PL.take (j + 1)).flatMap (Ed.letter ⟨k, n, i, t, a, b, c, ⟨p, q, r, f, g⟩⟩)).map Int.toNat) := (by rw [HT.out]; simp [Ed.letter, ePn, eQn, eRn] : _ = _)
        have hls := lit_ints wr #[.int .i64 (Pn : Nat), .int .i64 (Qn : Nat), .int .i64 (Rn : Nat)] [Pn, Qn, Rn] 3 rfl rfl (by omega) (g := wr.heap.size) rfl
        rw [← ePn] at hls
        rw [← eQn] at hls
        rw [← eRn] at hls
        clear HT hps bp bq br
        clear ePn eQn eRn
        go_wp2_with (at_builtin; go_must (refine append_t intE ieE (w0 := w.alloc (oed k n i t a b c p q r f g)) (B := w.heap.size + 1) rfl (.tmp 58) (.tmp 68) rfl _ _ _ rfl (hown.alloc _) (some ⟨wr.heap.size, 0, none⟩) 3 3 [Pn, Qn, Rn] rfl hls (fun h => by cases h) (by omega) (hbel.alloc hs1 _) (by simp; omega) ?_; intro a3 c3 w3 _ _ _ hown3 hb3 _))
        go_roundw
        case rel => exact ⟨j + 1, m + 3, c3, a3, _, by omega, by omega, by go_num, rfl, HO2, hown3, hb3⟩
        case measure => simp [intOf]; omega
    · obtain rfl : j = N := by omega
      have HE : Hid (L = O) := (by rw [hL.out, HO.out, List.take_of_length_le (by rw [hNl.out]; exact Nat.le_refl _)] : L = O)
      have hOs0 : ∀ x ∈ O, x ≤ 2147483647 := by
        rw [HO.out]
        intro x hx
        obtain ⟨y, hy, rfl⟩ := List.mem_map.mp hx
        obtain ⟨z, hz, hy⟩ := List.mem_flatMap.mp hy
        have := hpos.out z (List.mem_of_mem_take hz) y hy
        omega
      clear HO hL hpos hlet hkb
      obtain ⟨V, rfl⟩ : ∃ V, V = wr := ⟨_, rfl⟩
      have hOs : Hid (∀ x ∈ O, x ≤ 2147483647) := hOs0
      have hu0 := made_b V 52 1 V.heap.size (b := V.heap.size) rfl (Nat.le_refl _)
      have hub := below_alloc V (.cells #[] 52)
      have hml := hown.1
      rw [tcells_length ieE] at hml
      have hml : Hid (O.length = m) := (by omega : O.length = m)
      have hir : IRow V a' m O := trow_of_owns (d := 0) ieE hown (by omega) (by omega)
      have hBw := (below_alloc w (oed k n i t a b c p q r f g)).trans (hbel.mono (by omega))
      go_wp2
      go_loopw [6, 7] (fun v iv wr => ∃ (x y : Nat) (a2 : Option Addr), x ≤ m ∧ iv = .int .i64 x ∧ v = .slice a2 x y ∧ wr.ownsRow V.heap.size 52 1 (.slice a2 x y) x (kcells .u64 (O.take x)) ∧ Below V.heap.size V wr) (fun _ iv _ => m - (intOf iv).toNat)
      case atStart => exact ⟨0, 0, _, by omega, rfl, rfl, hu0, hub⟩
      case round =>
        obtain ⟨x, y, a2, hx, rfl, rfl, hown2, hbel2⟩ := hrel
        have hir2 := hir.below hbel2 (Nat.le_refl _)
        by_cases hlt2 : x < m
        · obtain ⟨bb, oo, rfl, hc⟩ := IRow.cell hir2 (by omega)
          have hcell := hc x hlt2
          have hxO : x < O.length := by rw [hml.out]; exact hlt2
          have hz : O.getD x 0 ≤ 2147483647 := by
            rw [List.getD_eq_getElem?_getD, List.getElem?_eq_getElem hxO]
            exact hOs.out _ (List.getElem_mem _)
          have HT2 : Hid (O.take (x + 1) = O.take x ++ [O.getD x 0]) := (Va.take_snoc O x hxO : _ = _)
          generalize O.getD x 0 = z at *
          have i2 : (0 : Int) ≤ (x : Int) := by omega
          have i3 : (x : Int) < (m : Int) := by omega
          have i4 : (z : Int) < 18446744073709551616 := by omega
          have hrz := row_new .u64 wr 52 z (by show z < 18446744073709551616; omega)
          have hs2 := hbel2.size
          clear hc
          go_wp2_with (at_builtin; go_must (refine append_u64 (w0 := V) (B := V.heap.size) rfl (.tmp 77) (.tmp 83) rfl _ x _ rfl (hown2.alloc _) (some ⟨wr.heap.size, 0, none⟩) 1 1 [z] rfl hrz (fun h => by cases h) (by omega) (hbel2.alloc hs2 _) (by simp; omega) ?_; intro a4 c4 w4 hown4 hb4 _))
          go_roundw
          case rel => exact ⟨x + 1, c4, a4, by omega, by go_num, rfl, by rw [HT2.out]; exact hown4, hb4⟩
          case measure => simp [intOf]; omega
        · obtain rfl : x = m := by omega
          go_wp2
          go_ret
          obtain rfl := HE.out
          rw [List.take_of_length_le (by rw [hml.out]; exact Nat.le_refl _)] at hown2
          obtain rfl := hml.out
          exact ⟨a2, y, rfl, lowns_base hown2 (by omega), hBw.trans (hbel2.mono (by omega))⟩
theorem rnumbers_any (k n i t a b c p q r : Int) (f g : ByteArray) (w : World) (hpos : ∀ x ∈ Ed.nums ⟨k, n, i, t, a, b, c, ⟨p, q, r, f, g⟩⟩, 0 ≤ x ∧ x ≤ 2147483647) :
    Calls Try.prog 46 #[ed12 k n i t a b c p q r f g] w (Made .u64 52 w ((Ed.nums ⟨k, n, i, t, a, b, c, ⟨p, q, r, f, g⟩⟩).map Int.toNat)) :=
  rnumbers_walk k n i t a b c p q r f g (pstr k) (Ed.parts k) _ w (pstr_parts k) (parts_len k) (parts_letters k) (fun x hx y hy => hpos y (List.mem_flatMap.mpr ⟨x, hx, hy⟩)) rfl (fun W => rparts_any k W)
end Go.Proofs.Ytkbnojjjfonniaa
