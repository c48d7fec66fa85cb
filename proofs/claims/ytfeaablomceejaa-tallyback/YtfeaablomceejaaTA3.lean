/- What the reference's Set of tallies does. -/
import Derived.Test.YtfeaablomceejaaTA2
namespace Go.Proofs.Ytfeaablomceejaa
open Go.RowKit

def ShRes (w : World) (l : List Ta.S) (e : Ending) (w' : World) : Prop :=
  ∃ a c, e = .returned (.slice a l.length c) ∧ w'.ownsRow w.heap.size 47 2 (.slice a l.length c) l.length (tcells se l) ∧ Below w.heap.size w w'
theorem lit_share (w : World) (x y : Int) {g : Nat} (hg : w.heap.size = g) : ShRow (w.alloc (.cells #[.int .i64 x, .int .i64 y] 47)) (some ⟨g, 0, none⟩) 1 [(x, y)] :=
  trow_lit w _ _ _ hg (fun j v hj => by
    match j, hj with
    | 0, hj => exact hj
    | 1, hj => exact hj
    | j + 2, hj => simp [se] at hj)

set_option maxRecDepth 100000 in
set_option maxHeartbeats 4000000 in
theorem tset_any (a : Option Addr) (len cap : Nat) (l : List Ta.S) (s n : Int) (w : World) (hlen : len ≤ 100000) (hr : ShRow w a len l) :
    Calls Try.prog 26 #[.slice a len cap, .int .i64 s, .int .i64 n] w (ShRes w (Ta.set l s n)) := by
  have hll : Hid (l.length = len) := hr.1
  have hm0 := made_t (s := 2) (enc := se) w (B := w.heap.size) (E := 47) (Nat.le_refl _) rfl
  have hb0 := below_alloc w (.cells #[] 47)
  obtain ⟨D, hD⟩ : ∃ D, D = decide (n = 0) := ⟨_, rfl⟩
  have hn0 : (n == 0) = D := by rw [hD]; by_cases h : n = 0 <;> simp [h]
  have HS : Hid (Ta.set l s n = Ta.setGo s n D l) := (by rw [hD]; rfl : Ta.set l s n = Ta.setGo s n D l)
  clear hD
  obtain ⟨L, hL⟩ : ∃ L, L = Ta.set l s n := ⟨_, rfl⟩
  rw [← hL] at HS ⊢
  have HL : Hid (L = Ta.set l s n) := hL
  clear hL
  go_enter Try.func26, Try.ntmps26
  go_wp2
  go_loopw [7, 8, 9] (fun v t i wr => ∃ (k m c : Nat) (g : Option Addr) (b : Bool) (O : List Ta.S), k ≤ len ∧ m ≤ 2 * k ∧ i = .int .i64 k ∧ t = .bool b ∧ v = .slice g m c ∧ Hid (L = O ++ Ta.setGo s n b (l.drop k)) ∧ Hid (O.length = m) ∧ wr.ownsRow w.heap.size 47 2 (.slice g m c) m (tcells se O) ∧ Below w.heap.size w wr)
    (fun _ _ i _ => len - (intOf i).toNat)
  case atStart => exact ⟨0, 0, 0, _, D, [], by omega, by omega, rfl, rfl, rfl, (HS.out : L = [] ++ Ta.setGo s n D (l.drop 0)), (rfl : ([] : List Ta.S).length = 0), hm0, hb0⟩
  case round =>
    obtain ⟨k, m, c, g, b, O, hk, hmk, rfl, rfl, rfl, H, HO, hown, hbel⟩ := hrel
    clear hm0 hb0 hn0 HS
    by_cases hlt : k < len
    · obtain ⟨bb, off, rfl, hc⟩ := hr.cell (by omega)
      obtain ⟨c0, c1⟩ := hc k hlt
      have p0 := (hbel.cell (p := ⟨bb, off + k * 2, none⟩) (cell_lt c0)).trans c0
      have p1 := (hbel.cell (p := ⟨bb, off + k * 2 + 1, none⟩) (cell_lt c1)).trans c1
      have hst : Hid (L = O ++ ((if b = false ∧ s ≤ (l.getD k (0, 0)).1 then [(s, n)] else []) ++ ((if (l.getD k (0, 0)).1 = s then [] else [l.getD k (0, 0)]) ++ Ta.setGo s n (b || decide (s ≤ (l.getD k (0, 0)).1)) (l.drop (k + 1))))) := (by
        rw [H.out, Ta.getD_drop (by rw [hll.out]; exact hlt)]; rfl : L = O ++ ((if b = false ∧ s ≤ (l.getD k (0, 0)).1 then [(s, n)] else []) ++ ((if (l.getD k (0, 0)).1 = s then [] else [l.getD k (0, 0)]) ++ Ta.setGo s n (b || decide (s ≤ (l.getD k (0, 0)).1)) (l.drop (k + 1)))))
      have C0 : Hid (∀ W, Below w.heap.size w W → W.cell? ⟨bb, off + k * 2, none⟩ = some (.int .i64 (l.getD k (0, 0)).1) ∧ W.cell? ⟨bb, off + k * 2 + 1, none⟩ = some (.int .i64 (l.getD k (0, 0)).2)) := (fun W hW => ⟨(hW.cell (p := ⟨bb, off + k * 2, none⟩) (cell_lt c0)).trans c0, (hW.cell (p := ⟨bb, off + k * 2 + 1, none⟩) (cell_lt c1)).trans c1⟩ : ∀ W, Below w.heap.size w W → W.cell? ⟨bb, off + k * 2, none⟩ = some (.int .i64 (l.getD k (0, 0)).1) ∧ W.cell? ⟨bb, off + k * 2 + 1, none⟩ = some (.int .i64 (l.getD k (0, 0)).2))
      generalize l.getD k (0, 0) = x at *
      obtain ⟨x1, x2⟩ := x
      simp only at p0 p1 hst C0
      have i0 : (0 : Int) ≤ (k : Int) := by omega
      have i1 : (k : Int) < (len : Int) := by omega
      clear H c0 c1 hc
      by_cases hx : x1 = s
      · subst hx
        have d2 : (x1 != x1) = false := by simp
        have d3 : decide (x1 ≤ x1) = true := by simp
        cases b with
        | true =>
          have H2 : Hid (L = O ++ Ta.setGo x1 n true (l.drop (k + 1))) := (by rw [hst.out]; simp : L = O ++ Ta.setGo x1 n true (l.drop (k + 1)))
          clear hst C0
          go_wp2
          go_roundw
          case rel => exact ⟨k + 1, m, c, g, true, O, by omega, by omega, by go_num, rfl, rfl, H2, HO, hown, hbel⟩
          case measure => simp [intOf]; omega
        | false =>
          have H2 : Hid (L = (O ++ [(x1, n)]) ++ Ta.setGo x1 n true (l.drop (k + 1))) := (by rw [hst.out]; simp : L = (O ++ [(x1, n)]) ++ Ta.setGo x1 n true (l.drop (k + 1)))
          have HO2 : Hid ((O ++ [(x1, n)]).length = m + 1) := (by rw [List.length_append, HO.out]; rfl : (O ++ [(x1, n)]).length = m + 1)
          clear hst
          go_wp2_with (at_builtin; go_must (refine append_t shareE seE (w0 := w) (B := w.heap.size) rfl (.tmp 30) (.tmp 34) rfl _ _ _ rfl (hown.alloc _) (some ⟨wr.heap.size, 0, none⟩) 1 1 [(x1, n)] rfl (lit_share wr x1 n rfl) (fun h => by cases h) (by omega) (hbel.alloc hbel.size _) (hbel.alloc hbel.size _).size ?_; intro a2 c2 w2 _ _ _ hown2 hb2 _; obtain ⟨k0, k1⟩ := C0.out w2 hb2; clear p0 p1))
          go_roundw
          case rel => exact ⟨k + 1, m + 1, c2, a2, true, _, by omega, by omega, by go_num, rfl, rfl, H2, HO2, hown2, hb2⟩
          case measure => simp [intOf]; omega
      · have d2 : (x1 != s) = true := by simpa using hx
        cases b with
        | true =>
          have H2 : Hid (L = (O ++ [(x1, x2)]) ++ Ta.setGo s n true (l.drop (k + 1))) := (by rw [hst.out, if_neg hx]; simp : L = (O ++ [(x1, x2)]) ++ Ta.setGo s n true (l.drop (k + 1)))
          have HO2 : Hid ((O ++ [(x1, x2)]).length = m + 1) := (by rw [List.length_append, HO.out]; rfl : (O ++ [(x1, x2)]).length = m + 1)
          clear hst C0 hx
          go_wp2_with (at_builtin; go_must (refine append_t shareE seE (w0 := w) (B := w.heap.size) rfl (.tmp 43) (.tmp 48) rfl _ _ _ rfl (hown.alloc _) (some ⟨wr.heap.size, 0, none⟩) 1 1 [(x1, x2)] rfl (lit_share wr x1 x2 rfl) (fun h => by cases h) (by omega) (hbel.alloc hbel.size _) (hbel.alloc hbel.size _).size ?_; intro a2 c2 w2 _ _ _ hown2 hb2 _))
          go_roundw
          case rel => exact ⟨k + 1, m + 1, c2, a2, true, _, by omega, by omega, by go_num, rfl, rfl, H2, HO2, hown2, hb2⟩
          case measure => simp [intOf]; omega
        | false =>
          by_cases hs : s ≤ x1
          · have d3 : decide (s ≤ x1) = true := by simp [hs]
            have H2 : Hid (L = (O ++ [(s, n)] ++ [(x1, x2)]) ++ Ta.setGo s n true (l.drop (k + 1))) := (by rw [hst.out, if_neg hx, if_pos ⟨rfl, hs⟩, d3]; simp : L = (O ++ [(s, n)] ++ [(x1, x2)]) ++ Ta.setGo s n true (l.drop (k + 1)))
            have HO2 : Hid ((O ++ [(s, n)] ++ [(x1, x2)]).length = m + 1 + 1) := (by rw [List.length_append, List.length_append, HO.out]; rfl : (O ++ [(s, n)] ++ [(x1, x2)]).length = m + 1 + 1)
            clear hst hx hs
            go_wp2_with (first
              | (at_builtin; have := hown2; go_must (refine append_t shareE seE (w0 := w) (B := w.heap.size) rfl (.tmp 43) (.tmp 48) rfl _ _ _ rfl (hown2.alloc _) (some ⟨w2.heap.size, 0, none⟩) 1 1 [(x1, x2)] rfl (lit_share w2 x1 x2 rfl) (fun h => by cases h) (by omega) (hb2.alloc hb2.size _) (hb2.alloc hb2.size _).size ?_; intro a3 c3 w3 _ _ _ hown3 hb3 _))
              | (at_builtin; go_must (refine append_t shareE seE (w0 := w) (B := w.heap.size) rfl (.tmp 30) (.tmp 34) rfl _ _ _ rfl (hown.alloc _) (some ⟨wr.heap.size, 0, none⟩) 1 1 [(s, n)] rfl (lit_share wr s n rfl) (fun h => by cases h) (by omega) (hbel.alloc hbel.size _) (hbel.alloc hbel.size _).size ?_; intro a2 c2 w2 _ _ _ hown2 hb2 _; obtain ⟨k0, k1⟩ := C0.out w2 hb2; clear p0 p1)))
            go_roundw
            case rel => exact ⟨k + 1, m + 1 + 1, c3, a3, true, _, by omega, by omega, by go_num, rfl, rfl, H2, HO2, hown3, hb3⟩
            case measure => simp [intOf]; omega
          · have d3 : decide (s ≤ x1) = false := by simp; omega
            have H2 : Hid (L = (O ++ [(x1, x2)]) ++ Ta.setGo s n false (l.drop (k + 1))) := (by rw [hst.out, if_neg hx, if_neg (fun h => hs h.2), d3]; simp : L = (O ++ [(x1, x2)]) ++ Ta.setGo s n false (l.drop (k + 1)))
            have HO2 : Hid ((O ++ [(x1, x2)]).length = m + 1) := (by rw [List.length_append, HO.out]; rfl : (O ++ [(x1, x2)]).length = m + 1)
            clear hst C0 hx hs
            go_wp2_with (at_builtin; go_must (refine append_t shareE seE (w0 := w) (B := w.heap.size) rfl (.tmp 43) (.tmp 48) rfl _ _ _ rfl (hown.alloc _) (some ⟨wr.heap.size, 0, none⟩) 1 1 [(x1, x2)] rfl (lit_share wr x1 x2 rfl) (fun h => by cases h) (by omega) (hbel.alloc hbel.size _) (hbel.alloc hbel.size _).size ?_; intro a2 c2 w2 _ _ _ hown2 hb2 _))
            go_roundw
            case rel => exact ⟨k + 1, m + 1, c2, a2, false, _, by omega, by omega, by go_num, rfl, rfl, H2, HO2, hown2, hb2⟩
            case measure => simp [intOf]; omega
    · obtain rfl : k = len := by omega
      have HE : Hid (L = O ++ (if b then [] else [(s, n)])) := (by rw [H.out, List.drop_of_length_le (by rw [hll.out]; omega)]; rfl : L = O ++ (if b then [] else [(s, n)]))
      clear H
      cases b with
      | true =>
        have HE2 : Hid (L = O) := (by rw [HE.out]; simp : L = O)
        clear HE
        go_wp2
        go_ret
        obtain rfl := HE2.out
        obtain rfl := HO.out
        exact ⟨g, c, rfl, hown, hbel⟩
      | false =>
        have HE2 : Hid (L = O ++ [(s, n)]) := HE.out
        clear HE
        go_wp2_with (at_builtin; go_must (refine append_t shareE seE (w0 := w) (B := w.heap.size) rfl (.tmp 52) (.tmp 56) rfl _ m O rfl (hown.alloc _) (some ⟨wr.heap.size, 0, none⟩) 1 1 [(s, n)] rfl (lit_share wr s n rfl) (fun h => by cases h) (by omega) (hbel.alloc hbel.size _) (hbel.alloc hbel.size _).size ?_; intro a2 c2 w2 _ _ _ hown2 hb2 _))
        go_ret
        obtain rfl := HE2.out
        have hl2 : (O ++ [(s, n)]).length = m + 1 := by rw [List.length_append, HO.out]; rfl
        exact ⟨a2, c2, by rw [hl2]; rfl, by rw [hl2]; exact hown2, hb2⟩
end Go.Proofs.Ytfeaablomceejaa
