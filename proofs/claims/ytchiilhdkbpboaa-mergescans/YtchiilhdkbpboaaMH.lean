/- What the program's 'lists as one' does. -/
import Derived.Test.YtchiilhdkbpboaaMF
import Derived.Test.YtchiilhdkbpboaaOP
namespace Go.Proofs.Ytchiilhdkbpboaa
open Go.RowKit

theorem PartsAt.take {w : World} {ps : List PH} {gss : List (List IH)} {xss : List (List It.I)} (h : PartsAt w ps gss xss) (k : Nat) : PartsAt w (ps.take k) (gss.take k) (xss.take k) := by
  refine ⟨by rw [List.length_take, List.length_take, h.1], by rw [List.length_take, List.length_take, h.2.1], fun i hi => ?_⟩
  rw [List.length_take] at hi
  rw [getD_take' _ _ (by omega), getD_take' _ _ (by omega), getD_take' _ _ (by omega)]
  exact h.2.2 i (by omega)
theorem PartsAt.drop {w : World} {ps : List PH} {gss : List (List IH)} {xss : List (List It.I)} (h : PartsAt w ps gss xss) (k : Nat) : PartsAt w (ps.drop k) (gss.drop k) (xss.drop k) := by
  refine ⟨by rw [List.length_drop, List.length_drop, h.1], by rw [List.length_drop, List.length_drop, h.2.1], fun i hi => ?_⟩
  rw [List.length_drop] at hi
  rw [getD_drop', getD_drop', getD_drop']
  exact h.2.2 _ (by omega)
theorem InP.take {w : World} {a : Option Addr} {n : Nat} {ps : List PH} {gss : List (List IH)} {xss : List (List It.I)} (h : InP w a n ps gss xss) (k : Nat) (hk : k ≤ n) : InP w a k (ps.take k) (gss.take k) (xss.take k) := ⟨h.1.take k hk, h.2.take k⟩
theorem InP.drop {w : World} {b off n : Nat} {ps : List PH} {gss : List (List IH)} {xss : List (List It.I)} (h : InP w (some ⟨b, off, none⟩) n ps gss xss) (k : Nat) (hk : k ≤ n) : InP w (some ⟨b, off + k, none⟩) (n - k) (ps.drop k) (gss.drop k) (xss.drop k) := by
  have := h.1.drop k hk
  rw [Nat.mul_one] at this
  exact ⟨this, h.2.drop k⟩
theorem so_of_owns {w0 W : World} {B n c : Nat} {a : Option Addr} {os : List OH} {L : List Mg.Y} (h : W.ownsRow B 68 9 (.slice a n c) n (tcells oe os)) (hA : OAll w0 os L) (hn : n ≤ 1000000000) : SO w0 W a n c os L := by
  obtain ⟨a', c', e, g1, g2⟩ := t_shape h
  simp only [Value.slice.injEq, true_and] at e
  obtain ⟨rfl, rfl⟩ := e
  exact ⟨trow_of_owns oeE h (by omega) hn, hA, g1, g2⟩
theorem parts_le {w : World} {a : Option Addr} {n K : Nat} {ps : List PH} {gss : List (List IH)} {xss : List (List It.I)} (h : InP w a n ps gss xss) (hK : ∀ i, i < n → (ps.getD i phz).n ≤ K) : ∀ x ∈ xss, x.length ≤ K := by
  intro x hx
  obtain ⟨i, hi, rfl⟩ := List.getElem_of_mem hx
  have h1 := h.2.2.2 i hi
  rw [h.len] at hi
  have h2 := hK i hi
  have h3 := h1.1.len
  rw [List.getD_eq_getElem?_getD, List.getElem?_eq_getElem (by rw [h.len]; exact hi)] at h3
  simp only [Option.getD_some] at h3
  omega

set_option maxRecDepth 100000 in
set_option maxHeartbeats 2000000 in
theorem mmerged_zero (w0 : World) (a : Option Addr) (c f : Nat) (w : World) :
    Calls Try.prog 23 #[.slice a 0 c, .int .i64 (f : Nat)] w (ORes w w0 []) := by
  go_enter Try.func23, Try.ntmps23
  go_wp2
  go_ret
  exact ores_nil rfl (Below.refl _ _)

set_option maxRecDepth 100000 in
set_option maxHeartbeats 2000000 in
theorem mmerged_one (w0 : World) (b off c f : Nat) (qa : Option Addr) (qn qc : Nat) (gs : List IH) (xs : List It.I) (w : World) (hcell : w.cell? ⟨b, off, none⟩ = some (.slice qa qn qc)) (hn : qn ≤ 1000000) (hr : TRow 8 ih ihz w qa qn gs) (hall : ItAll w0 gs xs) :
    Calls Try.prog 23 #[.slice (some ⟨b, off, none⟩) 1 c, .int .i64 (f : Nat)] w (ORes w w0 (Mg.yo xs f)) := by
  have ho := moflist_any qa qn qc gs xs f w0 w hn hr hall
  clear hr hall
  go_enter Try.func23, Try.ntmps23
  go_wp2_with (go_at_call 32; go_must (refine ho.mono ?_; rintro e w1 h1; obtain ⟨a1, c1, os1, rfl, ho1, hA1, hb1⟩ := h1))
  go_ret
  exact ⟨a1, c1, os1, rfl, ho1, hA1, hb1⟩

set_option maxRecDepth 100000 in
set_option maxHeartbeats 2000000 in
theorem mmerged_many (w0 : World) (b off n c f : Nat) (w : World) (L1 L2 : List Mg.Y) (hn : 2 ≤ n) (hnc : n ≤ c) (hf : f + n ≤ 1000000) (hlen : L1.length + L2.length ≤ 100000000)
    (h1 : ∀ W, Below w.heap.size w W → Calls Try.prog 23 #[.slice (some ⟨b, off, none⟩) (n / 2) c, .int .i64 (f : Nat)] W (ORes W w0 L1))
    (h2 : ∀ W, Below w.heap.size w W → Calls Try.prog 23 #[.slice (some ⟨b, off + n / 2, none⟩) (n - n / 2) (c - n / 2), .int .i64 ((f + n / 2 : Nat) : Int)] W (ORes W w0 L2)) :
    Calls Try.prog 23 #[.slice (some ⟨b, off, none⟩) n c, .int .i64 (f : Nat)] w (ORes w w0 (Mg.jn L1 L2)) := by
  obtain ⟨H, hH⟩ : ∃ H, H = n / 2 := ⟨_, rfl⟩
  obtain ⟨F, hF⟩ : ∃ F, F = f + H := ⟨_, rfl⟩
  rw [← hH, ← hF] at h2
  rw [← hH] at h1
  have e1 : wrap64 ((n : Int) / 2) = (H : Int) := by unfold wrap64; omega
  have e2 : IntKind.i64.wrap ((f : Int) + (H : Int)) = (F : Int) := by rw [IntKind.wrap_i64]; omega
  have d1 : ((n : Int) == 0) = false := by simp; omega
  have d2 : ((n : Int) == 1) = false := by simp; omega
  have i0 : (0 : Int) ≤ (H : Int) := by omega
  have i1 : (H : Int) ≤ (n : Int) := by omega
  have i2 : (H : Int) ≤ (c : Int) := by omega
  have i3 : (n : Int) ≤ (c : Int) := by omega
  have i4 : ¬ (c = H) := by omega
  have hj := fun a1 c1 os1 a2 c2 os2 W (hS : SO w0 W a1 L1.length c1 os1 L1) (hS' : SO w0 W a2 L2.length c2 os2 L2) => mjoin_any w0 a1 L1.length c1 os1 L1 a2 L2.length c2 os2 L2 W hS hS' hlen
  have HL : Hid (L1.length + L2.length ≤ 100000000) := hlen
  clear hH hF hn hnc hf hlen
  go_enter Try.func23, Try.ntmps23
  go_wp2_with fail
  go_region_with (first
    | (go_at_call 33; refine (hj _ _ _ _ _ _ _ (so_of_owns (owns_below ho1 hb2) hA1 (by have := HL.out; omega)) (so_of_owns ho2 hA2 (by have := HL.out; omega))).mono ?_; rintro e w3 ⟨a3, c3, os3, rfl, ho3, hA3, hb3⟩)
    | (go_at_call 23; have hz := hb1; refine (h2 _ hw1).mono ?_; rintro e w2 ⟨a2, c2, os2, rfl, ho2, hA2, hb2⟩; have hw2 := hw1.trans (hb2.mono hw1.size))
    | (go_at_call 23; refine (h1 _ (Below.refl _ _).drew).mono ?_; rintro e w1 ⟨a1, c1, os1, rfl, ho1, hA1, hb1d⟩; have hb1 := below_of_drew hb1d; have hw1 : Below w.heap.size w w1 := hb1))
  all_goals
    go_wp2
    go_ret
    exact ⟨a3, c3, os3, rfl, owns_base ho3 hw2.size, hA3, hw2.trans (hb3.mono hw2.size)⟩
theorem mmerged_any (w0 : World) : ∀ (N : Nat) (a : Option Addr) (n c : Nat) (ps : List PH) (gss : List (List IH)) (xss : List (List It.I)) (f : Nat) (w : World), n ≤ N → InP w0 a n ps gss xss → n ≤ c → (∀ x ∈ xss, It.Up x) → (∀ i, i < n → (ps.getD i phz).n ≤ 100000) → n ≤ 1000 → f + n ≤ 1000000 → Below w0.heap.size w0 w →
    Calls Try.prog 23 #[.slice a n c, .int .i64 (f : Nat)] w (ORes w w0 (Mg.tag xss f))
  | 0, a, n, c, ps, gss, xss, f, w, hN, hi, hc, hU, hK, hn, hf, hw => by
    obtain rfl : n = 0 := by omega
    obtain rfl : xss = [] := List.length_eq_zero_iff.mp hi.len
    exact mmerged_zero w0 a c f w
  | N + 1, a, n, c, ps, gss, xss, f, w, hN, hi, hc, hU, hK, hn, hf, hw => by
    have hl := hi.len
    rcases Nat.lt_or_ge n 2 with h2 | h2
    · rcases Nat.eq_zero_or_pos n with rfl | h0
      · obtain rfl : xss = [] := List.length_eq_zero_iff.mp hi.len
        exact mmerged_zero w0 a c f w
      · obtain rfl : n = 1 := by omega
        obtain ⟨x, rfl⟩ : ∃ x, xss = [x] := List.length_eq_one_iff.mp hl
        obtain ⟨b, off, rfl, hcl⟩ := hi.1.part (by omega)
        have h1 := hcl 0 (by omega)
        have h3 := hi.2.2.2 0 (by simp)
        rw [Mg.tag_one]
        refine mmerged_one w0 b off c f _ _ _ (gss.getD 0 []) x w ((hw.cell (p := ⟨b, off + 0, none⟩) (cell_lt h1)).trans h1) (by have := hK 0 (by omega); omega) (h3.1.1.below hw (Nat.le_refl _)) h3.1.2
    · obtain ⟨b, off, rfl, hcl⟩ := hi.1.part (by omega)
      have hH : n / 2 ≤ n := by omega
      rw [Mg.tag_half f hU (n / 2) (by rw [hl]; exact hH)]
      have iT := hi.take (n / 2) hH
      have iD := hi.drop (n / 2) hH
      have hKT : ∀ i, i < n / 2 → ((ps.take (n / 2)).getD i phz).n ≤ 100000 := fun i hi' => by rw [getD_take' _ _ hi']; exact hK i (by omega)
      have hKD : ∀ i, i < n - n / 2 → ((ps.drop (n / 2)).getD i phz).n ≤ 100000 := fun i hi' => by rw [getD_drop']; exact hK _ (by omega)
      have hUT : ∀ x ∈ xss.take (n / 2), It.Up x := fun x hx => hU x (List.mem_of_mem_take hx)
      have hUD : ∀ x ∈ xss.drop (n / 2), It.Up x := fun x hx => hU x (List.mem_of_mem_drop hx)
      have l1 := Mg.tag_len 100000 f (parts_le iT hKT)
      have l2 := Mg.tag_len 100000 (f + n / 2) (parts_le iD hKD)
      rw [iT.len] at l1
      rw [iD.len] at l2
      refine mmerged_many w0 b off n c f w _ _ h2 hc hf (by omega) (fun W hW => ?_) (fun W hW => ?_)
      · exact mmerged_any w0 N _ _ _ _ _ _ f W (by omega) iT (by omega) hUT hKT (by omega) (by omega) (hw.trans (hW.mono hw.size))
      · exact mmerged_any w0 N _ _ _ _ _ _ (f + n / 2) W (by omega) iD (by omega) hUD hKD (by omega) (by omega) (hw.trans (hW.mono hw.size))
end Go.Proofs.Ytchiilhdkbpboaa
