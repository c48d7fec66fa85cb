/- What the program's gather does. -/
import Derived.Test.YtfeaablomceejaaTB4
namespace Go.Proofs.Ytfeaablomceejaa
open Go.RowKit

theorem tcells_set (z : Int) : ∀ (l : List Ta.S) (j : Nat), j < l.length → (tcells se l).set (j * 2 + 1) (.int .i64 z) = tcells se (l.set j ((l.getD j (0, 0)).1, z))
  | [], j, h => by simp at h
  | x :: l, 0, _ => by simp [tcells, se]
  | x :: l, j + 1, h => by
    have e : tcells se (x :: l) = .int .i64 x.1 :: .int .i64 x.2 :: tcells se l := rfl
    have e2 : tcells se ((x :: l).set (j + 1) (((x :: l).getD (j + 1) (0, 0)).1, z)) = .int .i64 x.1 :: .int .i64 x.2 :: tcells se (l.set j ((l.getD j (0, 0)).1, z)) := by
      rw [List.set_cons_succ, List.getD_cons_succ]; rfl
    rw [e, e2, show (j + 1) * 2 + 1 = (j * 2 + 1) + 1 + 1 by omega, List.set_cons_succ, List.set_cons_succ, tcells_set z l j (by simpa using h)]
theorem tcells_at2 {l : List Ta.S} {j : Nat} (h : j < l.length) : (tcells se l)[j * 2]? = some (.int .i64 (l.getD j (0, 0)).1) ∧ (tcells se l)[j * 2 + 1]? = some (.int .i64 (l.getD j (0, 0)).2) := by
  have h0 := tcells_get (d := (0, 0)) seE l j 0 h (by omega)
  have h1 := tcells_get (d := (0, 0)) seE l j 1 h (by omega)
  exact ⟨h0, h1⟩
theorem town_blk {w : World} {B n c : Nat} {a : Option Addr} {xs : List Value} {E s : Nat} (h : w.ownsRow B E s (.slice a n c) n xs) (hn : 0 < n) : ∃ g, a = some ⟨g, 0, none⟩ := by
  rcases h.2 with ⟨_, h⟩ | ⟨g', cap, cur, e, _⟩
  · omega
  · simp only [Value.slice.injEq] at e
    exact ⟨g', e.1⟩
theorem sh_of_own {w : World} {B n c : Nat} {a : Option Addr} {l : List Ta.S} (h : w.ownsRow B 47 2 (.slice a n c) n (tcells se l)) (hn : n ≤ 1000000000) (hf : SFit l) : InS w a n c l := by
  obtain ⟨a', c', e, h1, h2⟩ := t_shape h
  simp only [Value.slice.injEq] at e
  obtain ⟨rfl, _, rfl⟩ := e
  exact ⟨trow_of_owns seE h (by omega) hn, hf, h1, h2⟩

def gatherR (acc : List Ta.S) : Nat × List Ta.S := if Ta.may acc = true then (0, acc) else (7, [])

set_option maxRecDepth 100000 in
set_option maxHeartbeats 4000000 in
theorem tgather_any (g : Nat) (a1 : Option Addr) (n1 c1 : Nat) (b1 : List Ta.S) (a2 : Option Addr) (n2 c2 : Nat) (b2 : List Ta.S) (w : World)
    (h1 : w.cell? ⟨g, 0, none⟩ = some (.slice a1 n1 c1)) (h2 : w.cell? ⟨g, 1, none⟩ = some (.slice a2 n2 c2))
    (r1 : ShRow w a1 n1 b1) (r2 : ShRow w a2 n2 b2) (z1 : a1 = none → n1 = 0 ∧ c1 = 0) (z2 : a2 = none → n2 = 0 ∧ c2 = 0)
    (hgl : g < w.heap.size) (m1 : n1 ≤ 1000) (m2 : n2 ≤ 1000) (hok : ∀ x ∈ b1 ++ b2, (1 ≤ x.1 ∧ x.1 ≤ 2147483647) ∧ 1 ≤ x.2 ∧ x.2 ≤ 1099511627776) :
    Calls Try.prog 22 #[.slice (some ⟨g, 0, none⟩) 2 2] w fun e w' => ∃ d acc, (b1 ++ b2).Perm d ∧ Ta.Mid d d.length acc ∧ TPRes w (gatherR acc) e w' := by
  have hcc := tconcat2 g a1 n1 c1 b1 a2 n2 c2 b2 w h1 h2 r1 r2 z1 z2 hgl m1 m2
  have hN : (b1 ++ b2).length ≤ 2000 := by rw [List.length_append, r1.1, r2.1]; omega
  unfold ShRes at hcc
  generalize b1 ++ b2 = L at *
  obtain ⟨N, hNe⟩ : ∃ N, N = L.length := ⟨_, rfl⟩
  rw [← hNe] at hcc hN
  have HN : Hid (N = L.length) := hNe
  have HOK : Hid (∀ x ∈ L, (1 ≤ x.1 ∧ x.1 ≤ 2147483647) ∧ 1 ≤ x.2 ∧ x.2 ≤ 1099511627776) := hok
  clear h1 h2 r1 r2 z1 z2 hgl m1 m2 hok hNe
  have hso := fun a c W (h : W.ownsRow w.heap.size 47 2 (.slice a N c) N (tcells se L)) (hB : w.heap.size ≤ W.heap.size) => tsort_any a N c w.heap.size L W (by omega) h hB
  go_enter Try.func22, Try.ntmps22
  go_wp2_with (first
    | (go_at_call 31; go_must (refine hcc.mono ?_; rintro e w2 ⟨a3, c3, rfl, hown2, hb2⟩))
    | (go_at_call 32; go_must (refine (hso _ _ _ hown2 hb2.size).mono ?_; rintro e w3 ⟨d, rfl, hperm, hasc, hown3, hb3⟩)))
  have hdl : d.length = N := by rw [← hperm.length_eq]; exact HN.out.symm
  have hrow : ShRow w3 a3 N d := trow_of_owns seE hown3 (by omega) (by omega)
  have HB : Hid (Below w.heap.size w w3) := (hb2.trans hb3 : Below w.heap.size w w3)
  have HP : Hid (L.Perm d) := hperm
  have HA : Hid (Ta.Asc d) := hasc
  have HD : Hid (∀ x ∈ d, (1 ≤ x.1 ∧ x.1 ≤ 2147483647) ∧ 1 ≤ x.2 ∧ x.2 ≤ 1099511627776) := (fun x hx => HOK.out x (hperm.mem_iff.mpr hx) : ∀ x ∈ d, (1 ≤ x.1 ∧ x.1 ≤ 2147483647) ∧ 1 ≤ x.2 ∧ x.2 ≤ 1099511627776)
  have HL : Hid (d.length = N) := hdl
  clear hcc hso hown2 hb2 hb3 hown3 hperm hasc HOK hdl HN
  go_loopw [5, 15] (fun v i wr => ∃ (k m c : Nat) (gg : Option Addr) (acc : List Ta.S), k ≤ N ∧ m ≤ k ∧ i = .int .i64 k ∧ v = .slice gg m c ∧ Hid (Ta.Mid d k acc) ∧ Hid (acc.length = m) ∧ wr.ownsRow w3.heap.size 47 2 (.slice gg m c) m (tcells se acc) ∧ Below w3.heap.size w3 wr)
    (fun _ i _ => N - (intOf i).toNat)
  case atStart => exact ⟨0, 0, 0, none, [], by omega, by omega, rfl, rfl, Ta.mid_zero d, (rfl : ([] : List Ta.S).length = 0), ⟨rfl, .inl ⟨rfl, rfl⟩⟩, Below.refl _ _⟩
  case round =>
    obtain ⟨k, m, c, gg, acc, hk, hmk, rfl, rfl, HM, HO, hown, hbel⟩ := hrel
    by_cases hlt : k < N
    · obtain ⟨b, off, rfl, hc⟩ := hrow.cell (by omega)
      obtain ⟨e0, e1⟩ := hc k hlt
      have p0 := (hbel.cell (p := ⟨b, off + k * 2, none⟩) (cell_lt e0)).trans e0
      have p1 := (hbel.cell (p := ⟨b, off + k * 2 + 1, none⟩) (cell_lt e1)).trans e1
      have hkd : k < d.length := by rw [HL.out]; exact hlt
      have HM2 : Hid (Ta.Mid d (k + 1) (Ta.mstep acc (d.getD k (0, 0)))) := Ta.mid_step HA.out (fun x hx => (HD.out x hx).2.1) hkd HM.out
      have HS : Hid (∀ y ∈ acc, 1 ≤ y.2 ∧ y.2 ≤ (k : Int) * 1099511627776) := Ta.mid_small (fun x hx => (HD.out x hx).2) HM.out
      have HX : Hid ((1 ≤ (d.getD k (0, 0)).1 ∧ (d.getD k (0, 0)).1 ≤ 2147483647) ∧ 1 ≤ (d.getD k (0, 0)).2 ∧ (d.getD k (0, 0)).2 ≤ 1099511627776) := HD.out _ (by rw [show d.getD k (0, 0) = d[k] by simp [hkd]]; exact List.getElem_mem _)
      generalize d.getD k (0, 0) = x at *
      obtain ⟨x1, x2⟩ := x
      simp only at p0 p1 HX
      have i0 : (0 : Int) ≤ (k : Int) := by omega
      have i1 : (k : Int) < (N : Int) := by omega
      have hb2 := hbel.alloc hbel.size (.cells #[.int .i64 x1, .int .i64 x2] 47)
      have hown2 := hown.alloc (.cells #[.int .i64 x1, .int .i64 x2] 47)
      have s0 := cell_new wr #[.int .i64 x1, .int .i64 x2] 47 0
      have s1 := cell_new wr #[.int .i64 x1, .int .i64 x2] 47 1
      clear e0 e1 hc HM
      have hls := fun q => lit_share ((wr.alloc (.cells #[.int .i64 x1, .int .i64 x2] 47)).drewN q) x1 x2 (g := wr.heap.size + 1) (by simp [World.drewN])
      have hownq : ∀ q, ((wr.alloc (.cells #[.int .i64 x1, .int .i64 x2] 47)).drewN q).ownsRow w3.heap.size 47 2 (.slice gg m c) m (tcells se acc) := fun q => hown2
      have hbq : ∀ q, Below w3.heap.size w3 ((wr.alloc (.cells #[.int .i64 x1, .int .i64 x2] 47)).drewN q) := fun q => hb2.trans (below_drewN _ _ _)
      rcases Nat.eq_zero_or_pos m with hm0 | hm0
      · subst hm0
        obtain rfl : acc = [] := List.length_eq_zero_iff.mp HO.out
        have j1 : IntKind.i64.wrap ((0 : Int) - 1) = -1 := by decide
        have H2 : Hid (Ta.Mid d (k + 1) ([] ++ [(x1, x2)])) := HM2.out
        have HO2 : Hid ((([] : List Ta.S) ++ [(x1, x2)]).length = 0 + 1) := (rfl : (([] : List Ta.S) ++ [(x1, x2)]).length = 0 + 1)
        clear HM2 HS HX hown hown2 hb2
        go_wp2_with fail
        go_quiet (fail)
        go_wp2_with (at_builtin; go_must (refine append_t shareE seE (w0 := w3) (B := w3.heap.size) rfl (.tmp 44) (.tmp 46) rfl _ 0 [] rfl ((hownq nq).alloc _) (some ⟨wr.heap.size + 1, 0, none⟩) 1 1 [(x1, x2)] rfl (hls nq) (fun h => by cases h) (by omega) ((hbq nq).alloc (hbq nq).size _) ((hbq nq).alloc (hbq nq).size _).size ?_; intro a4 c4 w4 _ _ _ hown4 hb4 _))
        go_roundw
        case rel => exact ⟨k + 1, 0 + 1, c4, a4, [] ++ [(x1, x2)], by omega, by omega, by go_num, rfl, H2, HO2, hown4, hb4⟩
        case measure => simp [intOf]; omega
      · obtain ⟨j, hj⟩ : ∃ j : Nat, m = j + 1 := ⟨m - 1, by omega⟩
        have hjl : j < acc.length := by rw [HO.out]; omega
        obtain ⟨gb, rfl⟩ := town_blk hown hm0
        have hgb := own_lt hown
        obtain ⟨t0, t1⟩ := tcells_at2 hjl
        obtain ⟨y0, z0⟩ := own_cells hown2 t0
        obtain ⟨y1, z1⟩ := own_cells hown2 t1
        have hmst : Hid (Ta.mstep acc (x1, x2) = if (acc.getD j (0, 0)).1 = x1 then acc.set j ((acc.getD j (0, 0)).1, (acc.getD j (0, 0)).2 + x2) else acc ++ [(x1, x2)]) := (by
          unfold Ta.mstep
          rw [show acc.length - 1 = j by rw [HO.out]; omega]
          by_cases h : (acc.getD j (0, 0)).1 = x1
          · rw [if_pos ⟨by omega, h⟩, if_pos h, h]
          · rw [if_neg (fun q => h q.2), if_neg h] : Ta.mstep acc (x1, x2) = if (acc.getD j (0, 0)).1 = x1 then acc.set j ((acc.getD j (0, 0)).1, (acc.getD j (0, 0)).2 + x2) else acc ++ [(x1, x2)])
        have hyb := HS.out (acc.getD j (0, 0)) (by rw [show acc.getD j (0, 0) = acc[j] by simp [hjl]]; exact List.getElem_mem _)
        have HT : Hid (∀ z, (tcells se acc).set (j * 2 + 1) (.int .i64 z) = tcells se (acc.set j ((acc.getD j (0, 0)).1, z))) := (fun z => tcells_set z acc j hjl : ∀ z, (tcells se acc).set (j * 2 + 1) (.int .i64 z) = tcells se (acc.set j ((acc.getD j (0, 0)).1, z)))
        generalize acc.getD j (0, 0) = y at *
        obtain ⟨v1, v2⟩ := y
        simp only at y0 y1 hmst hyb HT
        have j1 : IntKind.i64.wrap ((m : Int) - 1) = (j : Int) := by rw [IntKind.wrap_i64]; omega
        have j2 : decide ((0 : Int) ≤ (j : Int)) = true := by simp
        have j3 : (0 : Int) ≤ (j : Int) := by omega
        have j4 : (j : Int) < (m : Int) := by omega
        have Hj : Hid (m = j + 1) := hj
        have HXo := HX.out
        have j5 : IntKind.i64.wrap (v2 + x2) = v2 + x2 := by rw [IntKind.wrap_i64]; omega
        clear HS HX HXo hj t0 t1 hyb hjl
        by_cases hv : v1 = x1
        · have hd : (v1 == x1) = true := by simpa using hv
          have H2 : Hid (Ta.Mid d (k + 1) (acc.set j (v1, v2 + x2))) := (by have := HM2.out; rw [hmst.out, if_pos hv] at this; exact this : Ta.Mid d (k + 1) (acc.set j (v1, v2 + x2)))
          have HO2 : Hid ((acc.set j (v1, v2 + x2)).length = m) := (by rw [List.length_set]; exact HO.out : (acc.set j (v1, v2 + x2)).length = m)
          have hst := fun q => own_store (hownq q) (j * 2 + 1) (.int .i64 (v2 + x2))
          rw [HT.out] at hst
          have hbs := fun q => (hbq q).grown (turned_set ((wr.alloc (.cells #[.int .i64 x1, .int .i64 x2] 47)).drewN q) gb (j * 2 + 1) (.int .i64 (v2 + x2))) (hbq q).size (fun k hk => by cases hk; exact hgb.2)
          clear HM2 hmst HT hown hown2 hls hownq hbq
          go_wp2_with fail
          go_quiet (fail)
          go_wp2_with fail
          go_region
          go_wp2
          go_roundw
          case rel => exact ⟨k + 1, m, c, some ⟨gb, 0, none⟩, acc.set j (v1, v2 + x2), by omega, by omega, by go_num, rfl, H2, HO2, hst _, hbs _⟩
          case measure => simp [intOf]; omega
        · have hd : (v1 == x1) = false := by simpa using hv
          have H2 : Hid (Ta.Mid d (k + 1) (acc ++ [(x1, x2)])) := (by have := HM2.out; rw [hmst.out, if_neg hv] at this; exact this : Ta.Mid d (k + 1) (acc ++ [(x1, x2)]))
          have HO2 : Hid ((acc ++ [(x1, x2)]).length = m + 1) := (by rw [List.length_append, HO.out]; rfl : (acc ++ [(x1, x2)]).length = m + 1)
          clear HM2 hmst HT hown hown2 hb2
          go_wp2_with fail
          go_quiet (fail)
          go_wp2_with (at_builtin; go_must (refine append_t shareE seE (w0 := w3) (B := w3.heap.size) rfl (.tmp 44) (.tmp 46) rfl _ m acc rfl ((hownq nq).alloc _) (some ⟨wr.heap.size + 1, 0, none⟩) 1 1 [(x1, x2)] rfl (hls nq) (fun h => by cases h) (by omega) ((hbq nq).alloc (hbq nq).size _) ((hbq nq).alloc (hbq nq).size _).size ?_; intro a4 c4 w4 _ _ _ hown4 hb4 _))
          go_roundw
          case rel => exact ⟨k + 1, m + 1, c4, a4, acc ++ [(x1, x2)], by omega, by omega, by go_num, rfl, H2, HO2, hown4, hb4⟩
          case measure => simp [intOf]; omega
    · obtain rfl : k = N := by omega
      have hrw : ShRow wr gg m acc := trow_of_owns seE hown (by omega) (by omega)
      have hck := tcheck_any gg m c acc wr hrw
      have HF : Hid (SFit acc) := (fun y hy => by
        have h1 := Ta.mid_small (fun x hx => (HD.out x hx).2) HM.out y hy
        obtain ⟨x, hx, e⟩ := HM.out.seg y hy
        have h2 := HD.out x hx
        rw [← e] at h2
        omega : SFit acc)
      have HM2 : Hid (Ta.Mid d d.length acc) := (by rw [HL.out]; exact HM.out : Ta.Mid d d.length acc)
      clear HM hrow
      cases hm : Ta.may acc with
      | true =>
        have HR : Hid (gatherR acc = (0, acc)) := (by unfold gatherR; rw [if_pos hm] : gatherR acc = (0, acc))
        simp only [hm, if_true] at hck
        clear hm
        go_wp2_with (go_at_call 12; go_must (refine hck.mono ?_; rintro e w5 ⟨rfl, hb5⟩))
        go_ret2
        have hb6 := hbel.trans (hb5.mono hbel.size)
        refine ⟨d, acc, HP.out, HM2.out, ?_⟩
        rw [HR.out]
        obtain rfl := HO.out
        exact ⟨gg, c, rfl, (sh_of_own hown (by omega) HF.out).below hb5 (Nat.le_refl _), HB.out.trans (hb6.mono HB.out.size)⟩
      | false =>
        have HR : Hid (gatherR acc = (7, [])) := (by unfold gatherR; rw [if_neg (by rw [hm]; decide)] : gatherR acc = (7, []))
        simp only [hm, Bool.false_eq_true, if_false] at hck
        clear hm
        go_wp2_with (go_at_call 12; go_must (refine hck.mono ?_; rintro e w5 ⟨rfl, hb5⟩))
        go_ret2
        have hb6 := hbel.trans (hb5.mono hbel.size)
        refine ⟨d, acc, HP.out, HM2.out, ?_⟩
        rw [HR.out]
        exact ⟨none, 0, rfl, ⟨TRow.nil _ _, (fun x hx => by cases hx), (fun _ => ⟨rfl, rfl⟩), Nat.le_refl _⟩, HB.out.trans (hb6.mono HB.out.size)⟩
end Go.Proofs.Ytfeaablomceejaa
