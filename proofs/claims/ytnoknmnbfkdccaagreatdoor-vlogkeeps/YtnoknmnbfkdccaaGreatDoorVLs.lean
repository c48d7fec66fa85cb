/- The law of what is kept where it has nothing to say; its argument opened. -/
import Derived.Test.YtnoknmnbfkdccaaGreatDoorVLo
import Derived.Test.YtnoknmnbfkdccaaGreatDoorOT
import Derived.Deep.SlicePairs
import Derived.Test.YtnoknmnbfkdccaaGreatDoorVLp
namespace Go.Proofs.YtnoknmnbfkdccaaGreatDoor
open Go.RowKit Go.Shelf Go.ChangeShapes Go.WideShapes

set_option maxRecDepth 100000 in
set_option maxHeartbeats 2000000 in
theorem vkeeps_dark (a0 : Option Addr) (n0 c0 : Nat) (hs0 : List VH) (vs0 : List (List Nat)) (a1 : Option Addr) (n1 c1 : Nat) (hs1 : List VH) (vs1 : List (List Nat)) (st kn : Int) (ta : Option Addr) (tn tc : Nat) (w : World)
    (hi0 : InV w a0 n0 c0 hs0 vs0) (hi1 : InV w a1 n1 c1 hs1 vs1) (hn0 : n0 ≤ 140737488355328) (hn1 : n1 ≤ 140737488355328) (htb : tn ≤ 140737488355328) (hT : Tab w) (hd : Vl.lightB vs0 = false ∨ Vl.lightB vs1 = false ∨ 100 < tn) :
    Calls Tryz.prog 4 #[.slice a0 n0 c0, .slice a1 n1 c1, .agg #[.int .i64 st, .int .i64 kn, .slice ta tn tc]] w fun e w' => e = .returned (.bool true) ∧ Below w.heap.size w w' := by
  have hb0 := below_alloc w (.cells #[.int .i64 st, .int .i64 kn, .slice ta tn tc] 52)
  have hq0 := heap_alloc_new w (.cells #[.int .i64 st, .int .i64 kn, .slice ta tn tc] 52)
  have hx0 := (Go.Joins.cell_of_block hq0 2).trans rfl
  have hg0 := fun W (hW : Below w.heap.size w W) => vlight_any a0 n0 c0 hs0 vs0 W (hi0.below hW (Nat.le_refl _)) hn0
  have hg1 := fun W (hW : Below w.heap.size w W) => vlight_any a1 n1 c1 hs1 vs1 W (hi1.below hW (Nat.le_refl _)) hn1
  have hA := fun W (hW : Below w.heap.size w W) => vawake_any W (hT.keep hW)
  clear hT
  cases h0 : Vl.lightB vs0
  · rw [h0] at hg0
    go_enter Tryz.func4, Tryz.ntmps4
    go_wp2_with (first
      | (go_at_call 7; go_must (refine (hA _ hb0).mono ?_; rintro e w1 ⟨rfl, hb1⟩))
      | (go_at_call 13; have tok := hg0; go_must (clear hg0; refine (tok _ hb0).mono ?_; rintro e w1 ⟨rfl, hw⟩; rw [hw]; clear hw w1 tok)))
    go_ret
    exact ⟨rfl, hb0.trans (hb1.mono hb0.size)⟩
  · rw [h0] at hg0
    cases h1 : Vl.lightB vs1
    · rw [h1] at hg1
      go_enter Tryz.func4, Tryz.ntmps4
      go_wp2_with (first
        | (go_at_call 7; go_must (refine (hA _ hb0).mono ?_; rintro e w1 ⟨rfl, hb1⟩))
        | (go_at_call 13; have tok := hg0; go_must (clear hg0; refine (tok _ hb0).mono ?_; rintro e w1 ⟨rfl, hw⟩; rw [hw]; clear hw w1 tok))
        | (go_at_call 13; go_must (refine (hg1 _ hb0).mono ?_; rintro e w1 ⟨rfl, hw⟩; rw [hw]; clear hw w1)))
      go_ret
      exact ⟨rfl, hb0.trans (hb1.mono hb0.size)⟩
    · rw [h1] at hg1
      have hbt : 100 < tn := by
        rcases hd with h | h | h
        · rw [h0] at h; cases h
        · rw [h1] at h; cases h
        · exact h
      have ht1 : (100 : Int) < (tn : Int) := by omega
      have ht2 : decide ((100 : Int) < (tn : Int)) = true := by simp; omega
      go_enter Tryz.func4, Tryz.ntmps4
      go_wp2_with (first
        | (go_at_call 7; go_must (refine (hA _ hb0).mono ?_; rintro e w1 ⟨rfl, hb1⟩))
        | (go_at_call 13; have tok := hg0; go_must (clear hg0; refine (tok _ hb0).mono ?_; rintro e w1 ⟨rfl, hw⟩; rw [hw]; clear hw w1 tok))
        | (go_at_call 13; go_must (refine (hg1 _ hb0).mono ?_; rintro e w1 ⟨rfl, hw⟩; rw [hw]; clear hw w1)))
      go_ret
      exact ⟨rfl, hb0.trans (hb1.mono hb0.size)⟩

set_option maxRecDepth 100000 in
theorem cints_of {H : Type} {enc : TypeId × Value → H} {W : World} {fuel : Nat} {v : Value} {y : DataW H × List MemPlace}
    (h : DataW.trod enc Tryz.prog W 0 (fun _ => true) true fuel 22 [v] = some y) (hs : ∀ e' sp', y.1 = .slice e' sp' → e'.length + sp'.length ≤ 140737488355328) : ∃ a n c zs, v = .slice a n c ∧ ZIn W a n c zs ∧ n ≤ 140737488355328 := by
  rcases open_ints Tryz.underlying22 Tryz.underlying3 (by kernel_rfl) h with ⟨hcs, _⟩ | ⟨x, l, c, zs, hcs, _, hl, hm, hz, hd, hcell, hwz⟩
  · simp only [List.cons.injEq, and_true] at hcs
    subst hcs
    exact ⟨none, 0, 0, [], rfl, ⟨⟨rfl, by omega, .inl rfl⟩, fun _ => ⟨rfl, rfl⟩, Nat.le_refl _⟩, by omega⟩
  · simp only [List.cons.injEq, and_true] at hcs
    subst hcs
    simp only [if_true] at hz
    have hsz := hs (lits .i64 (zs.take l)) (lits .i64 (zs.drop l)) (by rw [hd])
    have hl' : l + (c - l) ≤ 140737488355328 := by
      simp only [lits, List.length_map, List.length_take, List.length_drop, hz] at hsz
      omega
    refine ⟨some x, l, c, zs.take l, rfl, ⟨⟨by rw [List.length_take]; omega, by omega, ?_⟩, (fun h => by cases h), hl⟩, by omega⟩
    rcases Nat.eq_zero_or_pos l with h0 | h0
    · exact .inl h0
    · obtain ⟨b, off, spot⟩ := x
      have hsp : spot = none := by
        have h3 := hcell 0 (by omega)
        simpa [Addr.add] using World.cell?_spot h3
      subst hsp
      refine .inr ⟨b, off, rfl, fun i hi j v hj => ?_⟩
      have h3 := hcell i (by omega)
      rw [add_at] at h3
      have h4 : (zs.take l).getD i 0 = zs.getD i 0 := by simp [List.getD, hi]
      rw [h4] at hj
      match j, hj with
      | 0, hj => cases hj; simpa using h3
      | j + 1, hj => simp [ize] at hj

set_option maxRecDepth 100000 in
/-- the size of a slice that is the second of two fields of the second of two fields of an argument -/
theorem sized_nested {H : Type} {P : Program} {ts : List TypeId} {ds : List (DataW H)} (h : (DataW.weightsEach P ts ds).all (· ≤ reachBytes) = true) {j : Nat} {t q : TypeId} {f0 f1 g0 g1 : Field} {e' sp' : List (DataW H)} {d0 c0 : DataW H}
    (ht : ts[j]? = some t) (hd : ds[j]? = some (.agg [d0, .agg [c0, .slice e' sp']])) (hs : P.underlying t = some (.struct #[f0, f1])) (hg : P.underlying f1.type = some (.struct #[g0, g1])) (hf : P.underlying g1.type = some (.slice q)) :
    (e'.length + sp'.length) * P.bytesOf q ≤ reachBytes := by
  refine of_decide_eq_true (List.all_eq_true.1 h _ (DataW.weights_mem_each ht hd _ ?_))
  simp only [DataW.weights, hs, hg, List.map_cons, List.map_nil, DataW.weightsEach, List.mem_append]
  simp [hf]

set_option maxRecDepth 100000 in
theorem array3c {α : Type} {cs : Array α} (h : cs.size = 3) : ∃ c0 c1 c2, cs = #[c0, c1, c2] := by
  obtain ⟨l⟩ := cs
  match l, h with
  | [c0, c1, c2], _ => exact ⟨c0, c1, c2, rfl⟩

set_option maxRecDepth 100000 in
theorem open_crash {H : Type} {enc : TypeId × Value → H} {W : World} {r : Reach} {b0 : Nat} {v : Value} {d : DataW H} {p : List MemPlace} {ts : List TypeId} {ds : List (DataW H)} {j : Nat}
    (hv : Value.okWide Tryz.prog W r b0 52 v) (h : DataW.Trod enc Tryz.prog W 0 (fun _ => true) true 52 v d p)
    (hsz : (DataW.weightsEach Tryz.prog ts ds).all (· ≤ reachBytes) = true) (ht : ts[j]? = some 52) (hd : ds[j]? = some d) :
    ∃ st kn ta tn tc zs, v = .agg #[.int .i64 st, .int .i64 kn, .slice ta tn tc] ∧ ZIn W ta tn tc zs ∧ tn ≤ 140737488355328 ∧ (-9223372036854775808 ≤ st ∧ st ≤ 9223372036854775807) := by
  have hrb : reachBytes ≤ 140737488355328 := Nat.le_of_lt reachBytes_lt
  obtain ⟨cs, rfl, hcs⟩ := okWide_struct Tryz.underlying52 hv
  obtain ⟨c0, c1, c2, rfl⟩ := array3c (hcs.trans (by kernel_rfl))
  obtain ⟨fuel, hf⟩ := h
  obtain ⟨y0, y1, n, hx, _, h0, h1⟩ := trod_struct2 Tryz.underlying52 hf
  have k1 : Tryz.prog.cellsOf 3 = 1 := by kernel_rfl
  have k2 : Tryz.prog.cellsOf 50 = 2 := by kernel_rfl
  have k3 : Tryz.prog.cellsOf 22 = 1 := by kernel_rfl
  simp only [k1, k2, Value.cells] at h0 h1
  simp only [Prod.mk.injEq] at hx
  obtain ⟨rfl, _⟩ := hx
  have h0' : DataW.trod enc Tryz.prog W 0 (fun _ => true) true n 3 [c0] = some y0 := by simpa using h0
  have h1' : DataW.trod enc Tryz.prog W 0 (fun _ => true) true n 50 [c1, c2] = some y1 := by simpa using h1
  obtain ⟨st, e0, _, w0⟩ := DataW.trod_int Tryz.underlying3 h0'
  obtain ⟨z0, z1, m', hx5, _, u0, u1⟩ := trod_struct2 Tryz.underlying50 h1'
  simp only [k1, k3] at u0 u1
  have u0' : DataW.trod enc Tryz.prog W 0 (fun _ => true) true m' 3 [c1] = some z0 := by simpa using u0
  have u1' : DataW.trod enc Tryz.prog W 0 (fun _ => true) true m' 22 [c2] = some z1 := by simpa using u1
  obtain ⟨kn, e1, _, _⟩ := DataW.trod_int Tryz.underlying3 u0'
  obtain ⟨ta, tn, tc, zs, e2, hz, hn⟩ := cints_of u1' (fun e' sp' he => by
    rw [hx5, he] at hd
    have := sized_nested hsz ht hd Tryz.underlying52 Tryz.underlying50 Tryz.underlying22
    have hb : Tryz.prog.bytesOf 3 = 8 := by kernel_rfl
    rw [hb] at this
    omega)
  simp only [List.cons.injEq, and_true] at e0 e1
  subst e0; subst e1; subst e2
  exact ⟨st, kn, ta, tn, tc, zs, rfl, hz, hn, i64_in w0⟩
end Go.Proofs.YtnoknmnbfkdccaaGreatDoor

/- The law of what is kept, whole. -/
namespace Go.Proofs.YtnoknmnbfkdccaaGreatDoor
open Go.RowKit Go.Shelf

theorem vkeeps_all (a0 : Option Addr) (n0 c0 : Nat) (hs0 : List VH) (vs0 : List (List Nat)) (a1 : Option Addr) (n1 c1 : Nat) (hs1 : List VH) (vs1 : List (List Nat)) (st kn : Int) (ta : Option Addr) (tn tc : Nat) (zs : List Int) (w : World)
    (hi0 : InV w a0 n0 c0 hs0 vs0) (hn0 : n0 ≤ 140737488355328 ∧ ∀ v ∈ vs0, v.length ≤ 140737488355328) (hi1 : InV w a1 n1 c1 hs1 vs1) (hn1 : n1 ≤ 140737488355328 ∧ ∀ v ∈ vs1, v.length ≤ 140737488355328)
    (hz : ZIn w ta tn tc zs ∧ tn ≤ 140737488355328 ∧ (-9223372036854775808 ≤ st ∧ st ≤ 9223372036854775807)) (hT : Tab w) :
    Calls Tryz.prog 4 #[.slice a0 n0 c0, .slice a1 n1 c1, .agg #[.int .i64 st, .int .i64 kn, .slice ta tn tc]] w fun e w' => e = .returned (.bool true) ∧ Below w.heap.size w w' := by
  by_cases h : Vl.lightB vs0 = true ∧ Vl.lightB vs1 = true ∧ tn ≤ 100
  · refine vkeeps_any a0 n0 c0 hs0 vs0 a1 n1 c1 hs1 vs1 st kn ta tn tc zs w hi0 hi1 hz.2.2 hz.1 hT h.1 h.2.1 h.2.2 fun g o hg hle => ?_
    rcases Nat.eq_zero_or_pos tn with h0 | h0
    · exact h0
    · obtain ⟨b, off, hb, hc⟩ := hz.1.1.at h0
      rw [hg] at hb
      obtain ⟨rfl, rfl⟩ : g = b ∧ o = off := by simpa using hb
      have h1 := hc 0 h0 0 (.int .i64 (zs.getD 0 0)) rfl
      have := cell_lt h1
      simp only at this
      omega
  · refine vkeeps_dark a0 n0 c0 hs0 vs0 a1 n1 c1 hs1 vs1 st kn ta tn tc w hi0 hi1 hn0.1 hn1.1 hz.2.1 hT ?_
    cases h0 : Vl.lightB vs0
    · exact .inl rfl
    · cases h1 : Vl.lightB vs1
      · exact .inr (.inl rfl)
      · exact .inr (.inr (by rcases Nat.lt_or_ge 100 tn with h' | h'; exact h'; exact absurd ⟨h0, h1, h'⟩ h))
end Go.Proofs.YtnoknmnbfkdccaaGreatDoor
