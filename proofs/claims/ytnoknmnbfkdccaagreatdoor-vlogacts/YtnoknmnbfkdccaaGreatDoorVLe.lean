/- A log's Put. -/
import Derived.Test.YtnoknmnbfkdccaaGreatDoorVLd
import Derived.Test.YtnoknmnbfkdccaaGreatDoorSGd
namespace Go.Proofs.YtnoknmnbfkdccaaGreatDoor
open Go.RowKit Go.Shelf

theorem lit_v (w : World) (h : VH) {g : Nat} (hg : w.heap.size = g) : TRow 1 vhe vhz (w.alloc (.cells #[.slice h.a h.n h.c] 39)) (some ⟨g, 0, none⟩) 1 [h] :=
  trow_lit w _ _ _ hg (fun j u hj => by
    match j, hj with
    | 0, hj => exact hj
    | j + 1, hj => simp [vhe] at hj)
theorem inv_one (w : World) (h : VH) (v : List Nat) (hv : VAt w h v) : InV (w.alloc (.cells #[.slice h.a h.n h.c] 39)) (some ⟨w.heap.size, 0, none⟩) 1 1 [h] [v] :=
  ⟨lit_v w h rfl, ⟨rfl, fun i hi => by
    obtain rfl : i = 0 := by simpa using hi
    exact hv.below (below_alloc w _) (Nat.le_refl _)⟩, (fun e => by cases e), Nat.le_refl _⟩
set_option maxRecDepth 100000 in
set_option maxHeartbeats 1000000 in
/-- a value that is too long is not put -/
theorem sput_big (w : World) (g : Nat) (h : VH) (hh : TRow 1 vhe vhz w (some ⟨g, 0, none⟩) 1 [h]) (hn : 4096 < h.n) (hn2 : h.n ≤ 1000000) :
    Calls Tryz.prog 36 #[.slice (some ⟨g, 0, none⟩) 1 1] w fun e w' => e = .returned (.tuple #[.slice none 0 0, .int .i64 6]) ∧ Below w.heap.size w w' := by
  obtain ⟨i0, hi0, hz0, hz1, hz2⟩ := info_parts Tryz.info113
  obtain ⟨A, n, C⟩ := h
  simp only at hn hn2
  obtain ⟨b, off, e, hc⟩ := hh.at (by omega)
  cases e
  have hcell : w.cell? ⟨g, 0, none⟩ = some (.slice A n C) := by simpa using hc 0 (by omega) 0 _ rfl
  have htl := fun W => toolong_any A n C true W (by omega) (by simp; omega)
  have hlt := cell_lt hcell
  clear hc hh
  go_enter Tryz.func36, Tryz.ntmps36
  go_wp2_with (at_make; go_must (refine wpList_make_own _ rfl _ _ 110 rfl w.heap.size 113 i0 (.agg #[.int .i64 0, .slice none 0 0]) 2 Tryz.underlying110 hi0 hz0 hz1 .i64 .i64 _ 1 rfl rfl rfl (by rw [hz2]; omega) (by unfold maxLen; omega) (Nat.le_refl _) ?_; intro w2 hmade hg))
  have hbel0 : Below w.heap.size w w2 := (Below.refl _ _).grown hg (Nat.le_refl _) (fun k h => by cases h)
  have k2 := (hbel0.cell (p := ⟨g, 0, none⟩) hlt).trans hcell
  clear hg hi0 hz0 hz1 hz2 hmade
  go_loopw [4, 12] (fun v i wr => (∃ a c, v = .slice a 0 c) ∧ i = .int .i64 0 ∧ wr = w2) (fun _ _ _ => 0)
  case atStart => exact ⟨⟨_, _, rfl⟩, rfl, rfl⟩
  case round =>
    obtain ⟨⟨a', c', rfl⟩, rfl, rfl⟩ := hrel
    go_wp2_with (go_at_call 66; refine (htl _).mono ?_; rintro e w1 ⟨rfl, hw1⟩; rw [hw1]; clear hw1 w1)
    go_ret2
    exact ⟨rfl, hbel0⟩

theorem pbox_cells {w : World} {b : Nat} {q : Po.P} (h : w.heap[b]? = some (.cells #[.int .i64 q.1, .int .i64 q.2.1, .int .i64 q.2.2.1, .int .u32 (q.2.2.2 : Nat)] 42 (0, 0))) :
    w.cell? ⟨b, 0, none⟩ = some (.int .i64 q.1) ∧ w.cell? ⟨b, 1, none⟩ = some (.int .i64 q.2.1) ∧ w.cell? ⟨b, 2, none⟩ = some (.int .i64 q.2.2.1) ∧ w.cell? ⟨b, 3, none⟩ = some (.int .u32 (q.2.2.2 : Nat)) ∧ ∀ i, w.frozen? ⟨b, i, none⟩ = false :=
  ⟨(Go.Joins.cell_of_block h _).trans rfl, (Go.Joins.cell_of_block h _).trans rfl, (Go.Joins.cell_of_block h _).trans rfl, (Go.Joins.cell_of_block h _).trans rfl, fun i => Go.Joins.unfrozen_of_block h i⟩
/-- a result's block of four cells, which is no disk's, is written -/
theorem vres4 {B : Nat} {w w7 : World} {p : Nat} {D' : Dk.D} {C : Array Value} (hv : VD B w7 p D') (hw : Wk B w w7) (hB : B ≤ w.heap.size) (r7 : w7.heap[w.heap.size]? = some (.cells C 42 (0, 0))) (v0 v1 v2 v3 : Value) :
    VD B ((((w7.setCell ⟨w.heap.size, 0, none⟩ v0).setCell ⟨w.heap.size, 1, none⟩ v1).setCell ⟨w.heap.size, 2, none⟩ v2).setCell ⟨w.heap.size, 3, none⟩ v3) p D' ∧ Wk B w ((((w7.setCell ⟨w.heap.size, 0, none⟩ v0).setCell ⟨w.heap.size, 1, none⟩ v1).setCell ⟨w.heap.size, 2, none⟩ v2).setCell ⟨w.heap.size, 3, none⟩ v3) := by
  have hb : Below w.heap.size w7 ((((w7.setCell ⟨w.heap.size, 0, none⟩ v0).setCell ⟨w.heap.size, 1, none⟩ v1).setCell ⟨w.heap.size, 2, none⟩ v2).setCell ⟨w.heap.size, 3, none⟩ v3) := ((((Below.refl w.heap.size w7).setCell (p := ⟨w.heap.size, 0, none⟩) (Nat.le_refl _) v0).setCell (p := ⟨w.heap.size, 1, none⟩) (Nat.le_refl _) v1).setCell (p := ⟨w.heap.size, 2, none⟩) (Nat.le_refl _) v2).setCell (p := ⟨w.heap.size, 3, none⟩) (Nat.le_refl _) v3
  have hk : ∀ k, k ≠ w.heap.size → ((((w7.setCell ⟨w.heap.size, 0, none⟩ v0).setCell ⟨w.heap.size, 1, none⟩ v1).setCell ⟨w.heap.size, 2, none⟩ v2).setCell ⟨w.heap.size, 3, none⟩ v3).heap[k]? = w7.heap[k]? := fun k h => by
    rw [set_other _ _ _ _ h, set_other _ _ _ _ h, set_other _ _ _ _ h, set_other _ _ _ _ h]
  refine ⟨hv.other (T := fun k => k = w.heap.size) ⟨hb.os, hb.tape, hb.output, hb.size, fun k _ h => hk k h⟩ (fun k hk' _ => by subst hk'; exact ⟨hB, dt_not r7 (by decide) (by decide) (by decide) (by decide)⟩), ?_⟩
  exact ⟨hb.os.trans hw.os, hb.tape.trans hw.tape, hb.output.trans hw.output, Nat.le_trans hw.size hb.size, fun k hl hn => (hk k (Nat.ne_of_lt hl)).trans (hw.block k hl hn)⟩
section
variable {B : Nat} {w : World} {m p : Nat} {D : Dk.D} {a : Option Addr} {n c : Nat} {segs : List Int}
set_option maxRecDepth 100000 in
set_option maxHeartbeats 2000000 in
theorem vput_any {b : Nat} (hL : LgAt B w m p a n c segs) (hD : VD B w p D) (hne : segs ≠ []) (h : VH) (v : List Nat) (hv : VAt w h v) (hvn : h.n ≤ 4096) (hf : Dk.Few D b) (hb6 : b ≤ 1000000) (hz : (Vl.by' D (vname (Vl.last segs))).length ≤ 100000)
    (R : Dk.D × Int) (hR : R = Dk.append D (vname (Vl.last segs)) (Sg.put [v])) (q : Po.P) (hq : q = if R.2 = 0 then Sg.pt (Vl.last segs) (Vl.by' D (vname (Vl.last segs))).length v else Po.zero) :
    Calls Tryz.prog 14 #[.pointer (some ⟨m, 0, none⟩), .slice h.a h.n h.c] w fun e w' => e = .returned (.tuple #[pv q, .int .i64 R.2]) ∧ VD B w' p R.1 ∧ Wk B w w' := by
  have hln := hL.len
  have hn0 : n ≠ 0 := fun e => hne (List.length_eq_zero_iff.1 (by omega))
  have hcon : segs.contains (Vl.last segs) = true := by rw [List.contains_iff_mem]; exact Vl.last_mem hne
  have hsr := Vl.may_mem hL.may (Vl.last_mem hne)
  have hmd := fun W (hb : Below w.heap.size w W) => vmade_any (hL.keep hb)
  have hla := fun W (hb : Below w.heap.size w W) => vlast_any (hL.keep hb) _ rfl
  have hsz := fun W (hb : Below w.heap.size w W) => vsize_any (hL.keep hb) (hD.keep hb) (Vl.last segs) (by omega) _ (by rw [hcon, if_pos rfl])
  have hnm := vd_name hD (Vl.last segs) (by omega)
  have hvl : v.length = h.n := hv.1.1
  have hvs : ∀ x ∈ v, x < 256 := hv.1.2.2.1
  have hsm : Sg.Small [v] := fun x hx => by obtain rfl := List.mem_singleton.1 hx; exact ⟨by omega, hvs⟩
  have hpl : (Sg.put [v]).length ≤ 5000 := by
    rw [Sg.put_one_len]
    have := Fr.one3 (n := v.length) (by omega)
    unfold Fr.size; omega
  have hpu := fun W (hb : Below w.heap.size w W) => sput_any (some ⟨W.heap.size, 0, none⟩) 1 1 [h] [v] (W.alloc (.cells #[.slice h.a h.n h.c] 39)) (inv_one W h v (hv.below hb (Nat.le_refl _))) hsm (by omega) (by simp [tot, Sg.fr]; omega)
  unfold SPutRes at hpu
  have hnx := fun W (hb : Below w.heap.size w W) => snext_any (Vl.last segs) (Vl.by' D (vname (Vl.last segs))).length h.a h.n h.c v W (by omega) (by omega) (by omega) (hv.1.below hb (Nat.le_refl _))
  have hN : Sg.next (Vl.last segs) (Vl.by' D (vname (Vl.last segs))).length v = (Sg.pt (Vl.last segs) (Vl.by' D (vname (Vl.last segs))).length v, 0) := by
    rw [Sg.next, if_neg (by omega), if_pos (by rw [Sg.may_seg _ _ _ (by omega) (by omega)]; simp; omega)]
  rw [hN] at hnx
  have hps := Sg.put_small hsm
  have hap := fun W (hb : Below w.heap.size w W) ax C => vd_append2 (w1 := W) hD hb hf hb6 (vname (Vl.last segs)) ax (Sg.put [v]).length C (Sg.put [v])
  rw [← hR] at hap
  obtain ⟨k0, k1, _⟩ := hL.cells
  have hCW : Hid (∀ W, Wk B w W → W.cell? ⟨m, 0, none⟩ = some (.pointer (some ⟨p, 0, none⟩))) := (fun W h => (hL.wk h).cells.1 : ∀ W, Wk B w W → W.cell? ⟨m, 0, none⟩ = some (.pointer (some ⟨p, 0, none⟩)))
  have hB : B ≤ w.heap.size := hD.le
  have b0 := below_alloc w (.cells #[.int .i64 0, .int .i64 0, .int .i64 0, .int .u32 0] 42)
  have hn1 : ¬ ((n : Int) = 0) := by omega
  have hq0 := heap_alloc_new w (.cells #[.int .i64 0, .int .i64 0, .int .i64 0, .int .u32 0] 42)
  have x1 := (b0.cell (p := ⟨m, 1, none⟩) (cell_lt k1)).trans k1
  obtain ⟨L, hLL⟩ : ∃ L, L = (Sg.put [v]).length := ⟨_, rfl⟩
  rw [← hLL] at hpu hap
  have HLL : Hid (L = (Sg.put [v]).length) := hLL
  clear hv hN hsm hf hR hcon hne hD hL hLL
  obtain ⟨D', er⟩ := R
  simp only at hap hq ⊢
  generalize Sg.pt (Vl.last segs) (Vl.by' D (vname (Vl.last segs))).length v = P at *
  obtain ⟨P0, P1, P2, P3⟩ := P
  simp only [pv] at hnx
  generalize (Vl.by' D (vname (Vl.last segs))).length = z at *
  generalize vname (Vl.last segs) = S at *
  generalize Vl.last segs = s at *
  go_enter Tryz.func14, Tryz.ntmps14
  go_wp2_with (first
    | (go_at_call 33; go_must (refine (hmd _ b0).mono ?_; rintro e w1 ⟨rfl, hw⟩; rw [hw]; clear hw w1))
    | (go_at_call 35; go_must (refine (hla _ b0).mono ?_; rintro e w1 ⟨rfl, hb1⟩; have hbw1 := b0.trans (hb1.mono b0.size)))
    | (go_at_call 36; go_must (refine (hpu w1 hbw1).mono ?_; rintro e w2 ⟨a2, c2, rfl, ho2, hb2⟩; have hb12 := (below_alloc w1 (.cells #[.slice h.a h.n h.c] 39)).trans (hb2.mono (by simp)); have hbw2 := hbw1.trans (hb12.mono hbw1.size)))
    | (go_at_call 25; go_must (refine (hsz _ hbw2).mono ?_; rintro e w3 ⟨rfl, hb3⟩; have hbw3 := hbw2.trans (hb3.mono hbw2.size)))
    | (go_at_call 37; go_must (refine (hnx _ hbw3).mono ?_; rintro e w4 ⟨rfl, hb4⟩; have hbw4 := hbw3.trans (hb4.mono hbw3.size))))
  have q4 := heap_alloc_new w4 (.cells #[.int .i64 P0, .int .i64 P1, .int .i64 P2, .int .u32 (P3 : Nat)] 42)
  have hb5 := below_alloc w4 (.cells #[.int .i64 P0, .int .i64 P1, .int .i64 P2, .int .u32 (P3 : Nat)] 42)
  have hbw5 := hbw4.trans (hb5.mono hbw4.size)
  have hb25 := (hb3.trans (hb4.mono hb3.size)).trans (hb5.mono (Nat.le_trans hb3.size hb4.size))
  have hb05 := (((hb1.trans (hb12.mono hb1.size)).trans (hb3.mono (Nat.le_trans hb1.size hb12.size))).trans (hb4.mono (Nat.le_trans (Nat.le_trans hb1.size hb12.size) hb3.size))).trans (hb5.mono (Nat.le_trans (Nat.le_trans (Nat.le_trans hb1.size hb12.size) hb3.size) hb4.size))
  have hR5 := (hb05.block _ (by simp)).trans hq0
  have hb9 : w.heap.size < w4.heap.size := Nat.lt_of_lt_of_le (by simp) (Nat.le_trans hb1.size (Nat.le_trans hb12.size (Nat.le_trans hb3.size hb4.size)))
  have k5 := (hbw5.cell (p := ⟨m, 0, none⟩) (cell_lt k0)).trans k0
  obtain ⟨hrow5, hnil5, _⟩ := row_of_owns (owns_below ho2 hb25) (fun x hx => hps x hx) (by have := HLL.out; omega)
  have hax5 : ∀ g o, a2 = some ⟨g, o, none⟩ → w.heap.size ≤ g ∧ g < (w4.alloc (.cells #[.int .i64 P0, .int .i64 P1, .int .i64 P2, .int .u32 (P3 : Nat)] 42)).heap.size := fun g o e => by
    subst e
    rcases ho2.2 with ⟨e, _⟩ | ⟨g', cap, cur, e, hg, hc, _⟩
    · cases e
    · cases e
      exact ⟨Nat.le_trans hbw1.size (Nat.le_trans (by simp) hg), Nat.lt_of_lt_of_le (heap_lt hc) hb25.size⟩
  clear hmd hla hpu hsz hnx
  generalize hW5 : w4.alloc (.cells #[.int .i64 P0, .int .i64 P1, .int .i64 P2, .int .u32 (P3 : Nat)] 42) = W5 at *
  have hl9 := heap_lt q4
  clear hW5
  generalize w4.heap.size = b9 at *
  go_region_held3 (fun W => W.cell? ⟨m, 0, none⟩ = some (.pointer (some ⟨p, 0, none⟩))) (first | go_keep | assumption)
    (first
      | (go_at_call 39; (with_reducible refine vworld W5.drew ?_); refine (hnm _ (bd1 hbw5)).mono ?_; rintro e w6 ⟨rfl, hb6'⟩; have hb56 : Below W5.heap.size W5 w6 := below_of_drew hb6'; have hbw6 := hbw5.trans (hb56.mono hbw5.size); have k6 := (hb56.cell (p := ⟨m, 0, none⟩) (cell_lt k5)).trans k5)
      | (go_at_call 38; (with_reducible refine vworld w6 ?_); refine (hap w6 hbw6 a2 c2 (hrow5.below hb56 (Nat.le_refl _)) hnil5 (fun g o e => ⟨(hax5 g o e).1, Nat.lt_of_lt_of_le (hax5 g o e).2 hb56.size⟩)).mono ?_; rintro e w7 ⟨rfl, hv7, hwk7, hnew7⟩; have k7 := hCW.out _ hwk7))
  have r7 := (hnew7 _ (Nat.le_refl _) (Nat.lt_of_lt_of_le (heap_lt hR5) hb56.size)).trans ((hb56.block _ (heap_lt hR5)).trans hR5)
  have s7 := (hnew7 b9 (Nat.le_of_lt hb9) (Nat.lt_of_lt_of_le hl9 hb56.size)).trans ((hb56.block _ hl9).trans q4)
  obtain ⟨r0, r1, r2, r3, rf⟩ := pbox_cells (q := Po.zero) r7
  obtain ⟨s0, s1, s2, s3, sf⟩ := pbox_cells (q := (P0, P1, P2, P3)) s7
  simp only at s0 s1 s2 s3
  simp only [Po.zero] at r0 r1 r2 r3
  by_cases he : er = 0
  · subst he
    rw [if_pos rfl] at hq
    subst hq
    go_wp2
    refine bodyPost_ret (v := .tuple #[pv (P0, P1, P2, P3), .int .i64 0]) (by simp [pv, results, Tryz.results14, go_sem, r0, r1, r2, r3]) rfl ⟨rfl, vres4 hv7 hwk7 hB r7 _ _ _ _⟩
  · rw [if_neg he] at hq
    subst hq
    have he1 : (er == 0) = false := by simp [he]
    go_wp2
    refine bodyPost_ret (v := .tuple #[pv Po.zero, .int .i64 er]) (by simp [pv, Po.zero, results, Tryz.results14, go_sem, r0, r1, r2, r3]) rfl ⟨rfl, vres4 hv7 hwk7 hB r7 _ _ _ _⟩

set_option maxRecDepth 100000 in
/-- of no segments -/
theorem vput_none (hL : LgAt B w m p a n c segs) (he : segs = []) (va : Option Addr) (vn vc : Nat) :
    Calls Tryz.prog 14 #[.pointer (some ⟨m, 0, none⟩), .slice va vn vc] w fun e w' => e = .returned (.tuple #[pv Po.zero, .int .i64 11]) ∧ Below w.heap.size w w' := by
  have b0 := below_alloc w (.cells #[.int .i64 0, .int .i64 0, .int .i64 0, .int .u32 0] 42)
  have hmd := fun W (hb : Below w.heap.size w W) => vmade_any (hL.keep hb)
  obtain ⟨_, k1, _⟩ := hL.cells
  have hn0 : n = 0 := by have := hL.len; rw [he] at this; exact this.1.symm
  subst hn0
  have x1 := (b0.cell (p := ⟨m, 1, none⟩) (cell_lt k1)).trans k1
  clear hL he
  go_enter Tryz.func14, Tryz.ntmps14
  go_wp2_with (go_at_call 33; go_must (refine (hmd _ b0).mono ?_; rintro e w1 ⟨rfl, hw⟩; rw [hw]; clear hw w1))
  refine bodyPost_ret (v := .tuple #[pv Po.zero, .int .i64 11]) (by simp [pv, Po.zero, results, Tryz.results14, go_sem]) rfl ⟨rfl, ?_⟩
  first | exact b0 | exact below_four b0 _ _ _ _
set_option maxRecDepth 100000 in
set_option maxHeartbeats 1000000 in
/-- of a value that is too long -/
theorem vput_big (hL : LgAt B w m p a n c segs) (hne : segs ≠ []) (h : VH) (hn : 4096 < h.n) (hn2 : h.n ≤ 1000000) :
    Calls Tryz.prog 14 #[.pointer (some ⟨m, 0, none⟩), .slice h.a h.n h.c] w fun e w' => e = .returned (.tuple #[pv Po.zero, .int .i64 6]) ∧ Below w.heap.size w w' := by
  have b0 := below_alloc w (.cells #[.int .i64 0, .int .i64 0, .int .i64 0, .int .u32 0] 42)
  have hq0 := heap_alloc_new w (.cells #[.int .i64 0, .int .i64 0, .int .i64 0, .int .u32 0] 42)
  have hln := hL.len
  have hn0 : n ≠ 0 := fun e => hne (List.length_eq_zero_iff.1 (by omega))
  have hn1 : ¬ ((n : Int) = 0) := by omega
  have hmd := fun W (hb : Below w.heap.size w W) => vmade_any (hL.keep hb)
  have hla := fun W (hb : Below w.heap.size w W) => vlast_any (hL.keep hb) _ rfl
  have hpu := fun W (_ : Below w.heap.size w W) => sput_big (W.alloc (.cells #[.slice h.a h.n h.c] 39)) W.heap.size h (lit_v W h rfl) hn hn2
  obtain ⟨_, k1, _⟩ := hL.cells
  have x1 := (b0.cell (p := ⟨m, 1, none⟩) (cell_lt k1)).trans k1
  clear hL hne
  go_enter Tryz.func14, Tryz.ntmps14
  go_wp2_with (first
    | (go_at_call 33; go_must (refine (hmd _ b0).mono ?_; rintro e w1 ⟨rfl, hw⟩; rw [hw]; clear hw w1))
    | (go_at_call 35; go_must (refine (hla _ b0).mono ?_; rintro e w1 ⟨rfl, hb1⟩; have hbw1 := b0.trans (hb1.mono b0.size)))
    | (go_at_call 36; go_must (refine (hpu w1 hbw1).mono ?_; rintro e w2 ⟨rfl, hb2⟩; have hb12 := (below_alloc w1 (.cells #[.slice h.a h.n h.c] 39)).trans (hb2.mono (by simp)); have hbw2 := hbw1.trans (hb12.mono hbw1.size); have r2 := ((hb1.trans (hb12.mono hb1.size)).block _ (by simp)).trans hq0; obtain ⟨r0, r1, r2', r3, rf⟩ := pbox_cells (q := Po.zero) r2; simp only [Po.zero] at r0 r1 r2' r3)))
  refine bodyPost_ret (v := .tuple #[pv Po.zero, .int .i64 6]) (by simp [pv, Po.zero, results, Tryz.results14, go_sem, r0, r1, r2', r3]) rfl ⟨rfl, ?_⟩
  first | exact hbw2 | exact below_four hbw2 _ _ _ _
end
end Go.Proofs.YtnoknmnbfkdccaaGreatDoor
