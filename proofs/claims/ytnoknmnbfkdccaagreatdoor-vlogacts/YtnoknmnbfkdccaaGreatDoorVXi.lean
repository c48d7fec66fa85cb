/- The reference's Put. -/
import Derived.Test.YtnoknmnbfkdccaaGreatDoorVXg
import Derived.Test.YtnoknmnbfkdccaaGreatDoorSGf
import Derived.Deep.DeepCutAuto
namespace Go.Proofs.YtnoknmnbfkdccaaGreatDoor
open Go.RowKit Go.Shelf

theorem tcells_set (rows : List VH) : ∀ (k : Nat) (r : VH), (tcells vhe rows).set k (.slice r.a r.n r.c) = tcells vhe (rows.set k r) := by
  induction rows with
  | nil => intro k r; rfl
  | cons x l ih =>
    intro k r
    cases k with
    | zero => rfl
    | succ k =>
      have e : tcells vhe (x :: l) = (.slice x.a x.n x.c) :: tcells vhe l := rfl
      rw [e, List.set_cons_succ, ih k r]; rfl
theorem vals_last (vals : List (List (List Nat))) (k n : Nat) (hn : n = k + 1) (hl : vals.length = n) (x : List (List Nat)) (i : Nat) (hi : i < n) : (i < k ∧ (vals.take k ++ [x]).getD i [] = vals.getD i []) ∨ (i = k ∧ (vals.take k ++ [x]).getD i [] = x) := by
  have ht : (vals.take k).length = k := by rw [List.length_take]; omega
  rcases Nat.lt_or_ge i k with h | h
  · refine .inl ⟨h, ?_⟩
    simp only [List.getD_eq_getElem?_getD]; rw [List.getElem?_append_left (by omega), List.getElem?_take_of_lt h]
  · obtain rfl : i = k := by omega
    refine .inr ⟨rfl, ?_⟩
    simp only [List.getD_eq_getElem?_getD]; rw [List.getElem?_append_right (by omega), ht, Nat.sub_self]; rfl
theorem SV.add {B B6 : Nat} {w W : World} {hs : List VH} {vs : List (List Nat)} {r : VH} {A6 : Option Addr} {L C6 : Nat} (hi : InV w r.a r.n r.c hs vs) (hlo : ∀ h ∈ hs, ∀ b o, h.a = some ⟨b, o, none⟩ → 0 < h.n → b < B) (hb : Below w.heap.size w W) (hL : r.n = L) (h : VH) (v : List Nat) (hv : VAt w h v) (hlow : ∀ b o, h.a = some ⟨b, o, none⟩ → 0 < h.n → b < B)
    (ho : W.ownsRow B6 39 1 (.slice A6 (L + 1) C6) (L + 1) (tcells vhe (hs ++ [h]))) (h6 : (A6 = none → L + 1 = 0 ∧ C6 = 0) ∧ L + 1 ≤ C6) (hn : L ≤ 1000000) : SV B W ⟨A6, L + 1, C6⟩ (vs ++ [v]) := by
  have hl : hs.length = L := hi.1.1.trans hL
  have hvl : vs.length = L := hi.len.trans hL
  refine ⟨⟨hs ++ [h], ⟨trow_of_owns vhE ho (by omega) (by show L + 1 ≤ _; omega), ⟨by simp [hl, hvl], fun i hil => ?_⟩, h6⟩, fun x hx => ?_⟩, Ap.own ho⟩
  · rcases snoc_get hs h vhz i L hl (by simp [hl] at hil; omega) with ⟨a1, a2⟩ | ⟨a1, a2⟩
    · rcases snoc_get vs v [] i L hvl (by omega) with ⟨_, b2⟩ | ⟨b1, _⟩
      · rw [a2, b2]; exact (hi.2.1.2 i (by omega)).below hb (Nat.le_refl _)
      · omega
    · rcases snoc_get vs v [] i L hvl (by omega) with ⟨b1, _⟩ | ⟨_, b2⟩
      · omega
      · rw [a2, b2]; exact hv.below hb (Nat.le_refl _)
  · rcases List.mem_append.1 hx with h' | h'
    · exact hlo x h'
    · have : x = h := by simpa using h'
      subst this; exact hlow
theorem RL.put' {B B4 : Nat} {w W : World} {sa va : Option Addr} {n sc vc k g4 C4 : Nat} {segs : List Int} {vals : List (List (List Nat))} {rows : List VH} (hR : RL B w sa n sc va vc segs vals) (hkn : n = k + 1) (hB : B ≤ w.heap.size) (hn : n ≤ 1000) (hb : Below w.heap.size w W)
    (hv3 : ∀ i, i < n → SV B w (rows.getD i vhz) (vals.getD i [])) (hrl : rows.length = n) (r : VH) (x : List (List Nat)) (hx : SV B W r x) (ho : W.ownsRow B4 48 1 (.slice (some ⟨g4, 0, none⟩) n C4) n (tcells vhe (rows.set k r))) (hC : n ≤ C4) :
    RL B W sa n sc (some ⟨g4, 0, none⟩) C4 segs (vals.take k ++ [x]) := by
  have hW : Wy B (fun _ => False) w W := Wy.of_below hB hb
  have hvl := hR.sn'.2
  have h0 := hR.wy hW fun _ _ _ _ => id
  have hl : (vals.take k ++ [x]).length = n := by rw [List.length_append, List.length_take]; simp; omega
  refine ⟨h0.sr, h0.sz, h0.sp, ⟨rows.set k r, trow_of_owns vhE ho (by omega) (by omega), hl, fun i hi => ?_⟩, ⟨(fun e => by cases e), hC⟩, Ap.own ho, by rw [hl]; exact hR.sn'.1.symm⟩
  rcases vals_last vals k n hkn hvl x i hi with ⟨h1, h2⟩ | ⟨h1, h2⟩
  · rw [h2, show (rows.set k r).getD i vhz = rows.getD i vhz by simp only [List.getD_eq_getElem?_getD]; rw [List.getElem?_set_ne (by omega)]]
    exact (hv3 i hi).wy hW
  · subst h1
    rw [h2, show (rows.set i r).getD i vhz = r by simp only [List.getD_eq_getElem?_getD]; rw [List.getElem?_set_self (by omega)]; rfl]
    exact hx
theorem OnlyIn.set {S : Nat → Prop} {w W : World} (h : OnlyIn S w W) {k : Nat} (i : Nat) (v : Value) (hk : S k) : OnlyIn S w (W.setCell ⟨k, i, none⟩ v) := h.trans (only_set W k i v (Or.inl hk))
theorem OnlyIn.drew {S : Nat → Prop} {w W : World} (h : OnlyIn S w W) : OnlyIn S w W.drew := ⟨h.os, h.tape, h.output, h.size, h.block⟩
/-- two boxes of results have turned -/
theorem Wy.of_res {B x : Nat} {P : Nat → Prop} {W w9 W' : World} {c1 c2 : Array Value} {T1 T2 : TypeId} (hb : Below W.heap.size W w9) (hB : B ≤ W.heap.size) (hx : B ≤ x) (h1 : w9.heap[x + 1]? = some (.cells c1 T1 (0, 0))) (h2 : w9.heap[x + 2]? = some (.cells c2 T2 (0, 0)))
    (t1 : T1 ≠ 3 ∧ T1 ≠ 48 ∧ T1 ≠ 39) (t2 : T2 ≠ 3 ∧ T2 ≠ 48 ∧ T2 ≠ 39) (ho : OnlyIn (fun k => k = x + 1 ∨ k = x + 2) w9 W') : Wy B P W W' := by
  refine ⟨(hb.mono hB).trans (ho.below (Nat.le_trans hB hb.size) (fun k hk => by rcases hk with rfl | rfl <;> omega)), fun k cs T hk hc ht => ?_⟩
  have h9 := (hb.block k (heap_lt hc)).trans hc
  refine (ho.block k (heap_lt h9) ?_).trans (hb.block k (heap_lt hc))
  rintro (rfl | rfl)
  · rw [h9] at h1
    simp only [Option.some.injEq, Obj.cells.injEq] at h1
    obtain ⟨_, rfl, _⟩ := h1
    rcases ht with ⟨ht, _⟩ | ht | ht
    · exact t1.1 ht
    · exact t1.2.1 ht
    · exact t1.2.2 ht
  · rw [h9] at h2
    simp only [Option.some.injEq, Obj.cells.injEq] at h2
    obtain ⟨_, rfl, _⟩ := h2
    rcases ht with ⟨ht, _⟩ | ht | ht
    · exact t2.1 ht
    · exact t2.2.1 ht
    · exact t2.2.2 ht
section
variable {B : Nat} {w : World} {sa va : Option Addr} {sc vc : Nat} {segs : List Int} {vals : List (List (List Nat))}
set_option maxRecDepth 100000 in
set_option maxHeartbeats 8000000 in
theorem vrefput_any {k n : Nat} (hkn : n = k + 1) (hR : RL B w sa n sc va vc segs vals) (hB : B ≤ w.heap.size) (hn : n ≤ 1000) (h : VH) (v : List Nat) (hv : VAt w h v) (hlow : ∀ b o, h.a = some ⟨b, o, none⟩ → 0 < h.n → b < B) (hv4 : h.n ≤ 4096) (hinj : ∀ j, j < k → segs.getD j 0 ≠ segs.getD k 0)
    (vals2 : List (List (List Nat))) (hv2 : vals2 = vals.take k ++ [vals.getD k [] ++ [v]]) (hS : Vl.Some' vals2) (q : Po.P) (hq : q = Sg.pt (segs.getD k 0) (Sg.put (vals.getD k [])).length v) :
    Calls Tryz.prog 28 #[.agg #[.slice sa n sc, .slice va n vc], .slice h.a h.n h.c] w fun e w' => ∃ V VC, e = .returned (.tuple #[.agg #[.slice sa n sc, .slice V n VC], pv q, .int .i64 0]) ∧ RL B w' sa n sc V VC segs vals2 ∧ Below w.heap.size w w' := by
  obtain ⟨W0, hW0⟩ : ∃ W0, W0 = w.alloc (.cells #[.slice sa n sc, .slice va n vc] 34) := ⟨_, rfl⟩
  obtain ⟨W1, hW1⟩ : ∃ W1, W1 = W0.alloc (.cells #[.slice none 0 0, .slice none 0 0] 34) := ⟨_, rfl⟩
  obtain ⟨W2, hW2⟩ : ∃ W2, W2 = W1.alloc (.cells #[.int .i64 0, .int .i64 0, .int .i64 0, .int .u32 0] 42) := ⟨_, rfl⟩
  obtain ⟨z2, B2, g0, g1, g2⟩ := three_logs hW0 hW1 hW2
  obtain ⟨rows, hv1, hv2', hv3⟩ := hR.vr
  obtain ⟨sl, vl⟩ := hR.sn'
  have hvr : ∀ W, Below W2.heap.size W2 W → TRow 1 vhe vhz W va n rows := fun W hW => hv1.below (B2.trans (hW.mono B2.size)) (Nat.le_refl _)
  have hvz := hR.vz
  have e2 : W2 = ((w.alloc (.cells #[.slice sa n sc, .slice va n vc] 34)).alloc (.cells #[.slice none 0 0, .slice none 0 0] 34)).alloc (.cells #[.int .i64 0, .int .i64 0, .int .i64 0, .int .u32 0] 42) := by rw [hW2, hW1, hW0]
  obtain ⟨k0, k1, k2, k3⟩ := log_cells ((below_alloc W2 (.cells #[] 48)).block _ (by omega) |>.trans g0)
  obtain ⟨l0, l1, _, _⟩ := log_cells g0
  have i8 : k < n := by omega
  obtain ⟨⟨hs, hi0, hlo⟩, _⟩ := hv3 k i8
  have i1 : ¬ ((n : Int) = 0) := by omega
  have i2 : decide ((4096 : Int) < (h.n : Int)) = false := by simp; omega
  have i3 : ¬ ((4096 : Int) < (h.n : Int)) := by omega
  have i4 : IntKind.i64.wrap ((n : Int) - 1) = (k : Int) := by rw [IntKind.wrap_i64]; omega
  have i5 : wrap64 ((n : Int) - 1) = (k : Int) := by unfold wrap64; omega
  have i6 : (0 : Int) ≤ (k : Int) := by omega
  have i7 : (k : Int) < (n : Int) := by omega
  have HN : Hid (n = k + 1) := hkn
  have HR : Hid (RL B w sa n sc va vc segs vals) := hR
  have HS : Hid (Vl.Some' vals2) := hS
  have HV : Hid (VAt w h v) := hv
  have HLO : Hid (∀ b o, h.a = some ⟨b, o, none⟩ → 0 < h.n → b < B) := hlow
  have HQ : Hid (q = Sg.pt (segs.getD k 0) (Sg.put (vals.getD k [])).length v) := hq
  have HV2 : Hid (vals2 = vals.take k ++ [vals.getD k [] ++ [v]]) := hv2
  have HRL : Hid (segs.length = n ∧ vals.length = n ∧ rows.length = n) := ⟨sl, vl, hv1.1⟩
  have HI : Hid (∀ j, j < k → segs.getD j 0 ≠ segs.getD k 0) := hinj
  have HG : Hid (W2.heap[w.heap.size]? = some (.cells #[.slice sa n sc, .slice va n vc] 34 (0, 0)) ∧ W2.heap[w.heap.size + 1]? = some (.cells #[.slice none 0 0, .slice none 0 0] 34 (0, 0)) ∧ W2.heap[w.heap.size + 2]? = some (.cells #[.int .i64 0, .int .i64 0, .int .i64 0, .int .u32 0] 42 (0, 0))) := ⟨g0, g1, g2⟩
  have hE2 : Hid (W2 = ((w.alloc (.cells #[.slice sa n sc, .slice va n vc] 34)).alloc (.cells #[.slice none 0 0, .slice none 0 0] 34)).alloc (.cells #[.int .i64 0, .int .i64 0, .int .i64 0, .int .u32 0] 42)) := e2
  have HSV : Hid (∀ i, i < n → SV B w (rows.getD i vhz) (vals.getD i [])) := hv3
  have HHL : Hid (∀ h ∈ hs, ∀ b o, h.a = some ⟨b, o, none⟩ → 0 < h.n → b < B) := hlo
  obtain ⟨X, hX0⟩ : ∃ X, X = rows.getD k vhz := ⟨_, rfl⟩
  rw [← hX0] at hi0
  have hX : Hid (X = rows.getD k vhz) := hX0
  clear hX0
  obtain ⟨A, L, C⟩ := X
  simp only at hi0
  have hcnt : L ≤ 1000 := by
    have h1 := hS.cnt (vals.getD k [] ++ [v]) (by rw [hv2]; simp)
    have h2 := hi0.len
    rw [List.length_append] at h1; simp only [List.length_singleton] at h1; omega
  rw [e2] at k0 k1 k2 k3 l0 l1
  have bz : Below W2.heap.size W2 (W2.alloc (.cells #[] 48)) := below_alloc _ _
  clear e2 hkn hq hv2 sl vl hv2' hinj g0 g1 g2 hR hS hv hlow hv3 hlo
  go_enter Tryz.func28, Tryz.ntmps28
  go_upto_region 7 with (first
    | (at_builtin; rw [← hE2.out]; refine append_tg valsE vhE (w0 := W2) (B := W2.heap.size) rfl (.tmp 22) (.tmp 24) rfl _ 0 [] rfl (made_t W2 (Nat.le_refl _) (by omega)) va n vc rows rfl (hvr _ bz) hvz.1 (by omega) bz (by simp) ?_; intro V4 C4 w4 hg4 hl4 hn4 _ ho4 hb4 hs4; rw [Nat.zero_add, List.nil_append] at ho4; rw [Nat.zero_add]; have h40 := (hb4.block _ (by omega)).trans HG.out.1; obtain ⟨b40, b41, f40, f41⟩ := log_cells h40))
  have h4U := Go.Joins.block_setCell h40 (.slice V4 n C4) (i := 1)
  have hoU := ho4.kept (turned_set w4 w.heap.size 1 (.slice V4 n C4)) (.inr (vobr h40 ho4 (by decide)).symm)
  have hb4w : Below w.heap.size w (w4.setCell ⟨w.heap.size, 1, none⟩ (.slice V4 n C4)) := (B2.trans (hb4.mono B2.size)).setCell (p := ⟨w.heap.size, 1, none⟩) (Nat.le_refl _) _
  have hszU : (w4.setCell ⟨w.heap.size, 1, none⟩ (.slice V4 n C4)).heap.size = w4.heap.size := by simp
  have HGU : Hid ((w4.setCell ⟨w.heap.size, 1, none⟩ (.slice V4 n C4)).heap[w.heap.size + 1]? = some (.cells #[.slice none 0 0, .slice none 0 0] 34 (0, 0)) ∧ (w4.setCell ⟨w.heap.size, 1, none⟩ (.slice V4 n C4)).heap[w.heap.size + 2]? = some (.cells #[.int .i64 0, .int .i64 0, .int .i64 0, .int .u32 0] 42 (0, 0))) := ⟨(set_other _ _ _ _ (by omega)).trans ((hb4.block _ (by omega)).trans HG.out.2.1), (set_other _ _ _ _ (by omega)).trans ((hb4.block _ (by omega)).trans HG.out.2.2)⟩
  obtain ⟨U, hU⟩ : ∃ U, U = w4.setCell ⟨w.heap.size, 1, none⟩ (.slice V4 n C4) := ⟨_, rfl⟩
  obtain ⟨g4, hg4'⟩ := town_blk hoU (by omega)
  subst hg4'
  have hbx : U.heap[w.heap.size]? = some (.cells #[.slice sa n sc, .slice (some ⟨g4, 0, none⟩) n C4] 34 (0, 0)) := by rw [hU]; exact h4U
  rw [← hU] at hoU hb4w hszU HGU
  rw [← hU]
  have hUs : Hid (U.heap.size = w4.heap.size) := hszU
  clear hszU
  clear hU h4U hg4 hn4 h40 b40 b41 f40 f41 ho4 hs4 hb4 k0 k1 k2 k3 l0 l1 bz hvr hvz
  obtain ⟨cu, hcu⟩ := own_blk hoU (g := g4) rfl
  have hg4U := heap_lt hcu
  have hg4w : w.heap.size + 2 < g4 := by have := (own_lt hoU).2; omega
  have hrU := trow_of_owns (d := vhz) vhE hoU (by omega) (by omega)
  obtain ⟨b', o', e', hcells⟩ := hrU.at (by omega)
  simp only [Option.some.injEq, Addr.mk.injEq, and_true] at e'
  obtain ⟨rfl, rfl⟩ := e'
  have hck := hcells k (by omega) 0 _ rfl
  rw [Nat.mul_one, Nat.zero_add, ← hX.out] at hck
  have hck2 : U.cell? ⟨g4, k, none⟩ = some (.slice A L C) := hck
  have hiU := hi0.below hb4w (Nat.le_refl _)
  have HI0 : Hid (InV w A L C hs (vals.getD k [])) := hi0
  have hrow := hiU.1
  have hnil := hiU.2.2.1
  have HCU : Hid (U.heap[g4]? = some (.cells cu 48 (0, 0))) := hcu
  have hbxg : w.heap.size ≠ g4 := by omega
  have HBX : Hid (U.heap[w.heap.size]? = some (.cells #[.slice sa n sc, .slice (some ⟨g4, 0, none⟩) n C4] 34 (0, 0))) := hbx
  obtain ⟨b0U, b1U, _, _⟩ := log_cells hbx
  clear hcells hck hiU hi0 hrU hv1 hcu hbx
  go_cut [] (fun wx => ∃ (A6 : Option Addr) (C6 : Nat) (w6 : World), wx = w6.setCell ⟨g4, k, none⟩ (.slice A6 (L + 1) C6) ∧ Hid (w6.ownsRow U.heap.size 39 1 (.slice A6 (L + 1) C6) (L + 1) (tcells vhe (hs ++ [h]))) ∧ Hid (Below U.heap.size U w6) ∧ Hid ((A6 = none → L + 1 = 0 ∧ C6 = 0) ∧ L + 1 ≤ C6))
  case first =>
    have be := below_alloc U (.cells #[] 39)
    have bl := below_alloc U (.cells #[.slice h.a h.n h.c] 39)
    have bel : Below U.heap.size U ((U.alloc (.cells #[] 39)).alloc (.cells #[.slice h.a h.n h.c] 39)) := bal be _
    have ble : Below U.heap.size U ((U.alloc (.cells #[.slice h.a h.n h.c] 39)).alloc (.cells #[] 39)) := bal bl _
    have ma0 := (be.cell (p := ⟨w.heap.size, 1, none⟩) (cell_lt b1U)).trans b1U
    have mb0 := (be.cell (p := ⟨g4, k, none⟩) (cell_lt hck2)).trans hck2
    have ma1 := (bl.cell (p := ⟨w.heap.size, 1, none⟩) (cell_lt b1U)).trans b1U
    have mb1 := (bl.cell (p := ⟨g4, k, none⟩) (cell_lt hck2)).trans hck2
    have ma2 := (bel.cell (p := ⟨w.heap.size, 1, none⟩) (cell_lt b1U)).trans b1U
    have mb2 := (bel.cell (p := ⟨g4, k, none⟩) (cell_lt hck2)).trans hck2
    have ma3 := (ble.cell (p := ⟨w.heap.size, 1, none⟩) (cell_lt b1U)).trans b1U
    have mb3 := (ble.cell (p := ⟨g4, k, none⟩) (cell_lt hck2)).trans hck2
    refine wp_region_held_drew (S := (fun W => W.cell? ⟨w.heap.size, 1, none⟩ = some (.slice (some ⟨g4, 0, none⟩) n C4))) (by kernel_rfl) (by first | assumption | go_keep) (fun hHeld => ?_)
    refine wpAnyH_take (i := 0) (oi := ⟨some 27, _, _, _, _, _⟩) (v := ?_) rfl (by kernel_rfl) (by kernel_rfl) (by kernel_rfl) (fun _ _ _ h => h) (Or.inl ⟨by rfl, ?_⟩) (by assumption) ?_
    rotate_left
    · intro w hSw; (try dsimp only at hSw); go_simp <;> (try with_reducible rfl)
    go_frame
    refine wpAnyH_take (i := 1) (oi := ⟨some 28, _, _, _, _, _⟩) (v := ?_) rfl (by kernel_rfl) (by kernel_rfl) (by kernel_rfl) (fun _ _ _ h => h) (Or.inl ⟨by rfl, ?_⟩) (by assumption) ?_
    rotate_left
    · intro w hSw; (try dsimp only at hSw); go_simp <;> (try with_reducible rfl)
    go_frame
    refine wpAnyH_take (i := 2) (oi := ⟨some 29, _, _, _, _, _⟩) (v := ?_) rfl (by kernel_rfl) (by kernel_rfl) (by kernel_rfl) (fun _ _ _ h => h) (Or.inl ⟨by rfl, ?_⟩) (by assumption) ?_
    rotate_left
    · intro w hSw; (try dsimp only at hSw); go_simp <;> (try with_reducible rfl)
    go_frame
    refine wpAnyH_take (i := 3) (oi := ⟨some 30, _, _, _, _, _⟩) (v := ?_) rfl (by kernel_rfl) (by kernel_rfl) (by kernel_rfl) (fun _ _ _ h => h) (Or.inl ⟨by rfl, ?_⟩) (by assumption) ?_
    rotate_left
    · intro w hSw; (try dsimp only at hSw); go_simp <;> (try with_reducible rfl)
    go_frame
    refine wpAnyH_take (i := 5) (oi := ⟨some 32, _, _, _, _, _⟩) (v := ?_) rfl (by kernel_rfl) (by kernel_rfl) (by kernel_rfl) (fun _ _ _ h => h) (Or.inl ⟨by rfl, ?_⟩) (by assumption) ?_
    rotate_left
    · intro w hSw; (try dsimp only at hSw); go_simp <;> (try with_reducible rfl)
    go_frame
    refine wpAnyH_take (i := 6) (oi := ⟨some 33, _, _, _, _, _⟩) (v := ?_) rfl (by kernel_rfl) (by kernel_rfl) (by kernel_rfl) (fun _ _ _ h => h) (Or.inl ⟨by rfl, ?_⟩) (by assumption) ?_
    rotate_left
    · intro w hSw; (try dsimp only at hSw); go_simp <;> (try with_reducible rfl)
    go_frame
    refine wpAnyH_take (i := 7) (oi := ⟨some 34, _, _, _, _, _⟩) (v := ?_) rfl (by kernel_rfl) (by kernel_rfl) (by kernel_rfl) (fun _ _ _ h => h) (Or.inl ⟨by rfl, ?_⟩) (by assumption) ?_
    rotate_left
    · intro w hSw; (try dsimp only at hSw); go_simp <;> (try with_reducible rfl)
    go_frame
    refine wpAnyH_take (i := 8) (oi := ⟨some 35, _, _, _, _, _⟩) (v := ?_) rfl (by kernel_rfl) (by kernel_rfl) (by kernel_rfl) (fun _ _ _ h => h) (Or.inl ⟨by rfl, ?_⟩) (by assumption) ?_
    rotate_left
    · intro w hSw; (try dsimp only at hSw); go_simp <;> (try with_reducible rfl)
    go_frame
    refine wpAnyH_take (i := 9) (oi := ⟨some 36, _, _, _, _, _⟩) (v := ?_) rfl (by kernel_rfl) (by kernel_rfl) (by kernel_rfl) (fun _ _ _ h => h) (Or.inl ⟨by rfl, ?_⟩) (by assumption) ?_
    rotate_left
    · intro w hSw; (try dsimp only at hSw); go_simp <;> (try with_reducible rfl)
    go_frame
    refine wpAnyH_take (i := 12) (oi := ⟨some 39, _, _, _, _, _⟩) (v := ?_) rfl (by kernel_rfl) (by kernel_rfl) (by kernel_rfl) (fun _ _ _ h => h) (Or.inl ⟨by rfl, ?_⟩) (by assumption) ?_
    rotate_left
    · intro w hSw; (try dsimp only at hSw); go_simp <;> (try with_reducible rfl)
    go_frame
    refine wpAnyH_ready (rs := [4, 10, 13]) (by kernel_rfl) (by simp) ?_
    refine AllReadyH.cons rfl (fun K hK => ?_) (AllReadyH.cons rfl (fun K hK => ?_) (AllReadyH.cons rfl (fun K hK => ?_) AllReadyH.nil))
    · skip
      go_simp
      refine hK.out _ _ (by first | assumption | go_keep) (fun hHeld => ?_)
      clear hK K
      refine wpAnyH_ready (rs := [10, 13]) (by kernel_rfl) (by simp) ?_
      refine AllReadyH.cons rfl (fun K hK => ?_) (AllReadyH.cons rfl (fun K hK => ?_) AllReadyH.nil)
      · skip
        go_simp
        refine hK.out _ _ (by first | assumption | go_keep) (fun hHeld => ?_)
        clear hK K
        refine wpAnyH_ready (rs := [11, 13]) (by kernel_rfl) (by simp) ?_
        refine AllReadyH.cons rfl (fun K hK => ?_) (AllReadyH.cons rfl (fun K hK => ?_) AllReadyH.nil)
        · skip
          refine step_tg valE vhE (w0 := U) (B := U.heap.size) (w := (U.alloc (.cells #[] 39)).drew) (by rfl) _ _ (by rfl) _ 0 [] (by rfl) (show World.ownsRow _ _ _ _ (.slice (some ⟨U.heap.size, 0, none⟩) 0 0) _ (tcells vhe []) from made_t U (Nat.le_refl _) rfl) A L C hs (by rfl) (hrow.below be.drew (Nat.le_refl _)) hnil (by omega) be.drew (by simp <;> omega) ?_; intro A5 C5 w5 hg5 _ _ ho5 hb5; rw [Nat.zero_add, List.nil_append] at ho5; rw [Nat.zero_add]; have u5 := (hb5.cell (p := ⟨w.heap.size, 1, none⟩) (cell_lt b1U)).trans b1U; have u5l := ((below_alloc w5 (.cells #[.slice h.a h.n h.c] 39)).cell (p := ⟨w.heap.size, 1, none⟩) (cell_lt u5)).trans u5; have v5 := (hb5.cell (p := ⟨g4, k, none⟩) (cell_lt hck2)).trans hck2
          refine hK.out _ _ (by first | assumption | go_keep) (fun hHeld => ?_)
          clear hK K
          try go_frame
          refine wpAnyH_ready (rs := [13]) (by kernel_rfl) (by simp) ?_
          refine AllReadyH.cons rfl (fun K hK => ?_) AllReadyH.nil
          go_simp
          refine hK.out _ _ (by first | assumption | go_keep) (fun hHeld => ?_)
          clear hK K
          refine wpAnyH_ready (rs := [14]) (by kernel_rfl) (by simp) ?_
          refine AllReadyH.cons rfl (fun K hK => ?_) AllReadyH.nil
          refine step_tg valE vhE (w0 := U) (B := U.heap.size) (w := w5.alloc (.cells #[.slice h.a h.n h.c] 39)) (by rfl) _ _ (by rfl) _ L hs (by rfl) (ho5.alloc _) (some ⟨w5.heap.size, 0, none⟩) 1 1 [h] (by rfl) (lit_v w5 h rfl) (fun h => by cases h) (by omega) (bal hb5 _) (by simp; have := hb5.size; omega) ?_; intro A6 C6 w6 hg6 hl6 hn6 ho6 hb6; have u6 := (hb6.cell (p := ⟨w.heap.size, 1, none⟩) (cell_lt b1U)).trans b1U; have f6 : w6.frozen? ⟨g4, k, none⟩ = false := Go.Joins.unfrozen_of_block ((hb6.block _ hg4U).trans HCU.out) k; have v6 := (hb6.cell (p := ⟨g4, k, none⟩) (cell_lt hck2)).trans hck2; have u7 := (set_other w6 g4 k (.slice A6 (L + 1) C6) hbxg); have u8 := (cell_same (o := 1) u7).trans u6
          refine hK.out _ _ (by first | assumption | go_keep) (fun hHeld => ?_)
          clear hK K
          try go_frame
          refine wpAnyH_take (i := 15) (oi := ⟨some 42, _, _, _, _, _⟩) (v := ?_) rfl (by kernel_rfl) (by kernel_rfl) (by kernel_rfl) (fun _ _ _ h => h) (Or.inl ⟨by rfl, ?_⟩) (by assumption) ?_
          rotate_left
          · intro w hSw; (try dsimp only at hSw); go_simp <;> (try with_reducible rfl)
          go_frame
          refine wpAnyH_ready (rs := [16]) (by kernel_rfl) (by simp) ?_
          refine AllReadyH.cons rfl (fun K hK => ?_) AllReadyH.nil
          go_simp
          refine hK.out _ _ (by first | assumption | go_keep) (fun hHeld => ?_)
          clear hK K
          refine wpAnyH_done (by kernel_rfl) ?_ _
          go_wp2_with fail
          go_meet
          case rel => exact ⟨A6, C6, w6, rfl, ho6, hb6, hn6, hl6⟩
        · skip
          go_simp
          refine hK.out _ _ (by first | assumption | go_keep) (fun hHeld => ?_)
          clear hK K
          refine wpAnyH_ready (rs := [11]) (by kernel_rfl) (by simp) ?_
          refine AllReadyH.cons rfl (fun K hK => ?_) AllReadyH.nil
          refine step_tg valE vhE (w0 := U) (B := U.heap.size) (w := ((U.alloc (.cells #[] 39)).alloc (.cells #[.slice h.a h.n h.c] 39)).drew) (by rfl) _ _ (by rfl) _ 0 [] (by rfl) (show World.ownsRow _ _ _ _ (.slice (some ⟨U.heap.size, 0, none⟩) 0 0) _ (tcells vhe []) from (made_t U (Nat.le_refl _) rfl).alloc _) A L C hs (by rfl) (hrow.below bel.drew (Nat.le_refl _)) hnil (by omega) bel.drew (by simp <;> omega) ?_; intro A5 C5 w5 hg5 _ _ ho5 hb5; rw [Nat.zero_add, List.nil_append] at ho5; rw [Nat.zero_add]; have hlit5 := trow_grown (show TRow 1 vhe vhz ((U.alloc (.cells #[] 39)).alloc (.cells #[.slice h.a h.n h.c] 39)).drew (some ⟨U.heap.size + 1, 0, none⟩) 1 [h] from lit_v (U.alloc (.cells #[] 39)) h (by simp)) hg5 (by simp [Value.ownBlock]); have u5 := (hb5.cell (p := ⟨w.heap.size, 1, none⟩) (cell_lt b1U)).trans b1U; have u5l := ((below_alloc w5 (.cells #[.slice h.a h.n h.c] 39)).cell (p := ⟨w.heap.size, 1, none⟩) (cell_lt u5)).trans u5; have v5 := (hb5.cell (p := ⟨g4, k, none⟩) (cell_lt hck2)).trans hck2
          refine hK.out _ _ (by first | assumption | go_keep) (fun hHeld => ?_)
          clear hK K
          try go_frame
          refine wpAnyH_ready (rs := [14]) (by kernel_rfl) (by simp) ?_
          refine AllReadyH.cons rfl (fun K hK => ?_) AllReadyH.nil
          refine step_tg valE vhE (w0 := U) (B := U.heap.size) (w := w5) (by rfl) _ _ (by rfl) _ L hs (by rfl) ho5 _ 1 1 [h] (by rfl) hlit5 (fun h => by cases h) (by omega) hb5 hb5.size ?_; intro A6 C6 w6 hg6 hl6 hn6 ho6 hb6; have u6 := (hb6.cell (p := ⟨w.heap.size, 1, none⟩) (cell_lt b1U)).trans b1U; have f6 : w6.frozen? ⟨g4, k, none⟩ = false := Go.Joins.unfrozen_of_block ((hb6.block _ hg4U).trans HCU.out) k; have v6 := (hb6.cell (p := ⟨g4, k, none⟩) (cell_lt hck2)).trans hck2; have u7 := (set_other w6 g4 k (.slice A6 (L + 1) C6) hbxg); have u8 := (cell_same (o := 1) u7).trans u6
          refine hK.out _ _ (by first | assumption | go_keep) (fun hHeld => ?_)
          clear hK K
          try go_frame
          refine wpAnyH_take (i := 15) (oi := ⟨some 42, _, _, _, _, _⟩) (v := ?_) rfl (by kernel_rfl) (by kernel_rfl) (by kernel_rfl) (fun _ _ _ h => h) (Or.inl ⟨by rfl, ?_⟩) (by assumption) ?_
          rotate_left
          · intro w hSw; (try dsimp only at hSw); go_simp <;> (try with_reducible rfl)
          go_frame
          refine wpAnyH_ready (rs := [16]) (by kernel_rfl) (by simp) ?_
          refine AllReadyH.cons rfl (fun K hK => ?_) AllReadyH.nil
          go_simp
          refine hK.out _ _ (by first | assumption | go_keep) (fun hHeld => ?_)
          clear hK K
          refine wpAnyH_done (by kernel_rfl) ?_ _
          go_wp2_with fail
          go_meet
          case rel => exact ⟨A6, C6, w6, rfl, ho6, hb6, hn6, hl6⟩
      · skip
        go_simp
        refine hK.out _ _ (by first | assumption | go_keep) (fun hHeld => ?_)
        clear hK K
        refine wpAnyH_ready (rs := [10]) (by kernel_rfl) (by simp) ?_
        refine AllReadyH.cons rfl (fun K hK => ?_) AllReadyH.nil
        go_simp
        refine hK.out _ _ (by first | assumption | go_keep) (fun hHeld => ?_)
        clear hK K
        refine wpAnyH_ready (rs := [11]) (by kernel_rfl) (by simp) ?_
        refine AllReadyH.cons rfl (fun K hK => ?_) AllReadyH.nil
        refine step_tg valE vhE (w0 := U) (B := U.heap.size) (w := ((U.alloc (.cells #[] 39)).alloc (.cells #[.slice h.a h.n h.c] 39)).drew) (by rfl) _ _ (by rfl) _ 0 [] (by rfl) (show World.ownsRow _ _ _ _ (.slice (some ⟨U.heap.size, 0, none⟩) 0 0) _ (tcells vhe []) from (made_t U (Nat.le_refl _) rfl).alloc _) A L C hs (by rfl) (hrow.below bel.drew (Nat.le_refl _)) hnil (by omega) bel.drew (by simp <;> omega) ?_; intro A5 C5 w5 hg5 _ _ ho5 hb5; rw [Nat.zero_add, List.nil_append] at ho5; rw [Nat.zero_add]; have hlit5 := trow_grown (show TRow 1 vhe vhz ((U.alloc (.cells #[] 39)).alloc (.cells #[.slice h.a h.n h.c] 39)).drew (some ⟨U.heap.size + 1, 0, none⟩) 1 [h] from lit_v (U.alloc (.cells #[] 39)) h (by simp)) hg5 (by simp [Value.ownBlock]); have u5 := (hb5.cell (p := ⟨w.heap.size, 1, none⟩) (cell_lt b1U)).trans b1U; have u5l := ((below_alloc w5 (.cells #[.slice h.a h.n h.c] 39)).cell (p := ⟨w.heap.size, 1, none⟩) (cell_lt u5)).trans u5; have v5 := (hb5.cell (p := ⟨g4, k, none⟩) (cell_lt hck2)).trans hck2
        refine hK.out _ _ (by first | assumption | go_keep) (fun hHeld => ?_)
        clear hK K
        try go_frame
        refine wpAnyH_ready (rs := [14]) (by kernel_rfl) (by simp) ?_
        refine AllReadyH.cons rfl (fun K hK => ?_) AllReadyH.nil
        refine step_tg valE vhE (w0 := U) (B := U.heap.size) (w := w5) (by rfl) _ _ (by rfl) _ L hs (by rfl) ho5 _ 1 1 [h] (by rfl) hlit5 (fun h => by cases h) (by omega) hb5 hb5.size ?_; intro A6 C6 w6 hg6 hl6 hn6 ho6 hb6; have u6 := (hb6.cell (p := ⟨w.heap.size, 1, none⟩) (cell_lt b1U)).trans b1U; have f6 : w6.frozen? ⟨g4, k, none⟩ = false := Go.Joins.unfrozen_of_block ((hb6.block _ hg4U).trans HCU.out) k; have v6 := (hb6.cell (p := ⟨g4, k, none⟩) (cell_lt hck2)).trans hck2; have u7 := (set_other w6 g4 k (.slice A6 (L + 1) C6) hbxg); have u8 := (cell_same (o := 1) u7).trans u6
        refine hK.out _ _ (by first | assumption | go_keep) (fun hHeld => ?_)
        clear hK K
        try go_frame
        refine wpAnyH_take (i := 15) (oi := ⟨some 42, _, _, _, _, _⟩) (v := ?_) rfl (by kernel_rfl) (by kernel_rfl) (by kernel_rfl) (fun _ _ _ h => h) (Or.inl ⟨by rfl, ?_⟩) (by assumption) ?_
        rotate_left
        · intro w hSw; (try dsimp only at hSw); go_simp <;> (try with_reducible rfl)
        go_frame
        refine wpAnyH_ready (rs := [16]) (by kernel_rfl) (by simp) ?_
        refine AllReadyH.cons rfl (fun K hK => ?_) AllReadyH.nil
        go_simp
        refine hK.out _ _ (by first | assumption | go_keep) (fun hHeld => ?_)
        clear hK K
        refine wpAnyH_done (by kernel_rfl) ?_ _
        go_wp2_with fail
        go_meet
        case rel => exact ⟨A6, C6, w6, rfl, ho6, hb6, hn6, hl6⟩
    · skip
      go_simp
      refine hK.out _ _ (by first | assumption | go_keep) (fun hHeld => ?_)
      clear hK K
      refine wpAnyH_ready (rs := [4, 13]) (by kernel_rfl) (by simp) ?_
      refine AllReadyH.cons rfl (fun K hK => ?_) (AllReadyH.cons rfl (fun K hK => ?_) AllReadyH.nil)
      · skip
        go_simp
        refine hK.out _ _ (by first | assumption | go_keep) (fun hHeld => ?_)
        clear hK K
        refine wpAnyH_ready (rs := [11, 13]) (by kernel_rfl) (by simp) ?_
        refine AllReadyH.cons rfl (fun K hK => ?_) (AllReadyH.cons rfl (fun K hK => ?_) AllReadyH.nil)
        · skip
          refine step_tg valE vhE (w0 := U) (B := U.heap.size) (w := (U.alloc (.cells #[] 39)).drew) (by rfl) _ _ (by rfl) _ 0 [] (by rfl) (show World.ownsRow _ _ _ _ (.slice (some ⟨U.heap.size, 0, none⟩) 0 0) _ (tcells vhe []) from made_t U (Nat.le_refl _) rfl) A L C hs (by rfl) (hrow.below be.drew (Nat.le_refl _)) hnil (by omega) be.drew (by simp <;> omega) ?_; intro A5 C5 w5 hg5 _ _ ho5 hb5; rw [Nat.zero_add, List.nil_append] at ho5; rw [Nat.zero_add]; have u5 := (hb5.cell (p := ⟨w.heap.size, 1, none⟩) (cell_lt b1U)).trans b1U; have u5l := ((below_alloc w5 (.cells #[.slice h.a h.n h.c] 39)).cell (p := ⟨w.heap.size, 1, none⟩) (cell_lt u5)).trans u5; have v5 := (hb5.cell (p := ⟨g4, k, none⟩) (cell_lt hck2)).trans hck2
          refine hK.out _ _ (by first | assumption | go_keep) (fun hHeld => ?_)
          clear hK K
          try go_frame
          refine wpAnyH_ready (rs := [13]) (by kernel_rfl) (by simp) ?_
          refine AllReadyH.cons rfl (fun K hK => ?_) AllReadyH.nil
          go_simp
          refine hK.out _ _ (by first | assumption | go_keep) (fun hHeld => ?_)
          clear hK K
          refine wpAnyH_ready (rs := [14]) (by kernel_rfl) (by simp) ?_
          refine AllReadyH.cons rfl (fun K hK => ?_) AllReadyH.nil
          refine step_tg valE vhE (w0 := U) (B := U.heap.size) (w := w5.alloc (.cells #[.slice h.a h.n h.c] 39)) (by rfl) _ _ (by rfl) _ L hs (by rfl) (ho5.alloc _) (some ⟨w5.heap.size, 0, none⟩) 1 1 [h] (by rfl) (lit_v w5 h rfl) (fun h => by cases h) (by omega) (bal hb5 _) (by simp; have := hb5.size; omega) ?_; intro A6 C6 w6 hg6 hl6 hn6 ho6 hb6; have u6 := (hb6.cell (p := ⟨w.heap.size, 1, none⟩) (cell_lt b1U)).trans b1U; have f6 : w6.frozen? ⟨g4, k, none⟩ = false := Go.Joins.unfrozen_of_block ((hb6.block _ hg4U).trans HCU.out) k; have v6 := (hb6.cell (p := ⟨g4, k, none⟩) (cell_lt hck2)).trans hck2; have u7 := (set_other w6 g4 k (.slice A6 (L + 1) C6) hbxg); have u8 := (cell_same (o := 1) u7).trans u6
          refine hK.out _ _ (by first | assumption | go_keep) (fun hHeld => ?_)
          clear hK K
          try go_frame
          refine wpAnyH_take (i := 15) (oi := ⟨some 42, _, _, _, _, _⟩) (v := ?_) rfl (by kernel_rfl) (by kernel_rfl) (by kernel_rfl) (fun _ _ _ h => h) (Or.inl ⟨by rfl, ?_⟩) (by assumption) ?_
          rotate_left
          · intro w hSw; (try dsimp only at hSw); go_simp <;> (try with_reducible rfl)
          go_frame
          refine wpAnyH_ready (rs := [16]) (by kernel_rfl) (by simp) ?_
          refine AllReadyH.cons rfl (fun K hK => ?_) AllReadyH.nil
          go_simp
          refine hK.out _ _ (by first | assumption | go_keep) (fun hHeld => ?_)
          clear hK K
          refine wpAnyH_done (by kernel_rfl) ?_ _
          go_wp2_with fail
          go_meet
          case rel => exact ⟨A6, C6, w6, rfl, ho6, hb6, hn6, hl6⟩
        · skip
          go_simp
          refine hK.out _ _ (by first | assumption | go_keep) (fun hHeld => ?_)
          clear hK K
          refine wpAnyH_ready (rs := [11]) (by kernel_rfl) (by simp) ?_
          refine AllReadyH.cons rfl (fun K hK => ?_) AllReadyH.nil
          refine step_tg valE vhE (w0 := U) (B := U.heap.size) (w := ((U.alloc (.cells #[] 39)).alloc (.cells #[.slice h.a h.n h.c] 39)).drew) (by rfl) _ _ (by rfl) _ 0 [] (by rfl) (show World.ownsRow _ _ _ _ (.slice (some ⟨U.heap.size, 0, none⟩) 0 0) _ (tcells vhe []) from (made_t U (Nat.le_refl _) rfl).alloc _) A L C hs (by rfl) (hrow.below bel.drew (Nat.le_refl _)) hnil (by omega) bel.drew (by simp <;> omega) ?_; intro A5 C5 w5 hg5 _ _ ho5 hb5; rw [Nat.zero_add, List.nil_append] at ho5; rw [Nat.zero_add]; have hlit5 := trow_grown (show TRow 1 vhe vhz ((U.alloc (.cells #[] 39)).alloc (.cells #[.slice h.a h.n h.c] 39)).drew (some ⟨U.heap.size + 1, 0, none⟩) 1 [h] from lit_v (U.alloc (.cells #[] 39)) h (by simp)) hg5 (by simp [Value.ownBlock]); have u5 := (hb5.cell (p := ⟨w.heap.size, 1, none⟩) (cell_lt b1U)).trans b1U; have u5l := ((below_alloc w5 (.cells #[.slice h.a h.n h.c] 39)).cell (p := ⟨w.heap.size, 1, none⟩) (cell_lt u5)).trans u5; have v5 := (hb5.cell (p := ⟨g4, k, none⟩) (cell_lt hck2)).trans hck2
          refine hK.out _ _ (by first | assumption | go_keep) (fun hHeld => ?_)
          clear hK K
          try go_frame
          refine wpAnyH_ready (rs := [14]) (by kernel_rfl) (by simp) ?_
          refine AllReadyH.cons rfl (fun K hK => ?_) AllReadyH.nil
          refine step_tg valE vhE (w0 := U) (B := U.heap.size) (w := w5) (by rfl) _ _ (by rfl) _ L hs (by rfl) ho5 _ 1 1 [h] (by rfl) hlit5 (fun h => by cases h) (by omega) hb5 hb5.size ?_; intro A6 C6 w6 hg6 hl6 hn6 ho6 hb6; have u6 := (hb6.cell (p := ⟨w.heap.size, 1, none⟩) (cell_lt b1U)).trans b1U; have f6 : w6.frozen? ⟨g4, k, none⟩ = false := Go.Joins.unfrozen_of_block ((hb6.block _ hg4U).trans HCU.out) k; have v6 := (hb6.cell (p := ⟨g4, k, none⟩) (cell_lt hck2)).trans hck2; have u7 := (set_other w6 g4 k (.slice A6 (L + 1) C6) hbxg); have u8 := (cell_same (o := 1) u7).trans u6
          refine hK.out _ _ (by first | assumption | go_keep) (fun hHeld => ?_)
          clear hK K
          try go_frame
          refine wpAnyH_take (i := 15) (oi := ⟨some 42, _, _, _, _, _⟩) (v := ?_) rfl (by kernel_rfl) (by kernel_rfl) (by kernel_rfl) (fun _ _ _ h => h) (Or.inl ⟨by rfl, ?_⟩) (by assumption) ?_
          rotate_left
          · intro w hSw; (try dsimp only at hSw); go_simp <;> (try with_reducible rfl)
          go_frame
          refine wpAnyH_ready (rs := [16]) (by kernel_rfl) (by simp) ?_
          refine AllReadyH.cons rfl (fun K hK => ?_) AllReadyH.nil
          go_simp
          refine hK.out _ _ (by first | assumption | go_keep) (fun hHeld => ?_)
          clear hK K
          refine wpAnyH_done (by kernel_rfl) ?_ _
          go_wp2_with fail
          go_meet
          case rel => exact ⟨A6, C6, w6, rfl, ho6, hb6, hn6, hl6⟩
      · skip
        go_simp
        refine hK.out _ _ (by first | assumption | go_keep) (fun hHeld => ?_)
        clear hK K
        refine wpAnyH_ready (rs := [4]) (by kernel_rfl) (by simp) ?_
        refine AllReadyH.cons rfl (fun K hK => ?_) AllReadyH.nil
        go_simp
        refine hK.out _ _ (by first | assumption | go_keep) (fun hHeld => ?_)
        clear hK K
        refine wpAnyH_ready (rs := [11]) (by kernel_rfl) (by simp) ?_
        refine AllReadyH.cons rfl (fun K hK => ?_) AllReadyH.nil
        refine step_tg valE vhE (w0 := U) (B := U.heap.size) (w := ((U.alloc (.cells #[.slice h.a h.n h.c] 39)).alloc (.cells #[] 39)).drew) (by rfl) _ _ (by rfl) _ 0 [] (by rfl) (show World.ownsRow _ _ _ _ (.slice (some ⟨U.heap.size + 1, 0, none⟩) 0 0) _ (tcells vhe []) from made_t (U.alloc (.cells #[.slice h.a h.n h.c] 39)) (by simp) (by simp)) A L C hs (by rfl) (hrow.below ble.drew (Nat.le_refl _)) hnil (by omega) ble.drew (by simp <;> omega) ?_; intro A5 C5 w5 hg5 _ _ ho5 hb5; rw [Nat.zero_add, List.nil_append] at ho5; rw [Nat.zero_add]; have hlit5 := trow_grown (show TRow 1 vhe vhz ((U.alloc (.cells #[.slice h.a h.n h.c] 39)).alloc (.cells #[] 39)).drew (some ⟨U.heap.size, 0, none⟩) 1 [h] from (lit_v U h rfl).below (below_alloc (U.alloc (.cells #[.slice h.a h.n h.c] 39)) (.cells #[] 39)).drew (Nat.le_refl _)) hg5 (by simp [Value.ownBlock]); have u5 := (hb5.cell (p := ⟨w.heap.size, 1, none⟩) (cell_lt b1U)).trans b1U; have u5l := ((below_alloc w5 (.cells #[.slice h.a h.n h.c] 39)).cell (p := ⟨w.heap.size, 1, none⟩) (cell_lt u5)).trans u5; have v5 := (hb5.cell (p := ⟨g4, k, none⟩) (cell_lt hck2)).trans hck2
        refine hK.out _ _ (by first | assumption | go_keep) (fun hHeld => ?_)
        clear hK K
        try go_frame
        refine wpAnyH_ready (rs := [14]) (by kernel_rfl) (by simp) ?_
        refine AllReadyH.cons rfl (fun K hK => ?_) AllReadyH.nil
        refine step_tg valE vhE (w0 := U) (B := U.heap.size) (w := w5) (by rfl) _ _ (by rfl) _ L hs (by rfl) ho5 _ 1 1 [h] (by rfl) hlit5 (fun h => by cases h) (by omega) hb5 hb5.size ?_; intro A6 C6 w6 hg6 hl6 hn6 ho6 hb6; have u6 := (hb6.cell (p := ⟨w.heap.size, 1, none⟩) (cell_lt b1U)).trans b1U; have f6 : w6.frozen? ⟨g4, k, none⟩ = false := Go.Joins.unfrozen_of_block ((hb6.block _ hg4U).trans HCU.out) k; have v6 := (hb6.cell (p := ⟨g4, k, none⟩) (cell_lt hck2)).trans hck2; have u7 := (set_other w6 g4 k (.slice A6 (L + 1) C6) hbxg); have u8 := (cell_same (o := 1) u7).trans u6
        refine hK.out _ _ (by first | assumption | go_keep) (fun hHeld => ?_)
        clear hK K
        try go_frame
        refine wpAnyH_take (i := 15) (oi := ⟨some 42, _, _, _, _, _⟩) (v := ?_) rfl (by kernel_rfl) (by kernel_rfl) (by kernel_rfl) (fun _ _ _ h => h) (Or.inl ⟨by rfl, ?_⟩) (by assumption) ?_
        rotate_left
        · intro w hSw; (try dsimp only at hSw); go_simp <;> (try with_reducible rfl)
        go_frame
        refine wpAnyH_ready (rs := [16]) (by kernel_rfl) (by simp) ?_
        refine AllReadyH.cons rfl (fun K hK => ?_) AllReadyH.nil
        go_simp
        refine hK.out _ _ (by first | assumption | go_keep) (fun hHeld => ?_)
        clear hK K
        refine wpAnyH_done (by kernel_rfl) ?_ _
        go_wp2_with fail
        go_meet
        case rel => exact ⟨A6, C6, w6, rfl, ho6, hb6, hn6, hl6⟩
    · skip
      go_simp
      refine hK.out _ _ (by first | assumption | go_keep) (fun hHeld => ?_)
      clear hK K
      refine wpAnyH_ready (rs := [4, 10]) (by kernel_rfl) (by simp) ?_
      refine AllReadyH.cons rfl (fun K hK => ?_) (AllReadyH.cons rfl (fun K hK => ?_) AllReadyH.nil)
      · skip
        go_simp
        refine hK.out _ _ (by first | assumption | go_keep) (fun hHeld => ?_)
        clear hK K
        refine wpAnyH_ready (rs := [10]) (by kernel_rfl) (by simp) ?_
        refine AllReadyH.cons rfl (fun K hK => ?_) AllReadyH.nil
        go_simp
        refine hK.out _ _ (by first | assumption | go_keep) (fun hHeld => ?_)
        clear hK K
        refine wpAnyH_ready (rs := [11]) (by kernel_rfl) (by simp) ?_
        refine AllReadyH.cons rfl (fun K hK => ?_) AllReadyH.nil
        refine step_tg valE vhE (w0 := U) (B := U.heap.size) (w := ((U.alloc (.cells #[.slice h.a h.n h.c] 39)).alloc (.cells #[] 39)).drew) (by rfl) _ _ (by rfl) _ 0 [] (by rfl) (show World.ownsRow _ _ _ _ (.slice (some ⟨U.heap.size + 1, 0, none⟩) 0 0) _ (tcells vhe []) from made_t (U.alloc (.cells #[.slice h.a h.n h.c] 39)) (by simp) (by simp)) A L C hs (by rfl) (hrow.below ble.drew (Nat.le_refl _)) hnil (by omega) ble.drew (by simp <;> omega) ?_; intro A5 C5 w5 hg5 _ _ ho5 hb5; rw [Nat.zero_add, List.nil_append] at ho5; rw [Nat.zero_add]; have hlit5 := trow_grown (show TRow 1 vhe vhz ((U.alloc (.cells #[.slice h.a h.n h.c] 39)).alloc (.cells #[] 39)).drew (some ⟨U.heap.size, 0, none⟩) 1 [h] from (lit_v U h rfl).below (below_alloc (U.alloc (.cells #[.slice h.a h.n h.c] 39)) (.cells #[] 39)).drew (Nat.le_refl _)) hg5 (by simp [Value.ownBlock]); have u5 := (hb5.cell (p := ⟨w.heap.size, 1, none⟩) (cell_lt b1U)).trans b1U; have u5l := ((below_alloc w5 (.cells #[.slice h.a h.n h.c] 39)).cell (p := ⟨w.heap.size, 1, none⟩) (cell_lt u5)).trans u5; have v5 := (hb5.cell (p := ⟨g4, k, none⟩) (cell_lt hck2)).trans hck2
        refine hK.out _ _ (by first | assumption | go_keep) (fun hHeld => ?_)
        clear hK K
        try go_frame
        refine wpAnyH_ready (rs := [14]) (by kernel_rfl) (by simp) ?_
        refine AllReadyH.cons rfl (fun K hK => ?_) AllReadyH.nil
        refine step_tg valE vhE (w0 := U) (B := U.heap.size) (w := w5) (by rfl) _ _ (by rfl) _ L hs (by rfl) ho5 _ 1 1 [h] (by rfl) hlit5 (fun h => by cases h) (by omega) hb5 hb5.size ?_; intro A6 C6 w6 hg6 hl6 hn6 ho6 hb6; have u6 := (hb6.cell (p := ⟨w.heap.size, 1, none⟩) (cell_lt b1U)).trans b1U; have f6 : w6.frozen? ⟨g4, k, none⟩ = false := Go.Joins.unfrozen_of_block ((hb6.block _ hg4U).trans HCU.out) k; have v6 := (hb6.cell (p := ⟨g4, k, none⟩) (cell_lt hck2)).trans hck2; have u7 := (set_other w6 g4 k (.slice A6 (L + 1) C6) hbxg); have u8 := (cell_same (o := 1) u7).trans u6
        refine hK.out _ _ (by first | assumption | go_keep) (fun hHeld => ?_)
        clear hK K
        try go_frame
        refine wpAnyH_take (i := 15) (oi := ⟨some 42, _, _, _, _, _⟩) (v := ?_) rfl (by kernel_rfl) (by kernel_rfl) (by kernel_rfl) (fun _ _ _ h => h) (Or.inl ⟨by rfl, ?_⟩) (by assumption) ?_
        rotate_left
        · intro w hSw; (try dsimp only at hSw); go_simp <;> (try with_reducible rfl)
        go_frame
        refine wpAnyH_ready (rs := [16]) (by kernel_rfl) (by simp) ?_
        refine AllReadyH.cons rfl (fun K hK => ?_) AllReadyH.nil
        go_simp
        refine hK.out _ _ (by first | assumption | go_keep) (fun hHeld => ?_)
        clear hK K
        refine wpAnyH_done (by kernel_rfl) ?_ _
        go_wp2_with fail
        go_meet
        case rel => exact ⟨A6, C6, w6, rfl, ho6, hb6, hn6, hl6⟩
      · skip
        go_simp
        refine hK.out _ _ (by first | assumption | go_keep) (fun hHeld => ?_)
        clear hK K
        refine wpAnyH_ready (rs := [4]) (by kernel_rfl) (by simp) ?_
        refine AllReadyH.cons rfl (fun K hK => ?_) AllReadyH.nil
        go_simp
        refine hK.out _ _ (by first | assumption | go_keep) (fun hHeld => ?_)
        clear hK K
        refine wpAnyH_ready (rs := [11]) (by kernel_rfl) (by simp) ?_
        refine AllReadyH.cons rfl (fun K hK => ?_) AllReadyH.nil
        refine step_tg valE vhE (w0 := U) (B := U.heap.size) (w := ((U.alloc (.cells #[.slice h.a h.n h.c] 39)).alloc (.cells #[] 39)).drew) (by rfl) _ _ (by rfl) _ 0 [] (by rfl) (show World.ownsRow _ _ _ _ (.slice (some ⟨U.heap.size + 1, 0, none⟩) 0 0) _ (tcells vhe []) from made_t (U.alloc (.cells #[.slice h.a h.n h.c] 39)) (by simp) (by simp)) A L C hs (by rfl) (hrow.below ble.drew (Nat.le_refl _)) hnil (by omega) ble.drew (by simp <;> omega) ?_; intro A5 C5 w5 hg5 _ _ ho5 hb5; rw [Nat.zero_add, List.nil_append] at ho5; rw [Nat.zero_add]; have hlit5 := trow_grown (show TRow 1 vhe vhz ((U.alloc (.cells #[.slice h.a h.n h.c] 39)).alloc (.cells #[] 39)).drew (some ⟨U.heap.size, 0, none⟩) 1 [h] from (lit_v U h rfl).below (below_alloc (U.alloc (.cells #[.slice h.a h.n h.c] 39)) (.cells #[] 39)).drew (Nat.le_refl _)) hg5 (by simp [Value.ownBlock]); have u5 := (hb5.cell (p := ⟨w.heap.size, 1, none⟩) (cell_lt b1U)).trans b1U; have u5l := ((below_alloc w5 (.cells #[.slice h.a h.n h.c] 39)).cell (p := ⟨w.heap.size, 1, none⟩) (cell_lt u5)).trans u5; have v5 := (hb5.cell (p := ⟨g4, k, none⟩) (cell_lt hck2)).trans hck2
        refine hK.out _ _ (by first | assumption | go_keep) (fun hHeld => ?_)
        clear hK K
        try go_frame
        refine wpAnyH_ready (rs := [14]) (by kernel_rfl) (by simp) ?_
        refine AllReadyH.cons rfl (fun K hK => ?_) AllReadyH.nil
        refine step_tg valE vhE (w0 := U) (B := U.heap.size) (w := w5) (by rfl) _ _ (by rfl) _ L hs (by rfl) ho5 _ 1 1 [h] (by rfl) hlit5 (fun h => by cases h) (by omega) hb5 hb5.size ?_; intro A6 C6 w6 hg6 hl6 hn6 ho6 hb6; have u6 := (hb6.cell (p := ⟨w.heap.size, 1, none⟩) (cell_lt b1U)).trans b1U; have f6 : w6.frozen? ⟨g4, k, none⟩ = false := Go.Joins.unfrozen_of_block ((hb6.block _ hg4U).trans HCU.out) k; have v6 := (hb6.cell (p := ⟨g4, k, none⟩) (cell_lt hck2)).trans hck2; have u7 := (set_other w6 g4 k (.slice A6 (L + 1) C6) hbxg); have u8 := (cell_same (o := 1) u7).trans u6
        refine hK.out _ _ (by first | assumption | go_keep) (fun hHeld => ?_)
        clear hK K
        try go_frame
        refine wpAnyH_take (i := 15) (oi := ⟨some 42, _, _, _, _, _⟩) (v := ?_) rfl (by kernel_rfl) (by kernel_rfl) (by kernel_rfl) (fun _ _ _ h => h) (Or.inl ⟨by rfl, ?_⟩) (by assumption) ?_
        rotate_left
        · intro w hSw; (try dsimp only at hSw); go_simp <;> (try with_reducible rfl)
        go_frame
        refine wpAnyH_ready (rs := [16]) (by kernel_rfl) (by simp) ?_
        refine AllReadyH.cons rfl (fun K hK => ?_) AllReadyH.nil
        go_simp
        refine hK.out _ _ (by first | assumption | go_keep) (fun hHeld => ?_)
        clear hK K
        refine wpAnyH_done (by kernel_rfl) ?_ _
        go_wp2_with fail
        go_meet
        case rel => exact ⟨A6, C6, w6, rfl, ho6, hb6, hn6, hl6⟩
  case rest =>
    obtain ⟨A6, C6, w6, hwc, ho6, hb6, hz6⟩ := hcut
    have hbwV : Below w.heap.size w wc := by rw [hwc]; exact (hb4w.trans (hb6.out.mono hb4w.size)).setCell (p := ⟨g4, k, none⟩) (by show w.heap.size ≤ g4; omega) _
    have hbx : wc.heap[w.heap.size]? = some (.cells #[.slice sa n sc, .slice (some ⟨g4, 0, none⟩) n C4] 34 (0, 0)) := by rw [hwc]; exact (set_other _ _ _ _ hbxg).trans ((hb6.out.block _ (heap_lt HBX.out)).trans HBX.out)
    have hr1 : wc.heap[w.heap.size + 1]? = some (.cells #[.slice none 0 0, .slice none 0 0] 34 (0, 0)) := by rw [hwc]; exact (set_other _ _ _ _ (by omega)).trans ((hb6.out.block _ (heap_lt HGU.out.1)).trans HGU.out.1)
    have hr2 : wc.heap[w.heap.size + 2]? = some (.cells #[.int .i64 0, .int .i64 0, .int .i64 0, .int .u32 0] 42 (0, 0)) := by rw [hwc]; exact (set_other _ _ _ _ (by omega)).trans ((hb6.out.block _ (heap_lt HGU.out.2)).trans HGU.out.2)
    have hoV := own_store (owns_below hoU hb6.out) k (.slice A6 (L + 1) C6)
    have ho6V := ho6.out.kept (turned_set w6 g4 k (.slice A6 (L + 1) C6)) (.inr (vobr ((hb6.out.block _ hg4U).trans HCU.out) ho6.out (by decide)).symm)
    rw [← hwc] at hoV ho6V
    rw [tcells_set rows k ⟨A6, L + 1, C6⟩] at hoV
    have hRV := RL.put' HR.out HN.out hB hn hbwV HSV.out HRL.out.2.2 ⟨A6, L + 1, C6⟩ _ (SV.add (r := ⟨A, L, C⟩) (L := L) HI0.out HHL.out hbwV (rfl : (VH.mk A L C).n = L) h v HV.out HLO.out ho6V hz6.out (by omega)) hoV (by omega)
    rw [← HV2.out] at hRV
    have HRV : Hid (RL B wc sa n sc (some ⟨g4, 0, none⟩) C4 segs vals2) := hRV
    have hBV : B ≤ wc.heap.size := Nat.le_trans hB hbwV.size
    obtain ⟨s, hs0⟩ : ∃ s, s = segs.getD k 0 := ⟨_, rfl⟩
    obtain ⟨X, hX2⟩ : ∃ X, X = vals.getD k [] ++ [v] := ⟨_, rfl⟩
    have hXm : X ∈ vals2 := by rw [HV2.out, hX2]; simp
    have hXl : X.length = L + 1 := by have := HI0.out.len; rw [hX2, List.length_append]; simp only [List.length_singleton]; omega
    have hXs := HS.out.small X hXm
    have hXt := HS.out.tot X hXm
    have hRB : Vl.RefB segs vals2 s (Sg.put X) := by
      refine .inr ⟨k, by rw [HRL.out.1]; exact i8, ?_, hs0.symm, fun j hj => by rw [hs0]; exact HI.out j hj⟩
      rcases vals_last vals k n HN.out HRL.out.2.1 (vals.getD k [] ++ [v]) k i8 with ⟨h1, _⟩ | ⟨_, h2⟩
      · omega
      · rw [HV2.out, h2, hX2]
    have hby := fun W (hW : Below wc.heap.size wc W) => vrefbytes_any (hRV.keep hBV hW) (Nat.le_trans hBV hW.size) hn HS.out s _ hRB
    obtain ⟨N9, hN9⟩ : ∃ N9, N9 = L + 1 := ⟨_, rfl⟩
    have hwk : ∀ (W : World) (A8 : Option Addr) (C8 : Nat) (_ : W.ownsRow wc.heap.size 5 1 (.slice A8 (Sg.put X).length C8) (Sg.put X).length (kcells .u8 (Sg.put X))), Calls Tryz.prog 61 #[.int .i64 s, .slice A8 (Sg.put X).length C8] W fun e w' => ∃ a' c' zz, e = .returned (.tuple #[.slice a' N9 c', .int .i64 zz]) ∧ w'.ownsRow W.heap.size 42 4 (.slice a' N9 c') N9 (pcells (Sg.pts s 0 X)) ∧ Below W.heap.size W w' := fun W A8 C8 ho => by
      have h1 := row_of_owns ho (Sg.put_small hXs) (by omega)
      have := refwalk19_any s A8 _ C8 (Sg.put X) W hXt (by
        rcases ho.2 with ⟨e, h0⟩ | ⟨g, cap, cur, e, _, _, hle, _⟩
        · exact .inl ⟨h0, by simp only [Value.slice.injEq] at e; exact e.2.2⟩
        · simp only [Value.slice.injEq] at e
          obtain ⟨rfl, _, rfl⟩ := e
          exact .inr ⟨g, 0, rfl, hle⟩) h1.1
      refine this.mono ?_
      rintro e w' ⟨a', c', rfl, h2, h3⟩
      simp only [Sg.walk_all hXs, Sg.pts_length, hXl, ← hN9] at h2 ⊢
      exact ⟨a', c', _, rfl, h2, h3⟩
    have hqL : Hid ((Sg.pts s 0 X).getD L Po.zero = q) := (by
      rw [HQ.out, hX2, Sg.pts_snoc, ← hs0]
      have hl0 : (Sg.pts s 0 (vals.getD k [])).length = L := by rw [Sg.pts_length]; exact HI0.out.len
      generalize Sg.pts s 0 (vals.getD k []) = PP at hl0 ⊢
      simp only [List.getD_eq_getElem?_getD]
      rw [List.getElem?_append_right (by omega), hl0, Nat.sub_self]; rfl : (Sg.pts s 0 X).getD L Po.zero = q)
    have hpl : Hid ((Sg.pts s 0 X).length = L + 1) := (by rw [Sg.pts_length]; exact hXl : _ = _)
    obtain ⟨sb, so, hsa, hsc⟩ := zget2 hRV.sr (Below.refl _ wc) (by omega)
    have hsk := hsc k i8
    rw [← hs0] at hsk
    subst hsa
    obtain ⟨b0, b1, _, _⟩ := log_cells hbx
    have hR1 : Hid (wc.heap[w.heap.size + 1]? = some (.cells #[.slice none 0 0, .slice none 0 0] 34 (0, 0)) ∧ wc.heap[w.heap.size + 2]? = some (.cells #[.int .i64 0, .int .i64 0, .int .i64 0, .int .u32 0] 42 (0, 0))) := ⟨hr1, hr2⟩
    have HBV : Hid (Below w.heap.size w wc) := hbwV
    have hBW : B ≤ w.heap.size := hB
    have HN9 : Hid (N9 = L + 1) := hN9
    have hN9p : 0 < N9 := by omega
    clear hN9
    clear hwc hoV ho6V hRV hsc hXs hXt hXl hXm hX2 hRB hs0 hbx hr1 hr2 ho6 hb6 hz6 b0U b1U hck2 hrow hnil hoU hb4w hg4U HCU HBX HI0 hBV
    clear hbwV
    generalize Sg.pts s 0 X = PL at *
    generalize Sg.put X = BY at *
    go_wp2_with fail
    go_region_held3 (fun W => W.cell? ⟨w.heap.size, 0, none⟩ = some (.slice (some ⟨sb, so, none⟩) n sc) ∧ W.cell? ⟨w.heap.size, 1, none⟩ = some (.slice (some ⟨g4, 0, none⟩) n C4) ∧ W.cell? ⟨sb, so + k, none⟩ = some (.int .i64 s)) (first | go_keep | (refine ⟨?_, ?_, ?_⟩ <;> assumption))
      (first
        | (go_at_call 62; (with_reducible refine vworld wc.drew ?_); refine (hby _ vd1).mono ?_; rintro e w8 ⟨A8, C8, rfl, ho8, hb8'⟩; have hb8 : Below wc.heap.size wc w8 := below_of_drew hb8'; have c80 := (hb8.cell (p := ⟨w.heap.size, 0, none⟩) (cell_lt b0)).trans b0; have c81 := (hb8.cell (p := ⟨w.heap.size, 1, none⟩) (cell_lt b1)).trans b1; have c82 := (hb8.cell (p := ⟨sb, so + k, none⟩) (cell_lt hsk)).trans hsk)
        | (go_at_call 61; (with_reducible refine vworld w8 ?_); refine (hwk w8 A8 C8 ho8).mono ?_; rintro e w9 ⟨A9, C9, zz, rfl, ho9, hb9'⟩; have hb9 : Below wc.heap.size wc w9 := hb8.trans (hb9'.mono hb8.size); have c90 := (hb9.cell (p := ⟨w.heap.size, 0, none⟩) (cell_lt b0)).trans b0; have c91 := (hb9.cell (p := ⟨w.heap.size, 1, none⟩) (cell_lt b1)).trans b1; have c92 := (hb9.cell (p := ⟨sb, so + k, none⟩) (cell_lt hsk)).trans hsk))
    go_wp2_with fail
    obtain ⟨g9, hg9⟩ := town_blk ho9 (by omega)
    subst hg9
    have hg9w : wc.heap.size ≤ g9 := Nat.le_trans hb8.size (own_lt ho9).2
    have hp9 := trow_of_owns (l := PL) (d := Po.zero) pvE ho9 (by omega) (by have := HN9.out; omega)
    obtain ⟨b', o', e', hcells⟩ := hp9.at (by omega)
    simp only [Option.some.injEq, Addr.mk.injEq, and_true] at e'
    obtain ⟨rfl, rfl⟩ := e'
    have hcL := hcells L (by have := HN9.out; omega)
    rw [hqL.out, Nat.zero_add] at hcL
    obtain ⟨P0, P1, P2, P3⟩ := q
    have v0 : w9.cell? ⟨g9, L * 4, none⟩ = some (.int .i64 P0) := hcL 0 _ rfl
    have v1 : w9.cell? ⟨g9, L * 4 + 1, none⟩ = some (.int .i64 P1) := hcL 1 _ rfl
    have v2 : w9.cell? ⟨g9, L * 4 + 2, none⟩ = some (.int .i64 P2) := hcL 2 _ rfl
    have v3 : w9.cell? ⟨g9, L * 4 + 3, none⟩ = some (.int .u32 (P3 : Nat)) := hcL 3 _ rfl
    have r91 := (hb9.block _ (heap_lt hR1.out.1)).trans hR1.out.1
    have r92 := (hb9.block _ (heap_lt hR1.out.2)).trans hR1.out.2
    have hsz9 : w.heap.size + 2 < wc.heap.size := heap_lt hR1.out.2
    have j1 : IntKind.i64.wrap ((N9 : Int) - 1) = (L : Int) := by rw [IntKind.wrap_i64, HN9.out]; omega
    have j2 : wrap64 ((N9 : Int) - 1) = (L : Int) := by unfold wrap64; rw [HN9.out]; omega
    have j3 : (0 : Int) ≤ (L : Int) := by omega
    have j4 : (L : Int) < (N9 : Int) := by rw [HN9.out]; omega
    have j5 : L < N9 := by rw [HN9.out]; omega
    have n1 : w.heap.size + 1 ≠ g9 := by omega
    have n2 : w.heap.size + 2 ≠ g9 := by omega
    have n3 : w.heap.size + 1 + 1 ≠ g9 := by omega
    have n4 : w.heap.size + 1 + 1 ≠ w.heap.size := by omega
    have n5 : w.heap.size + 2 ≠ w.heap.size := by omega
    have n6 : w.heap.size + 1 ≠ w.heap.size := by omega
    obtain ⟨m0, m1, mf0, mf1⟩ := log_cells r91
    obtain ⟨pp0, pp1, pp2, pp3, ppf⟩ := pbox_cells (q := Po.zero) r92
    have pf0 := ppf 0; have pf1 := ppf 1; have pf2 := ppf 2; have pf3 := ppf 3
    have hcl : Below w.heap.size w w9 := HBV.out.trans (hb9.mono HBV.out.size)
    have HX : Hid (B ≤ w.heap.size ∧ RL B wc (some ⟨sb, so, none⟩) n sc (some ⟨g4, 0, none⟩) C4 segs vals2 ∧ Below wc.heap.size wc w9 ∧ Below w.heap.size w w9 ∧ w9.heap[w.heap.size + 1]? = some (.cells #[.slice none 0 0, .slice none 0 0] 34 (0, 0)) ∧ w9.heap[w.heap.size + 2]? = some (.cells #[.int .i64 0, .int .i64 0, .int .i64 0, .int .u32 0] 42 (0, 0))) := ⟨hBW, HRV.out, hb9, hcl, r91, r92⟩
    clear hcells hp9 hcL r91 r92 hcl hb9 hb8 hb8' hb9' ho9 ho8 c80 c81 c82 c92 ppf hsk b0 b1
    go_region_held3 (fun W => W.cell? ⟨w.heap.size, 0, none⟩ = some (.slice (some ⟨sb, so, none⟩) n sc) ∧ W.cell? ⟨w.heap.size, 1, none⟩ = some (.slice (some ⟨g4, 0, none⟩) n C4) ∧ W.cell? ⟨g9, L * 4, none⟩ = some (.int .i64 P0) ∧ W.cell? ⟨g9, L * 4 + 1, none⟩ = some (.int .i64 P1) ∧ W.cell? ⟨g9, L * 4 + 2, none⟩ = some (.int .i64 P2) ∧ W.cell? ⟨g9, L * 4 + 3, none⟩ = some (.int .u32 (P3 : Nat))) (first | go_keep | (refine ⟨?_, ?_, ?_, ?_, ?_, ?_⟩ <;> assumption)) (fail)
    go_wp2_with fail
    obtain ⟨hBW', hRL', hb9', hcl', r91', r92'⟩ := HX.out
    have hon : ∀ v0 v1 v2 v3 v4 v5, OnlyIn (fun k => k = w.heap.size + 1 ∨ k = w.heap.size + 2) w9 ((((((w9.setCell ⟨w.heap.size + 1, 0, none⟩ v0).setCell ⟨w.heap.size + 1, 1, none⟩ v1).setCell ⟨w.heap.size + 2, 0, none⟩ v2).setCell ⟨w.heap.size + 2, 1, none⟩ v3).setCell ⟨w.heap.size + 2, 2, none⟩ v4).setCell ⟨w.heap.size + 2, 3, none⟩ v5).drew := fun v0 v1 v2 v3 v4 v5 => ((((((((OnlyIn.refl _ w9).set 0 v0 (.inl rfl)).set 1 v1 (.inl rfl)).set 0 v2 (.inr rfl)).set 1 v3 (.inr rfl)).set 2 v4 (.inr rfl)).set 3 v5 (.inr rfl))).drew
    have hon2 := hon (.slice (some ⟨sb, so, none⟩) n sc) (.slice (some ⟨g4, 0, none⟩) n C4) (.int .i64 P0) (.int .i64 P1) (.int .i64 P2) (.int .u32 (P3 : Nat))
    have hW : Wy B (fun _ => False) wc _ := Wy.of_res hb9' (Nat.le_trans hBW' HBV.out.size) hBW' r91' r92' ⟨by decide, by decide, by decide⟩ ⟨by decide, by decide, by decide⟩ hon2
    exact bodyPost_ret (v := .tuple #[.agg #[.slice (some ⟨sb, so, none⟩) n sc, .slice (some ⟨g4, 0, none⟩) n C4], pv (P0, P1, P2, P3), .int .i64 0]) (by simp [results, Tryz.results28, go_sem, m0, m1, pp0, pp1, pp2, pp3, pv]) rfl ⟨some ⟨g4, 0, none⟩, C4, rfl, hRL'.wy hW (fun _ _ _ _ => id), hcl'.trans (hon2.below (B := w.heap.size) hcl'.size (fun k hk => by rcases hk with rfl | rfl <;> omega))⟩
end
end Go.Proofs.YtnoknmnbfkdccaaGreatDoor

/- The reference's Drop. -/
namespace Go.Proofs.YtnoknmnbfkdccaaGreatDoor
open Go.RowKit Go.Shelf

theorem vtake {α : Type} {s : Nat} {enc : α → List Value} {d : α} {w : World} {a : Option Addr} {n : Nat} {l : List α} (h : TRow s enc d w a n l) (j : Nat) (hj : j ≤ n) : TRow s enc d w a j (l.take j) := by
  obtain ⟨h1, h2, h3⟩ := h
  refine ⟨by rw [List.length_take]; omega, by omega, ?_⟩
  rcases h3 with h0 | ⟨b, off, e, hc⟩
  · exact .inl (by omega)
  · refine .inr ⟨b, off, e, fun i hi => ?_⟩
    have := hc i (by omega)
    rw [show (l.take j).getD i d = l.getD i d by rw [List.getD_eq_getElem?_getD, List.getD_eq_getElem?_getD, List.getElem?_take, if_pos hi]]
    exact this
theorem vdrop' {α : Type} {enc : α → List Value} {d : α} {w : World} {b off n : Nat} {l : List α} (h : TRow 1 enc d w (some ⟨b, off, none⟩) n l) (j : Nat) (hj : j ≤ n) : TRow 1 enc d w (some ⟨b, off + j, none⟩) (n - j) (l.drop j) := by
  obtain ⟨h1, h2, h3⟩ := h
  refine ⟨by rw [List.length_drop]; omega, by omega, ?_⟩
  rcases h3 with h0 | ⟨b', off', e, hc⟩
  · exact .inl (by omega)
  · cases e
    refine .inr ⟨b, off + j, rfl, fun i hi => ?_⟩
    have := hc (j + i) (by omega)
    rw [show (l.drop j).getD i d = l.getD (j + i) d by rw [List.getD_eq_getElem?_getD, List.getD_eq_getElem?_getD, List.getElem?_drop]]
    rw [Nat.mul_one] at this ⊢
    rw [← Nat.add_assoc] at this
    exact this
theorem rl_end {B B6 : Nat} {w w8 : World} {A V : Option Addr} {k C VC i : Nat} {segs : List Int} {vals : List (List (List Nat))} {rows : List VH} {n N1 : Nat} (hb : Below w.heap.size w w8) (hB6 : w.heap.size ≤ B6) (r8 : w8.heap[w.heap.size + 1]? = some (.cells #[.slice none 0 0, .slice none 0 0] 34 (0, 0)))
    (hi : w8.ownsRow B6 3 1 (.slice A k C) k (tcells ze (segs.take i ++ segs.drop N1))) (hv : w8.ownsRow B6 48 1 (.slice V k VC) k (tcells vhe (rows.take i ++ rows.drop N1))) (ha : (A = none → k = 0 ∧ C = 0) ∧ k ≤ C) (hc : (V = none → k = 0 ∧ VC = 0) ∧ k ≤ VC)
    (hn : n = k + 1) (hik : i < k) (hN : N1 = i + 1) (hk : k ≤ 1000) (hl : rows.length = n ∧ segs.length = n ∧ vals.length = n) (hS : ∀ W, Below w.heap.size w W → ∀ i, i < n → SV B W (rows.getD i vhz) (vals.getD i [])) :
    RL B ((w8.setCell ⟨w.heap.size + 1, 0, none⟩ (.slice A k C)).setCell ⟨w.heap.size + 1, 1, none⟩ (.slice V k VC)) A k C V VC (segs.take i ++ segs.drop (i + 1)) (vals.take i ++ vals.drop (i + 1)) ∧ Below w.heap.size w ((w8.setCell ⟨w.heap.size + 1, 0, none⟩ (.slice A k C)).setCell ⟨w.heap.size + 1, 1, none⟩ (.slice V k VC)) ∧ ∀ b o, A = some ⟨b, o, none⟩ → w.heap.size ≤ b := by
  subst hN
  have i7 := hi.kept (turned_set w8 (w.heap.size + 1) 0 (.slice A k C)) (.inr (vobr r8 hi (by decide)).symm)
  have j7 := hv.kept (turned_set w8 (w.heap.size + 1) 0 (.slice A k C)) (.inr (vobr r8 hv (by decide)).symm)
  have hr7 := Go.Joins.block_setCell r8 (.slice A k C) (i := 0)
  have i8 := i7.kept (turned_set _ (w.heap.size + 1) 1 (.slice V k VC)) (.inr (vobr hr7 i7 (by decide)).symm)
  have j8 := j7.kept (turned_set _ (w.heap.size + 1) 1 (.slice V k VC)) (.inr (vobr hr7 j7 (by decide)).symm)
  have B8 := ((hb.setCell (p := ⟨w.heap.size + 1, 0, none⟩) (by simp) (.slice A k C)).setCell (p := ⟨w.heap.size + 1, 1, none⟩) (by simp) (.slice V k VC))
  have hrow : (rows.take i ++ rows.drop (i + 1)).length = k := by simp only [List.length_append, List.length_take, List.length_drop]; omega
  have hvl : (vals.take i ++ vals.drop (i + 1)).length = k := by simp only [List.length_append, List.length_take, List.length_drop]; omega
  refine ⟨RL.of i8 j8 (by omega) ha hc hvl (fun j hj => ?_), B8, fun b o e => Nat.le_trans hB6 (own_low i8 e)⟩
  rw [Vl.erase_get rows vhz i j (by omega), Vl.erase_get vals [] i j (by omega)]
  by_cases hji : j < i
  · rw [if_pos hji, if_pos hji]; exact hS _ B8 j (by omega)
  · rw [if_neg hji, if_neg hji]; exact hS _ B8 (j + 1) (by omega)
theorem drop_nums {sn k i r N1 sc vc : Nat} (hkn : sn = k + 1) (hik : i < k) (hir : k = i + r) (hN1 : N1 = i + 1) (h1 : sn ≤ sc) (h2 : sn ≤ vc) (hn : sn ≤ 1000) :
    IntKind.i64.wrap ((sn : Int) - 1) = (k : Int) ∧ wrap64 ((sn : Int) - 1) = (k : Int) ∧ ((i : Int) == (k : Int)) = false ∧ ¬ ((i : Int) = (k : Int)) ∧ IntKind.i64.wrap ((i : Int) + 1) = (N1 : Int) ∧ wrap64 ((i : Int) + 1) = (N1 : Int) ∧ decide ((i : Int) < 0) = false ∧ ¬ ((i : Int) < 0) ∧ (0 : Int) ≤ (i : Int) ∧ (0 : Int) ≤ (N1 : Int) ∧ (i : Int) ≤ (sc : Int) ∧ (N1 : Int) ≤ (sn : Int) ∧ (sn : Int) ≤ (sc : Int) ∧ (i : Int) ≤ (vc : Int) ∧ (sn : Int) ≤ (vc : Int) ∧ sn - N1 = r ∧ ¬ (i = k) ∧ i ≤ sc ∧ i ≤ vc ∧ N1 ≤ sn ∧ ¬ (sc = N1) ∧ ¬ (vc = N1) ∧ i + r = k :=
  ⟨by rw [IntKind.wrap_i64]; omega, by unfold wrap64; omega, by simp; omega, by omega, by rw [IntKind.wrap_i64]; omega, by unfold wrap64; omega, by simp, by omega, by omega, by omega, by omega, by omega, by omega, by omega, by omega, by omega, by omega, by omega, by omega, by omega, by omega, by omega, by omega⟩
section
variable {B : Nat} {w : World} {sa va : Option Addr} {sn sc vc : Nat} {segs : List Int} {vals : List (List (List Nat))}
set_option maxRecDepth 100000 in
set_option maxHeartbeats 1000000 in
theorem vrefdrop_bad (h : RL B w sa sn sc va vc segs vals) (hn : sn ≤ 1000) (s R : Int) (hR : Vl.AtR segs s R) (E : Int) (hE : E = if R < 0 then 3 else 1) (hl : R < 0 ∨ R = IntKind.i64.wrap ((sn : Int) - 1)) :
    Calls Tryz.prog 32 #[.agg #[.slice sa sn sc, .slice va sn vc], .int .i64 s] w fun e w' => e = .returned (.tuple #[.agg #[.slice sa sn sc, .slice va sn vc], .int .i64 E]) ∧ Below w.heap.size w w' := by
  obtain ⟨W0, hW0⟩ : ∃ W0, W0 = w.alloc (.cells #[.slice sa sn sc, .slice va sn vc] 34) := ⟨_, rfl⟩
  obtain ⟨W1, hW1⟩ : ∃ W1, W1 = W0.alloc (.cells #[.slice none 0 0, .slice none 0 0] 34) := ⟨_, rfl⟩
  obtain ⟨z1, B1, _, hc⟩ := two_logs hW0 hW1
  have hat := refat_any sa sn sc segs va sn vc s R W1 (by omega) (h.sr.below B1 (Nat.le_refl _)) hR
  obtain ⟨⟨k0, k1⟩, k2, k3, k4, k5⟩ := hc W1 (Below.refl _ _)
  have hC : Hid (∀ W, Below W1.heap.size W1 W → (W.cell? ⟨w.heap.size, 0, none⟩ = some (.slice sa sn sc) ∧ W.cell? ⟨w.heap.size, 1, none⟩ = some (.slice va sn vc)) ∧ (W.cell? ⟨w.heap.size + 1, 0, none⟩ = some (.slice none 0 0) ∧ W.cell? ⟨w.heap.size + 1, 1, none⟩ = some (.slice none 0 0) ∧ W.frozen? ⟨w.heap.size + 1, 0, none⟩ = false ∧ W.frozen? ⟨w.heap.size + 1, 1, none⟩ = false)) := hc
  have hE2 : Hid (W1 = (w.alloc (.cells #[.slice sa sn sc, .slice va sn vc] 34)).alloc (.cells #[.slice none 0 0, .slice none 0 0] 34)) := (by rw [hW1, hW0] : _ = _)
  rw [hW1, hW0] at k0 k1 k2 k3 k4 k5 hat
  have HE : Hid (E = if R < 0 then 3 else 1) := hE
  clear hc hR hE h
  by_cases hneg : R < 0
  · have HF : Hid (E = 3) := (by rw [HE.out, if_pos hneg] : E = 3)
    have d1 : decide (R < 0) = true := decide_eq_true hneg
    clear hl HE
    obtain rfl := HF.out
    go_enter Tryz.func32, Tryz.ntmps32
    go_wp2_with (go_at_call 65; go_must (refine hat.mono ?_; rintro e w4 ⟨rfl, hb4'⟩; have hb4 : Below W1.heap.size W1 w4 := (by rw [hE2.out]; exact hb4'); obtain ⟨⟨r0, r1⟩, r2, r3, r4, r5⟩ := hC.out w4 hb4))
    have B4 := B1.trans (hb4.mono B1.size)
    exact bodyPost_ret (v := .tuple #[.agg #[.slice sa sn sc, .slice va sn vc], .int .i64 3]) (by simp [results, Tryz.results32, go_sem, r2, r3]) rfl ⟨rfl, (B4.setCell (p := ⟨w.heap.size + 1, 0, none⟩) (by simp) _).setCell (p := ⟨w.heap.size + 1, 1, none⟩) (by simp) _⟩
  · have HF : Hid (E = 1) := (by rw [HE.out, if_neg hneg] : E = 1)
    have d1 : decide (R < 0) = false := decide_eq_false hneg
    have hl2 : IntKind.i64.wrap ((sn : Int) - 1) = R := by rcases hl with h | h; exact absurd h hneg; exact h.symm
    have hl3 : wrap64 ((sn : Int) - 1) = R := by rw [IntKind.wrap_i64] at hl2; unfold wrap64; omega
    clear hl HE
    obtain rfl := HF.out
    go_enter Tryz.func32, Tryz.ntmps32
    go_wp2_with (go_at_call 65; go_must (refine hat.mono ?_; rintro e w4 ⟨rfl, hb4'⟩; have hb4 : Below W1.heap.size W1 w4 := (by rw [hE2.out]; exact hb4'); obtain ⟨⟨r0, r1⟩, r2, r3, r4, r5⟩ := hC.out w4 hb4))
    have B4 := B1.trans (hb4.mono B1.size)
    exact bodyPost_ret (v := .tuple #[.agg #[.slice sa sn sc, .slice va sn vc], .int .i64 1]) (by simp [results, Tryz.results32, go_sem, r2, r3]) rfl ⟨rfl, (B4.setCell (p := ⟨w.heap.size + 1, 0, none⟩) (by simp) _).setCell (p := ⟨w.heap.size + 1, 1, none⟩) (by simp) _⟩
set_option maxRecDepth 100000 in
set_option maxHeartbeats 8000000 in
theorem vrefdrop_any {i k r : Nat} (hkn : sn = k + 1) (hik : i < k) (hir : k = i + r) (h : RL B w sa sn sc va vc segs vals) (hB : B ≤ w.heap.size) (hn : sn ≤ 1000) (s : Int) (hs : segs.getD i 0 = s) (hf : ∀ j, j < i → segs.getD j 0 ≠ s) :
    Calls Tryz.prog 32 #[.agg #[.slice sa sn sc, .slice va sn vc], .int .i64 s] w fun e w' => ∃ A C V VC, e = .returned (.tuple #[.agg #[.slice A k C, .slice V k VC], .int .i64 0]) ∧ RL B w' A k C V VC (segs.take i ++ segs.drop (i + 1)) (vals.take i ++ vals.drop (i + 1)) ∧ Below w.heap.size w w' ∧ ∀ b o, A = some ⟨b, o, none⟩ → w.heap.size ≤ b := by
  obtain ⟨W0, hW0⟩ : ∃ W0, W0 = w.alloc (.cells #[.slice sa sn sc, .slice va sn vc] 34) := ⟨_, rfl⟩
  obtain ⟨W1, hW1⟩ : ∃ W1, W1 = W0.alloc (.cells #[.slice none 0 0, .slice none 0 0] 34) := ⟨_, rfl⟩
  obtain ⟨z1, B1, hres, hc⟩ := two_logs hW0 hW1
  obtain ⟨hsl, hvl⟩ := h.sn'
  have hat := refat_any sa sn sc segs va sn vc s (i : Int) W1 (by omega) (h.sr.below B1 (Nat.le_refl _)) (.inr ⟨i, by omega, rfl, hs, hf⟩)
  have hC : Hid (∀ W, Below W1.heap.size W1 W → (W.cell? ⟨w.heap.size, 0, none⟩ = some (.slice sa sn sc) ∧ W.cell? ⟨w.heap.size, 1, none⟩ = some (.slice va sn vc)) ∧ (W.cell? ⟨w.heap.size + 1, 0, none⟩ = some (.slice none 0 0) ∧ W.cell? ⟨w.heap.size + 1, 1, none⟩ = some (.slice none 0 0) ∧ W.frozen? ⟨w.heap.size + 1, 0, none⟩ = false ∧ W.frozen? ⟨w.heap.size + 1, 1, none⟩ = false)) := hc
  have hRH : Hid (∀ W, Below W1.heap.size W1 W → W.heap[w.heap.size + 1]? = some (.cells #[.slice none 0 0, .slice none 0 0] 34 (0, 0))) := hres
  obtain ⟨rows, hv1, hv2, hv3⟩ := h.vr
  have hrl : Hid (rows.length = sn ∧ segs.length = sn ∧ vals.length = sn) := ⟨hv1.1, hsl, hvl⟩
  have hSV : Hid (∀ W, Below w.heap.size w W → ∀ i, i < sn → SV B W (rows.getD i vhz) (vals.getD i [])) := (fun W hW i hi => (hv3 i hi).wy (P := fun _ => False) (Wy.of_below hB hW) : ∀ W, Below w.heap.size w W → ∀ i, i < sn → SV B W (rows.getD i vhz) (vals.getD i []))
  obtain ⟨sb, so, hsa, _⟩ := zget2 h.sr (Below.refl _ w) (by omega)
  obtain ⟨vb, vo, hva, _⟩ := hv1.at (by omega)
  subst hsa
  subst hva
  obtain ⟨N1, hN1⟩ : ∃ N1, N1 = i + 1 := ⟨_, rfl⟩
  have hsr := fun W (hW : Below W1.heap.size W1 W) => h.sr.below (B1.trans (hW.mono B1.size)) (Nat.le_refl _)
  have hvr := fun W (hW : Below W1.heap.size W1 W) => hv1.below (B1.trans (hW.mono B1.size)) (Nat.le_refl _)
  have hI1 : ∀ W, Below W1.heap.size W1 W → ZRow W (some ⟨sb, so, none⟩) i (segs.take i) := fun W hW => vtake (hsr W hW) i (by omega)
  have hI2 : ∀ W, Below W1.heap.size W1 W → ZRow W (some ⟨sb, so + N1, none⟩) r (segs.drop N1) := fun W hW => by have := vdrop' (hsr W hW) N1 (by omega); rw [show sn - N1 = r by omega] at this; exact this
  have hV1 : ∀ W, Below W1.heap.size W1 W → TRow 1 vhe vhz W (some ⟨vb, vo, none⟩) i (rows.take i) := fun W hW => vtake (hvr W hW) i (by omega)
  have hV2 : ∀ W, Below W1.heap.size W1 W → TRow 1 vhe vhz W (some ⟨vb, vo + N1, none⟩) r (rows.drop N1) := fun W hW => by have := vdrop' (hvr W hW) N1 (by omega); rw [show sn - N1 = r by omega] at this; exact this
  have hcap1 := h.sz.2
  have hcap2 := h.vz.2
  have HN : Hid (sn = k + 1 ∧ i < k ∧ k = i + r ∧ N1 = i + 1) := ⟨hkn, hik, hir, hN1⟩
  obtain ⟨i1, i2, i3, i4, i5, i6, i7, i8, i9, j0, j1, j2, j3, j4, j5, j6, j7, j8, j9, l1, l2, l3, l4⟩ := drop_nums hkn hik hir hN1 hcap1 hcap2 hn
  have hik' : Hid (i + r = k ∧ k ≤ 1000) := (⟨l4, Nat.le_trans (Nat.le_of_lt (by rw [hkn]; exact Nat.lt_succ_self k)) hn⟩ : i + r = k ∧ k ≤ 1000)
  have l5 : i + r ≤ 1000 := by rw [hik'.out.1]; exact hik'.out.2
  obtain ⟨⟨k0, k1⟩, k2, k3, k4, k5⟩ := hc W1 (Below.refl _ _)
  have hE2 : Hid (W1 = (w.alloc (.cells #[.slice (some ⟨sb, so, none⟩) sn sc, .slice (some ⟨vb, vo, none⟩) sn vc] 34)).alloc (.cells #[.slice none 0 0, .slice none 0 0] 34)) := (by rw [hW1, hW0] : _ = _)
  rw [hW1, hW0] at k0 k1 k2 k3 k4 k5 hat
  clear hc hres hs hf h hv1 hv2 hv3 hsr hvr hkn hir hN1 hsl hvl hcap1 hcap2 l4
  go_enter Tryz.func32, Tryz.ntmps32
  go_upto_region 6 with (go_at_call 65; go_must (refine hat.mono ?_; rintro e U ⟨rfl, hbU'⟩; have hbU : Below W1.heap.size W1 U := (by rw [hE2.out]; exact hbU'); obtain ⟨⟨b0U, b1U⟩, r2, r3, r4, r5⟩ := hC.out U hbU))
  clear k0 k1 k2 k3 k4 k5 hat hbU'
  have hU1 : ∀ W, Below U.heap.size U W → ZRow W (some ⟨sb, so, none⟩) i (segs.take i) := fun W hW => hI1 W (hbU.trans (hW.mono hbU.size))
  have hU2 : ∀ W, Below U.heap.size U W → ZRow W (some ⟨sb, so + N1, none⟩) r (segs.drop N1) := fun W hW => hI2 W (hbU.trans (hW.mono hbU.size))
  have hU3 : ∀ W, Below U.heap.size U W → TRow 1 vhe vhz W (some ⟨vb, vo, none⟩) i (rows.take i) := fun W hW => hV1 W (hbU.trans (hW.mono hbU.size))
  have hU4 : ∀ W, Below U.heap.size U W → TRow 1 vhe vhz W (some ⟨vb, vo + N1, none⟩) r (rows.drop N1) := fun W hW => hV2 W (hbU.trans (hW.mono hbU.size))
  clear hI1 hI2 hV1 hV2
  have HU : Hid (Below w.heap.size w U ∧ w.heap.size + 2 ≤ U.heap.size) := (⟨B1.trans (hbU.mono B1.size), Nat.le_trans (Nat.le_of_eq z1.symm) hbU.size⟩ : Below w.heap.size w U ∧ w.heap.size + 2 ≤ U.heap.size)
  have HR : Hid (∀ W, Below U.heap.size U W → W.heap[w.heap.size + 1]? = some (.cells #[.slice none 0 0, .slice none 0 0] 34 (0, 0)) ∧ W.cell? ⟨w.heap.size, 0, none⟩ = some (.slice (some ⟨sb, so, none⟩) sn sc) ∧ W.cell? ⟨w.heap.size, 1, none⟩ = some (.slice (some ⟨vb, vo, none⟩) sn vc)) := (fun W hW => ⟨hRH.out W (hbU.trans (hW.mono hbU.size)), (hC.out W (hbU.trans (hW.mono hbU.size))).1⟩ : ∀ W, Below U.heap.size U W → _)
  refine wp_region_held_drew (S := (fun W => W.cell? ⟨w.heap.size, 0, none⟩ = some (.slice (some ⟨sb, so, none⟩) sn sc) ∧ W.cell? ⟨w.heap.size, 1, none⟩ = some (.slice (some ⟨vb, vo, none⟩) sn vc))) (by kernel_rfl) (by first | (constructor <;> assumption) | go_keep) (fun hHeld => ?_)
  refine wpAnyH_take (i := 1) (oi := ⟨some 21, _, _, _, _, _⟩) (v := ?_) rfl (by kernel_rfl) (by kernel_rfl) (by kernel_rfl) (fun _ _ _ h => h) (Or.inl ⟨by rfl, ?_⟩) (by assumption) ?_
  rotate_left
  · intro w hSw; (try dsimp only at hSw); go_simp <;> (try with_reducible rfl)
  go_frame
  refine wpAnyH_take (i := 2) (oi := ⟨some 22, _, _, _, _, _⟩) (v := ?_) rfl (by kernel_rfl) (by kernel_rfl) (by kernel_rfl) (fun _ _ _ h => h) (Or.inl ⟨by rfl, ?_⟩) (by assumption) ?_
  rotate_left
  · intro w hSw; (try dsimp only at hSw); go_simp <;> (try with_reducible rfl)
  go_frame
  refine wpAnyH_take (i := 3) (oi := ⟨some 23, _, _, _, _, _⟩) (v := ?_) rfl (by kernel_rfl) (by kernel_rfl) (by kernel_rfl) (fun _ _ _ h => h) (Or.inl ⟨by rfl, ?_⟩) (by assumption) ?_
  rotate_left
  · intro w hSw; (try dsimp only at hSw); go_simp <;> (try with_reducible rfl)
  go_frame
  refine wpAnyH_take (i := 4) (oi := ⟨some 24, _, _, _, _, _⟩) (v := ?_) rfl (by kernel_rfl) (by kernel_rfl) (by kernel_rfl) (fun _ _ _ h => h) (Or.inl ⟨by rfl, ?_⟩) (by assumption) ?_
  rotate_left
  · intro w hSw; (try dsimp only at hSw); go_simp <;> (try with_reducible rfl)
  go_frame
  refine wpAnyH_take (i := 6) (oi := ⟨some 26, _, _, _, _, _⟩) (v := ?_) rfl (by kernel_rfl) (by kernel_rfl) (by kernel_rfl) (fun _ _ _ h => h) (Or.inl ⟨by rfl, ?_⟩) (by assumption) ?_
  rotate_left
  · intro w hSw; (try dsimp only at hSw); go_simp <;> (try with_reducible rfl)
  go_frame
  refine wpAnyH_take (i := 7) (oi := ⟨some 27, _, _, _, _, _⟩) (v := ?_) rfl (by kernel_rfl) (by kernel_rfl) (by kernel_rfl) (fun _ _ _ h => h) (Or.inl ⟨by rfl, ?_⟩) (by assumption) ?_
  rotate_left
  · intro w hSw; (try dsimp only at hSw); go_simp <;> (try with_reducible rfl)
  go_frame
  refine wpAnyH_take (i := 8) (oi := ⟨some 28, _, _, _, _, _⟩) (v := ?_) rfl (by kernel_rfl) (by kernel_rfl) (by kernel_rfl) (fun _ _ _ h => h) (Or.inl ⟨by rfl, ?_⟩) (by assumption) ?_
  rotate_left
  · intro w hSw; (try dsimp only at hSw); go_simp <;> (try with_reducible rfl)
  go_frame
  refine wpAnyH_take (i := 9) (oi := ⟨some 29, _, _, _, _, _⟩) (v := ?_) rfl (by kernel_rfl) (by kernel_rfl) (by kernel_rfl) (fun _ _ _ h => h) (Or.inl ⟨by rfl, ?_⟩) (by assumption) ?_
  rotate_left
  · intro w hSw; (try dsimp only at hSw); go_simp <;> (try with_reducible rfl)
  go_frame
  refine wpAnyH_take (i := 10) (oi := ⟨some 30, _, _, _, _, _⟩) (v := ?_) rfl (by kernel_rfl) (by kernel_rfl) (by kernel_rfl) (fun _ _ _ h => h) (Or.inl ⟨by rfl, ?_⟩) (by assumption) ?_
  rotate_left
  · intro w hSw; (try dsimp only at hSw); go_simp <;> (try with_reducible rfl)
  go_frame
  refine wpAnyH_take (i := 13) (oi := ⟨some 33, _, _, _, _, _⟩) (v := ?_) rfl (by kernel_rfl) (by kernel_rfl) (by kernel_rfl) (fun _ _ _ h => h) (Or.inl ⟨by rfl, ?_⟩) (by assumption) ?_
  rotate_left
  · intro w hSw; (try dsimp only at hSw); go_simp <;> (try with_reducible rfl)
  go_frame
  refine wpAnyH_take (i := 14) (oi := ⟨some 34, _, _, _, _, _⟩) (v := ?_) rfl (by kernel_rfl) (by kernel_rfl) (by kernel_rfl) (fun _ _ _ h => h) (Or.inl ⟨by rfl, ?_⟩) (by assumption) ?_
  rotate_left
  · intro w hSw; (try dsimp only at hSw); go_simp <;> (try with_reducible rfl)
  go_frame
  refine wpAnyH_take (i := 15) (oi := ⟨some 35, _, _, _, _, _⟩) (v := ?_) rfl (by kernel_rfl) (by kernel_rfl) (by kernel_rfl) (fun _ _ _ h => h) (Or.inl ⟨by rfl, ?_⟩) (by assumption) ?_
  rotate_left
  · intro w hSw; (try dsimp only at hSw); go_simp <;> (try with_reducible rfl)
  go_frame
  refine wpAnyH_take (i := 16) (oi := ⟨some 36, _, _, _, _, _⟩) (v := ?_) rfl (by kernel_rfl) (by kernel_rfl) (by kernel_rfl) (fun _ _ _ h => h) (Or.inl ⟨by rfl, ?_⟩) (by assumption) ?_
  rotate_left
  · intro w hSw; (try dsimp only at hSw); go_simp <;> (try with_reducible rfl)
  go_frame
  refine wpAnyH_take (i := 18) (oi := ⟨some 38, _, _, _, _, _⟩) (v := ?_) rfl (by kernel_rfl) (by kernel_rfl) (by kernel_rfl) (fun _ _ _ h => h) (Or.inl ⟨by rfl, ?_⟩) (by assumption) ?_
  rotate_left
  · intro w hSw; (try dsimp only at hSw); go_simp <;> (try with_reducible rfl)
  go_frame
  refine wpAnyH_take (i := 19) (oi := ⟨some 39, _, _, _, _, _⟩) (v := ?_) rfl (by kernel_rfl) (by kernel_rfl) (by kernel_rfl) (fun _ _ _ h => h) (Or.inl ⟨by rfl, ?_⟩) (by assumption) ?_
  rotate_left
  · intro w hSw; (try dsimp only at hSw); go_simp <;> (try with_reducible rfl)
  go_frame
  refine wpAnyH_take (i := 20) (oi := ⟨some 40, _, _, _, _, _⟩) (v := ?_) rfl (by kernel_rfl) (by kernel_rfl) (by kernel_rfl) (fun _ _ _ h => h) (Or.inl ⟨by rfl, ?_⟩) (by assumption) ?_
  rotate_left
  · intro w hSw; (try dsimp only at hSw); go_simp <;> (try with_reducible rfl)
  go_frame
  refine wpAnyH_take (i := 21) (oi := ⟨some 41, _, _, _, _, _⟩) (v := ?_) rfl (by kernel_rfl) (by kernel_rfl) (by kernel_rfl) (fun _ _ _ h => h) (Or.inl ⟨by rfl, ?_⟩) (by assumption) ?_
  rotate_left
  · intro w hSw; (try dsimp only at hSw); go_simp <;> (try with_reducible rfl)
  go_frame
  refine wpAnyH_take (i := 22) (oi := ⟨some 42, _, _, _, _, _⟩) (v := ?_) rfl (by kernel_rfl) (by kernel_rfl) (by kernel_rfl) (fun _ _ _ h => h) (Or.inl ⟨by rfl, ?_⟩) (by assumption) ?_
  rotate_left
  · intro w hSw; (try dsimp only at hSw); go_simp <;> (try with_reducible rfl)
  go_frame
  refine wpAnyH_ready (rs := [0, 12]) (by kernel_rfl) (by simp) ?_
  refine AllReadyH.cons rfl (fun K hK => ?_) (AllReadyH.cons rfl (fun K hK => ?_) AllReadyH.nil)
  · skip
    go_simp
    refine hK.out _ _ (by first | (constructor <;> assumption) | go_keep) (fun hHeld => ?_)
    clear hK K
    refine wpAnyH_ready (rs := [5, 12]) (by kernel_rfl) (by simp) ?_
    refine AllReadyH.cons rfl (fun K hK => ?_) (AllReadyH.cons rfl (fun K hK => ?_) AllReadyH.nil)
    · skip
      refine step_tg intZ zeE (w0 := U) (B := U.heap.size) (w := (U.alloc (.cells #[] 3)).drew) (by rfl) _ _ (by rfl) _ 0 [] (by rfl) (show World.ownsRow _ _ _ _ (.slice (some ⟨U.heap.size, 0, none⟩) 0 0) _ (tcells ze []) from made_t U (Nat.le_refl _) rfl) _ i sc (segs.take i) (by rfl) (hU1 _ (below_alloc U (.cells #[] 3)).drew) (fun h => by cases h) (by omega) (below_alloc U (.cells #[] 3)).drew (by simp <;> omega) ?_; intro A5 C5 w5 hg5 _ _ ho5 hb5; rw [Nat.zero_add, List.nil_append] at ho5; rw [Nat.zero_add]; obtain ⟨_, c50, c51⟩ := HR.out w5 hb5
      refine hK.out _ _ (by first | (constructor <;> assumption) | go_keep) (fun hHeld => ?_)
      clear hK K
      try go_frame
      refine wpAnyH_ready (rs := [11, 12]) (by kernel_rfl) (by simp) ?_
      refine AllReadyH.cons rfl (fun K hK => ?_) (AllReadyH.cons rfl (fun K hK => ?_) AllReadyH.nil)
      · skip
        refine step_tg intZ zeE (w0 := U) (B := U.heap.size) (w := w5) (by rfl) _ _ (by rfl) _ i (segs.take i) (by rfl) ho5 (some ⟨sb, so + N1, none⟩) r (sc - N1) (segs.drop N1) (by rfl) (hU2 _ hb5) (fun h => by cases h) (by omega) hb5 hb5.size ?_; intro A6 C6 w6 hg6 hl6 hn6 ho6 hb6; rw [hik'.out.1] at hl6 hn6 ho6 ⊢; obtain ⟨_, c60, c61⟩ := HR.out w6 hb6
        refine hK.out _ _ (by first | (constructor <;> assumption) | go_keep) (fun hHeld => ?_)
        clear hK K
        try go_frame
        refine wpAnyH_ready (rs := [12]) (by kernel_rfl) (by simp) ?_
        refine AllReadyH.cons rfl (fun K hK => ?_) AllReadyH.nil
        go_simp
        refine hK.out _ _ (by first | (constructor <;> assumption) | go_keep) (fun hHeld => ?_)
        clear hK K
        refine wpAnyH_ready (rs := [17]) (by kernel_rfl) (by simp) ?_
        refine AllReadyH.cons rfl (fun K hK => ?_) AllReadyH.nil
        refine step_tg valsE vhE (w0 := U) (B := U.heap.size) (w := (w6.alloc (.cells #[] 48))) (by rfl) _ _ (by rfl) _ 0 [] (by rfl) (show World.ownsRow (w6.alloc (.cells #[] 48)) U.heap.size _ 1 (.slice (some ⟨w6.heap.size, 0, none⟩) 0 0) 0 (tcells vhe []) from made_t w6 hb6.size rfl) _ i vc (rows.take i) (by rfl) (hU3 _ (bal hb6 _)) (fun h => by cases h) (by omega) (bal hb6 _) (by simp; have := hb6.size; omega) ?_; intro A7 C7 w7 hg7 _ _ ho7 hb7; rw [Nat.zero_add, List.nil_append] at ho7; rw [Nat.zero_add]; obtain ⟨_, c70, c71⟩ := HR.out w7 hb7; have i7' := (ho6.alloc _).kept hg7 (own_apart (ho6.alloc _) (show World.ownsRow (w6.alloc (.cells #[] 48)) U.heap.size _ 1 (.slice (some ⟨w6.heap.size, 0, none⟩) 0 0) 0 (tcells vhe []) from made_t w6 hb6.size rfl) (by decide))
        refine hK.out _ _ (by first | (constructor <;> assumption) | go_keep) (fun hHeld => ?_)
        clear hK K
        try go_frame
        refine wpAnyH_ready (rs := [23]) (by kernel_rfl) (by simp) ?_
        refine AllReadyH.cons rfl (fun K hK => ?_) AllReadyH.nil
        refine step_tg valsE vhE (w0 := U) (B := U.heap.size) (w := w7) (by rfl) _ _ (by rfl) _ i (rows.take i) (by rfl) ho7 (some ⟨vb, vo + N1, none⟩) r (vc - N1) (rows.drop N1) (by rfl) (hU4 _ hb7) (fun h => by cases h) (by omega) hb7 hb7.size ?_; intro A8 C8 w8 hg8 hl8 hn8 ho8 hb8; rw [hik'.out.1] at hl8 hn8 ho8 ⊢; obtain ⟨c8r, c80, c81⟩ := HR.out w8 hb8; obtain ⟨s80, s81, f80, f81⟩ := log_cells c8r; have i8' := i7'.kept hg8 (own_apart i7' ho7 (by decide))
        refine hK.out _ _ (by first | (constructor <;> assumption) | go_keep) (fun hHeld => ?_)
        clear hK K
        try go_frame
        refine wpAnyH_take (i := 24) (oi := ⟨some 44, _, _, _, _, _⟩) (v := ?_) rfl (by kernel_rfl) (by kernel_rfl) (by kernel_rfl) (fun _ _ _ h => h) (Or.inl ⟨by rfl, ?_⟩) (by assumption) ?_
        rotate_left
        · intro w hSw; (try dsimp only at hSw); go_simp <;> (try with_reducible rfl)
        go_frame
        refine wpAnyH_ready (rs := [25]) (by kernel_rfl) (by simp) ?_
        refine AllReadyH.cons rfl (fun K hK => ?_) AllReadyH.nil
        go_simp
        refine hK.out _ _ (by first | (constructor <;> assumption) | go_keep) (fun hHeld => ?_)
        clear hK K
        refine wpAnyH_take (i := 26) (oi := ⟨some 5, _, _, _, _, _⟩) (v := ?_) rfl (by kernel_rfl) (by kernel_rfl) (by kernel_rfl) (fun _ _ _ h => h) (Or.inl ⟨by rfl, ?_⟩) (by assumption) ?_
        rotate_left
        · intro w hSw; (try dsimp only at hSw); go_simp <;> (try with_reducible rfl)
        go_frame
        refine wpAnyH_done (by kernel_rfl) ?_ _
        go_wp2_with fail
        exact bodyPost_ret (v := .tuple #[.agg #[.slice A6 k C6, .slice A8 k C8], .int .i64 0]) (by simp [results, Tryz.results32, go_sem, s80, s81]) rfl ⟨A6, C6, A8, C8, rfl, rl_end (HU.out.1.trans (hb8.mono HU.out.1.size)) HU.out.1.size c8r i8' ho8 ⟨hn6, hl6⟩ ⟨hn8, hl8⟩ HN.out.1 hik HN.out.2.2.2 hik'.out.2 hrl.out hSV.out⟩
      · skip
        go_simp
        refine hK.out _ _ (by first | (constructor <;> assumption) | go_keep) (fun hHeld => ?_)
        clear hK K
        refine wpAnyH_ready (rs := [11]) (by kernel_rfl) (by simp) ?_
        refine AllReadyH.cons rfl (fun K hK => ?_) AllReadyH.nil
        refine step_tg intZ zeE (w0 := U) (B := U.heap.size) (w := (w5.alloc (.cells #[] 48))) (by rfl) _ _ (by rfl) _ i (segs.take i) (by rfl) (ho5.alloc _) (some ⟨sb, so + N1, none⟩) r (sc - N1) (segs.drop N1) (by rfl) (hU2 _ (bal hb5 _)) (fun h => by cases h) (by omega) (bal hb5 _) (by simp; have := hb5.size; omega) ?_; intro A6 C6 w6 hg6 hl6 hn6 ho6 hb6; rw [hik'.out.1] at hl6 hn6 ho6 ⊢; obtain ⟨_, c60, c61⟩ := HR.out w6 hb6; have m6 := (show World.ownsRow (w5.alloc (.cells #[] 48)) U.heap.size _ 1 (.slice (some ⟨w5.heap.size, 0, none⟩) 0 0) 0 (tcells vhe []) from made_t w5 hb5.size rfl).kept hg6 (own_apart (show World.ownsRow (w5.alloc (.cells #[] 48)) U.heap.size 48 1 (.slice (some ⟨w5.heap.size, 0, none⟩) 0 0) 0 (tcells vhe []) from made_t w5 hb5.size rfl) (ho5.alloc _) (by decide))
        refine hK.out _ _ (by first | (constructor <;> assumption) | go_keep) (fun hHeld => ?_)
        clear hK K
        try go_frame
        refine wpAnyH_ready (rs := [17]) (by kernel_rfl) (by simp) ?_
        refine AllReadyH.cons rfl (fun K hK => ?_) AllReadyH.nil
        refine step_tg valsE vhE (w0 := U) (B := U.heap.size) (w := w6) (by rfl) _ _ (by rfl) _ 0 [] (by rfl) m6 _ i vc (rows.take i) (by rfl) (hU3 _ hb6) (fun h => by cases h) (by omega) hb6 hb6.size ?_; intro A7 C7 w7 hg7 _ _ ho7 hb7; rw [Nat.zero_add, List.nil_append] at ho7; rw [Nat.zero_add]; obtain ⟨_, c70, c71⟩ := HR.out w7 hb7; have i7' := ho6.kept hg7 (own_apart ho6 m6 (by decide))
        refine hK.out _ _ (by first | (constructor <;> assumption) | go_keep) (fun hHeld => ?_)
        clear hK K
        try go_frame
        refine wpAnyH_ready (rs := [23]) (by kernel_rfl) (by simp) ?_
        refine AllReadyH.cons rfl (fun K hK => ?_) AllReadyH.nil
        refine step_tg valsE vhE (w0 := U) (B := U.heap.size) (w := w7) (by rfl) _ _ (by rfl) _ i (rows.take i) (by rfl) ho7 (some ⟨vb, vo + N1, none⟩) r (vc - N1) (rows.drop N1) (by rfl) (hU4 _ hb7) (fun h => by cases h) (by omega) hb7 hb7.size ?_; intro A8 C8 w8 hg8 hl8 hn8 ho8 hb8; rw [hik'.out.1] at hl8 hn8 ho8 ⊢; obtain ⟨c8r, c80, c81⟩ := HR.out w8 hb8; obtain ⟨s80, s81, f80, f81⟩ := log_cells c8r; have i8' := i7'.kept hg8 (own_apart i7' ho7 (by decide))
        refine hK.out _ _ (by first | (constructor <;> assumption) | go_keep) (fun hHeld => ?_)
        clear hK K
        try go_frame
        refine wpAnyH_take (i := 24) (oi := ⟨some 44, _, _, _, _, _⟩) (v := ?_) rfl (by kernel_rfl) (by kernel_rfl) (by kernel_rfl) (fun _ _ _ h => h) (Or.inl ⟨by rfl, ?_⟩) (by assumption) ?_
        rotate_left
        · intro w hSw; (try dsimp only at hSw); go_simp <;> (try with_reducible rfl)
        go_frame
        refine wpAnyH_ready (rs := [25]) (by kernel_rfl) (by simp) ?_
        refine AllReadyH.cons rfl (fun K hK => ?_) AllReadyH.nil
        go_simp
        refine hK.out _ _ (by first | (constructor <;> assumption) | go_keep) (fun hHeld => ?_)
        clear hK K
        refine wpAnyH_take (i := 26) (oi := ⟨some 5, _, _, _, _, _⟩) (v := ?_) rfl (by kernel_rfl) (by kernel_rfl) (by kernel_rfl) (fun _ _ _ h => h) (Or.inl ⟨by rfl, ?_⟩) (by assumption) ?_
        rotate_left
        · intro w hSw; (try dsimp only at hSw); go_simp <;> (try with_reducible rfl)
        go_frame
        refine wpAnyH_done (by kernel_rfl) ?_ _
        go_wp2_with fail
        exact bodyPost_ret (v := .tuple #[.agg #[.slice A6 k C6, .slice A8 k C8], .int .i64 0]) (by simp [results, Tryz.results32, go_sem, s80, s81]) rfl ⟨A6, C6, A8, C8, rfl, rl_end (HU.out.1.trans (hb8.mono HU.out.1.size)) HU.out.1.size c8r i8' ho8 ⟨hn6, hl6⟩ ⟨hn8, hl8⟩ HN.out.1 hik HN.out.2.2.2 hik'.out.2 hrl.out hSV.out⟩
    · skip
      go_simp
      refine hK.out _ _ (by first | (constructor <;> assumption) | go_keep) (fun hHeld => ?_)
      clear hK K
      refine wpAnyH_ready (rs := [5]) (by kernel_rfl) (by simp) ?_
      refine AllReadyH.cons rfl (fun K hK => ?_) AllReadyH.nil
      refine step_tg intZ zeE (w0 := U) (B := U.heap.size) (w := ((U.alloc (.cells #[] 3)).alloc (.cells #[] 48)).drew) (by rfl) _ _ (by rfl) _ 0 [] (by rfl) (show World.ownsRow _ _ _ _ (.slice (some ⟨U.heap.size, 0, none⟩) 0 0) _ (tcells ze []) from (made_t U (Nat.le_refl _) rfl).alloc _) _ i sc (segs.take i) (by rfl) (hU1 _ (bal (below_alloc U (.cells #[] 3)) (.cells #[] 48)).drew) (fun h => by cases h) (by omega) (bal (below_alloc U (.cells #[] 3)) (.cells #[] 48)).drew (by simp <;> omega) ?_; intro A5 C5 w5 hg5 _ _ ho5 hb5; rw [Nat.zero_add, List.nil_append] at ho5; rw [Nat.zero_add]; obtain ⟨_, c50, c51⟩ := HR.out w5 hb5; have m5 := (show World.ownsRow ((U.alloc (.cells #[] 3)).alloc (.cells #[] 48)).drew U.heap.size _ 1 (.slice (some ⟨U.heap.size + 1, 0, none⟩) 0 0) 0 (tcells vhe []) from made_t (U.alloc (.cells #[] 3)) (by simp) (by simp)).kept hg5 (own_apart (show World.ownsRow ((U.alloc (.cells #[] 3)).alloc (.cells #[] 48)).drew U.heap.size _ 1 (.slice (some ⟨U.heap.size + 1, 0, none⟩) 0 0) 0 (tcells vhe []) from made_t (U.alloc (.cells #[] 3)) (by simp) (by simp)) (show World.ownsRow ((U.alloc (.cells #[] 3)).alloc (.cells #[] 48)).drew U.heap.size _ 1 (.slice (some ⟨U.heap.size, 0, none⟩) 0 0) 0 (tcells ze []) from (made_t U (Nat.le_refl _) rfl).alloc _) (by decide))
      refine hK.out _ _ (by first | (constructor <;> assumption) | go_keep) (fun hHeld => ?_)
      clear hK K
      try go_frame
      refine wpAnyH_ready (rs := [11]) (by kernel_rfl) (by simp) ?_
      refine AllReadyH.cons rfl (fun K hK => ?_) AllReadyH.nil
      refine step_tg intZ zeE (w0 := U) (B := U.heap.size) (w := w5) (by rfl) _ _ (by rfl) _ i (segs.take i) (by rfl) ho5 (some ⟨sb, so + N1, none⟩) r (sc - N1) (segs.drop N1) (by rfl) (hU2 _ hb5) (fun h => by cases h) (by omega) hb5 hb5.size ?_; intro A6 C6 w6 hg6 hl6 hn6 ho6 hb6; rw [hik'.out.1] at hl6 hn6 ho6 ⊢; obtain ⟨_, c60, c61⟩ := HR.out w6 hb6; have m6 := m5.kept hg6 (own_apart m5 ho5 (by decide))
      refine hK.out _ _ (by first | (constructor <;> assumption) | go_keep) (fun hHeld => ?_)
      clear hK K
      try go_frame
      refine wpAnyH_ready (rs := [17]) (by kernel_rfl) (by simp) ?_
      refine AllReadyH.cons rfl (fun K hK => ?_) AllReadyH.nil
      refine step_tg valsE vhE (w0 := U) (B := U.heap.size) (w := w6) (by rfl) _ _ (by rfl) _ 0 [] (by rfl) m6 _ i vc (rows.take i) (by rfl) (hU3 _ hb6) (fun h => by cases h) (by omega) hb6 hb6.size ?_; intro A7 C7 w7 hg7 _ _ ho7 hb7; rw [Nat.zero_add, List.nil_append] at ho7; rw [Nat.zero_add]; obtain ⟨_, c70, c71⟩ := HR.out w7 hb7; have i7' := ho6.kept hg7 (own_apart ho6 m6 (by decide))
      refine hK.out _ _ (by first | (constructor <;> assumption) | go_keep) (fun hHeld => ?_)
      clear hK K
      try go_frame
      refine wpAnyH_ready (rs := [23]) (by kernel_rfl) (by simp) ?_
      refine AllReadyH.cons rfl (fun K hK => ?_) AllReadyH.nil
      refine step_tg valsE vhE (w0 := U) (B := U.heap.size) (w := w7) (by rfl) _ _ (by rfl) _ i (rows.take i) (by rfl) ho7 (some ⟨vb, vo + N1, none⟩) r (vc - N1) (rows.drop N1) (by rfl) (hU4 _ hb7) (fun h => by cases h) (by omega) hb7 hb7.size ?_; intro A8 C8 w8 hg8 hl8 hn8 ho8 hb8; rw [hik'.out.1] at hl8 hn8 ho8 ⊢; obtain ⟨c8r, c80, c81⟩ := HR.out w8 hb8; obtain ⟨s80, s81, f80, f81⟩ := log_cells c8r; have i8' := i7'.kept hg8 (own_apart i7' ho7 (by decide))
      refine hK.out _ _ (by first | (constructor <;> assumption) | go_keep) (fun hHeld => ?_)
      clear hK K
      try go_frame
      refine wpAnyH_take (i := 24) (oi := ⟨some 44, _, _, _, _, _⟩) (v := ?_) rfl (by kernel_rfl) (by kernel_rfl) (by kernel_rfl) (fun _ _ _ h => h) (Or.inl ⟨by rfl, ?_⟩) (by assumption) ?_
      rotate_left
      · intro w hSw; (try dsimp only at hSw); go_simp <;> (try with_reducible rfl)
      go_frame
      refine wpAnyH_ready (rs := [25]) (by kernel_rfl) (by simp) ?_
      refine AllReadyH.cons rfl (fun K hK => ?_) AllReadyH.nil
      go_simp
      refine hK.out _ _ (by first | (constructor <;> assumption) | go_keep) (fun hHeld => ?_)
      clear hK K
      refine wpAnyH_take (i := 26) (oi := ⟨some 5, _, _, _, _, _⟩) (v := ?_) rfl (by kernel_rfl) (by kernel_rfl) (by kernel_rfl) (fun _ _ _ h => h) (Or.inl ⟨by rfl, ?_⟩) (by assumption) ?_
      rotate_left
      · intro w hSw; (try dsimp only at hSw); go_simp <;> (try with_reducible rfl)
      go_frame
      refine wpAnyH_done (by kernel_rfl) ?_ _
      go_wp2_with fail
      exact bodyPost_ret (v := .tuple #[.agg #[.slice A6 k C6, .slice A8 k C8], .int .i64 0]) (by simp [results, Tryz.results32, go_sem, s80, s81]) rfl ⟨A6, C6, A8, C8, rfl, rl_end (HU.out.1.trans (hb8.mono HU.out.1.size)) HU.out.1.size c8r i8' ho8 ⟨hn6, hl6⟩ ⟨hn8, hl8⟩ HN.out.1 hik HN.out.2.2.2 hik'.out.2 hrl.out hSV.out⟩
  · skip
    go_simp
    refine hK.out _ _ (by first | (constructor <;> assumption) | go_keep) (fun hHeld => ?_)
    clear hK K
    refine wpAnyH_ready (rs := [0]) (by kernel_rfl) (by simp) ?_
    refine AllReadyH.cons rfl (fun K hK => ?_) AllReadyH.nil
    go_simp
    refine hK.out _ _ (by first | (constructor <;> assumption) | go_keep) (fun hHeld => ?_)
    clear hK K
    refine wpAnyH_ready (rs := [5]) (by kernel_rfl) (by simp) ?_
    refine AllReadyH.cons rfl (fun K hK => ?_) AllReadyH.nil
    refine step_tg intZ zeE (w0 := U) (B := U.heap.size) (w := ((U.alloc (.cells #[] 48)).alloc (.cells #[] 3)).drew) (by rfl) _ _ (by rfl) _ 0 [] (by rfl) (show World.ownsRow _ _ _ _ (.slice (some ⟨U.heap.size + 1, 0, none⟩) 0 0) _ (tcells ze []) from made_t (U.alloc (.cells #[] 48)) (by simp) (by simp)) _ i sc (segs.take i) (by rfl) (hU1 _ (bal (below_alloc U (.cells #[] 48)) (.cells #[] 3)).drew) (fun h => by cases h) (by omega) (bal (below_alloc U (.cells #[] 48)) (.cells #[] 3)).drew (by simp <;> omega) ?_; intro A5 C5 w5 hg5 _ _ ho5 hb5; rw [Nat.zero_add, List.nil_append] at ho5; rw [Nat.zero_add]; obtain ⟨_, c50, c51⟩ := HR.out w5 hb5; have m5 := (show World.ownsRow ((U.alloc (.cells #[] 48)).alloc (.cells #[] 3)).drew U.heap.size _ 1 (.slice (some ⟨U.heap.size, 0, none⟩) 0 0) 0 (tcells vhe []) from (made_t U (Nat.le_refl _) rfl).alloc _).kept hg5 (own_apart (show World.ownsRow ((U.alloc (.cells #[] 48)).alloc (.cells #[] 3)).drew U.heap.size _ 1 (.slice (some ⟨U.heap.size, 0, none⟩) 0 0) 0 (tcells vhe []) from (made_t U (Nat.le_refl _) rfl).alloc _) (show World.ownsRow ((U.alloc (.cells #[] 48)).alloc (.cells #[] 3)).drew U.heap.size _ 1 (.slice (some ⟨U.heap.size + 1, 0, none⟩) 0 0) 0 (tcells ze []) from made_t (U.alloc (.cells #[] 48)) (by simp) (by simp)) (by decide))
    refine hK.out _ _ (by first | (constructor <;> assumption) | go_keep) (fun hHeld => ?_)
    clear hK K
    try go_frame
    refine wpAnyH_ready (rs := [11]) (by kernel_rfl) (by simp) ?_
    refine AllReadyH.cons rfl (fun K hK => ?_) AllReadyH.nil
    refine step_tg intZ zeE (w0 := U) (B := U.heap.size) (w := w5) (by rfl) _ _ (by rfl) _ i (segs.take i) (by rfl) ho5 (some ⟨sb, so + N1, none⟩) r (sc - N1) (segs.drop N1) (by rfl) (hU2 _ hb5) (fun h => by cases h) (by omega) hb5 hb5.size ?_; intro A6 C6 w6 hg6 hl6 hn6 ho6 hb6; rw [hik'.out.1] at hl6 hn6 ho6 ⊢; obtain ⟨_, c60, c61⟩ := HR.out w6 hb6; have m6 := m5.kept hg6 (own_apart m5 ho5 (by decide))
    refine hK.out _ _ (by first | (constructor <;> assumption) | go_keep) (fun hHeld => ?_)
    clear hK K
    try go_frame
    refine wpAnyH_ready (rs := [17]) (by kernel_rfl) (by simp) ?_
    refine AllReadyH.cons rfl (fun K hK => ?_) AllReadyH.nil
    refine step_tg valsE vhE (w0 := U) (B := U.heap.size) (w := w6) (by rfl) _ _ (by rfl) _ 0 [] (by rfl) m6 _ i vc (rows.take i) (by rfl) (hU3 _ hb6) (fun h => by cases h) (by omega) hb6 hb6.size ?_; intro A7 C7 w7 hg7 _ _ ho7 hb7; rw [Nat.zero_add, List.nil_append] at ho7; rw [Nat.zero_add]; obtain ⟨_, c70, c71⟩ := HR.out w7 hb7; have i7' := ho6.kept hg7 (own_apart ho6 m6 (by decide))
    refine hK.out _ _ (by first | (constructor <;> assumption) | go_keep) (fun hHeld => ?_)
    clear hK K
    try go_frame
    refine wpAnyH_ready (rs := [23]) (by kernel_rfl) (by simp) ?_
    refine AllReadyH.cons rfl (fun K hK => ?_) AllReadyH.nil
    refine step_tg valsE vhE (w0 := U) (B := U.heap.size) (w := w7) (by rfl) _ _ (by rfl) _ i (rows.take i) (by rfl) ho7 (some ⟨vb, vo + N1, none⟩) r (vc - N1) (rows.drop N1) (by rfl) (hU4 _ hb7) (fun h => by cases h) (by omega) hb7 hb7.size ?_; intro A8 C8 w8 hg8 hl8 hn8 ho8 hb8; rw [hik'.out.1] at hl8 hn8 ho8 ⊢; obtain ⟨c8r, c80, c81⟩ := HR.out w8 hb8; obtain ⟨s80, s81, f80, f81⟩ := log_cells c8r; have i8' := i7'.kept hg8 (own_apart i7' ho7 (by decide))
    refine hK.out _ _ (by first | (constructor <;> assumption) | go_keep) (fun hHeld => ?_)
    clear hK K
    try go_frame
    refine wpAnyH_take (i := 24) (oi := ⟨some 44, _, _, _, _, _⟩) (v := ?_) rfl (by kernel_rfl) (by kernel_rfl) (by kernel_rfl) (fun _ _ _ h => h) (Or.inl ⟨by rfl, ?_⟩) (by assumption) ?_
    rotate_left
    · intro w hSw; (try dsimp only at hSw); go_simp <;> (try with_reducible rfl)
    go_frame
    refine wpAnyH_ready (rs := [25]) (by kernel_rfl) (by simp) ?_
    refine AllReadyH.cons rfl (fun K hK => ?_) AllReadyH.nil
    go_simp
    refine hK.out _ _ (by first | (constructor <;> assumption) | go_keep) (fun hHeld => ?_)
    clear hK K
    refine wpAnyH_take (i := 26) (oi := ⟨some 5, _, _, _, _, _⟩) (v := ?_) rfl (by kernel_rfl) (by kernel_rfl) (by kernel_rfl) (fun _ _ _ h => h) (Or.inl ⟨by rfl, ?_⟩) (by assumption) ?_
    rotate_left
    · intro w hSw; (try dsimp only at hSw); go_simp <;> (try with_reducible rfl)
    go_frame
    refine wpAnyH_done (by kernel_rfl) ?_ _
    go_wp2_with fail
    exact bodyPost_ret (v := .tuple #[.agg #[.slice A6 k C6, .slice A8 k C8], .int .i64 0]) (by simp [results, Tryz.results32, go_sem, s80, s81]) rfl ⟨A6, C6, A8, C8, rfl, rl_end (HU.out.1.trans (hb8.mono HU.out.1.size)) HU.out.1.size c8r i8' ho8 ⟨hn6, hl6⟩ ⟨hn8, hl8⟩ HN.out.1 hik HN.out.2.2.2 hik'.out.2 hrl.out hSV.out⟩
end
end Go.Proofs.YtnoknmnbfkdccaaGreatDoor
