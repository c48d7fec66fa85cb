/- What is done in the law's world: Put, over what the two logs' own tell. -/
import Derived.Test.YtnoknmnbfkdccaaGreatDoorVXx
namespace Go.Proofs.YtnoknmnbfkdccaaGreatDoor
open Go.RowKit Go.Shelf

theorem pt_cells {w : World} {g : Nat} {c0 c1 c2 c3 : Value} (h : w.heap[g]? = some (.cells #[c0, c1, c2, c3] 42 (0, 0))) : w.cell? ⟨g, 0, none⟩ = some c0 ∧ w.cell? ⟨g, 1, none⟩ = some c1 ∧ w.cell? ⟨g, 2, none⟩ = some c2 ∧ w.cell? ⟨g, 3, none⟩ = some c3 ∧ ∀ i, w.frozen? ⟨g, i, none⟩ = false :=
  ⟨(Go.Joins.cell_of_block h 0).trans rfl, (Go.Joins.cell_of_block h 1).trans rfl, (Go.Joins.cell_of_block h 2).trans rfl, (Go.Joins.cell_of_block h 3).trans rfl, fun i => Go.Joins.unfrozen_of_block h i⟩
/-- a point is stored in a box of its own -/
theorem pt4 {w : World} {G : Nat} {c0 c1 c2 c3 : Value} (h : w.heap[G]? = some (.cells #[c0, c1, c2, c3] 42 (0, 0))) (v0 v1 v2 v3 : Value) :
    ((((w.setCell ⟨G, 0, none⟩ v0).setCell ⟨G, 1, none⟩ v1).setCell ⟨G, 2, none⟩ v2).setCell ⟨G, 3, none⟩ v3).heap[G]? = some (.cells #[v0, v1, v2, v3] 42 (0, 0)) ∧ OnlyIn (fun k => k = G) w ((((w.setCell ⟨G, 0, none⟩ v0).setCell ⟨G, 1, none⟩ v1).setCell ⟨G, 2, none⟩ v2).setCell ⟨G, 3, none⟩ v3) :=
  ⟨Go.Joins.block_setCell (Go.Joins.block_setCell (Go.Joins.block_setCell (Go.Joins.block_setCell h v0 (i := 0)) v1 (i := 1)) v2 (i := 2)) v3 (i := 3), ((((OnlyIn.refl (fun k => k = G) w).set 0 v0 rfl).set 1 v1 rfl).set 2 v2 rfl).set 3 v3 rfl⟩
theorem vd_pt {B : Nat} {w w' : World} {p G : Nat} {D : Dk.D} {C : Array Value} (h : VD B w p D) (hx : w.heap[G]? = some (.cells C 42 (0, 0))) (hB : B ≤ G) (ho : OnlyIn (fun k => k = G) w w') : VD B w' p D :=
  h.other (T := fun k => k = G) ho fun k hk _ => by subst hk; exact ⟨hB, dt_not hx (by decide) (by decide) (by decide) (by decide)⟩
theorem wk_pt {B : Nat} {w w2 w' : World} {G : Nat} (h : Wk B w w2) (hG : w.heap.size ≤ G) (ho : OnlyIn (fun k => k = G) w2 w') : Wk B w w' :=
  OnlyIn.trans h (ho.mono fun k _ hk => .inr (by subst hk; exact hG))
theorem step_u8gb {w0 w : World} {B : Nat} {ops : Array Oper} {o : Oper} {a : Act} {K : Act → World → Prop} {Q : Exit → Act → World → Prop} {E : Prop} (hgd : o.guard = none) (s x : Operand)
    (ho : o.op = .call { callee := .builtin .append, args := #[s, x], argTypes := #[39, 39] })
    (v : Value) (n : Nat) (xs : List Nat) (hs : a.eval s = v) (hown : w.ownsRow B 5 1 v n (kcells .u8 xs))
    (ad : Option Addr) (m c : Nat) (bs : List Nat) (hx : a.eval x = .slice ad m c) (hrow : Row .u8 w ad m bs) (hnil : ad = none → m = 0 ∧ c = 0)
    (hnm : n + m ≤ 1000000000000) (hbel : Below B w0 w) (hB : B ≤ w.heap.size)
    (h : ∀ a' c' w', w'.ownsRow B 5 1 (.slice a' (n + m) c') (n + m) (kcells .u8 (xs ++ bs)) → Below B w0 w' → B ≤ w'.heap.size → w.grownBy w' v.ownBlock → K (a.put o.dst (.slice a' (n + m) c')) w') :
    if Region.wanted o (yielded ops a.tmps) = true then Oper.wp Tryz.prog o a w K Q else E := by
  have hw : Region.wanted o (yielded ops a.tmps) = true := by simp [Region.wanted, hgd]
  rw [if_pos hw]
  obtain ⟨i0, hi, hz0, hz1, hz2⟩ := info_parts Tryz.info5
  obtain ⟨h1, h2, h3, h4⟩ := hrow
  cases ad with
  | none =>
    obtain ⟨rfl, rfl⟩ := hnil rfl
    obtain rfl : bs = [] := List.length_eq_zero_iff.mp h1
    have hrun := run_append_owned_none (P := Tryz.prog) (w := w) B 39 o.type 5 i0 1 Tryz.underlying39 hi v n (kcells .u8 xs) hown
    obtain ⟨a', c', rfl⟩ := slice_of_owns hown
    unfold Oper.wp
    simp [execOp, ho, resolve, invoke, builtin, hs, hx, hrun, Result.andThen]
    exact h a' c' w (by simpa using hown) hbel hB ⟨rfl, rfl, rfl, Nat.le_refl _, fun _ _ _ => rfl⟩
  | some ad =>
    refine wp_append_own w s x 39 ho B 5 i0 (.int .u8 0) 1 1 Tryz.underlying39 hi hz0 hz1 hz2 rfl (by decide) v n (kcells .u8 xs) hs hown ad m c (kcells .u8 bs) hx (by rw [kcells_length]; omega) ?_ ?_ (by unfold maxLen; omega) (by omega) hB ?_
    · intro j u hj
      obtain ⟨hlt, rfl⟩ := kcells_get .u8 bs j u hj
      rcases h4 with h0 | ⟨b, off, e, hc⟩
      · omega
      · obtain rfl : ad = ⟨b, off, none⟩ := by simpa using e
        rw [add_at]; exact hc j (by omega)
    · intro u hu
      simp only [kcells, List.mem_map] at hu
      obtain ⟨n, _, rfl⟩ := hu
      rfl
    · intro v' w' hown' hg _
      obtain ⟨a', c', rfl⟩ := slice_of_owns hown'
      exact h a' c' w' (by rw [kcells_append]; exact hown') (hbel.grown hg hB (fun k hk => (hown.lt k hk).1)) (Nat.le_trans hB hg.size) hg
theorem lit_ptx {w : World} {P0 P1 P2 : Int} {P3 g : Nat} (hg : w.heap.size = g) : TRow 4 pve Po.zero (w.alloc (.cells #[.int .i64 P0, .int .i64 P1, .int .i64 P2, .int .u32 (P3 : Nat)] 42)) (some ⟨g, 0, none⟩) 1 [(P0, P1, P2, P3)] :=
  trow_lit w _ _ _ hg (fun j v h => by simpa [pve] using h)
/-- what a value that was put leaves -/
theorem wi_put {B : Nat} {w U : World} {x b z b' z' tn2 tc2 C : Nat} {S : WS} {D2 : Dk.D} {V ta2 : Option Addr} {vals2 : List (List (List Nat))} {told2 : List Po.P} (h : WI B w x S b z) (hx : U.heap[x]? = some (.cells #[.pointer (some ⟨S.p, 0, none⟩), .pointer (some ⟨S.m, 0, none⟩), .slice S.sa S.n S.sc, .slice V S.n C, .slice ta2 tn2 tc2] 37 (0, 0)))
    (hL : LgAt B U S.m S.p S.a S.n S.c S.segs) (hD : VD B U S.p D2) (hR : RL B U S.sa S.n S.sc V C S.segs vals2) (ht : U.ownsRow B 42 4 (.slice ta2 tn2 tc2) tn2 (tcells pve told2)) (hf : ∀ q ∈ told2, Po.Fits q) (hac : Vl.Ac D2 S.segs vals2 b' z') (hbz : b' ≤ 40 ∧ z' ≤ 21000) (hcnt : tn2 ≤ b') : ∃ S', WI B U x S' b' z' :=
  ⟨{ S with va := V, vc := C, ta := ta2, tn := tn2, tc := tc2, vals := vals2, told := told2, D := D2 }, hx, h.le, hL, hD, hR, ht, hf, h.apart, hac, hbz, hcnt⟩
/-- a row of points of the call's own has grown: what is of another kind stays -/
theorem pts_grown {B : Nat} {U w7 : World} {n : Nat} {v : Value} {xs : List Value} (ho : U.ownsRow B 42 4 v n xs) (hg : U.grownBy w7 v.ownBlock) {k : Nat} {Cs : Array Value} {T : TypeId} (hk : U.heap[k]? = some (.cells Cs T (0, 0))) (hT : T ≠ 42) : w7.heap[k]? = some (.cells Cs T (0, 0)) := (hg.block k (heap_lt hk) (vobr hk ho hT)).trans hk
theorem pts_vd {B p n : Nat} {D : Dk.D} {U w7 : World} {v : Value} {xs : List Value} (h : VD B U p D) (ho : U.ownsRow B 42 4 v n xs) (hg : U.grownBy w7 v.ownBlock) : VD B w7 p D :=
  h.other (T := fun k => v.ownBlock = some k) ⟨hg.os, hg.tape, hg.output, hg.size, fun k hk hne => hg.block k hk (fun e => hne e.symm)⟩ fun k hk _ => by
    obtain ⟨cur, hc⟩ := own_blk ho hk
    exact ⟨own_low' ho hk, dt_not hc (by decide) (by decide) (by decide) (by decide)⟩
theorem pts_lg {B m p n c k : Nat} {a : Option Addr} {segs : List Int} {U w7 : World} {v : Value} {xs : List Value} (h : LgAt B U m p a n c segs) (ho : U.ownsRow B 42 4 v k xs) (hg : U.grownBy w7 v.ownBlock) : LgAt B w7 m p a n c segs :=
  ⟨pts_grown ho hg h.blk (by decide), h.own.kept hg (own_apart h.own ho (by decide)), h.le, h.may⟩
theorem pts_rl {B k sn sc vc : Nat} {sa va : Option Addr} {segs : List Int} {vals : List (List (List Nat))} {U w7 : World} {v : Value} {xs : List Value} (h : RL B U sa sn sc va vc segs vals) (ho : U.ownsRow B 42 4 v k xs) (hg : U.grownBy w7 v.ownBlock) (hB : B ≤ U.heap.size) : RL B w7 sa sn sc va vc segs vals :=
  h.wy (P := fun _ => False) ⟨⟨hg.os, hg.tape, hg.output, hg.size, fun i hi => hg.block i (Nat.lt_of_lt_of_le hi hB) (fun e => by have := own_low' ho e.symm; omega)⟩, fun i cs T _ hc ht => hg.block i (heap_lt hc) (vobr hc ho (by rcases ht with ⟨rfl, _⟩ | rfl | rfl <;> decide))⟩ (fun _ _ _ _ => id)
theorem pts_below {B k : Nat} {U w7 : World} {v : Value} {xs : List Value} (ho : U.ownsRow B 42 4 v k xs) (hg : U.grownBy w7 v.ownBlock) (hB : B ≤ U.heap.size) : Below B U w7 :=
  ⟨hg.os, hg.tape, hg.output, hg.size, fun i hi => hg.block i (Nat.lt_of_lt_of_le hi hB) (fun e => by have := own_low' ho e.symm; omega)⟩
theorem heap_alloc_next (w : World) (o o' : Obj) : ((w.alloc o).alloc o').heap[w.heap.size + 1]? = some o' := by
  have := heap_alloc_new (w.alloc o) o'
  rw [World.size_alloc] at this; exact this
section
variable {B : Nat} {wc W : World} {G7 G8 : Nat} {sa V : Option Addr} {n sc C : Nat} {segs : List Int} {vals2 : List (List (List Nat))}
theorem pb4 {L7 : Array Value} {c0 c1 c2 c3 : Value} (h7 : W.heap[G7]? = some (.cells L7 34 (0, 0))) (h8 : W.heap[G8]? = some (.cells #[c0, c1, c2, c3] 42 (0, 0))) (hR : RL B W sa n sc V C segs vals2) (hb : Below wc.heap.size wc W) (hB : B ≤ wc.heap.size) (g8 : wc.heap.size ≤ G8) (v0 v1 v2 v3 : Value) :
    ((((W.setCell ⟨G8, 0, none⟩ v0).setCell ⟨G8, 1, none⟩ v1).setCell ⟨G8, 2, none⟩ v2).setCell ⟨G8, 3, none⟩ v3).heap[G7]? = some (.cells L7 34 (0, 0)) ∧ ((((W.setCell ⟨G8, 0, none⟩ v0).setCell ⟨G8, 1, none⟩ v1).setCell ⟨G8, 2, none⟩ v2).setCell ⟨G8, 3, none⟩ v3).heap[G8]? = some (.cells #[v0, v1, v2, v3] 42 (0, 0)) ∧
    RL B ((((W.setCell ⟨G8, 0, none⟩ v0).setCell ⟨G8, 1, none⟩ v1).setCell ⟨G8, 2, none⟩ v2).setCell ⟨G8, 3, none⟩ v3) sa n sc V C segs vals2 ∧ Below wc.heap.size wc ((((W.setCell ⟨G8, 0, none⟩ v0).setCell ⟨G8, 1, none⟩ v1).setCell ⟨G8, 2, none⟩ v2).setCell ⟨G8, 3, none⟩ v3) := by
  obtain ⟨p1, p2⟩ := pt4 h8 v0 v1 v2 v3
  refine ⟨(p2.block _ (heap_lt h7) (box_ne h7 h8 (by decide))).trans h7, p1, hR.wy (P := fun _ => False) ⟨p2.below (Nat.le_trans hB hb.size) (fun k hk => by subst hk; exact Nat.le_trans hB g8), fun k cs T _ hc ht => p2.block k (heap_lt hc) (Ne.symm (box_ne h8 hc (by rcases ht with ⟨rfl, _⟩ | rfl | rfl <;> decide)))⟩ (fun _ _ _ _ => id), hb.trans (p2.below hb.size (fun k hk => by subst hk; exact g8))⟩
theorem pb2 {P8 : Array Value} {c0 c1 : Value} (h7 : W.heap[G7]? = some (.cells #[c0, c1] 34 (0, 0))) (h8 : W.heap[G8]? = some (.cells P8 42 (0, 0))) (hR : RL B W sa n sc V C segs vals2) (hb : Below wc.heap.size wc W) (hB : B ≤ wc.heap.size) (g7 : wc.heap.size ≤ G7) (v0 v1 : Value) :
    ((W.setCell ⟨G7, 0, none⟩ v0).setCell ⟨G7, 1, none⟩ v1).heap[G7]? = some (.cells #[v0, v1] 34 (0, 0)) ∧ ((W.setCell ⟨G7, 0, none⟩ v0).setCell ⟨G7, 1, none⟩ v1).heap[G8]? = some (.cells P8 42 (0, 0)) ∧
    RL B ((W.setCell ⟨G7, 0, none⟩ v0).setCell ⟨G7, 1, none⟩ v1) sa n sc V C segs vals2 ∧ Below wc.heap.size wc ((W.setCell ⟨G7, 0, none⟩ v0).setCell ⟨G7, 1, none⟩ v1) := by
  have p1 := Go.Joins.block_setCell (Go.Joins.block_setCell h7 v0 (i := 0)) v1 (i := 1)
  have p2 : OnlyIn (fun k => k = G7) W ((W.setCell ⟨G7, 0, none⟩ v0).setCell ⟨G7, 1, none⟩ v1) := ((OnlyIn.refl (fun k => k = G7) W).set 0 v0 rfl).set 1 v1 rfl
  refine ⟨p1, (p2.block _ (heap_lt h8) (box_ne h8 h7 (by decide))).trans h8, hR.wy (P := fun _ => False) ⟨p2.below (Nat.le_trans hB hb.size) (fun k hk => by subst hk; exact Nat.le_trans hB g7), fun k cs T _ hc ht => p2.block k (heap_lt hc) (Ne.symm (box_ne h7 hc (by rcases ht with ⟨rfl, _⟩ | rfl | rfl <;> decide)))⟩ (fun _ _ _ _ => id), hb.trans (p2.below hb.size (fun k hk => by subst hk; exact g7))⟩
end
section
variable {B : Nat} {w : World} {x b z : Nat} {S : WS}
set_option maxRecDepth 100000 in
set_option maxHeartbeats 8000000 in
theorem wdo_put_no (h : WI B w x S b z) (y : LH) (bs : List Nat) (hI : IsL w y bs) (hbz : b + 1 ≤ 40 ∧ z + y.b.n + 10 ≤ 21000) (E : Int) (hE : E ≠ 0) (P0 P1 P2 : Int) (P3 : Nat) (D2 : Dk.D) (vals2 : List (List (List Nat)))
    (hput : ∀ W A C, Below w.heap.size w W → W.ownsRow w.heap.size 5 1 (.slice A y.b.n C) y.b.n (kcells .u8 bs) → Calls Tryz.prog 14 #[.pointer (some ⟨S.m, 0, none⟩), .slice A y.b.n C] W fun e w' => e = .returned (.tuple #[.agg #[.int .i64 P0, .int .i64 P1, .int .i64 P2, .int .u32 (P3 : Nat)], .int .i64 E]) ∧ VD B w' S.p D2 ∧ Wk B W w')
    (href : ∀ W, RL B W S.sa S.n S.sc S.va S.vc S.segs S.vals → B ≤ W.heap.size → VAt W y.b bs → Calls Tryz.prog 28 #[.agg #[.slice S.sa S.n S.sc, .slice S.va S.n S.vc], .slice y.b.a y.b.n y.b.c] W fun e w' => ∃ V VC, e = .returned (.tuple #[.agg #[.slice S.sa S.n S.sc, .slice V S.n VC], .agg #[.int .i64 P0, .int .i64 P1, .int .i64 P2, .int .u32 (P3 : Nat)], .int .i64 E]) ∧ RL B w' S.sa S.n S.sc V VC S.segs vals2 ∧ Below W.heap.size W w')
    (hac : Vl.Ac D2 S.segs vals2 (b + 1) (z + y.b.n + 10))
    (hlow : ∀ k o, y.b.a = some ⟨k, o, none⟩ → 0 < y.b.n → k < B)
    (hd : y.d = 0) :
    Calls Tryz.prog 10 #[.pointer (some ⟨x, 0, none⟩), actv y] w (DoR B w x b z y) := by
  obtain ⟨W0, hW0⟩ : ∃ W0, W0 = w.alloc (acto y) := ⟨_, rfl⟩
  obtain ⟨z0, B0, ha⟩ := act_w0 hW0
  have HA : Hid (∀ W, Below W0.heap.size W0 W → W.heap[w.heap.size]? = some (.cells #[.int .i64 y.d, .int .i64 y.n, .slice y.b.a y.b.n y.b.c, .int .i64 y.q.1, .int .i64 y.q.2.1, .int .i64 y.q.2.2.1, .int .u32 (y.q.2.2.2 : Nat)] 44 (0, 0))) := ha
  have HR : Hid (∀ W, Below w.heap.size w W → DoR B w x b z y (.returned (.bool true)) W) := (fun W hW => DoR.same h hbz hW : ∀ W, Below w.heap.size w W → _)
  have HW : Hid (WI B w x S b z) := h
  have HI : Hid (IsL w y bs) := hI
  have hblk : Hid (∀ W, Below w.heap.size w W → W.heap[x]? = some (.cells #[.pointer (some ⟨S.p, 0, none⟩), .pointer (some ⟨S.m, 0, none⟩), .slice S.sa S.n S.sc, .slice S.va S.n S.vc, .slice S.ta S.tn S.tc] 37 (0, 0))) := (fun W hW => (h.keep hW).blk : ∀ W, Below w.heap.size w W → _)
  have bW : Hid (∀ W, Below W0.heap.size W0 W → Below w.heap.size w W) := (fun W hW => B0.trans (hW.mono B0.size) : ∀ W, Below W0.heap.size W0 W → _)
  obtain ⟨k0, k1, k2, k3, k4, k5, k6⟩ := act_cells (ha W0 (Below.refl _ _))
  obtain ⟨x0, x1, x2, x3, x4, xf⟩ := world_cells (hblk.out W0 B0)
  have hE0 : Hid (W0 = w.alloc (acto y)) := hW0
  have hWB := h.B'
  obtain ⟨p, m, a, n, c, sa, sc, va, vc, ta, tn, tc, segs, vals, told, D⟩ := S
  obtain ⟨d, yn, ⟨ba, bn, bc⟩, ⟨q0, q1, q2, q3⟩⟩ := y
  simp only [acto] at hW0 hE0 k0 k1 k2 k3 k4 k5 k6 x0 x1 x2 x3 x4 hd HA hblk ⊢
  simp only [actv]
  rw [hW0] at k0 k1 k2 k3 k4 k5 k6 x0 x1 x2 x3 x4
  subst hd
  simp only at hput href hlow hac
  have HLW : Hid (∀ k o, ba = some ⟨k, o, none⟩ → 0 < bn → k < B) := hlow
  clear hlow
  have hBw : Hid (B ≤ w.heap.size) := hWB
  have HBZ : Hid (b + 1 ≤ 40 ∧ z + bn + 10 ≤ 21000) := hbz
  have HVA : Hid (VAt w ⟨ba, bn, bc⟩ bs) := hI.bytes
  have HBN : Hid (bn ≤ 140737488355328) := hI.len
  have hbw0 : Hid (Below w.heap.size w W0) := B0
  have HAC : Hid (Vl.Ac D2 segs vals2 (b + 1) (z + bn + 10)) := hac
  clear hWB z0 B0 hac
  have e1 : (E == 0) = false := by simpa using hE
  clear hE
  clear h hI ha hW0 hbz
  go_enter Tryz.func10, Tryz.ntmps10
  go_upto_region 3 with fail
  rw [← hE0.out]
  rw [← hE0.out] at k0 k1 k2 k3 k4 k5 k6 x0 x1 x2 x3 x4
  clear xf
  go_cut [5, 6] (fun s5 s6 wx => ∃ G : Nat, s5 = .pointer (some ⟨G, 0, none⟩) ∧ s6 = .int .i64 E ∧ Hid (wx.heap[G]? = some (.cells #[.int .i64 P0, .int .i64 P1, .int .i64 P2, .int .u32 (P3 : Nat)] 42 (0, 0))) ∧ Hid (Wk B w wx) ∧ Hid (VD B wx p D2) ∧ Hid (wx.heap[w.heap.size]? = some (.cells #[.int .i64 0, .int .i64 yn, .slice ba bn bc, .int .i64 q0, .int .i64 q1, .int .i64 q2, .int .u32 (q3 : Nat)] 44 (0, 0))) ∧ Hid (w.heap.size ≤ G))
  case first =>
      have hbE := below_alloc W0 (.cells #[] 5)
      have hbP := below_alloc W0 (.cells #[.int .i64 0, .int .i64 0, .int .i64 0, .int .u32 0] 42)
      have hbEP := bal hbE (.cells #[.int .i64 0, .int .i64 0, .int .i64 0, .int .u32 0] 42)
      have hbPE := bal hbP (.cells #[] 5)
      have pEP : ((W0.alloc (.cells #[] 5)).alloc (.cells #[.int .i64 0, .int .i64 0, .int .i64 0, .int .u32 0] 42)).heap[W0.heap.size + 1]? = some (.cells #[.int .i64 0, .int .i64 0, .int .i64 0, .int .u32 0] 42 (0, 0)) := by have := heap_alloc_new (W0.alloc (.cells #[] 5)) (.cells #[.int .i64 0, .int .i64 0, .int .i64 0, .int .u32 0] 42); rw [World.size_alloc] at this; exact this
      have pPE : ((W0.alloc (.cells #[.int .i64 0, .int .i64 0, .int .i64 0, .int .u32 0] 42)).alloc (.cells #[] 5)).heap[W0.heap.size]? = some (.cells #[.int .i64 0, .int .i64 0, .int .i64 0, .int .u32 0] 42 (0, 0)) := ((below_alloc (W0.alloc (.cells #[.int .i64 0, .int .i64 0, .int .i64 0, .int .u32 0] 42)) (.cells #[] 5)).block _ (by simp)).trans (heap_alloc_new W0 _)
      obtain ⟨ea0, ea1, ea2, ea3, ea4, _⟩ := world_cells (hblk.out _ (bW.out _ hbE))
      obtain ⟨eb0, eb1, eb2, eb3, eb4, eb5, eb6⟩ := act_cells (HA.out _ hbE)
      obtain ⟨pa0, pa1, pa2, pa3, pa4, _⟩ := world_cells (hblk.out _ (bW.out _ hbP))
      obtain ⟨pb0, pb1, pb2, pb3, pb4, pb5, pb6⟩ := act_cells (HA.out _ hbP)
      obtain ⟨qa0, qa1, qa2, qa3, qa4, _⟩ := world_cells (hblk.out _ (bW.out _ hbEP))
      obtain ⟨qb0, qb1, qb2, qb3, qb4, qb5, qb6⟩ := act_cells (HA.out _ hbEP)
      obtain ⟨ra0, ra1, ra2, ra3, ra4, _⟩ := world_cells (hblk.out _ (bW.out _ hbPE))
      obtain ⟨rb0, rb1, rb2, rb3, rb4, rb5, rb6⟩ := act_cells (HA.out _ hbPE)
      have nx0 : W0.heap.size ≠ x := Nat.ne_of_gt (cell_lt x1)
      have nx1 : W0.heap.size + 1 ≠ x := Nat.ne_of_gt (Nat.lt_succ_of_lt (cell_lt x1))
      have nw0 : W0.heap.size ≠ w.heap.size := Nat.ne_of_gt (cell_lt k2)
      have nw1 : W0.heap.size + 1 ≠ w.heap.size := Nat.ne_of_gt (Nat.lt_succ_of_lt (cell_lt k2))
      refine wp_region_held_drew (S := (fun W => W.cell? ⟨x, 1, none⟩ = some (.pointer (some ⟨m, 0, none⟩)) ∧ W.cell? ⟨w.heap.size, 2, none⟩ = some (.slice ba bn bc))) (by kernel_rfl) (by first | go_keep | (refine ⟨?_, ?_⟩ <;> assumption)) (fun hHeld => ?_)
      refine wpAnyH_take (i := 0) (oi := ⟨some 21, _, _, _, _, _⟩) (v := ?_) rfl (by kernel_rfl) (by kernel_rfl) (by kernel_rfl) (fun _ _ _ h => h) (Or.inl ⟨by rfl, ?_⟩) (by assumption) ?_
      rotate_left
      · intro w hSw; (try dsimp only at hSw); go_simp <;> (try with_reducible rfl)
      go_frame
      refine wpAnyH_take (i := 1) (oi := ⟨some 22, _, _, _, _, _⟩) (v := ?_) rfl (by kernel_rfl) (by kernel_rfl) (by kernel_rfl) (fun _ _ _ h => h) (Or.inl ⟨by rfl, ?_⟩) (by assumption) ?_
      rotate_left
      · intro w hSw; (try dsimp only at hSw); go_simp <;> (try with_reducible rfl)
      go_frame
      refine wpAnyH_take (i := 2) (oi := ⟨some 23, _, _, _, _, _⟩) (v := ?_) rfl (by kernel_rfl) (by kernel_rfl) (by kernel_rfl) (fun _ _ _ h => h) (Or.inl ⟨by rfl, ?_⟩) (by assumption) ?_
      rotate_left
      · intro w hSw; (try dsimp only at hSw); go_simp <;> (try with_reducible rfl)
      go_frame
      refine wpAnyH_take (i := 3) (oi := ⟨some 24, _, _, _, _, _⟩) (v := ?_) rfl (by kernel_rfl) (by kernel_rfl) (by kernel_rfl) (fun _ _ _ h => h) (Or.inl ⟨by rfl, ?_⟩) (by assumption) ?_
      rotate_left
      · intro w hSw; (try dsimp only at hSw); go_simp <;> (try with_reducible rfl)
      go_frame
      refine wpAnyH_take (i := 5) (oi := ⟨some 26, _, _, _, _, _⟩) (v := ?_) rfl (by kernel_rfl) (by kernel_rfl) (by kernel_rfl) (fun _ _ _ h => h) (Or.inl ⟨by rfl, ?_⟩) (by assumption) ?_
      rotate_left
      · intro w hSw; (try dsimp only at hSw); go_simp <;> (try with_reducible rfl)
      go_frame
      refine wpAnyH_take (i := 6) (oi := ⟨some 27, _, _, _, _, _⟩) (v := ?_) rfl (by kernel_rfl) (by kernel_rfl) (by kernel_rfl) (fun _ _ _ h => h) (Or.inl ⟨by rfl, ?_⟩) (by assumption) ?_
      rotate_left
      · intro w hSw; (try dsimp only at hSw); go_simp <;> (try with_reducible rfl)
      go_frame
      refine wpAnyH_ready (rs := [4, 12]) (by kernel_rfl) (by simp) ?_
      refine AllReadyH.cons rfl (fun K hK => ?_) (AllReadyH.cons rfl (fun K hK => ?_) AllReadyH.nil)
      · skip
        go_simp
        refine hK.out _ _ (by first | go_keep | (refine ⟨?_, ?_⟩ <;> assumption)) (fun hHeld => ?_)
        clear hK K
        refine wpAnyH_ready (rs := [7, 12]) (by kernel_rfl) (by simp) ?_
        refine AllReadyH.cons rfl (fun K hK => ?_) (AllReadyH.cons rfl (fun K hK => ?_) AllReadyH.nil)
        · skip
          refine step_u8gb (w0 := W0) (B := W0.heap.size) (w := (W0.alloc (.cells #[] 5)).drew) (by rfl) _ _ (by rfl) _ 0 [] (by rfl) (show World.ownsRow (W0.alloc (.cells #[] 5)).drew W0.heap.size 5 1 (.slice (some ⟨W0.heap.size, 0, none⟩) 0 0) 0 (kcells .u8 []) from (World.ownsRow_made (base := W0.heap.size) (e := 5) (size := 1) W0 #[] 0 (Nat.le_refl _) (by decide) (by simp))) ba bn bc bs (by rfl) (HVA.out.1.below (hbw0.out.trans (hbE.drew.mono hbw0.out.size)) (Nat.le_refl _)) HVA.out.2.1 (by have := HBZ.out; omega) hbE.drew (by simp <;> omega) ?_; intro A1 C1 w1 ho1 hb1 _ hg1; rw [Nat.zero_add, List.nil_append] at ho1; rw [Nat.zero_add]; obtain ⟨y0, y1, y2, y3, y4, yf⟩ := world_cells (hblk.out w1 (bW.out _ hb1)); obtain ⟨m0, m1, m2, m3, m4, m5, m6⟩ := act_cells (HA.out w1 hb1); obtain ⟨za0, za1, za2, za3, za4, _⟩ := world_cells (hblk.out _ (bW.out _ (bal hb1 (.cells #[.int .i64 0, .int .i64 0, .int .i64 0, .int .u32 0] 42)))); obtain ⟨zb0, zb1, zb2, zb3, zb4, zb5, zb6⟩ := act_cells (HA.out _ (bal hb1 (.cells #[.int .i64 0, .int .i64 0, .int .i64 0, .int .u32 0] 42)))
          refine hK.out _ _ (by first | go_keep | (refine ⟨?_, ?_⟩ <;> assumption)) (fun hHeld => ?_)
          clear hK K
          try go_frame
          refine wpAnyH_ready (rs := [8, 12]) (by kernel_rfl) (by simp) ?_
          refine AllReadyH.cons rfl (fun K hK => ?_) (AllReadyH.cons rfl (fun K hK => ?_) AllReadyH.nil)
          · skip
            go_simp; go_at_call 14; refine (hput w1 A1 C1 (bW.out _ hb1) (ho1.mono hbw0.out.size)).mono ?_; rintro e w2 ⟨rfl, hD2, hW2⟩; obtain ⟨v0, v1, v2, v3, v4, vf⟩ := world_cells (hW2.blk (hblk.out w1 (bW.out _ hb1)) (by decide) (by decide) (by decide) (by decide)); obtain ⟨u0, u1, u2, u3, u4, u5, u6⟩ := act_cells (hW2.blk (HA.out w1 hb1) (by decide) (by decide) (by decide) (by decide)); have hWw : Wk B w w2 := (Wk.of_below (bW.out _ hb1)).trans hW2; have ha2 := below_alloc w2 (.cells #[.int .i64 0, .int .i64 0, .int .i64 0, .int .u32 0] 42)
            refine hK.out _ _ (by first | go_keep | (refine ⟨?_, ?_⟩ <;> assumption)) (fun hHeld => ?_)
            clear hK K
            try go_frame
            refine wpAnyH_take (i := 9) (oi := ⟨some 20, _, _, _, _, _⟩) (v := ?_) rfl (by kernel_rfl) (by kernel_rfl) (by kernel_rfl) (fun _ _ _ h => h) (Or.inl ⟨by rfl, ?_⟩) (by assumption) ?_
            rotate_left
            · intro w hSw; (try dsimp only at hSw); go_simp <;> (try with_reducible rfl)
            go_frame
            refine wpAnyH_take (i := 10) (oi := ⟨some 30, _, _, _, _, _⟩) (v := ?_) rfl (by kernel_rfl) (by kernel_rfl) (by kernel_rfl) (fun _ _ _ h => h) (Or.inl ⟨by rfl, ?_⟩) (by assumption) ?_
            rotate_left
            · intro w hSw; (try dsimp only at hSw); go_simp <;> (try with_reducible rfl)
            go_frame
            refine wpAnyH_take (i := 11) (oi := ⟨some 31, _, _, _, _, _⟩) (v := ?_) rfl (by kernel_rfl) (by kernel_rfl) (by kernel_rfl) (fun _ _ _ h => h) (Or.inl ⟨by rfl, ?_⟩) (by assumption) ?_
            rotate_left
            · intro w hSw; (try dsimp only at hSw); go_simp <;> (try with_reducible rfl)
            go_frame
            refine wpAnyH_ready (rs := [12]) (by kernel_rfl) (by simp) ?_
            refine AllReadyH.cons rfl (fun K hK => ?_) AllReadyH.nil
            go_simp
            refine hK.out _ _ (by first | go_keep | (refine ⟨?_, ?_⟩ <;> assumption)) (fun hHeld => ?_)
            clear hK K
            refine wpAnyH_ready (rs := [13]) (by kernel_rfl) (by simp) ?_
            refine AllReadyH.cons rfl (fun K hK => ?_) AllReadyH.nil
            go_simp
            refine hK.out _ _ (by first | go_keep | (refine ⟨?_, ?_⟩ <;> assumption)) (fun hHeld => ?_)
            clear hK K
            refine wpAnyH_take (i := 14) (oi := ⟨some 6, _, _, _, _, _⟩) (v := ?_) rfl (by kernel_rfl) (by kernel_rfl) (by kernel_rfl) (fun _ _ _ h => h) (Or.inl ⟨by rfl, ?_⟩) (by assumption) ?_
            rotate_left
            · intro w hSw; (try dsimp only at hSw); go_simp <;> (try with_reducible rfl)
            go_frame
            refine wpAnyH_done (by kernel_rfl) ?_ _
            go_wp2_with fail
            go_meet
            case rel => exact ⟨w2.heap.size, rfl, rfl, heap_alloc_new w2 _, hWw.trans (Wk.of_below (below_alloc _ _)), hD2.keep (below_alloc _ _), ((below_alloc w2 _).block _ (cell_lt u0)).trans (hW2.blk (HA.out _ hb1) (by decide) (by decide) (by decide) (by decide)), (hWw.below hBw.out).size⟩
          · skip
            go_simp
            refine hK.out _ _ (by first | go_keep | (refine ⟨?_, ?_⟩ <;> assumption)) (fun hHeld => ?_)
            clear hK K
            refine wpAnyH_ready (rs := [8]) (by kernel_rfl) (by simp) ?_
            refine AllReadyH.cons rfl (fun K hK => ?_) AllReadyH.nil
            go_simp; go_at_call 14; refine (hput (w1.alloc (.cells #[.int .i64 0, .int .i64 0, .int .i64 0, .int .u32 0] 42)) A1 C1 (bW.out _ (bal hb1 (.cells #[.int .i64 0, .int .i64 0, .int .i64 0, .int .u32 0] 42))) ((ho1.alloc _).mono hbw0.out.size)).mono ?_; rintro e w2 ⟨rfl, hD2, hW2⟩; obtain ⟨v0, v1, v2, v3, v4, vf⟩ := world_cells (hW2.blk (hblk.out (w1.alloc (.cells #[.int .i64 0, .int .i64 0, .int .i64 0, .int .u32 0] 42)) (bW.out _ (bal hb1 (.cells #[.int .i64 0, .int .i64 0, .int .i64 0, .int .u32 0] 42)))) (by decide) (by decide) (by decide) (by decide)); obtain ⟨u0, u1, u2, u3, u4, u5, u6⟩ := act_cells (hW2.blk (HA.out (w1.alloc (.cells #[.int .i64 0, .int .i64 0, .int .i64 0, .int .u32 0] 42)) (bal hb1 (.cells #[.int .i64 0, .int .i64 0, .int .i64 0, .int .u32 0] 42))) (by decide) (by decide) (by decide) (by decide)); have hWw : Wk B w w2 := (Wk.of_below (bW.out _ (bal hb1 (.cells #[.int .i64 0, .int .i64 0, .int .i64 0, .int .u32 0] 42)))).trans hW2; have hpb2 := hW2.blk (heap_alloc_new w1 (.cells #[.int .i64 0, .int .i64 0, .int .i64 0, .int .u32 0] 42)) (by decide) (by decide) (by decide) (by decide); have nx : w1.heap.size ≠ x := Nat.ne_of_gt (cell_lt y1); have nw : w1.heap.size ≠ w.heap.size := Nat.ne_of_gt (cell_lt m2); obtain ⟨p0, p1, p2, p3, ppf⟩ := pt_cells hpb2; have pf0 := ppf 0; have pf1 := ppf 1; have pf2 := ppf 2; have pf3 := ppf 3
            refine hK.out _ _ (by first | go_keep | (refine ⟨?_, ?_⟩ <;> assumption)) (fun hHeld => ?_)
            clear hK K
            try go_frame
            refine wpAnyH_take (i := 9) (oi := ⟨some 20, _, _, _, _, _⟩) (v := ?_) rfl (by kernel_rfl) (by kernel_rfl) (by kernel_rfl) (fun _ _ _ h => h) (Or.inl ⟨by rfl, ?_⟩) (by assumption) ?_
            rotate_left
            · intro w hSw; (try dsimp only at hSw); go_simp <;> (try with_reducible rfl)
            go_frame
            refine wpAnyH_take (i := 10) (oi := ⟨some 30, _, _, _, _, _⟩) (v := ?_) rfl (by kernel_rfl) (by kernel_rfl) (by kernel_rfl) (fun _ _ _ h => h) (Or.inl ⟨by rfl, ?_⟩) (by assumption) ?_
            rotate_left
            · intro w hSw; (try dsimp only at hSw); go_simp <;> (try with_reducible rfl)
            go_frame
            refine wpAnyH_take (i := 11) (oi := ⟨some 31, _, _, _, _, _⟩) (v := ?_) rfl (by kernel_rfl) (by kernel_rfl) (by kernel_rfl) (fun _ _ _ h => h) (Or.inl ⟨by rfl, ?_⟩) (by assumption) ?_
            rotate_left
            · intro w hSw; (try dsimp only at hSw); go_simp <;> (try with_reducible rfl)
            go_frame
            refine wpAnyH_ready (rs := [13]) (by kernel_rfl) (by simp) ?_
            refine AllReadyH.cons rfl (fun K hK => ?_) AllReadyH.nil
            go_simp
            refine hK.out _ _ (by first | go_keep | (refine ⟨?_, ?_⟩ <;> assumption)) (fun hHeld => ?_)
            clear hK K
            refine wpAnyH_take (i := 14) (oi := ⟨some 6, _, _, _, _, _⟩) (v := ?_) rfl (by kernel_rfl) (by kernel_rfl) (by kernel_rfl) (fun _ _ _ h => h) (Or.inl ⟨by rfl, ?_⟩) (by assumption) ?_
            rotate_left
            · intro w hSw; (try dsimp only at hSw); go_simp <;> (try with_reducible rfl)
            go_frame
            refine wpAnyH_done (by kernel_rfl) ?_ _
            go_wp2_with fail
            go_meet
            case rel => exact ⟨w1.heap.size, rfl, rfl, (pt4 hpb2 _ _ _ _).1, wk_pt hWw (bW.out _ hb1).size (pt4 hpb2 _ _ _ _).2, vd_pt hD2 hpb2 (Nat.le_trans hBw.out (bW.out _ hb1).size) (pt4 hpb2 _ _ _ _).2, ((pt4 hpb2 _ _ _ _).2.block _ (cell_lt u0) (Ne.symm nw)).trans (hW2.blk (HA.out _ (bal hb1 _)) (by decide) (by decide) (by decide) (by decide)), (bW.out _ hb1).size⟩
        · skip
          go_simp
          refine hK.out _ _ (by first | go_keep | (refine ⟨?_, ?_⟩ <;> assumption)) (fun hHeld => ?_)
          clear hK K
          refine wpAnyH_ready (rs := [7]) (by kernel_rfl) (by simp) ?_
          refine AllReadyH.cons rfl (fun K hK => ?_) AllReadyH.nil
          refine step_u8gb (w0 := W0) (B := W0.heap.size) (w := ((W0.alloc (.cells #[] 5)).alloc (.cells #[.int .i64 0, .int .i64 0, .int .i64 0, .int .u32 0] 42)).drew) (by rfl) _ _ (by rfl) _ 0 [] (by rfl) (show World.ownsRow ((W0.alloc (.cells #[] 5)).alloc (.cells #[.int .i64 0, .int .i64 0, .int .i64 0, .int .u32 0] 42)).drew W0.heap.size 5 1 (.slice (some ⟨W0.heap.size, 0, none⟩) 0 0) 0 (kcells .u8 []) from ((World.ownsRow_made (base := W0.heap.size) (e := 5) (size := 1) W0 #[] 0 (Nat.le_refl _) (by decide) (by simp)).alloc _)) ba bn bc bs (by rfl) (HVA.out.1.below (hbw0.out.trans (hbEP.drew.mono hbw0.out.size)) (Nat.le_refl _)) HVA.out.2.1 (by have := HBZ.out; omega) hbEP.drew (by simp <;> omega) ?_; intro A1 C1 w1 ho1 hb1 _ hg1; rw [Nat.zero_add, List.nil_append] at ho1; rw [Nat.zero_add]; obtain ⟨y0, y1, y2, y3, y4, yf⟩ := world_cells (hblk.out w1 (bW.out _ hb1)); obtain ⟨m0, m1, m2, m3, m4, m5, m6⟩ := act_cells (HA.out w1 hb1); have hpb : w1.heap[W0.heap.size + 1]? = some (.cells #[.int .i64 0, .int .i64 0, .int .i64 0, .int .u32 0] 42 (0, 0)) := (hg1.block _ (by simp) (by simp [Value.ownBlock])).trans pEP
          refine hK.out _ _ (by first | go_keep | (refine ⟨?_, ?_⟩ <;> assumption)) (fun hHeld => ?_)
          clear hK K
          try go_frame
          refine wpAnyH_ready (rs := [8]) (by kernel_rfl) (by simp) ?_
          refine AllReadyH.cons rfl (fun K hK => ?_) AllReadyH.nil
          go_simp; go_at_call 14; refine (hput w1 A1 C1 (bW.out _ hb1) (ho1.mono hbw0.out.size)).mono ?_; rintro e w2 ⟨rfl, hD2, hW2⟩; obtain ⟨v0, v1, v2, v3, v4, vf⟩ := world_cells (hW2.blk (hblk.out w1 (bW.out _ hb1)) (by decide) (by decide) (by decide) (by decide)); obtain ⟨u0, u1, u2, u3, u4, u5, u6⟩ := act_cells (hW2.blk (HA.out w1 hb1) (by decide) (by decide) (by decide) (by decide)); have hWw : Wk B w w2 := (Wk.of_below (bW.out _ hb1)).trans hW2; have hpb2 := hW2.blk hpb (by decide) (by decide) (by decide) (by decide); obtain ⟨p0, p1, p2, p3, ppf⟩ := pt_cells hpb2; have pf0 := ppf 0; have pf1 := ppf 1; have pf2 := ppf 2; have pf3 := ppf 3
          refine hK.out _ _ (by first | go_keep | (refine ⟨?_, ?_⟩ <;> assumption)) (fun hHeld => ?_)
          clear hK K
          try go_frame
          refine wpAnyH_take (i := 9) (oi := ⟨some 20, _, _, _, _, _⟩) (v := ?_) rfl (by kernel_rfl) (by kernel_rfl) (by kernel_rfl) (fun _ _ _ h => h) (Or.inl ⟨by rfl, ?_⟩) (by assumption) ?_
          rotate_left
          · intro w hSw; (try dsimp only at hSw); go_simp <;> (try with_reducible rfl)
          go_frame
          refine wpAnyH_take (i := 10) (oi := ⟨some 30, _, _, _, _, _⟩) (v := ?_) rfl (by kernel_rfl) (by kernel_rfl) (by kernel_rfl) (fun _ _ _ h => h) (Or.inl ⟨by rfl, ?_⟩) (by assumption) ?_
          rotate_left
          · intro w hSw; (try dsimp only at hSw); go_simp <;> (try with_reducible rfl)
          go_frame
          refine wpAnyH_take (i := 11) (oi := ⟨some 31, _, _, _, _, _⟩) (v := ?_) rfl (by kernel_rfl) (by kernel_rfl) (by kernel_rfl) (fun _ _ _ h => h) (Or.inl ⟨by rfl, ?_⟩) (by assumption) ?_
          rotate_left
          · intro w hSw; (try dsimp only at hSw); go_simp <;> (try with_reducible rfl)
          go_frame
          refine wpAnyH_ready (rs := [13]) (by kernel_rfl) (by simp) ?_
          refine AllReadyH.cons rfl (fun K hK => ?_) AllReadyH.nil
          go_simp
          refine hK.out _ _ (by first | go_keep | (refine ⟨?_, ?_⟩ <;> assumption)) (fun hHeld => ?_)
          clear hK K
          refine wpAnyH_take (i := 14) (oi := ⟨some 6, _, _, _, _, _⟩) (v := ?_) rfl (by kernel_rfl) (by kernel_rfl) (by kernel_rfl) (fun _ _ _ h => h) (Or.inl ⟨by rfl, ?_⟩) (by assumption) ?_
          rotate_left
          · intro w hSw; (try dsimp only at hSw); go_simp <;> (try with_reducible rfl)
          go_frame
          refine wpAnyH_done (by kernel_rfl) ?_ _
          go_wp2_with fail
          go_meet
          case rel => exact ⟨W0.heap.size + 1, rfl, rfl, (pt4 hpb2 _ _ _ _).1, wk_pt hWw (Nat.le_succ_of_le hbw0.out.size) (pt4 hpb2 _ _ _ _).2, vd_pt hD2 hpb2 (Nat.le_trans hBw.out (Nat.le_succ_of_le hbw0.out.size)) (pt4 hpb2 _ _ _ _).2, ((pt4 hpb2 _ _ _ _).2.block _ (cell_lt u0) (Ne.symm nw1)).trans (hW2.blk (HA.out _ hb1) (by decide) (by decide) (by decide) (by decide)), (Nat.le_succ_of_le hbw0.out.size)⟩
      · skip
        go_simp
        refine hK.out _ _ (by first | go_keep | (refine ⟨?_, ?_⟩ <;> assumption)) (fun hHeld => ?_)
        clear hK K
        refine wpAnyH_ready (rs := [4]) (by kernel_rfl) (by simp) ?_
        refine AllReadyH.cons rfl (fun K hK => ?_) AllReadyH.nil
        go_simp
        refine hK.out _ _ (by first | go_keep | (refine ⟨?_, ?_⟩ <;> assumption)) (fun hHeld => ?_)
        clear hK K
        refine wpAnyH_ready (rs := [7]) (by kernel_rfl) (by simp) ?_
        refine AllReadyH.cons rfl (fun K hK => ?_) AllReadyH.nil
        refine step_u8gb (w0 := W0) (B := W0.heap.size) (w := ((W0.alloc (.cells #[.int .i64 0, .int .i64 0, .int .i64 0, .int .u32 0] 42)).alloc (.cells #[] 5)).drew) (by rfl) _ _ (by rfl) _ 0 [] (by rfl) (show World.ownsRow ((W0.alloc (.cells #[.int .i64 0, .int .i64 0, .int .i64 0, .int .u32 0] 42)).alloc (.cells #[] 5)).drew W0.heap.size 5 1 (.slice (some ⟨W0.heap.size + 1, 0, none⟩) 0 0) 0 (kcells .u8 []) from (by have := (World.ownsRow_made (base := W0.heap.size) (e := 5) (size := 1) (W0.alloc (.cells #[.int .i64 0, .int .i64 0, .int .i64 0, .int .u32 0] 42)) #[] 0 (by simp) (by decide) (by simp)); rw [World.size_alloc] at this; exact this)) ba bn bc bs (by rfl) (HVA.out.1.below (hbw0.out.trans (hbPE.drew.mono hbw0.out.size)) (Nat.le_refl _)) HVA.out.2.1 (by have := HBZ.out; omega) hbPE.drew (by simp <;> omega) ?_; intro A1 C1 w1 ho1 hb1 _ hg1; rw [Nat.zero_add, List.nil_append] at ho1; rw [Nat.zero_add]; obtain ⟨y0, y1, y2, y3, y4, yf⟩ := world_cells (hblk.out w1 (bW.out _ hb1)); obtain ⟨m0, m1, m2, m3, m4, m5, m6⟩ := act_cells (HA.out w1 hb1); have hpb : w1.heap[W0.heap.size]? = some (.cells #[.int .i64 0, .int .i64 0, .int .i64 0, .int .u32 0] 42 (0, 0)) := (hg1.block _ (by simp; omega) (by simp [Value.ownBlock])).trans pPE
        refine hK.out _ _ (by first | go_keep | (refine ⟨?_, ?_⟩ <;> assumption)) (fun hHeld => ?_)
        clear hK K
        try go_frame
        refine wpAnyH_ready (rs := [8]) (by kernel_rfl) (by simp) ?_
        refine AllReadyH.cons rfl (fun K hK => ?_) AllReadyH.nil
        go_simp; go_at_call 14; refine (hput w1 A1 C1 (bW.out _ hb1) (ho1.mono hbw0.out.size)).mono ?_; rintro e w2 ⟨rfl, hD2, hW2⟩; obtain ⟨v0, v1, v2, v3, v4, vf⟩ := world_cells (hW2.blk (hblk.out w1 (bW.out _ hb1)) (by decide) (by decide) (by decide) (by decide)); obtain ⟨u0, u1, u2, u3, u4, u5, u6⟩ := act_cells (hW2.blk (HA.out w1 hb1) (by decide) (by decide) (by decide) (by decide)); have hWw : Wk B w w2 := (Wk.of_below (bW.out _ hb1)).trans hW2; have hpb2 := hW2.blk hpb (by decide) (by decide) (by decide) (by decide); obtain ⟨p0, p1, p2, p3, ppf⟩ := pt_cells hpb2; have pf0 := ppf 0; have pf1 := ppf 1; have pf2 := ppf 2; have pf3 := ppf 3
        refine hK.out _ _ (by first | go_keep | (refine ⟨?_, ?_⟩ <;> assumption)) (fun hHeld => ?_)
        clear hK K
        try go_frame
        refine wpAnyH_take (i := 9) (oi := ⟨some 20, _, _, _, _, _⟩) (v := ?_) rfl (by kernel_rfl) (by kernel_rfl) (by kernel_rfl) (fun _ _ _ h => h) (Or.inl ⟨by rfl, ?_⟩) (by assumption) ?_
        rotate_left
        · intro w hSw; (try dsimp only at hSw); go_simp <;> (try with_reducible rfl)
        go_frame
        refine wpAnyH_take (i := 10) (oi := ⟨some 30, _, _, _, _, _⟩) (v := ?_) rfl (by kernel_rfl) (by kernel_rfl) (by kernel_rfl) (fun _ _ _ h => h) (Or.inl ⟨by rfl, ?_⟩) (by assumption) ?_
        rotate_left
        · intro w hSw; (try dsimp only at hSw); go_simp <;> (try with_reducible rfl)
        go_frame
        refine wpAnyH_take (i := 11) (oi := ⟨some 31, _, _, _, _, _⟩) (v := ?_) rfl (by kernel_rfl) (by kernel_rfl) (by kernel_rfl) (fun _ _ _ h => h) (Or.inl ⟨by rfl, ?_⟩) (by assumption) ?_
        rotate_left
        · intro w hSw; (try dsimp only at hSw); go_simp <;> (try with_reducible rfl)
        go_frame
        refine wpAnyH_ready (rs := [13]) (by kernel_rfl) (by simp) ?_
        refine AllReadyH.cons rfl (fun K hK => ?_) AllReadyH.nil
        go_simp
        refine hK.out _ _ (by first | go_keep | (refine ⟨?_, ?_⟩ <;> assumption)) (fun hHeld => ?_)
        clear hK K
        refine wpAnyH_take (i := 14) (oi := ⟨some 6, _, _, _, _, _⟩) (v := ?_) rfl (by kernel_rfl) (by kernel_rfl) (by kernel_rfl) (fun _ _ _ h => h) (Or.inl ⟨by rfl, ?_⟩) (by assumption) ?_
        rotate_left
        · intro w hSw; (try dsimp only at hSw); go_simp <;> (try with_reducible rfl)
        go_frame
        refine wpAnyH_done (by kernel_rfl) ?_ _
        go_wp2_with fail
        go_meet
        case rel => exact ⟨W0.heap.size, rfl, rfl, (pt4 hpb2 _ _ _ _).1, wk_pt hWw hbw0.out.size (pt4 hpb2 _ _ _ _).2, vd_pt hD2 hpb2 (Nat.le_trans hBw.out hbw0.out.size) (pt4 hpb2 _ _ _ _).2, ((pt4 hpb2 _ _ _ _).2.block _ (cell_lt u0) (Ne.symm nw0)).trans (hW2.blk (HA.out _ hb1) (by decide) (by decide) (by decide) (by decide)), hbw0.out.size⟩
  case rest =>
    obtain ⟨G, rfl, rfl, hG, hWk, hVD, hact, hGN⟩ := hcut
    have hbk : Below B w wc := hWk.out.below hBw.out
    have HLO : Hid (w.heap.size ≤ wc.heap.size) := hbk.size
    have HC : Hid (∀ W, Below wc.heap.size wc W → W.heap[x]? = some (.cells #[.pointer (some ⟨p, 0, none⟩), .pointer (some ⟨m, 0, none⟩), .slice sa n sc, .slice va n vc, .slice ta tn tc] 37 (0, 0)) ∧ W.heap[w.heap.size]? = some (.cells #[.int .i64 0, .int .i64 yn, .slice ba bn bc, .int .i64 q0, .int .i64 q1, .int .i64 q2, .int .u32 (q3 : Nat)] 44 (0, 0)) ∧ RL B W sa n sc va vc segs vals ∧ B ≤ W.heap.size ∧ VAt W ⟨ba, bn, bc⟩ bs) := (fun W hW => by
      have h1 := hWk.out.blk HW.out.blk (by decide) (by decide) (by decide) (by decide)
      have h2 := HW.out.rl.wy (P := fun _ => False) (Wy.of_wk hBw.out hWk.out) (fun _ _ _ _ => id)
      have h3 : VAt wc ⟨ba, bn, bc⟩ bs := ⟨row_same HVA.out.1 fun k o e hn => hbk.block k (HLW.out k o e hn), HVA.out.2⟩
      exact ⟨(hW.block _ (heap_lt h1)).trans h1, (hW.block _ (heap_lt hact.out)).trans hact.out, h2.keep (Nat.le_trans hBw.out hbk.size) hW, Nat.le_trans (Nat.le_trans hBw.out hbk.size) hW.size, h3.below hW (Nat.le_refl _)⟩ : ∀ W, Below wc.heap.size wc W → _)
    clear k0 k1 k2 k3 k4 k5 k6 x0 x1 x2 x3 x4 hput
    obtain ⟨x0, x1, x2, x3, x4, xf⟩ := world_cells (HC.out wc (Below.refl _ _)).1
    obtain ⟨k0, k1, k2, k3, k4, k5, k6⟩ := act_cells (HC.out wc (Below.refl _ _)).2.1
    go_upto_region 4 with fail
    go_cut [7, 8, 9] (fun s7 s8 s9 wx => ∃ (G7 G8 : Nat) (V5 : Option Addr) (C5 : Nat), s7 = .pointer (some ⟨G7, 0, none⟩) ∧ s8 = .pointer (some ⟨G8, 0, none⟩) ∧ s9 = .int .i64 E ∧ Hid (wx.heap[G7]? = some (.cells #[.slice sa n sc, .slice V5 n C5] 34 (0, 0))) ∧ Hid (wx.heap[G8]? = some (.cells #[.int .i64 P0, .int .i64 P1, .int .i64 P2, .int .u32 (P3 : Nat)] 42 (0, 0))) ∧ Hid (RL B wx sa n sc V5 C5 segs vals2) ∧ Hid (Below wc.heap.size wc wx) ∧ Hid (w.heap.size ≤ G8))
    case first =>
      obtain ⟨a0, a1, a2, a3, a4, _⟩ := world_cells (HC.out _ (below_alloc wc (.cells #[.slice none 0 0, .slice none 0 0] 34))).1
      obtain ⟨a5, a6, a7, a8, a9, a10, a11⟩ := act_cells (HC.out _ (below_alloc wc (.cells #[.slice none 0 0, .slice none 0 0] 34))).2.1
      obtain ⟨b0, b1, b2, b3, b4, _⟩ := world_cells (HC.out _ (below_alloc wc (.cells #[.int .i64 0, .int .i64 0, .int .i64 0, .int .u32 0] 42))).1
      obtain ⟨b5, b6, b7, b8, b9, b10, b11⟩ := act_cells (HC.out _ (below_alloc wc (.cells #[.int .i64 0, .int .i64 0, .int .i64 0, .int .u32 0] 42))).2.1
      obtain ⟨c0, c1, c2, c3, c4, _⟩ := world_cells (HC.out _ (bal (below_alloc wc (.cells #[.slice none 0 0, .slice none 0 0] 34)) (.cells #[.int .i64 0, .int .i64 0, .int .i64 0, .int .u32 0] 42))).1
      obtain ⟨c5, c6, c7, c8, c9, c10, c11⟩ := act_cells (HC.out _ (bal (below_alloc wc (.cells #[.slice none 0 0, .slice none 0 0] 34)) (.cells #[.int .i64 0, .int .i64 0, .int .i64 0, .int .u32 0] 42))).2.1
      obtain ⟨d0, d1, d2, d3, d4, _⟩ := world_cells (HC.out _ (bal (below_alloc wc (.cells #[.int .i64 0, .int .i64 0, .int .i64 0, .int .u32 0] 42)) (.cells #[.slice none 0 0, .slice none 0 0] 34))).1
      obtain ⟨d5, d6, d7, d8, d9, d10, d11⟩ := act_cells (HC.out _ (bal (below_alloc wc (.cells #[.int .i64 0, .int .i64 0, .int .i64 0, .int .u32 0] 42)) (.cells #[.slice none 0 0, .slice none 0 0] 34))).2.1
      have nx0 : wc.heap.size ≠ x := Nat.ne_of_gt (cell_lt x1)
      have nx1 : wc.heap.size + 1 ≠ x := Nat.ne_of_gt (Nat.lt_succ_of_lt (cell_lt x1))
      have nw0 : wc.heap.size ≠ w.heap.size := Nat.ne_of_gt (cell_lt k2)
      have nw1 : wc.heap.size + 1 ≠ w.heap.size := Nat.ne_of_gt (Nat.lt_succ_of_lt (cell_lt k2))
      refine wp_region_held_drew (S := (fun W => W.cell? ⟨x, 2, none⟩ = some (.slice sa n sc) ∧ W.cell? ⟨x, 3, none⟩ = some (.slice va n vc) ∧ W.cell? ⟨w.heap.size, 2, none⟩ = some (.slice ba bn bc))) (by kernel_rfl) (by first | go_keep | (refine ⟨?_, ?_, ?_⟩ <;> assumption)) (fun hHeld => ?_)
      refine wpAnyH_take (i := 0) (oi := ⟨some 33, _, _, _, _, _⟩) (v := ?_) rfl (by kernel_rfl) (by kernel_rfl) (by kernel_rfl) (fun _ _ _ h => h) (Or.inl ⟨by rfl, ?_⟩) (by assumption) ?_
      rotate_left
      · intro w hSw; (try dsimp only at hSw); go_simp <;> (try with_reducible rfl)
      go_frame
      refine wpAnyH_take (i := 1) (oi := ⟨some 34, _, _, _, _, _⟩) (v := ?_) rfl (by kernel_rfl) (by kernel_rfl) (by kernel_rfl) (fun _ _ _ h => h) (Or.inl ⟨by rfl, ?_⟩) (by assumption) ?_
      rotate_left
      · intro w hSw; (try dsimp only at hSw); go_simp <;> (try with_reducible rfl)
      go_frame
      refine wpAnyH_take (i := 2) (oi := ⟨some 35, _, _, _, _, _⟩) (v := ?_) rfl (by kernel_rfl) (by kernel_rfl) (by kernel_rfl) (fun _ _ _ h => h) (Or.inl ⟨by rfl, ?_⟩) (by assumption) ?_
      rotate_left
      · intro w hSw; (try dsimp only at hSw); go_simp <;> (try with_reducible rfl)
      go_frame
      refine wpAnyH_take (i := 3) (oi := ⟨some 36, _, _, _, _, _⟩) (v := ?_) rfl (by kernel_rfl) (by kernel_rfl) (by kernel_rfl) (fun _ _ _ h => h) (Or.inl ⟨by rfl, ?_⟩) (by assumption) ?_
      rotate_left
      · intro w hSw; (try dsimp only at hSw); go_simp <;> (try with_reducible rfl)
      go_frame
      refine wpAnyH_take (i := 4) (oi := ⟨some 37, _, _, _, _, _⟩) (v := ?_) rfl (by kernel_rfl) (by kernel_rfl) (by kernel_rfl) (fun _ _ _ h => h) (Or.inl ⟨by rfl, ?_⟩) (by assumption) ?_
      rotate_left
      · intro w hSw; (try dsimp only at hSw); go_simp <;> (try with_reducible rfl)
      go_frame
      refine wpAnyH_take (i := 5) (oi := ⟨some 38, _, _, _, _, _⟩) (v := ?_) rfl (by kernel_rfl) (by kernel_rfl) (by kernel_rfl) (fun _ _ _ h => h) (Or.inl ⟨by rfl, ?_⟩) (by assumption) ?_
      rotate_left
      · intro w hSw; (try dsimp only at hSw); go_simp <;> (try with_reducible rfl)
      go_frame
      refine wpAnyH_ready (rs := [6, 11, 12]) (by kernel_rfl) (by simp) ?_
      refine AllReadyH.cons rfl (fun K hK => ?_) (AllReadyH.cons rfl (fun K hK => ?_) (AllReadyH.cons rfl (fun K hK => ?_) AllReadyH.nil))
      · skip
        go_simp; go_at_call 28; refine (href wc.drew (HC.out _ (bd1 (Below.refl wc.heap.size wc))).2.2.1 (HC.out _ (bd1 (Below.refl wc.heap.size wc))).2.2.2.1 (HC.out _ (bd1 (Below.refl wc.heap.size wc))).2.2.2.2).mono ?_; rintro e w5 ⟨V5, C5, rfl, hR5, hb5'⟩; have hb5 : Below wc.heap.size wc w5 := (Below.refl wc.heap.size wc).trans ((below_of_drew hb5').mono (Below.refl wc.heap.size wc).size); obtain ⟨y0, y1, y2, y3, y4, yf⟩ := world_cells (HC.out w5 hb5).1; obtain ⟨m0, m1, m2, m3, m4, m5, m6⟩ := act_cells (HC.out w5 hb5).2.1; have nx5 : w5.heap.size ≠ x := Nat.ne_of_gt (cell_lt y2); have nx6 : w5.heap.size + 1 ≠ x := Nat.ne_of_gt (Nat.lt_succ_of_lt (cell_lt y2)); have nw5 : w5.heap.size ≠ w.heap.size := Nat.ne_of_gt (cell_lt m2); have nw6 : w5.heap.size + 1 ≠ w.heap.size := Nat.ne_of_gt (Nat.lt_succ_of_lt (cell_lt m2))
        refine hK.out _ _ (by first | go_keep | (refine ⟨?_, ?_, ?_⟩ <;> assumption)) (fun hHeld => ?_)
        clear hK K
        try go_frame
        refine wpAnyH_take (i := 7) (oi := ⟨some 32, _, _, _, _, _⟩) (v := ?_) rfl (by kernel_rfl) (by kernel_rfl) (by kernel_rfl) (fun _ _ _ h => h) (Or.inl ⟨by rfl, ?_⟩) (by assumption) ?_
        rotate_left
        · intro w hSw; (try dsimp only at hSw); go_simp <;> (try with_reducible rfl)
        go_frame
        refine wpAnyH_take (i := 8) (oi := ⟨some 40, _, _, _, _, _⟩) (v := ?_) rfl (by kernel_rfl) (by kernel_rfl) (by kernel_rfl) (fun _ _ _ h => h) (Or.inl ⟨by rfl, ?_⟩) (by assumption) ?_
        rotate_left
        · intro w hSw; (try dsimp only at hSw); go_simp <;> (try with_reducible rfl)
        go_frame
        refine wpAnyH_take (i := 9) (oi := ⟨some 41, _, _, _, _, _⟩) (v := ?_) rfl (by kernel_rfl) (by kernel_rfl) (by kernel_rfl) (fun _ _ _ h => h) (Or.inl ⟨by rfl, ?_⟩) (by assumption) ?_
        rotate_left
        · intro w hSw; (try dsimp only at hSw); go_simp <;> (try with_reducible rfl)
        go_frame
        refine wpAnyH_take (i := 10) (oi := ⟨some 42, _, _, _, _, _⟩) (v := ?_) rfl (by kernel_rfl) (by kernel_rfl) (by kernel_rfl) (fun _ _ _ h => h) (Or.inl ⟨by rfl, ?_⟩) (by assumption) ?_
        rotate_left
        · intro w hSw; (try dsimp only at hSw); go_simp <;> (try with_reducible rfl)
        go_frame
        refine wpAnyH_ready (rs := [11, 12]) (by kernel_rfl) (by simp) ?_
        refine AllReadyH.cons rfl (fun K hK => ?_) (AllReadyH.cons rfl (fun K hK => ?_) AllReadyH.nil)
        · skip
          go_simp
          refine hK.out _ _ (by first | go_keep | (refine ⟨?_, ?_, ?_⟩ <;> assumption)) (fun hHeld => ?_)
          clear hK K
          refine wpAnyH_ready (rs := [12]) (by kernel_rfl) (by simp) ?_
          refine AllReadyH.cons rfl (fun K hK => ?_) AllReadyH.nil
          go_simp
          refine hK.out _ _ (by first | go_keep | (refine ⟨?_, ?_, ?_⟩ <;> assumption)) (fun hHeld => ?_)
          clear hK K
          refine wpAnyH_ready (rs := [13]) (by kernel_rfl) (by simp) ?_
          refine AllReadyH.cons rfl (fun K hK => ?_) AllReadyH.nil
          go_simp
          refine hK.out _ _ (by first | go_keep | (refine ⟨?_, ?_, ?_⟩ <;> assumption)) (fun hHeld => ?_)
          clear hK K
          refine wpAnyH_ready (rs := [14]) (by kernel_rfl) (by simp) ?_
          refine AllReadyH.cons rfl (fun K hK => ?_) AllReadyH.nil
          go_simp
          refine hK.out _ _ (by first | go_keep | (refine ⟨?_, ?_, ?_⟩ <;> assumption)) (fun hHeld => ?_)
          clear hK K
          refine wpAnyH_take (i := 15) (oi := ⟨some 9, _, _, _, _, _⟩) (v := ?_) rfl (by kernel_rfl) (by kernel_rfl) (by kernel_rfl) (fun _ _ _ h => h) (Or.inl ⟨by rfl, ?_⟩) (by assumption) ?_
          rotate_left
          · intro w hSw; (try dsimp only at hSw); go_simp <;> (try with_reducible rfl)
          go_frame
          refine wpAnyH_done (by kernel_rfl) ?_ _
          go_wp2_with fail
          go_meet
          case rel =>
            exact ⟨w5.heap.size, w5.heap.size + 1, V5, C5, rfl, rfl, rfl, ((below_alloc (w5.alloc (.cells #[.slice sa n sc, .slice V5 n C5] 34)) (.cells #[.int .i64 P0, .int .i64 P1, .int .i64 P2, .int .u32 (P3 : Nat)] 42)).block _ (by simp)).trans (heap_alloc_new w5 _), heap_alloc_next w5 _ _, ((hR5.keep (Nat.le_trans (HC.out wc (Below.refl wc.heap.size wc)).2.2.2.1 hb5.size) (below_alloc w5 (.cells #[.slice sa n sc, .slice V5 n C5] 34))).keep (Nat.le_trans (HC.out wc (Below.refl wc.heap.size wc)).2.2.2.1 (bal hb5 _).size) (below_alloc _ _)), bal (bal hb5 _) _, (show w.heap.size ≤ _ by have := HLO.out; have := hb5.size; omega)⟩
        · skip
          go_simp
          refine hK.out _ _ (by first | go_keep | (refine ⟨?_, ?_, ?_⟩ <;> assumption)) (fun hHeld => ?_)
          clear hK K
          refine wpAnyH_ready (rs := [11]) (by kernel_rfl) (by simp) ?_
          refine AllReadyH.cons rfl (fun K hK => ?_) AllReadyH.nil
          go_simp
          refine hK.out _ _ (by first | go_keep | (refine ⟨?_, ?_, ?_⟩ <;> assumption)) (fun hHeld => ?_)
          clear hK K
          refine wpAnyH_ready (rs := [13]) (by kernel_rfl) (by simp) ?_
          refine AllReadyH.cons rfl (fun K hK => ?_) AllReadyH.nil
          go_simp
          refine hK.out _ _ (by first | go_keep | (refine ⟨?_, ?_, ?_⟩ <;> assumption)) (fun hHeld => ?_)
          clear hK K
          refine wpAnyH_ready (rs := [14]) (by kernel_rfl) (by simp) ?_
          refine AllReadyH.cons rfl (fun K hK => ?_) AllReadyH.nil
          go_simp
          refine hK.out _ _ (by first | go_keep | (refine ⟨?_, ?_, ?_⟩ <;> assumption)) (fun hHeld => ?_)
          clear hK K
          refine wpAnyH_take (i := 15) (oi := ⟨some 9, _, _, _, _, _⟩) (v := ?_) rfl (by kernel_rfl) (by kernel_rfl) (by kernel_rfl) (fun _ _ _ h => h) (Or.inl ⟨by rfl, ?_⟩) (by assumption) ?_
          rotate_left
          · intro w hSw; (try dsimp only at hSw); go_simp <;> (try with_reducible rfl)
          go_frame
          refine wpAnyH_done (by kernel_rfl) ?_ _
          go_wp2_with fail
          go_meet
          case rel =>
            exact ⟨w5.heap.size + 1, w5.heap.size, V5, C5, rfl, rfl, rfl, heap_alloc_next w5 _ _, ((below_alloc (w5.alloc (.cells #[.int .i64 P0, .int .i64 P1, .int .i64 P2, .int .u32 (P3 : Nat)] 42)) (.cells #[.slice sa n sc, .slice V5 n C5] 34)).block _ (by simp)).trans (heap_alloc_new w5 _), ((hR5.keep (Nat.le_trans (HC.out wc (Below.refl wc.heap.size wc)).2.2.2.1 hb5.size) (below_alloc w5 (.cells #[.int .i64 P0, .int .i64 P1, .int .i64 P2, .int .u32 (P3 : Nat)] 42))).keep (Nat.le_trans (HC.out wc (Below.refl wc.heap.size wc)).2.2.2.1 (bal hb5 _).size) (below_alloc _ _)), bal (bal hb5 _) _, (show w.heap.size ≤ _ by have := HLO.out; have := hb5.size; omega)⟩
      · skip
        go_simp
        refine hK.out _ _ (by first | go_keep | (refine ⟨?_, ?_, ?_⟩ <;> assumption)) (fun hHeld => ?_)
        clear hK K
        refine wpAnyH_ready (rs := [6, 12]) (by kernel_rfl) (by simp) ?_
        refine AllReadyH.cons rfl (fun K hK => ?_) (AllReadyH.cons rfl (fun K hK => ?_) AllReadyH.nil)
        · skip
          go_simp; go_at_call 28; refine (href (wc.alloc (.cells #[.slice none 0 0, .slice none 0 0] 34)).drew (HC.out _ (bd1 (bal (Below.refl wc.heap.size wc) (.cells #[.slice none 0 0, .slice none 0 0] 34)))).2.2.1 (HC.out _ (bd1 (bal (Below.refl wc.heap.size wc) (.cells #[.slice none 0 0, .slice none 0 0] 34)))).2.2.2.1 (HC.out _ (bd1 (bal (Below.refl wc.heap.size wc) (.cells #[.slice none 0 0, .slice none 0 0] 34)))).2.2.2.2).mono ?_; rintro e w5 ⟨V5, C5, rfl, hR5, hb5'⟩; have hb5 : Below wc.heap.size wc w5 := (bal (Below.refl wc.heap.size wc) (.cells #[.slice none 0 0, .slice none 0 0] 34)).trans ((below_of_drew hb5').mono (bal (Below.refl wc.heap.size wc) (.cells #[.slice none 0 0, .slice none 0 0] 34)).size); obtain ⟨y0, y1, y2, y3, y4, yf⟩ := world_cells (HC.out w5 hb5).1; obtain ⟨m0, m1, m2, m3, m4, m5, m6⟩ := act_cells (HC.out w5 hb5).2.1; have lb5 : w5.heap[wc.heap.size]? = some (.cells #[.slice none 0 0, .slice none 0 0] 34 (0, 0)) := ((below_of_drew hb5').block _ (by simp)).trans (heap_alloc_new wc _); obtain ⟨l0, l1, lf0, lf1⟩ := log_cells lb5; have lb6 := fun o => ((below_alloc w5 o).block _ (heap_lt lb5)).trans lb5; have l60 := fun o => (log_cells (lb6 o)).1; have l61 := fun o => (log_cells (lb6 o)).2.1; have l62 := fun o => (log_cells (lb6 o)).2.2.1; have l63 := fun o => (log_cells (lb6 o)).2.2.2; have nx5 : w5.heap.size ≠ x := Nat.ne_of_gt (cell_lt y2); have nx6 : w5.heap.size + 1 ≠ x := Nat.ne_of_gt (Nat.lt_succ_of_lt (cell_lt y2)); have nw5 : w5.heap.size ≠ w.heap.size := Nat.ne_of_gt (cell_lt m2); have nw6 : w5.heap.size + 1 ≠ w.heap.size := Nat.ne_of_gt (Nat.lt_succ_of_lt (cell_lt m2)); have ng : wc.heap.size ≠ w5.heap.size := Nat.ne_of_lt (heap_lt lb5)
          refine hK.out _ _ (by first | go_keep | (refine ⟨?_, ?_, ?_⟩ <;> assumption)) (fun hHeld => ?_)
          clear hK K
          try go_frame
          refine wpAnyH_take (i := 7) (oi := ⟨some 32, _, _, _, _, _⟩) (v := ?_) rfl (by kernel_rfl) (by kernel_rfl) (by kernel_rfl) (fun _ _ _ h => h) (Or.inl ⟨by rfl, ?_⟩) (by assumption) ?_
          rotate_left
          · intro w hSw; (try dsimp only at hSw); go_simp <;> (try with_reducible rfl)
          go_frame
          refine wpAnyH_take (i := 8) (oi := ⟨some 40, _, _, _, _, _⟩) (v := ?_) rfl (by kernel_rfl) (by kernel_rfl) (by kernel_rfl) (fun _ _ _ h => h) (Or.inl ⟨by rfl, ?_⟩) (by assumption) ?_
          rotate_left
          · intro w hSw; (try dsimp only at hSw); go_simp <;> (try with_reducible rfl)
          go_frame
          refine wpAnyH_take (i := 9) (oi := ⟨some 41, _, _, _, _, _⟩) (v := ?_) rfl (by kernel_rfl) (by kernel_rfl) (by kernel_rfl) (fun _ _ _ h => h) (Or.inl ⟨by rfl, ?_⟩) (by assumption) ?_
          rotate_left
          · intro w hSw; (try dsimp only at hSw); go_simp <;> (try with_reducible rfl)
          go_frame
          refine wpAnyH_take (i := 10) (oi := ⟨some 42, _, _, _, _, _⟩) (v := ?_) rfl (by kernel_rfl) (by kernel_rfl) (by kernel_rfl) (fun _ _ _ h => h) (Or.inl ⟨by rfl, ?_⟩) (by assumption) ?_
          rotate_left
          · intro w hSw; (try dsimp only at hSw); go_simp <;> (try with_reducible rfl)
          go_frame
          refine wpAnyH_ready (rs := [12]) (by kernel_rfl) (by simp) ?_
          refine AllReadyH.cons rfl (fun K hK => ?_) AllReadyH.nil
          go_simp
          refine hK.out _ _ (by first | go_keep | (refine ⟨?_, ?_, ?_⟩ <;> assumption)) (fun hHeld => ?_)
          clear hK K
          refine wpAnyH_ready (rs := [13]) (by kernel_rfl) (by simp) ?_
          refine AllReadyH.cons rfl (fun K hK => ?_) AllReadyH.nil
          go_simp
          refine hK.out _ _ (by first | go_keep | (refine ⟨?_, ?_, ?_⟩ <;> assumption)) (fun hHeld => ?_)
          clear hK K
          refine wpAnyH_ready (rs := [14]) (by kernel_rfl) (by simp) ?_
          refine AllReadyH.cons rfl (fun K hK => ?_) AllReadyH.nil
          go_simp
          refine hK.out _ _ (by first | go_keep | (refine ⟨?_, ?_, ?_⟩ <;> assumption)) (fun hHeld => ?_)
          clear hK K
          refine wpAnyH_take (i := 15) (oi := ⟨some 9, _, _, _, _, _⟩) (v := ?_) rfl (by kernel_rfl) (by kernel_rfl) (by kernel_rfl) (fun _ _ _ h => h) (Or.inl ⟨by rfl, ?_⟩) (by assumption) ?_
          rotate_left
          · intro w hSw; (try dsimp only at hSw); go_simp <;> (try with_reducible rfl)
          go_frame
          refine wpAnyH_done (by kernel_rfl) ?_ _
          go_wp2_with fail
          go_meet
          case rel =>
            obtain ⟨q7, q8, qR, qb⟩ := pb2 (lb6 (.cells #[.int .i64 0, .int .i64 0, .int .i64 0, .int .u32 0] 42)) (heap_alloc_new w5 (.cells #[.int .i64 0, .int .i64 0, .int .i64 0, .int .u32 0] 42)) (hR5.keep (Nat.le_trans (HC.out wc (Below.refl wc.heap.size wc)).2.2.2.1 hb5.size) (below_alloc w5 _)) (bal hb5 (.cells #[.int .i64 0, .int .i64 0, .int .i64 0, .int .u32 0] 42)) (HC.out wc (Below.refl wc.heap.size wc)).2.2.2.1 (Nat.le_refl _) (.slice sa n sc) (.slice V5 n C5)
            obtain ⟨t7, t8, tR, tb⟩ := pb4 q7 q8 qR qb (HC.out wc (Below.refl wc.heap.size wc)).2.2.2.1 hb5.size (.int .i64 P0) (.int .i64 P1) (.int .i64 P2) (.int .u32 (P3 : Nat))
            exact ⟨wc.heap.size, w5.heap.size, V5, C5, rfl, rfl, rfl, t7, t8, tR, tb, (show w.heap.size ≤ _ by have := HLO.out; have := hb5.size; omega)⟩
        · skip
          go_simp
          refine hK.out _ _ (by first | go_keep | (refine ⟨?_, ?_, ?_⟩ <;> assumption)) (fun hHeld => ?_)
          clear hK K
          refine wpAnyH_ready (rs := [6]) (by kernel_rfl) (by simp) ?_
          refine AllReadyH.cons rfl (fun K hK => ?_) AllReadyH.nil
          go_simp; go_at_call 28; refine (href ((wc.alloc (.cells #[.slice none 0 0, .slice none 0 0] 34)).alloc (.cells #[.int .i64 0, .int .i64 0, .int .i64 0, .int .u32 0] 42)).drew (HC.out _ (bd1 (bal (bal (Below.refl wc.heap.size wc) (.cells #[.slice none 0 0, .slice none 0 0] 34)) (.cells #[.int .i64 0, .int .i64 0, .int .i64 0, .int .u32 0] 42)))).2.2.1 (HC.out _ (bd1 (bal (bal (Below.refl wc.heap.size wc) (.cells #[.slice none 0 0, .slice none 0 0] 34)) (.cells #[.int .i64 0, .int .i64 0, .int .i64 0, .int .u32 0] 42)))).2.2.2.1 (HC.out _ (bd1 (bal (bal (Below.refl wc.heap.size wc) (.cells #[.slice none 0 0, .slice none 0 0] 34)) (.cells #[.int .i64 0, .int .i64 0, .int .i64 0, .int .u32 0] 42)))).2.2.2.2).mono ?_; rintro e w5 ⟨V5, C5, rfl, hR5, hb5'⟩; have hb5 : Below wc.heap.size wc w5 := (bal (bal (Below.refl wc.heap.size wc) (.cells #[.slice none 0 0, .slice none 0 0] 34)) (.cells #[.int .i64 0, .int .i64 0, .int .i64 0, .int .u32 0] 42)).trans ((below_of_drew hb5').mono (bal (bal (Below.refl wc.heap.size wc) (.cells #[.slice none 0 0, .slice none 0 0] 34)) (.cells #[.int .i64 0, .int .i64 0, .int .i64 0, .int .u32 0] 42)).size); obtain ⟨y0, y1, y2, y3, y4, yf⟩ := world_cells (HC.out w5 hb5).1; obtain ⟨m0, m1, m2, m3, m4, m5, m6⟩ := act_cells (HC.out w5 hb5).2.1; have lb5 : w5.heap[wc.heap.size]? = some (.cells #[.slice none 0 0, .slice none 0 0] 34 (0, 0)) := ((below_of_drew hb5').block _ (by simp; omega)).trans (((below_alloc (wc.alloc (.cells #[.slice none 0 0, .slice none 0 0] 34)) (.cells #[.int .i64 0, .int .i64 0, .int .i64 0, .int .u32 0] 42)).block _ (by simp)).trans (heap_alloc_new wc _)); have pb5 : w5.heap[wc.heap.size + 1]? = some (.cells #[.int .i64 0, .int .i64 0, .int .i64 0, .int .u32 0] 42 (0, 0)) := ((below_of_drew hb5').block _ (by simp)).trans (by have := heap_alloc_new (wc.alloc (.cells #[.slice none 0 0, .slice none 0 0] 34)) (.cells #[.int .i64 0, .int .i64 0, .int .i64 0, .int .u32 0] 42); rw [World.size_alloc] at this; exact this); obtain ⟨l0, l1, lf0, lf1⟩ := log_cells lb5; obtain ⟨p0, p1, p2, p3, ppf⟩ := pt_cells pb5; have pf0 := ppf 0; have pf1 := ppf 1; have pf2 := ppf 2; have pf3 := ppf 3; have nx5 : w5.heap.size ≠ x := Nat.ne_of_gt (cell_lt y2); have nx6 : w5.heap.size + 1 ≠ x := Nat.ne_of_gt (Nat.lt_succ_of_lt (cell_lt y2)); have nw5 : w5.heap.size ≠ w.heap.size := Nat.ne_of_gt (cell_lt m2); have nw6 : w5.heap.size + 1 ≠ w.heap.size := Nat.ne_of_gt (Nat.lt_succ_of_lt (cell_lt m2))
          refine hK.out _ _ (by first | go_keep | (refine ⟨?_, ?_, ?_⟩ <;> assumption)) (fun hHeld => ?_)
          clear hK K
          try go_frame
          refine wpAnyH_take (i := 7) (oi := ⟨some 32, _, _, _, _, _⟩) (v := ?_) rfl (by kernel_rfl) (by kernel_rfl) (by kernel_rfl) (fun _ _ _ h => h) (Or.inl ⟨by rfl, ?_⟩) (by assumption) ?_
          rotate_left
          · intro w hSw; (try dsimp only at hSw); go_simp <;> (try with_reducible rfl)
          go_frame
          refine wpAnyH_take (i := 8) (oi := ⟨some 40, _, _, _, _, _⟩) (v := ?_) rfl (by kernel_rfl) (by kernel_rfl) (by kernel_rfl) (fun _ _ _ h => h) (Or.inl ⟨by rfl, ?_⟩) (by assumption) ?_
          rotate_left
          · intro w hSw; (try dsimp only at hSw); go_simp <;> (try with_reducible rfl)
          go_frame
          refine wpAnyH_take (i := 9) (oi := ⟨some 41, _, _, _, _, _⟩) (v := ?_) rfl (by kernel_rfl) (by kernel_rfl) (by kernel_rfl) (fun _ _ _ h => h) (Or.inl ⟨by rfl, ?_⟩) (by assumption) ?_
          rotate_left
          · intro w hSw; (try dsimp only at hSw); go_simp <;> (try with_reducible rfl)
          go_frame
          refine wpAnyH_take (i := 10) (oi := ⟨some 42, _, _, _, _, _⟩) (v := ?_) rfl (by kernel_rfl) (by kernel_rfl) (by kernel_rfl) (fun _ _ _ h => h) (Or.inl ⟨by rfl, ?_⟩) (by assumption) ?_
          rotate_left
          · intro w hSw; (try dsimp only at hSw); go_simp <;> (try with_reducible rfl)
          go_frame
          refine wpAnyH_ready (rs := [13]) (by kernel_rfl) (by simp) ?_
          refine AllReadyH.cons rfl (fun K hK => ?_) AllReadyH.nil
          go_simp
          refine hK.out _ _ (by first | go_keep | (refine ⟨?_, ?_, ?_⟩ <;> assumption)) (fun hHeld => ?_)
          clear hK K
          refine wpAnyH_ready (rs := [14]) (by kernel_rfl) (by simp) ?_
          refine AllReadyH.cons rfl (fun K hK => ?_) AllReadyH.nil
          go_simp
          refine hK.out _ _ (by first | go_keep | (refine ⟨?_, ?_, ?_⟩ <;> assumption)) (fun hHeld => ?_)
          clear hK K
          refine wpAnyH_take (i := 15) (oi := ⟨some 9, _, _, _, _, _⟩) (v := ?_) rfl (by kernel_rfl) (by kernel_rfl) (by kernel_rfl) (fun _ _ _ h => h) (Or.inl ⟨by rfl, ?_⟩) (by assumption) ?_
          rotate_left
          · intro w hSw; (try dsimp only at hSw); go_simp <;> (try with_reducible rfl)
          go_frame
          refine wpAnyH_done (by kernel_rfl) ?_ _
          go_wp2_with fail
          go_meet
          case rel =>
            obtain ⟨q7, q8, qR, qb⟩ := pb2 lb5 pb5 hR5 hb5 (HC.out wc (Below.refl wc.heap.size wc)).2.2.2.1 (Nat.le_refl _) (.slice sa n sc) (.slice V5 n C5)
            obtain ⟨t7, t8, tR, tb⟩ := pb4 q7 q8 qR qb (HC.out wc (Below.refl wc.heap.size wc)).2.2.2.1 (Nat.le_succ _) (.int .i64 P0) (.int .i64 P1) (.int .i64 P2) (.int .u32 (P3 : Nat))
            exact ⟨wc.heap.size, wc.heap.size + 1, V5, C5, rfl, rfl, rfl, t7, t8, tR, tb, (show w.heap.size ≤ _ by have := HLO.out; have := hb5.size; omega)⟩
      · skip
        go_simp
        refine hK.out _ _ (by first | go_keep | (refine ⟨?_, ?_, ?_⟩ <;> assumption)) (fun hHeld => ?_)
        clear hK K
        refine wpAnyH_ready (rs := [6, 11]) (by kernel_rfl) (by simp) ?_
        refine AllReadyH.cons rfl (fun K hK => ?_) (AllReadyH.cons rfl (fun K hK => ?_) AllReadyH.nil)
        · skip
          go_simp; go_at_call 28; refine (href (wc.alloc (.cells #[.int .i64 0, .int .i64 0, .int .i64 0, .int .u32 0] 42)).drew (HC.out _ (bd1 (bal (Below.refl wc.heap.size wc) (.cells #[.int .i64 0, .int .i64 0, .int .i64 0, .int .u32 0] 42)))).2.2.1 (HC.out _ (bd1 (bal (Below.refl wc.heap.size wc) (.cells #[.int .i64 0, .int .i64 0, .int .i64 0, .int .u32 0] 42)))).2.2.2.1 (HC.out _ (bd1 (bal (Below.refl wc.heap.size wc) (.cells #[.int .i64 0, .int .i64 0, .int .i64 0, .int .u32 0] 42)))).2.2.2.2).mono ?_; rintro e w5 ⟨V5, C5, rfl, hR5, hb5'⟩; have hb5 : Below wc.heap.size wc w5 := (bal (Below.refl wc.heap.size wc) (.cells #[.int .i64 0, .int .i64 0, .int .i64 0, .int .u32 0] 42)).trans ((below_of_drew hb5').mono (bal (Below.refl wc.heap.size wc) (.cells #[.int .i64 0, .int .i64 0, .int .i64 0, .int .u32 0] 42)).size); obtain ⟨y0, y1, y2, y3, y4, yf⟩ := world_cells (HC.out w5 hb5).1; obtain ⟨m0, m1, m2, m3, m4, m5, m6⟩ := act_cells (HC.out w5 hb5).2.1; have pb5 : w5.heap[wc.heap.size]? = some (.cells #[.int .i64 0, .int .i64 0, .int .i64 0, .int .u32 0] 42 (0, 0)) := ((below_of_drew hb5').block _ (by simp)).trans (heap_alloc_new wc _); obtain ⟨p0, p1, p2, p3, ppf⟩ := pt_cells pb5; have pf0 := ppf 0; have pf1 := ppf 1; have pf2 := ppf 2; have pf3 := ppf 3; have pb6 := fun o => ((below_alloc w5 o).block _ (heap_lt pb5)).trans pb5; have p60 := fun o => (pt_cells (pb6 o)).1; have p61 := fun o => (pt_cells (pb6 o)).2.1; have p62 := fun o => (pt_cells (pb6 o)).2.2.1; have p63 := fun o => (pt_cells (pb6 o)).2.2.2.1; have p64 := fun o => (pt_cells (pb6 o)).2.2.2.2 0; have p65 := fun o => (pt_cells (pb6 o)).2.2.2.2 1; have p66 := fun o => (pt_cells (pb6 o)).2.2.2.2 2; have p67 := fun o => (pt_cells (pb6 o)).2.2.2.2 3; have nx5 : w5.heap.size ≠ x := Nat.ne_of_gt (cell_lt y2); have nx6 : w5.heap.size + 1 ≠ x := Nat.ne_of_gt (Nat.lt_succ_of_lt (cell_lt y2)); have nw5 : w5.heap.size ≠ w.heap.size := Nat.ne_of_gt (cell_lt m2); have nw6 : w5.heap.size + 1 ≠ w.heap.size := Nat.ne_of_gt (Nat.lt_succ_of_lt (cell_lt m2)); have ng : wc.heap.size ≠ w5.heap.size := Nat.ne_of_lt (heap_lt pb5)
          refine hK.out _ _ (by first | go_keep | (refine ⟨?_, ?_, ?_⟩ <;> assumption)) (fun hHeld => ?_)
          clear hK K
          try go_frame
          refine wpAnyH_take (i := 7) (oi := ⟨some 32, _, _, _, _, _⟩) (v := ?_) rfl (by kernel_rfl) (by kernel_rfl) (by kernel_rfl) (fun _ _ _ h => h) (Or.inl ⟨by rfl, ?_⟩) (by assumption) ?_
          rotate_left
          · intro w hSw; (try dsimp only at hSw); go_simp <;> (try with_reducible rfl)
          go_frame
          refine wpAnyH_take (i := 8) (oi := ⟨some 40, _, _, _, _, _⟩) (v := ?_) rfl (by kernel_rfl) (by kernel_rfl) (by kernel_rfl) (fun _ _ _ h => h) (Or.inl ⟨by rfl, ?_⟩) (by assumption) ?_
          rotate_left
          · intro w hSw; (try dsimp only at hSw); go_simp <;> (try with_reducible rfl)
          go_frame
          refine wpAnyH_take (i := 9) (oi := ⟨some 41, _, _, _, _, _⟩) (v := ?_) rfl (by kernel_rfl) (by kernel_rfl) (by kernel_rfl) (fun _ _ _ h => h) (Or.inl ⟨by rfl, ?_⟩) (by assumption) ?_
          rotate_left
          · intro w hSw; (try dsimp only at hSw); go_simp <;> (try with_reducible rfl)
          go_frame
          refine wpAnyH_take (i := 10) (oi := ⟨some 42, _, _, _, _, _⟩) (v := ?_) rfl (by kernel_rfl) (by kernel_rfl) (by kernel_rfl) (fun _ _ _ h => h) (Or.inl ⟨by rfl, ?_⟩) (by assumption) ?_
          rotate_left
          · intro w hSw; (try dsimp only at hSw); go_simp <;> (try with_reducible rfl)
          go_frame
          refine wpAnyH_ready (rs := [11]) (by kernel_rfl) (by simp) ?_
          refine AllReadyH.cons rfl (fun K hK => ?_) AllReadyH.nil
          go_simp
          refine hK.out _ _ (by first | go_keep | (refine ⟨?_, ?_, ?_⟩ <;> assumption)) (fun hHeld => ?_)
          clear hK K
          refine wpAnyH_ready (rs := [13]) (by kernel_rfl) (by simp) ?_
          refine AllReadyH.cons rfl (fun K hK => ?_) AllReadyH.nil
          go_simp
          refine hK.out _ _ (by first | go_keep | (refine ⟨?_, ?_, ?_⟩ <;> assumption)) (fun hHeld => ?_)
          clear hK K
          refine wpAnyH_ready (rs := [14]) (by kernel_rfl) (by simp) ?_
          refine AllReadyH.cons rfl (fun K hK => ?_) AllReadyH.nil
          go_simp
          refine hK.out _ _ (by first | go_keep | (refine ⟨?_, ?_, ?_⟩ <;> assumption)) (fun hHeld => ?_)
          clear hK K
          refine wpAnyH_take (i := 15) (oi := ⟨some 9, _, _, _, _, _⟩) (v := ?_) rfl (by kernel_rfl) (by kernel_rfl) (by kernel_rfl) (fun _ _ _ h => h) (Or.inl ⟨by rfl, ?_⟩) (by assumption) ?_
          rotate_left
          · intro w hSw; (try dsimp only at hSw); go_simp <;> (try with_reducible rfl)
          go_frame
          refine wpAnyH_done (by kernel_rfl) ?_ _
          go_wp2_with fail
          go_meet
          case rel =>
            obtain ⟨t7, t8, tR, tb⟩ := pb4 (heap_alloc_new w5 (.cells #[.slice sa n sc, .slice V5 n C5] 34)) (pb6 (.cells #[.slice sa n sc, .slice V5 n C5] 34)) (hR5.keep (Nat.le_trans (HC.out wc (Below.refl wc.heap.size wc)).2.2.2.1 hb5.size) (below_alloc w5 _)) (bal hb5 (.cells #[.slice sa n sc, .slice V5 n C5] 34)) (HC.out wc (Below.refl wc.heap.size wc)).2.2.2.1 (Nat.le_refl _) (.int .i64 P0) (.int .i64 P1) (.int .i64 P2) (.int .u32 (P3 : Nat))
            exact ⟨w5.heap.size, wc.heap.size, V5, C5, rfl, rfl, rfl, t7, t8, tR, tb, (show w.heap.size ≤ _ by have := HLO.out; have := hb5.size; omega)⟩
        · skip
          go_simp
          refine hK.out _ _ (by first | go_keep | (refine ⟨?_, ?_, ?_⟩ <;> assumption)) (fun hHeld => ?_)
          clear hK K
          refine wpAnyH_ready (rs := [6]) (by kernel_rfl) (by simp) ?_
          refine AllReadyH.cons rfl (fun K hK => ?_) AllReadyH.nil
          go_simp; go_at_call 28; refine (href ((wc.alloc (.cells #[.int .i64 0, .int .i64 0, .int .i64 0, .int .u32 0] 42)).alloc (.cells #[.slice none 0 0, .slice none 0 0] 34)).drew (HC.out _ (bd1 (bal (bal (Below.refl wc.heap.size wc) (.cells #[.int .i64 0, .int .i64 0, .int .i64 0, .int .u32 0] 42)) (.cells #[.slice none 0 0, .slice none 0 0] 34)))).2.2.1 (HC.out _ (bd1 (bal (bal (Below.refl wc.heap.size wc) (.cells #[.int .i64 0, .int .i64 0, .int .i64 0, .int .u32 0] 42)) (.cells #[.slice none 0 0, .slice none 0 0] 34)))).2.2.2.1 (HC.out _ (bd1 (bal (bal (Below.refl wc.heap.size wc) (.cells #[.int .i64 0, .int .i64 0, .int .i64 0, .int .u32 0] 42)) (.cells #[.slice none 0 0, .slice none 0 0] 34)))).2.2.2.2).mono ?_; rintro e w5 ⟨V5, C5, rfl, hR5, hb5'⟩; have hb5 : Below wc.heap.size wc w5 := (bal (bal (Below.refl wc.heap.size wc) (.cells #[.int .i64 0, .int .i64 0, .int .i64 0, .int .u32 0] 42)) (.cells #[.slice none 0 0, .slice none 0 0] 34)).trans ((below_of_drew hb5').mono (bal (bal (Below.refl wc.heap.size wc) (.cells #[.int .i64 0, .int .i64 0, .int .i64 0, .int .u32 0] 42)) (.cells #[.slice none 0 0, .slice none 0 0] 34)).size); obtain ⟨y0, y1, y2, y3, y4, yf⟩ := world_cells (HC.out w5 hb5).1; obtain ⟨m0, m1, m2, m3, m4, m5, m6⟩ := act_cells (HC.out w5 hb5).2.1; have pb5 : w5.heap[wc.heap.size]? = some (.cells #[.int .i64 0, .int .i64 0, .int .i64 0, .int .u32 0] 42 (0, 0)) := ((below_of_drew hb5').block _ (by simp; omega)).trans (((below_alloc (wc.alloc (.cells #[.int .i64 0, .int .i64 0, .int .i64 0, .int .u32 0] 42)) (.cells #[.slice none 0 0, .slice none 0 0] 34)).block _ (by simp)).trans (heap_alloc_new wc _)); have lb5 : w5.heap[wc.heap.size + 1]? = some (.cells #[.slice none 0 0, .slice none 0 0] 34 (0, 0)) := ((below_of_drew hb5').block _ (by simp)).trans (by have := heap_alloc_new (wc.alloc (.cells #[.int .i64 0, .int .i64 0, .int .i64 0, .int .u32 0] 42)) (.cells #[.slice none 0 0, .slice none 0 0] 34); rw [World.size_alloc] at this; exact this); obtain ⟨l0, l1, lf0, lf1⟩ := log_cells lb5; obtain ⟨p0, p1, p2, p3, ppf⟩ := pt_cells pb5; have pf0 := ppf 0; have pf1 := ppf 1; have pf2 := ppf 2; have pf3 := ppf 3; have nx5 : w5.heap.size ≠ x := Nat.ne_of_gt (cell_lt y2); have nx6 : w5.heap.size + 1 ≠ x := Nat.ne_of_gt (Nat.lt_succ_of_lt (cell_lt y2)); have nw5 : w5.heap.size ≠ w.heap.size := Nat.ne_of_gt (cell_lt m2); have nw6 : w5.heap.size + 1 ≠ w.heap.size := Nat.ne_of_gt (Nat.lt_succ_of_lt (cell_lt m2))
          refine hK.out _ _ (by first | go_keep | (refine ⟨?_, ?_, ?_⟩ <;> assumption)) (fun hHeld => ?_)
          clear hK K
          try go_frame
          refine wpAnyH_take (i := 7) (oi := ⟨some 32, _, _, _, _, _⟩) (v := ?_) rfl (by kernel_rfl) (by kernel_rfl) (by kernel_rfl) (fun _ _ _ h => h) (Or.inl ⟨by rfl, ?_⟩) (by assumption) ?_
          rotate_left
          · intro w hSw; (try dsimp only at hSw); go_simp <;> (try with_reducible rfl)
          go_frame
          refine wpAnyH_take (i := 8) (oi := ⟨some 40, _, _, _, _, _⟩) (v := ?_) rfl (by kernel_rfl) (by kernel_rfl) (by kernel_rfl) (fun _ _ _ h => h) (Or.inl ⟨by rfl, ?_⟩) (by assumption) ?_
          rotate_left
          · intro w hSw; (try dsimp only at hSw); go_simp <;> (try with_reducible rfl)
          go_frame
          refine wpAnyH_take (i := 9) (oi := ⟨some 41, _, _, _, _, _⟩) (v := ?_) rfl (by kernel_rfl) (by kernel_rfl) (by kernel_rfl) (fun _ _ _ h => h) (Or.inl ⟨by rfl, ?_⟩) (by assumption) ?_
          rotate_left
          · intro w hSw; (try dsimp only at hSw); go_simp <;> (try with_reducible rfl)
          go_frame
          refine wpAnyH_take (i := 10) (oi := ⟨some 42, _, _, _, _, _⟩) (v := ?_) rfl (by kernel_rfl) (by kernel_rfl) (by kernel_rfl) (fun _ _ _ h => h) (Or.inl ⟨by rfl, ?_⟩) (by assumption) ?_
          rotate_left
          · intro w hSw; (try dsimp only at hSw); go_simp <;> (try with_reducible rfl)
          go_frame
          refine wpAnyH_ready (rs := [13]) (by kernel_rfl) (by simp) ?_
          refine AllReadyH.cons rfl (fun K hK => ?_) AllReadyH.nil
          go_simp
          refine hK.out _ _ (by first | go_keep | (refine ⟨?_, ?_, ?_⟩ <;> assumption)) (fun hHeld => ?_)
          clear hK K
          refine wpAnyH_ready (rs := [14]) (by kernel_rfl) (by simp) ?_
          refine AllReadyH.cons rfl (fun K hK => ?_) AllReadyH.nil
          go_simp
          refine hK.out _ _ (by first | go_keep | (refine ⟨?_, ?_, ?_⟩ <;> assumption)) (fun hHeld => ?_)
          clear hK K
          refine wpAnyH_take (i := 15) (oi := ⟨some 9, _, _, _, _, _⟩) (v := ?_) rfl (by kernel_rfl) (by kernel_rfl) (by kernel_rfl) (fun _ _ _ h => h) (Or.inl ⟨by rfl, ?_⟩) (by assumption) ?_
          rotate_left
          · intro w hSw; (try dsimp only at hSw); go_simp <;> (try with_reducible rfl)
          go_frame
          refine wpAnyH_done (by kernel_rfl) ?_ _
          go_wp2_with fail
          go_meet
          case rel =>
            obtain ⟨q7, q8, qR, qb⟩ := pb2 lb5 pb5 hR5 hb5 (HC.out wc (Below.refl wc.heap.size wc)).2.2.2.1 (Nat.le_succ _) (.slice sa n sc) (.slice V5 n C5)
            obtain ⟨t7, t8, tR, tb⟩ := pb4 q7 q8 qR qb (HC.out wc (Below.refl wc.heap.size wc)).2.2.2.1 (Nat.le_refl _) (.int .i64 P0) (.int .i64 P1) (.int .i64 P2) (.int .u32 (P3 : Nat))
            exact ⟨wc.heap.size + 1, wc.heap.size, V5, C5, rfl, rfl, rfl, t7, t8, tR, tb, (show w.heap.size ≤ _ by have := HLO.out; have := hb5.size; omega)⟩
    case rest =>
      obtain ⟨G7, G8, V5, C5, rfl, rfl, rfl, h7, h8, hR5, hb5, H8N⟩ := hcut
      have hx5 := (HC.out wc hb5.out).1
      have hD5 := hVD.out.keep hb5.out
      have hL5 := (HW.out.lg.wk hWk.out).keep hb5.out
      have ht5 := owns_below (hWk.out.own HW.out.told (by decide) (by decide) (by decide) (by decide)) hb5.out
      have hG5 := (hb5.out.block _ (heap_lt hG.out)).trans hG.out
      have hB5 : Below B w wc := (hWk.out.below hBw.out).trans (hb5.out.mono (Nat.le_trans hBw.out (hWk.out.below hBw.out).size))
      simp only at hD5 hL5 ht5
      clear x0 x1 x2 x3 x4 xf k0 k1 k2 k3 k4 k5 k6 href
      obtain ⟨x0, x1, x2, x3, x4, xf⟩ := world_cells hx5
      have xf2 := xf 2; have xf3 := xf 3
      obtain ⟨l0, l1, _, _⟩ := log_cells h7.out
      have n7 : G7 ≠ x := Ne.symm (box_ne hx5 h7.out (by decide))
      have n8 : G8 ≠ x := Ne.symm (box_ne hx5 h8.out (by decide))
      have nG : G ≠ x := Ne.symm (box_ne hx5 hG5 (by decide))
      obtain ⟨i0, i1, i2, i3, _⟩ := pt_cells h8.out
      obtain ⟨o0, o1, o2, o3, _⟩ := pt_cells hG5
      clear xf
      have n8' : x ≠ G8 := Ne.symm n8
      have nG' : x ≠ G := Ne.symm nG
      go_wp2_with fail
      go_ret
      have hx6 := Go.Joins.block_setCell (Go.Joins.block_setCell hx5 (.slice sa n sc) (i := 2)) (.slice V5 n C5) (i := 3)
      have hx6' := Go.Joins.block_setCell hx5 (.slice sa n sc) (i := 2)
      exact ⟨by simp, below_box (below_box hB5 HW.out.le 2 _) HW.out.le 3 _, wi_put HW.out hx6 (lg_box (lg_box hL5 hx5 2 _) hx6' 3 _) (vd_box (vd_box hD5 hx5 HW.out.le 2 _) hx6' HW.out.le 3 _) (rl_box (rl_box hR5.out hx5 HW.out.le 2 _) hx6' HW.out.le 3 _) (own_box (own_box ht5 hx5 (by decide) 2 _) hx6' (by decide) 3 _) HW.out.fits HAC.out HBZ.out (Nat.le_trans HW.out.cnt (Nat.le_succ b))⟩
end
end Go.Proofs.YtnoknmnbfkdccaaGreatDoor
