/- The reference's Bytes and Get. -/
import Derived.Test.YtnoknmnbfkdccaaGreatDoorVXc
import Derived.Test.YtnoknmnbfkdccaaGreatDoorSGc
namespace Go.Proofs.YtnoknmnbfkdccaaGreatDoor
open Go.RowKit Go.Shelf

/-- what the reference takes for a segment's bytes -/
def Vl.RefB (segs : List Int) (vals : List (List (List Nat))) (s : Int) (R : List Nat) : Prop := (R = [] ∧ ∀ j, j < segs.length → segs.getD j 0 ≠ s) ∨ ∃ i, i < segs.length ∧ R = Sg.put (vals.getD i []) ∧ segs.getD i 0 = s ∧ ∀ j, j < i → segs.getD j 0 ≠ s
/-- values of few bytes -/
structure Vl.Some' (vals : List (List (List Nat))) : Prop where
  small : ∀ vs ∈ vals, Sg.Small vs
  cnt : ∀ vs ∈ vals, vs.length ≤ 1000
  tot : ∀ vs ∈ vals, (Sg.put vs).length ≤ 100000
theorem Vl.RefB.len {segs : List Int} {vals : List (List (List Nat))} {s : Int} {R : List Nat} (h : Vl.RefB segs vals s R) (hL : vals.length = segs.length) (hS : Vl.Some' vals) : R.length ≤ 100000 := by
  rcases h with ⟨rfl, _⟩ | ⟨i, h1, rfl, _⟩
  · simp
  · exact hS.tot _ (Vl.getD_mem' [] (by omega))
theorem Vl.RefB.ex (segs : List Int) (vals : List (List (List Nat))) (s : Int) : ∃ R, Vl.RefB segs vals s R := by
  obtain ⟨Q, ⟨_, h⟩ | ⟨i, h1, _, h3, h4⟩⟩ := Vl.at_ex segs s
  · exact ⟨_, .inl ⟨rfl, h⟩⟩
  · exact ⟨_, .inr ⟨i, h1, rfl, h3, h4⟩⟩
section
variable {B : Nat} {w : World} {sa va : Option Addr} {sn sc vc : Nat} {segs : List Int} {vals : List (List (List Nat))}
set_option maxRecDepth 100000 in
set_option maxHeartbeats 1000000 in
theorem vrefbytes_any (h : RL B w sa sn sc va vc segs vals) (hB : B ≤ w.heap.size) (hn : sn ≤ 1000) (hS : Vl.Some' vals) (s : Int) (R : List Nat) (hR : Vl.RefB segs vals s R) :
    Calls Tryz.prog 62 #[.agg #[.slice sa sn sc, .slice va sn vc], .int .i64 s] w (Made .u8 5 w R) := by
  obtain ⟨hl1, hl2⟩ := h.sn'
  have hb0 := below_alloc w (.cells #[.slice sa sn sc, .slice va sn vc] 34)
  have hq0 := heap_alloc_new w (.cells #[.slice sa sn sc, .slice va sn vc] 34)
  obtain ⟨W0, hW0⟩ : ∃ W0, W0 = w.alloc (.cells #[.slice sa sn sc, .slice va sn vc] 34) := ⟨_, rfl⟩
  have hat := fun Q hQ => refat_any sa sn sc segs va sn vc s Q W0 (by omega) (hW0 ▸ h.sr.below hb0 (Nat.le_refl _)) hQ
  rcases hR with ⟨rfl, hmiss⟩ | ⟨i, hi, rfl, hs, hf⟩
  · have hat := hat (-1) (.inl ⟨rfl, hmiss⟩)
    clear hl1 hl2
    have c0 : ∀ W, Below W0.heap.size W0 W → W.cell? ⟨w.heap.size, 0, none⟩ = some (.slice sa sn sc) ∧ W.cell? ⟨w.heap.size, 1, none⟩ = some (.slice va sn vc) := fun W hW => by
      have := (hW.block w.heap.size (by rw [hW0]; simp)).trans (hW0 ▸ hq0)
      exact ⟨(Go.Joins.cell_of_block this 0).trans rfl, (Go.Joins.cell_of_block this 1).trans rfl⟩
    obtain ⟨c00, c01⟩ := c0 W0 (Below.refl _ _)
    have hsz : w.heap.size ≤ W0.heap.size := by rw [hW0]; simp
    rw [hW0] at hat c00 c01
    go_enter Tryz.func62, Tryz.ntmps62
    go_wp2_with (go_at_call 65; go_must (refine hat.mono ?_; rintro e w1 ⟨rfl, hb1⟩))
    go_ret
    exact ⟨none, 0, rfl, World.ownsRow_nil _ _ _ _, hb0.trans (hb1.mono hb0.size)⟩
  · have hat := hat (i : Int) (.inr ⟨i, hi, rfl, hs, hf⟩)
    have c0 : ∀ W, Below W0.heap.size W0 W → W.cell? ⟨w.heap.size, 0, none⟩ = some (.slice sa sn sc) ∧ W.cell? ⟨w.heap.size, 1, none⟩ = some (.slice va sn vc) := fun W hW => by
      have := (hW.block w.heap.size (by rw [hW0]; simp)).trans (hW0 ▸ hq0)
      exact ⟨(Go.Joins.cell_of_block this 0).trans rfl, (Go.Joins.cell_of_block this 1).trans rfl⟩
    obtain ⟨c00, c01⟩ := c0 W0 (Below.refl _ _)
    have hB0 : Below w.heap.size w W0 := hW0 ▸ hb0
    have hvm : vals.getD i [] ∈ vals := Vl.getD_mem' [] (by omega)
    have hp : ∀ W, Below w.heap.size w W → ∃ b o A N C, va = some ⟨b, o, none⟩ ∧ W.cell? ⟨b, o + i, none⟩ = some (.slice A N C) ∧ Calls Tryz.prog 93 #[.slice A N C] W (Made .u8 5 W (Sg.put (vals.getD i []))) := fun W hW => by
      have h' := h.keep hB hW
      obtain ⟨rows, h1, h2, h3⟩ := h'.vr
      obtain ⟨b, o, e, hc⟩ := h1.at (by omega)
      have hci := hc i (by omega) 0 _ rfl
      rw [Nat.mul_one] at hci
      obtain ⟨⟨hs', hi', _⟩, _⟩ := h3 i (by omega)
      have hil := hi'.len
      exact ⟨b, o, _, _, _, e, hci, refput19_any _ _ _ _ _ W hi' (hS.small _ hvm) (by rw [← hil]; exact hS.cnt _ hvm) (by have := hS.tot _ hvm; omega)⟩
    have hsn : (i : Int) < (sn : Int) := by omega
    have hi0 : ¬ ((i : Int) < 0) := by omega
    have hi2 : (0 : Int) ≤ (i : Int) := by omega
    have hi3 : i < sn := by omega
    have hsz : w.heap.size ≤ W0.heap.size := hB0.size
    have HC : Hid (∀ W, Below W0.heap.size W0 W → W.cell? ⟨w.heap.size, 0, none⟩ = some (.slice sa sn sc) ∧ W.cell? ⟨w.heap.size, 1, none⟩ = some (.slice va sn vc)) := c0
    obtain ⟨b, o, _, _, _, rfl, _⟩ := hp W0 hB0
    have hp' : Hid (∀ W, Below w.heap.size w W → ∃ A N C, W.cell? ⟨b, o + i, none⟩ = some (.slice A N C) ∧ Calls Tryz.prog 93 #[.slice A N C] W (Made .u8 5 W (Sg.put (vals.getD i [])))) := (fun W hW => by
      obtain ⟨b', o', A, N, C, e, h1, h2⟩ := hp W hW
      simp only [Option.some.injEq, Addr.mk.injEq, and_true] at e
      obtain ⟨rfl, rfl⟩ := e
      exact ⟨A, N, C, h1, h2⟩ : ∀ W, Below w.heap.size w W → _)
    clear hp c0 hl1 hl2 hs
    rw [hW0] at hat c00 c01 HC
    go_enter Tryz.func62, Tryz.ntmps62
    go_wp2_with (first
      | (go_at_call 65; go_must (refine hat.mono ?_; rintro e w1 ⟨rfl, hb1⟩; have hB1 := hb0.trans (hb1.mono hb0.size); obtain ⟨k0, k1⟩ := HC.out w1 hb1; obtain ⟨A, N, C, k2, hput⟩ := hp'.out w1 hB1))
      | (go_at_call 93; go_must (refine hput.mono ?_; rintro e w2 ⟨A2, C2, rfl, ho2, hb2⟩)))
    go_ret
    exact ⟨A2, C2, rfl, ho2.mono hB1.size, hB1.trans (hb2.mono hB1.size)⟩
end
end Go.Proofs.YtnoknmnbfkdccaaGreatDoor

/- The reference's Get; the log's Get beside it. -/
namespace Go.Proofs.YtnoknmnbfkdccaaGreatDoor
open Go.RowKit Go.Shelf

/-- the value that a point tells, of segments and a segment's bytes -/
def Vl.getR (segs : List Int) (bs : List Nat) (q : Po.P) : List Nat × Nat := if Po.may q = true then if segs.contains q.1 = true then Sg.value bs q else ([], 3) else ([], 1)
theorem Vl.RefB.small {segs : List Int} {vals : List (List (List Nat))} {s : Int} {R : List Nat} (h : Vl.RefB segs vals s R) (hL : vals.length = segs.length) (hS : Vl.Some' vals) : ∀ x ∈ R, x < 256 := by
  rcases h with ⟨rfl, _⟩ | ⟨i, h1, rfl, _⟩
  · intro x hx; cases hx
  · exact Sg.put_small (hS.small _ (Vl.getD_mem' [] (by omega)))
section
variable {B : Nat} {w : World} {sa va : Option Addr} {sn sc vc : Nat} {segs : List Int} {vals : List (List (List Nat))}
set_option maxRecDepth 100000 in
set_option maxHeartbeats 1000000 in
theorem vrefget_any (h : RL B w sa sn sc va vc segs vals) (hB : B ≤ w.heap.size) (hn : sn ≤ 1000) (hS : Vl.Some' vals) (q : Po.P) (hq : Po.Fits q) (bs : List Nat) (hbs : Vl.RefB segs vals q.1 bs) (R : List Nat × Nat) (hR : R = Vl.getR segs bs q) :
    Calls Tryz.prog 63 #[.agg #[.slice sa sn sc, .slice va sn vc], pv q] w (SValRes w R) := by
  obtain ⟨hl1, hl2⟩ := h.sn'
  have hlen := hbs.len h.len hS
  have hsm := hbs.small h.len hS
  obtain ⟨s, y, l, m⟩ := q
  simp only at hbs
  have hck := fun W => pomay_any s y l m W
  have hb0 := below_alloc w (.cells #[.slice sa sn sc, .slice va sn vc] 34)
  have hb1 := hb0.trans ((below_alloc (w.alloc (.cells #[.slice sa sn sc, .slice va sn vc] 34)) (.cells #[.int .i64 s, .int .i64 y, .int .i64 l, .int .u32 (m : Nat)] 42)).mono hb0.size)
  have hc : ∀ W, Below (w.heap.size + 2) ((w.alloc (.cells #[.slice sa sn sc, .slice va sn vc] 34)).alloc (.cells #[.int .i64 s, .int .i64 y, .int .i64 l, .int .u32 (m : Nat)] 42)) W → (W.cell? ⟨w.heap.size, 0, none⟩ = some (.slice sa sn sc) ∧ W.cell? ⟨w.heap.size, 1, none⟩ = some (.slice va sn vc)) ∧ W.cell? ⟨w.heap.size + 1, 0, none⟩ = some (.int .i64 s) ∧ W.cell? ⟨w.heap.size + 1, 1, none⟩ = some (.int .i64 y) ∧ W.cell? ⟨w.heap.size + 1, 2, none⟩ = some (.int .i64 l) ∧ W.cell? ⟨w.heap.size + 1, 3, none⟩ = some (.int .u32 (m : Nat)) := fun W hW => by
    have g0 : ((w.alloc (.cells #[.slice sa sn sc, .slice va sn vc] 34)).alloc (.cells #[.int .i64 s, .int .i64 y, .int .i64 l, .int .u32 (m : Nat)] 42)).heap[w.heap.size]? = some (.cells #[.slice sa sn sc, .slice va sn vc] 34 (0, 0)) :=
      ((below_alloc _ _).block _ (by simp)).trans (heap_alloc_new w _)
    have g1 : ((w.alloc (.cells #[.slice sa sn sc, .slice va sn vc] 34)).alloc (.cells #[.int .i64 s, .int .i64 y, .int .i64 l, .int .u32 (m : Nat)] 42)).heap[w.heap.size + 1]? = some (.cells #[.int .i64 s, .int .i64 y, .int .i64 l, .int .u32 (m : Nat)] 42 (0, 0)) := by
      have := heap_alloc_new (w.alloc (.cells #[.slice sa sn sc, .slice va sn vc] 34)) (.cells #[.int .i64 s, .int .i64 y, .int .i64 l, .int .u32 (m : Nat)] 42)
      rw [show (w.alloc (.cells #[.slice sa sn sc, .slice va sn vc] 34)).heap.size = w.heap.size + 1 by simp] at this
      exact this
    have f0 := (hW.block w.heap.size (by omega)).trans g0
    have f1 := (hW.block (w.heap.size + 1) (by omega)).trans g1
    exact ⟨⟨(Go.Joins.cell_of_block f0 0).trans rfl, (Go.Joins.cell_of_block f0 1).trans rfl⟩, (Go.Joins.cell_of_block f1 0).trans rfl, (Go.Joins.cell_of_block f1 1).trans rfl, (Go.Joins.cell_of_block f1 2).trans rfl, (Go.Joins.cell_of_block f1 3).trans rfl⟩
  have hsz2 : ((w.alloc (.cells #[.slice sa sn sc, .slice va sn vc] 34)).alloc (.cells #[.int .i64 s, .int .i64 y, .int .i64 l, .int .u32 (m : Nat)] 42)).heap.size = w.heap.size + 2 := by simp
  have HC : Hid (∀ W, Below (w.heap.size + 2) ((w.alloc (.cells #[.slice sa sn sc, .slice va sn vc] 34)).alloc (.cells #[.int .i64 s, .int .i64 y, .int .i64 l, .int .u32 (m : Nat)] 42)) W → (W.cell? ⟨w.heap.size, 0, none⟩ = some (.slice sa sn sc) ∧ W.cell? ⟨w.heap.size, 1, none⟩ = some (.slice va sn vc)) ∧ W.cell? ⟨w.heap.size + 1, 0, none⟩ = some (.int .i64 s) ∧ W.cell? ⟨w.heap.size + 1, 1, none⟩ = some (.int .i64 y) ∧ W.cell? ⟨w.heap.size + 1, 2, none⟩ = some (.int .i64 l) ∧ W.cell? ⟨w.heap.size + 1, 3, none⟩ = some (.int .u32 (m : Nat))) := hc
  obtain ⟨⟨k0, k1⟩, k2, k3, k4, k5⟩ := hc _ (Below.refl _ _)
  clear hc
  have hby := fun W (hW : Below w.heap.size w W) => vrefbytes_any (h.keep hB hW) (Nat.le_trans hB hW.size) hn hS s bs hbs
  have hhs := fun W (hW : Below w.heap.size w W) => rhas_any sa sn sc segs s W (by omega) (h.keep hB hW).sr _ rfl
  have hvl := fun W A C (ho : W.ownsRow w.heap.size 5 1 (.slice A bs.length C) bs.length (kcells .u8 bs)) => refvalue_any A bs.length C bs (s, y, l, m) W hlen (by
    rcases ho.2 with ⟨e, h0⟩ | ⟨g, cap, cur, e, _, _, hle, _⟩
    · exact .inl ⟨h0, by simp only [Value.slice.injEq] at e; exact e.2.2⟩
    · simp only [Value.slice.injEq] at e
      obtain ⟨rfl, _, rfl⟩ := e
      exact .inr ⟨g, 0, rfl, hle⟩) (row_of_owns ho hsm (by omega)).2.1 (row_of_owns ho hsm (by omega)).1 hq
  simp only [pv] at hvl ⊢
  have step : ∀ (W V : World), Below w.heap.size w W → W.heap.size = w.heap.size + 2 → Below (w.heap.size + 2) W V → Below w.heap.size w V := fun W V h1 h2 h3 => h1.trans (h3.mono (by omega))
  unfold Vl.getR at hR
  by_cases hm : Po.may (s, y, l, m) = true
  · rw [if_pos hm] at hR
    rw [hm] at hck
    cases hc2 : segs.contains s with
    | false =>
      simp only [hc2, Bool.false_eq_true, if_false] at hR
      rw [hc2] at hhs
      have HR : Hid (R = ([], 3)) := hR
      clear hR hc2 hby hvl hl1 hl2
      go_enter Tryz.func63, Tryz.ntmps63
      go_wp2_with (first
        | (go_at_call 94; go_must (refine (hck _).mono ?_; rintro e w1 ⟨rfl, hB1⟩; rw [hsz2] at hB1; obtain ⟨⟨k6, k7⟩, k8, k9, k10, k11⟩ := HC.out w1 hB1; have hB1' := step _ _ hb1 hsz2 hB1))
        | (go_at_call 95; go_must (refine (hhs _ hB1').mono ?_; rintro e w2 ⟨rfl, hw⟩; rw [hw]; clear hw w2)))
      go_ret2
      exact sval_no HR.out hB1'
    | true =>
      simp only [hc2, if_true] at hR
      rw [hc2] at hhs
      have HR : Hid (R = Sg.value bs (s, y, l, m)) := hR
      clear hR hc2 hl1 hl2
      go_enter Tryz.func63, Tryz.ntmps63
      go_wp2_with (first
        | (go_at_call 94; go_must (refine (hck _).mono ?_; rintro e w1 ⟨rfl, hB1⟩; rw [hsz2] at hB1; obtain ⟨⟨k6, k7⟩, k8, k9, k10, k11⟩ := HC.out w1 hB1; have hB1' := step _ _ hb1 hsz2 hB1))
        | (go_at_call 95; go_must (refine (hhs _ hB1').mono ?_; rintro e w2 ⟨rfl, hw⟩; rw [hw]; clear hw w2)))
      have st3 : ∀ V, Below w1.heap.size w1 V → Below (w.heap.size + 2) ((w.alloc (.cells #[.slice sa sn sc, .slice va sn vc] 34)).alloc (.cells #[.int .i64 s, .int .i64 y, .int .i64 l, .int .u32 (m : Nat)] 42)) V := fun V hV => hB1.trans (hV.mono (by have := hB1.size; omega))
      go_region_held3 (fun W => W.cell? ⟨w.heap.size, 0, none⟩ = some (.slice sa sn sc) ∧ W.cell? ⟨w.heap.size, 1, none⟩ = some (.slice va sn vc) ∧ W.cell? ⟨w.heap.size + 1, 0, none⟩ = some (.int .i64 s) ∧ W.cell? ⟨w.heap.size + 1, 1, none⟩ = some (.int .i64 y) ∧ W.cell? ⟨w.heap.size + 1, 2, none⟩ = some (.int .i64 l) ∧ W.cell? ⟨w.heap.size + 1, 3, none⟩ = some (.int .u32 (m : Nat))) (first | go_keep | (refine ⟨?_, ?_, ?_, ?_, ?_, ?_⟩ <;> assumption))
        (first
          | (go_at_call 62; (with_reducible refine vworld w1.drew ?_); refine (hby _ (bd1 hB1')).mono ?_; rintro e w3 ⟨A, C, rfl, ho3, hB3'⟩; have hB3 : Below w1.heap.size w1 w3 := below_of_drew hB3'; have hB03 := hB1'.trans (hB3.mono hB1'.size); obtain ⟨⟨k12, k13⟩, k14, k15, k16, k17⟩ := HC.out w3 (st3 w3 hB3))
          | (go_at_call 96; (with_reducible refine vworld w3 ?_); refine (hvl _ A C (ho3.mono hB1'.size)).mono ?_; rintro e w4 ⟨A4, C4, rfl, ho4, hB4⟩; obtain ⟨⟨k18, k19⟩, k20, k21, k22, k23⟩ := HC.out w4 (st3 w4 (hB3.trans (hB4.mono hB3.size)))))
      go_wp2
      go_ret2
      rw [← HR.out] at ho4 ⊢
      exact ⟨A4, C4, rfl, ho4.mono hB03.size, hB03.trans (hB4.mono hB03.size)⟩
  · rw [if_neg hm] at hR
    have hm2 : Po.may (s, y, l, m) = false := by simpa using hm
    rw [hm2] at hck
    have HR : Hid (R = ([], 1)) := hR
    clear hR hm hm2 hby hvl hl1 hl2
    go_enter Tryz.func63, Tryz.ntmps63
    go_wp2_with (go_at_call 94; go_must (refine (hck _).mono ?_; rintro e w1 ⟨rfl, hB1⟩; rw [hsz2] at hB1; have hB1' := step _ _ hb1 hsz2 hB1))
    go_ret2
    exact sval_no HR.out hB1'
end
end Go.Proofs.YtnoknmnbfkdccaaGreatDoor
