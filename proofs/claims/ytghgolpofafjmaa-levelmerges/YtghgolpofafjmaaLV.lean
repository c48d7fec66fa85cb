/- What the reference's Pick does. -/
import Derived.Test.YtghgolpofafjmaaLU
import Derived.Test.YtghgolpofafjmaaLR
namespace Go.Proofs.Ytghgolpofafjmaa
open Go.RowKit
def RPick (w : World) (D : List Lv.T) (N : Nat) (e : Ending) (w' : World) : Prop := (N = 4 ∧ JRes w [] 0 false e w') ∨ (N < 4 ∧ JRes w (nm (Lv.inn D N)) ((N : Int) + 1) (!Lv.hides D (Lv.inn D N) ((N : Int) + 1)) e w')
theorem bl_gt (s t : ByteArray) : (!Op.bytesLess s.toList t.toList && !(s.toList == t.toList)) = Lv.slt t s := by
  have e := bl_le s t
  rw [← Bool.not_or, e, Bool.not_not]
theorem span_self {FR : List Lv.T} (h : FR ≠ []) (z1 z2 z3 : Int) : (fun x => Lv.meet x ⟨z1, z2, z3, Lv.loF (FR.getD 0 Lv.zero).first FR, Lv.hiL (FR.getD 0 Lv.zero).last FR⟩) = fun x => Lv.meet x (Lv.span FR) := by
  cases FR with
  | nil => exact absurd rfl h
  | cons x r =>
    funext y
    have e1 : Lv.loF ((x :: r).getD 0 Lv.zero).first (x :: r) = Lv.loF x.first r := Lv.loF_self x r
    have e2 : Lv.hiL ((x :: r).getD 0 Lv.zero).last (x :: r) = Lv.hiL x.last r := Lv.hiL_self x r
    rw [e1, e2]; rfl
theorem hides_ref {l D I : List Lv.T} (hp : l.Perm D) (n : Int) : Lv.hides D I n = l.any (fun x => decide (n < x.lev) && I.any (Lv.meet x)) := by
  rw [← Lv.hides_perm hp]
  unfold Lv.hides
  congr 1
  funext x
  congr 2
  funext y
  exact Lv.meet_comm _ _
theorem blk_drop {W : World} {g : Nat} {v : Value} {n : Int} {b : Bool} (h : W.heap[g]? = some (oj v n b)) (c : Bool) : (W.setCell ⟨g, 2, none⟩ (.bool c)).heap[g]? = some (oj v n c) := by
  rw [Go.Joins.block_setCell (i := 2) h]; rfl
theorem cell_other (W : World) {g b : Nat} (i o : Nat) (v : Value) (h : g ≠ b) : (W.setCell ⟨g, i, none⟩ v).cell? ⟨b, o, none⟩ = W.cell? ⟨b, o, none⟩ := World.cell?_of_block (a := ⟨b, o, none⟩) (w := W) (Below.heap_setCell W ⟨g, i, none⟩ v b (fun e => h e.symm))
set_option maxRecDepth 100000 in
set_option maxHeartbeats 4000000 in
theorem rpick_zero (a : Option Addr) (len cap : Nat) (l : List Lv.T) (base : Int) (w : World) (hr : LRow w a len l) (hm : Lv.May l) (hb1 : 1 ≤ base) (hb2 : base ≤ 1048576) (N : Nat) (hN : N = Lv.pn (Lv.ord l) base) (hcase : N = 0 ∨ N = 4) :
    Calls Try.prog 20 #[.slice a len cap, .int .i64 base] w (RPick w (Lv.ord l) N) := by
  have hb0 := below_alloc w (oj (.slice none 0 0) 0 false)
  have g0 : (w.alloc (oj (.slice none 0 0) 0 false)).heap[w.heap.size]? = some (oj (.slice none 0 0) 0 false) := heap_alloc_new w _
  have hrW := hr.below hb0 (Nat.le_refl _)
  have hll : Hid (l.length = len) := hr.1
  have hlen : len ≤ 64 := by have := hm.len; rw [hr.1] at this; omega
  have hmo := hm.perm (Lv.ord_perm l)
  have hlD : (Lv.ord l).length ≤ 64 := hmo.len
  have hful := fun (n : Nat) V (hV : Below (w.alloc (oj (.slice none 0 0) 0 false)).heap.size (w.alloc (oj (.slice none 0 0) 0 false)) V) (hn : n ≤ 3) => rfull_any a len cap l n base V (hrW.below hV (Nat.le_refl _)) hm hn hb1 hb2
  have hlvl := fun (n : Int) V (hV : Below (w.alloc (oj (.slice none 0 0) 0 false)).heap.size (w.alloc (oj (.slice none 0 0) 0 false)) V) => rlevel_any a len cap l n V (by omega) (hrW.below hV (Nat.le_refl _))
  rw [Lv.iord_ord hm] at hlvl
  have HN : Hid (N = Lv.pn (Lv.ord l) base) := hN
  have HH : Hid (∀ I n, Lv.hides (Lv.ord l) I n = l.any (fun x => decide (n < x.lev) && I.any (Lv.meet x))) := (fun I n => hides_ref (Lv.ord_perm l) n : ∀ I n, Lv.hides (Lv.ord l) I n = l.any (fun x => decide (n < x.lev) && I.any (Lv.meet x)))
  clear hN hr
  generalize Lv.ord l = D at *
  go_enter Try.func20, Try.ntmps20
  go_wp2
  go_loopw [5] (fun i wr => ∃ k : Nat, k ≤ 4 ∧ i = .int .i64 k ∧ Hid (∀ m : Nat, m < k → Lv.full (Lv.lv D m) m base = false) ∧ Below (w.alloc (oj (.slice none 0 0) 0 false)).heap.size (w.alloc (oj (.slice none 0 0) 0 false)) wr) (fun i _ => 4 - (intOf i).toNat)
  case atStart => exact ⟨0, by omega, rfl, (fun m hm => by omega : ∀ m : Nat, m < 0 → Lv.full (Lv.lv D m) m base = false), Below.refl _ _⟩
  case round =>
    obtain ⟨k, hk, rfl, HA, hbel⟩ := hrel
    by_cases hlt : k < 4
    · have hk3 : k ≤ 3 := by omega
      have hfu := hful k wr hbel hk3
      have d4 : decide ((k : Int) < 4) = true := decide_eq_true (by omega)
      cases hf : Lv.full (Lv.lv D k) k base with
      | true =>
        have HE : Hid (N = k) := (by rw [HN.out]; exact Lv.pn_at hlt HA.out hf : N = k)
        rw [hf] at hfu
        have h0F : 0 < (Lv.lv D k).length := Lv.full_some (by omega) hf
        have hlF : (Lv.lv D k).length ≤ 64 := Nat.le_trans (lv_len D k) hlD
        have hlE : (Lv.lv D ((k : Int) + 1)).length ≤ 64 := Nat.le_trans (lv_len D _) hlD
        have hl1 := fun V hV => hlvl (k : Int) V hV
        have hl2 := fun V hV => hlvl ((k : Int) + 1) V hV
        have hcase2 : Hid (k = 0) := (by have := HE.out; omega : k = 0)
        have HFR : Hid (Lv.fr D k = Lv.lv D k) := (by unfold Lv.fr; rw [if_pos hcase2.out, hcase2.out]; rfl : Lv.fr D k = Lv.lv D k)
        have HI0 : Hid (Lv.inn D k = Lv.fr D k ++ (Lv.lv D ((k : Int) + 1)).filter (fun x => Lv.meet x (Lv.span (Lv.fr D k)))) := (rfl : Lv.inn D k = Lv.fr D k ++ (Lv.lv D ((k : Int) + 1)).filter (fun x => Lv.meet x (Lv.span (Lv.fr D k))))
        have hIm : ∀ x ∈ Lv.inn D k, 0 ≤ x.num := fun x hx => by have := (hmo.one x (Lv.inn_sub hx)).n1; omega
        have HHI := HH.out (Lv.inn D k) ((k : Int) + 1)
        have HHR : Hid ((!Lv.hides D (Lv.inn D k) ((k : Int) + 1)) = !l.any (fun x => decide ((k : Int) + 1 < x.lev) && (Lv.inn D k).any (Lv.meet x))) := (by rw [HHI] : (!Lv.hides D (Lv.inn D k) ((k : Int) + 1)) = _)
        have HGOAL : Hid (∀ e w', JRes w (nm (Lv.inn D k)) ((k : Int) + 1) (!Lv.hides D (Lv.inn D k) ((k : Int) + 1)) e w' → RPick w D N e w') := (fun e w' h => .inr ⟨by have := HE.out; omega, by rw [HE.out]; exact h⟩ : ∀ e w', JRes w (nm (Lv.inn D k)) ((k : Int) + 1) (!Lv.hides D (Lv.inn D k) ((k : Int) + 1)) e w' → RPick w D N e w')
        clear hful HA HN hf hlvl HH HHI hmo hlD
        generalize Lv.hides D (Lv.inn D k) ((k : Int) + 1) = HD at *
        generalize Lv.fr D k = FR at *
        generalize Lv.inn D k = I at *
        generalize Lv.lv D ((k : Int) + 1) = E at *
        generalize Lv.lv D (k : Int) = F at *
        obtain ⟨x, hx⟩ : ∃ x, x = F.getD 0 Lv.zero := ⟨_, rfl⟩
        have HX : Hid (x = F.getD 0 Lv.zero) := hx
        clear hx
        obtain ⟨x1, x2, x3, x4, x5⟩ := x
        have d5 : ((k : Int) == 4) = false := by simp; omega
        have d00 : decide (0 < k) = false := decide_eq_false (by have := hcase2.out; omega)
        have d0 : decide (0 < (k : Int)) = false := decide_eq_false (by have := hcase2.out; omega)
        have i1 : IntKind.i64.wrap ((k : Int) + 1) = (k : Int) + 1 := by rw [IntKind.wrap_i64]; omega
        go_wp2_with (first | (go_at_call 31; go_must (refine hfu.mono ?_; rintro e w3 ⟨rfl, hb3⟩; have hB3 := hbel.trans (hb3.mono hbel.size))) | (go_at_call 32; go_must (refine (hl1 _ hB3).mono ?_; rintro e w4 ⟨A4, C4, rfl, hown4, hb4⟩; obtain ⟨gA, rfl⟩ : ∃ gA, A4 = some ⟨gA, 0, none⟩ := (by obtain ⟨g', c', e', _⟩ := lown_pos hown4 h0F; simp only [Value.slice.injEq] at e'; exact ⟨g', e'.1⟩); have hC4 := (own_le hown4).1; have hc4 : (1 : Int) ≤ (C4 : Int) := (by omega); have hf0 : (0 : Int) < ((F.length : Nat) : Int) := (by omega); have hB4 := hB3.trans (hb4.mono hB3.size); obtain ⟨q0, q1, q2, q3, q4⟩ : L5 w4 gA 0 ⟨x1, x2, x3, x4, x5⟩ := (by have h := L5.own hown4 0 h0F; rw [← HX.out, Nat.zero_mul] at h; exact h); simp only [Nat.zero_add] at q0 q1 q2 q3 q4)))
        have hgA : gA < w4.heap.size := cell_lt q3
        have hrF : LRow w4 (some ⟨gA, 0, none⟩) F.length FR := by rw [HFR.out]; exact lrowD hown4 (by omega)
        have hMC : F.length ≤ C4 := by omega
        have hM0 : 0 < F.length := by omega
        have hMl : F.length ≤ 64 := by omega
        have hlFR : Hid (FR.length = F.length) := (by rw [HFR.out]; skip : FR.length = F.length)
        have hx0 : Hid (FR.getD 0 Lv.zero = ⟨x1, x2, x3, x4, x5⟩) := (by rw [HX.out, HFR.out] : FR.getD 0 Lv.zero = ⟨x1, x2, x3, x4, x5⟩)
        have HSP : Hid (∀ z1 z2 z3, (fun x => Lv.meet x ⟨z1, z2, z3, Lv.loF x4 FR, Lv.hiL x5 FR⟩) = fun x => Lv.meet x (Lv.span FR)) := (fun z1 z2 z3 => by have h := span_self (FR := FR) (List.ne_nil_of_length_pos (by rw [hlFR.out]; exact hM0)) z1 z2 z3; rw [hx0.out] at h; exact h : ∀ z1 z2 z3, (fun x => Lv.meet x ⟨z1, z2, z3, Lv.loF x4 FR, Lv.hiL x5 FR⟩) = fun x => Lv.meet x (Lv.span FR))
        clear hx0 HX HFR hfu hl1 hown4 hB3 hb4
        obtain ⟨LO, hLO⟩ : ∃ LO, LO = Lv.loF x4 FR := ⟨_, rfl⟩
        obtain ⟨HI, hHI⟩ : ∃ HI, HI = Lv.hiL x5 FR := ⟨_, rfl⟩
        have HSP2 : Hid ((fun x => Lv.meet x ⟨x1, x2, x3, LO, HI⟩) = fun x => Lv.meet x (Lv.span FR)) := (by rw [hLO, hHI]; exact HSP.out x1 x2 x3 : (fun x => Lv.meet x ⟨x1, x2, x3, LO, HI⟩) = fun x => Lv.meet x (Lv.span FR))
        have HL0 : Hid (LO = Lv.loF x4 (FR.drop 0)) := hLO
        have HH0 : Hid (HI = Lv.hiL x5 (FR.drop 0)) := hHI
        clear HSP hLO hHI
        have gs : (w4.alloc (otab x1 x2 x3 x4 x5)).heap[w4.heap.size]? = some (otab x1 x2 x3 x4 x5) := heap_alloc_new w4 _
        have hbs := below_alloc w4 (otab x1 x2 x3 x4 x5)
        clear q0 q1 q2 q3 q4
        go_loopw [8] (fun i wr => ∃ (j : Nat) (lo hi : ByteArray), j ≤ F.length ∧ i = .int .i64 j ∧ Hid (LO = Lv.loF lo (FR.drop j)) ∧ Hid (HI = Lv.hiL hi (FR.drop j)) ∧ wr.heap[w4.heap.size]? = some (otab x1 x2 x3 lo hi) ∧ Below w4.heap.size w4 wr) (fun i _ => F.length - (intOf i).toNat)
        case atStart => exact ⟨0, x4, x5, by omega, rfl, HL0, HH0, gs, hbs⟩
        case round =>
          obtain ⟨j, lo, hi, hj, rfl, HL2, HH2, g2, hbA⟩ := hrel
          clear HL0 HH0 gs hbs
          by_cases hjlt : j < F.length
          · obtain ⟨b', off', y1, y2, y3, y4, y5, e', hy, p0, p1, p2, p3, p4⟩ := lget hrF hbA hjlt
            simp only [Option.some.injEq, Addr.mk.injEq] at e'
            obtain ⟨rfl, rfl, _⟩ := e'
            have hj' : j < FR.length := by rw [hlFR.out]; exact hjlt
            have j0 : (0 : Int) ≤ (j : Int) := by omega
            have j1 : (j : Int) < ((F.length : Nat) : Int) := by omega
            simp only [Nat.zero_add] at p0 p1 p2 p3 p4
            obtain ⟨⟨m0, m1, m2, m3, m4⟩, mf⟩ := blk5 g2
            have e1 := bl_slt y4 lo
            have e2 := bl_gt y5 hi
            have hS1 : Hid (Lv.loF lo (FR.drop j) = Lv.loF (if Lv.slt y4 lo = true then y4 else lo) (FR.drop (j + 1))) := (by rw [ldrop hj', hy.out]; rfl : Lv.loF lo (FR.drop j) = _)
            have hS2 : Hid (Lv.hiL hi (FR.drop j) = Lv.hiL (if Lv.slt hi y5 = true then y5 else hi) (FR.drop (j + 1))) := (by rw [ldrop hj', hy.out]; rfl : Lv.hiL hi (FR.drop j) = _)
            have hgne : w4.heap.size ≠ gA := by omega
            have f3 := mf 3
            have f4 := mf 4
            clear hy mf
            cases c1 : Lv.slt y4 lo with
            | true =>
              cases c2 : Lv.slt hi y5 with
              | true =>
                rw [c1] at e1
                rw [c2] at e2
                have HL3 : Hid (LO = Lv.loF y4 (FR.drop (j + 1))) := (by rw [HL2.out, hS1.out, c1]; rfl : LO = Lv.loF y4 (FR.drop (j + 1)))
                have HH3 : Hid (HI = Lv.hiL y5 (FR.drop (j + 1))) := (by rw [HH2.out, hS2.out, c2]; rfl : HI = Lv.hiL y5 (FR.drop (j + 1)))
                clear HL2 HH2 hS1 hS2 c1 c2
                obtain ⟨e3, e4⟩ : Op.bytesLess y5.toList hi.toList = false ∧ (y5.toList == hi.toList) = false := by simpa using e2
                go_wp2_with fail
                go_quiet (fail)
                have r3 : (wr.drewN nq).cell? ⟨gA, j * 5 + 3, none⟩ = some (.string y4) := p3
                have r4 : (wr.drewN nq).cell? ⟨gA, j * 5 + 4, none⟩ = some (.string y5) := p4
                have g3 : (wr.drewN nq).heap[w4.heap.size]? = some (otab x1 x2 x3 lo hi) := g2
                have hb6 : Below w4.heap.size w4 (wr.drewN nq) := hbA.trans (below_drewN _ _ _)
                obtain ⟨⟨n0, n1, n2, n3, n4⟩, nf⟩ := blk5 g3
                have nf3 := nf 3
                have nf4 := nf 4
                clear p0 p1 p2 p3 p4 m0 m1 m2 m3 m4 f3 f4 nf hbA g2
                generalize wr.drewN nq = W at *
                have r3' := (cell_other W 3 (j * 5 + 3) (.string y4) hgne).trans r3
                have r4' := (cell_other W 3 (j * 5 + 4) (.string y4) hgne).trans r4
                have g4 := blk_first g3 y4
                have hb7 := below_set hb6 (Nat.le_refl _) 3 (.string y4)
                obtain ⟨⟨l0, l1, l2, l3, l4⟩, lf⟩ := blk5 g4
                have lf4 := lf 4
                clear lf
                go_wp2_with fail
                go_quiet (fail)
                have t4 : ((W.setCell ⟨w4.heap.size, 3, none⟩ (.string y4)).drewN nq).cell? ⟨gA, j * 5 + 4, none⟩ = some (.string y5) := r4'
                have g6 : ((W.setCell ⟨w4.heap.size, 3, none⟩ (.string y4)).drewN nq).heap[w4.heap.size]? = some (otab x1 x2 x3 y4 hi) := g4
                have hb8 : Below w4.heap.size w4 ((W.setCell ⟨w4.heap.size, 3, none⟩ (.string y4)).drewN nq) := hb7.trans (below_drewN _ _ _)
                obtain ⟨⟨v0, v1, v2, v3, v4⟩, vf⟩ := blk5 g6
                have vf4 := vf 4
                clear vf
                generalize (W.setCell ⟨w4.heap.size, 3, none⟩ (.string y4)).drewN nq = W2 at *
                go_wp2
                go_roundw
                case rel => exact ⟨j + 1, y4, y5, by omega, by go_num, HL3, HH3, blk_last g6 _, below_set hb8 (Nat.le_refl _) _ _⟩
                case measure => simp [intOf]; omega
              | false =>
                rw [c1] at e1
                rw [c2] at e2
                have HL3 : Hid (LO = Lv.loF y4 (FR.drop (j + 1))) := (by rw [HL2.out, hS1.out, c1]; rfl : LO = Lv.loF y4 (FR.drop (j + 1)))
                have HH3 : Hid (HI = Lv.hiL hi (FR.drop (j + 1))) := (by rw [HH2.out, hS2.out, c2]; rfl : HI = Lv.hiL hi (FR.drop (j + 1)))
                clear HL2 HH2 hS1 hS2 c1 c2
                have e3 : Op.bytesLess y5.toList hi.toList = true ∨ (y5.toList == hi.toList) = true := by
                  cases h1 : Op.bytesLess y5.toList hi.toList with
                  | true => exact .inl rfl
                  | false => rw [h1] at e2; exact .inr (by simpa using e2)
                go_wp2_with fail
                go_quiet (fail)
                have r3 : (wr.drewN nq).cell? ⟨gA, j * 5 + 3, none⟩ = some (.string y4) := p3
                have r4 : (wr.drewN nq).cell? ⟨gA, j * 5 + 4, none⟩ = some (.string y5) := p4
                have g3 : (wr.drewN nq).heap[w4.heap.size]? = some (otab x1 x2 x3 lo hi) := g2
                have hb6 : Below w4.heap.size w4 (wr.drewN nq) := hbA.trans (below_drewN _ _ _)
                obtain ⟨⟨n0, n1, n2, n3, n4⟩, nf⟩ := blk5 g3
                have nf3 := nf 3
                have nf4 := nf 4
                clear p0 p1 p2 p3 p4 m0 m1 m2 m3 m4 f3 f4 nf hbA g2
                generalize wr.drewN nq = W at *
                have r3' := (cell_other W 3 (j * 5 + 3) (.string y4) hgne).trans r3
                have r4' := (cell_other W 3 (j * 5 + 4) (.string y4) hgne).trans r4
                have g4 := blk_first g3 y4
                have hb7 := below_set hb6 (Nat.le_refl _) 3 (.string y4)
                obtain ⟨⟨l0, l1, l2, l3, l4⟩, lf⟩ := blk5 g4
                have lf4 := lf 4
                clear lf
                go_wp2_with fail
                go_quiet (fail)
                have t4 : ((W.setCell ⟨w4.heap.size, 3, none⟩ (.string y4)).drewN nq).cell? ⟨gA, j * 5 + 4, none⟩ = some (.string y5) := r4'
                have g6 : ((W.setCell ⟨w4.heap.size, 3, none⟩ (.string y4)).drewN nq).heap[w4.heap.size]? = some (otab x1 x2 x3 y4 hi) := g4
                have hb8 : Below w4.heap.size w4 ((W.setCell ⟨w4.heap.size, 3, none⟩ (.string y4)).drewN nq) := hb7.trans (below_drewN _ _ _)
                obtain ⟨⟨v0, v1, v2, v3, v4⟩, vf⟩ := blk5 g6
                have vf4 := vf 4
                clear vf
                generalize (W.setCell ⟨w4.heap.size, 3, none⟩ (.string y4)).drewN nq = W2 at *
                go_wp2
                go_roundw
                case rel => exact ⟨j + 1, y4, hi, by omega, by go_num, HL3, HH3, g6, hb8⟩
                case measure => simp [intOf]; omega
            | false =>
              cases c2 : Lv.slt hi y5 with
              | true =>
                rw [c1] at e1
                rw [c2] at e2
                have HL3 : Hid (LO = Lv.loF lo (FR.drop (j + 1))) := (by rw [HL2.out, hS1.out, c1]; rfl : LO = Lv.loF lo (FR.drop (j + 1)))
                have HH3 : Hid (HI = Lv.hiL y5 (FR.drop (j + 1))) := (by rw [HH2.out, hS2.out, c2]; rfl : HI = Lv.hiL y5 (FR.drop (j + 1)))
                clear HL2 HH2 hS1 hS2 c1 c2
                obtain ⟨e3, e4⟩ : Op.bytesLess y5.toList hi.toList = false ∧ (y5.toList == hi.toList) = false := by simpa using e2
                go_wp2_with fail
                go_quiet (fail)
                have r3 : (wr.drewN nq).cell? ⟨gA, j * 5 + 3, none⟩ = some (.string y4) := p3
                have r4 : (wr.drewN nq).cell? ⟨gA, j * 5 + 4, none⟩ = some (.string y5) := p4
                have g3 : (wr.drewN nq).heap[w4.heap.size]? = some (otab x1 x2 x3 lo hi) := g2
                have hb6 : Below w4.heap.size w4 (wr.drewN nq) := hbA.trans (below_drewN _ _ _)
                obtain ⟨⟨n0, n1, n2, n3, n4⟩, nf⟩ := blk5 g3
                have nf3 := nf 3
                have nf4 := nf 4
                clear p0 p1 p2 p3 p4 m0 m1 m2 m3 m4 f3 f4 nf hbA g2
                generalize wr.drewN nq = W at *
                go_wp2_with fail
                go_quiet (fail)
                have t4 : (W.drewN nq).cell? ⟨gA, j * 5 + 4, none⟩ = some (.string y5) := r4
                have g6 : (W.drewN nq).heap[w4.heap.size]? = some (otab x1 x2 x3 lo hi) := g3
                have hb8 : Below w4.heap.size w4 (W.drewN nq) := hb6.trans (below_drewN _ _ _)
                obtain ⟨⟨v0, v1, v2, v3, v4⟩, vf⟩ := blk5 g6
                have vf4 := vf 4
                clear vf
                generalize W.drewN nq = W2 at *
                go_wp2
                go_roundw
                case rel => exact ⟨j + 1, lo, y5, by omega, by go_num, HL3, HH3, blk_last g6 _, below_set hb8 (Nat.le_refl _) _ _⟩
                case measure => simp [intOf]; omega
              | false =>
                rw [c1] at e1
                rw [c2] at e2
                have HL3 : Hid (LO = Lv.loF lo (FR.drop (j + 1))) := (by rw [HL2.out, hS1.out, c1]; rfl : LO = Lv.loF lo (FR.drop (j + 1)))
                have HH3 : Hid (HI = Lv.hiL hi (FR.drop (j + 1))) := (by rw [HH2.out, hS2.out, c2]; rfl : HI = Lv.hiL hi (FR.drop (j + 1)))
                clear HL2 HH2 hS1 hS2 c1 c2
                have e3 : Op.bytesLess y5.toList hi.toList = true ∨ (y5.toList == hi.toList) = true := by
                  cases h1 : Op.bytesLess y5.toList hi.toList with
                  | true => exact .inl rfl
                  | false => rw [h1] at e2; exact .inr (by simpa using e2)
                go_wp2_with fail
                go_quiet (fail)
                have r3 : (wr.drewN nq).cell? ⟨gA, j * 5 + 3, none⟩ = some (.string y4) := p3
                have r4 : (wr.drewN nq).cell? ⟨gA, j * 5 + 4, none⟩ = some (.string y5) := p4
                have g3 : (wr.drewN nq).heap[w4.heap.size]? = some (otab x1 x2 x3 lo hi) := g2
                have hb6 : Below w4.heap.size w4 (wr.drewN nq) := hbA.trans (below_drewN _ _ _)
                obtain ⟨⟨n0, n1, n2, n3, n4⟩, nf⟩ := blk5 g3
                have nf3 := nf 3
                have nf4 := nf 4
                clear p0 p1 p2 p3 p4 m0 m1 m2 m3 m4 f3 f4 nf hbA g2
                generalize wr.drewN nq = W at *
                go_wp2_with fail
                go_quiet (fail)
                have t4 : (W.drewN nq).cell? ⟨gA, j * 5 + 4, none⟩ = some (.string y5) := r4
                have g6 : (W.drewN nq).heap[w4.heap.size]? = some (otab x1 x2 x3 lo hi) := g3
                have hb8 : Below w4.heap.size w4 (W.drewN nq) := hb6.trans (below_drewN _ _ _)
                obtain ⟨⟨v0, v1, v2, v3, v4⟩, vf⟩ := blk5 g6
                have vf4 := vf 4
                clear vf
                generalize W.drewN nq = W2 at *
                go_wp2
                go_roundw
                case rel => exact ⟨j + 1, lo, hi, by omega, by go_num, HL3, HH3, g6, hb8⟩
                case measure => simp [intOf]; omega
          · obtain rfl : j = F.length := by omega
            obtain rfl : LO = lo := by rw [HL2.out, List.drop_of_length_le (by rw [hlFR.out]; omega)]; rfl
            obtain rfl : HI = hi := by rw [HH2.out, List.drop_of_length_le (by rw [hlFR.out]; omega)]; rfl
            have HIS : Hid (I = FR ++ E.filter (fun x => Lv.meet x ⟨x1, x2, x3, LO, HI⟩)) := (by rw [HI0.out, HSP2.out] : I = FR ++ E.filter (fun x => Lv.meet x ⟨x1, x2, x3, LO, HI⟩))
            clear HL2 HH2 HSP2 HI0
            have hB4A := hB4.trans (hbA.mono hB4.size)
            obtain ⟨wA, rfl⟩ : ∃ wA, wA = wr := ⟨_, rfl⟩
            go_wp2_with (go_at_call 32; go_must (refine (hl2 _ hB4A).mono ?_; rintro e w5 ⟨A5, C5, rfl, hown5, hb5⟩))
            have hB5 := hB4A.trans (hb5.mono hB4A.size)
            have hrE := lrowD hown5 (by omega)
            have g5 := blk_kept g2 hb5
            have hrF5 := (hrF.below hbA (Nat.le_refl _)).below hb5 (Nat.le_refl _)
            clear hl2 hown5 hb5 g2 hrF
            obtain ⟨G, hG⟩ : ∃ G, G = w4.heap.size := ⟨_, rfl⟩
            rw [← hG] at g5 ⊢
            clear hG
            go_loopw [6, 10] (fun v i wr => ∃ (q m c : Nat) (g : Addr) (O : List Lv.T), q ≤ E.length ∧ m ≤ F.length + q ∧ m ≤ c ∧ i = .int .i64 q ∧ v = .slice (some g) m c ∧ Hid (I = O ++ (E.drop q).filter (fun x => Lv.meet x ⟨x1, x2, x3, LO, HI⟩)) ∧ LRow wr (some g) m O ∧ Below w5.heap.size w5 wr) (fun _ i _ => E.length - (intOf i).toNat)
            case atStart => exact ⟨0, F.length, C4, ⟨gA, 0, none⟩, FR, by omega, by omega, hMC, rfl, rfl, HIS, hrF5, Below.refl _ _⟩
            case round =>
              obtain ⟨q, m, c, g, O, hq, hmq, hmc, rfl, rfl, H, hrO, hbB⟩ := hrel
              clear HIS hrF5
              by_cases hqlt : q < E.length
              · obtain ⟨b, off, y1, y2, y3, y4, y5, rfl, hy, p0, p1, p2, p3, p4⟩ := lget hrE hbB hqlt
                have i0 : (0 : Int) ≤ (q : Int) := by omega
                have i2 : (q : Int) < ((E.length : Nat) : Int) := by omega
                have hmc2 : (m : Int) ≤ (c : Int) := by omega
                have hm0 : (0 : Int) ≤ (m : Int) := by omega
                obtain ⟨⟨s0, s1, s2, s3, s4⟩, _⟩ := blk5 (blk_kept g5 hbB)
                have hmx := rmeet_any y1 y2 y3 y4 y5 x1 x2 x3 LO HI
                have hkeep : Hid (∀ W2, Below wr.heap.size wr W2 → L5 W2 b (off + q * 5) ⟨y1, y2, y3, y4, y5⟩) := (fun W2 h => L5.below ⟨p0, p1, p2, p3, p4⟩ h (Nat.le_refl _) : ∀ W2, Below wr.heap.size wr W2 → L5 W2 b (off + q * 5) ⟨y1, y2, y3, y4, y5⟩)
                cases hz : Lv.meet ⟨y1, y2, y3, y4, y5⟩ ⟨x1, x2, x3, LO, HI⟩ with
                | true =>
                  rw [hz] at hmx
                  have H2 : Hid (I = (O ++ [⟨y1, y2, y3, y4, y5⟩]) ++ (E.drop (q + 1)).filter (fun x => Lv.meet x ⟨x1, x2, x3, LO, HI⟩)) := (by rw [H.out, ldrop hqlt, hy.out]; simp [hz] : I = _)
                  clear H hy hz
                  go_wp2_with fail
                  go_region_held3 (fun w' => w'.cell? ⟨G, 0, none⟩ = some (.int .i64 x1) ∧ w'.cell? ⟨G, 1, none⟩ = some (.int .i64 x2) ∧ w'.cell? ⟨G, 2, none⟩ = some (.int .i64 x3) ∧ w'.cell? ⟨G, 3, none⟩ = some (.string LO) ∧ w'.cell? ⟨G, 4, none⟩ = some (.string HI) ∧ w'.cell? ⟨b, off + q * 5, none⟩ = some (.int .i64 y1) ∧ w'.cell? ⟨b, off + q * 5 + 1, none⟩ = some (.int .i64 y2) ∧ w'.cell? ⟨b, off + q * 5 + 2, none⟩ = some (.int .i64 y3) ∧ w'.cell? ⟨b, off + q * 5 + 3, none⟩ = some (.string y4) ∧ w'.cell? ⟨b, off + q * 5 + 4, none⟩ = some (.string y5)) (first | go_keep | (refine ⟨?_, ?_, ?_, ?_, ?_, ?_, ?_, ?_, ?_, ?_⟩ <;> assumption))
          ((go_at_call 11; refine (hmx _).mono ?_; rintro e w2 ⟨rfl, hbel2⟩; have hb4 : Below wr.heap.size wr w2 := below_of_drew hbel2; obtain ⟨u0, u1, u2, u3, u4⟩ := L5.below (x := ⟨x1, x2, x3, LO, HI⟩) (o := 0) ⟨s0, s1, s2, s3, s4⟩ hb4 (Nat.le_refl _); obtain ⟨v0, v1, v2, v3, v4⟩ := L5.below (x := ⟨y1, y2, y3, y4, y5⟩) ⟨p0, p1, p2, p3, p4⟩ hb4 (Nat.le_refl _); simp only [Nat.zero_add] at u0 u1 u2 u3 u4 v0 v1 v2 v3 v4))
                  have hb6 := hbB.trans (hb4.mono hbB.size)
                  have hrO2 := hrO.below hb4 (Nat.le_refl _)
                  clear p0 p1 p2 p3 p4 s0 s1 s2 s3 s4 u0 u1 u2 u3 u4
                  have hnews : ∀ q u, (tcells le [Lv.T.mk y1 y2 y3 y4 y5])[q]? = some u → (w2.alloc (otab y1 y2 y3 y4 y5)).drew.cell? ((⟨w2.heap.size, 0, none⟩ : Addr).add q) = some u := news_tab (tab_past (w := w2) (B := (w2.alloc (otab y1 y2 y3 y4 y5)).heap.size) ((Below.refl _ _).drew) (by simp))
                  have hhead2 : ∀ q u, (tcells le O)[q]? = some u → w2.cell? (g.add q) = some u := fun q u hq => TRow.cells leE (by decide) hrO2 q u hq
                  have hne := World.new_ne w2 ⟨b, off + q * 5, none⟩ v0
                  have HOl : Hid (O.length = m) := hrO.1
                  clear hrO hrO2 hbel2
                  go_wp2_with fail
                  go_region_held3 (fun w' => w'.cell? ⟨b, off + q * 5, none⟩ = some (.int .i64 y1) ∧ w'.cell? ⟨b, off + q * 5 + 1, none⟩ = some (.int .i64 y2) ∧ w'.cell? ⟨b, off + q * 5 + 2, none⟩ = some (.int .i64 y3) ∧ w'.cell? ⟨b, off + q * 5 + 3, none⟩ = some (.string y4) ∧ w'.cell? ⟨b, off + q * 5 + 4, none⟩ = some (.string y5)) (first | go_keep | (refine ⟨?_, ?_, ?_, ?_, ?_⟩ <;> assumption))
                    ((refine step_tabfull (by rfl) _ _ (by rfl) g m O (by rfl) HOl.out (fun q u hq => (cell_past _ _ _ (cell_lt (hhead2 q u hq))).trans (hhead2 q u hq)) ⟨w2.heap.size, 0, none⟩ _ ⟨y1, y2, y3, y4, y5⟩ (by rfl) hnews (by omega) ?_; intro g3 c3 w3' hc3 hown3 hbel3; have hbel3d : Below (w2.alloc (otab y1 y2 y3 y4 y5)).heap.size (w2.alloc (otab y1 y2 y3 y4 y5)) w3' := below_of_drew hbel3; have hb7 := (below_alloc w2 (otab y1 y2 y3 y4 y5)).trans (hbel3d.mono (below_alloc w2 (otab y1 y2 y3 y4 y5)).size); have hb8 := hb4.trans (hb7.mono hb4.size); obtain ⟨r0, r1, r2, r3, r4⟩ := hkeep.out w3' hb8; simp only at r0 r1 r2 r3 r4))
                  go_wp2
                  go_roundw
                  case rel => exact ⟨q + 1, m + 1, c3, _, O ++ [⟨y1, y2, y3, y4, y5⟩], by omega, by omega, hc3, by go_num, rfl, H2, lrowD hown3 (by omega), hb6.trans (hb7.mono hb6.size)⟩
                  case measure => simp [intOf]; omega
                | false =>
                  rw [hz] at hmx
                  have H2 : Hid (I = O ++ (E.drop (q + 1)).filter (fun x => Lv.meet x ⟨x1, x2, x3, LO, HI⟩)) := (by rw [H.out, ldrop hqlt, hy.out]; simp [hz] : I = _)
                  clear H hy hz
                  go_wp2_with fail
                  go_region_held3 (fun w' => w'.cell? ⟨G, 0, none⟩ = some (.int .i64 x1) ∧ w'.cell? ⟨G, 1, none⟩ = some (.int .i64 x2) ∧ w'.cell? ⟨G, 2, none⟩ = some (.int .i64 x3) ∧ w'.cell? ⟨G, 3, none⟩ = some (.string LO) ∧ w'.cell? ⟨G, 4, none⟩ = some (.string HI) ∧ w'.cell? ⟨b, off + q * 5, none⟩ = some (.int .i64 y1) ∧ w'.cell? ⟨b, off + q * 5 + 1, none⟩ = some (.int .i64 y2) ∧ w'.cell? ⟨b, off + q * 5 + 2, none⟩ = some (.int .i64 y3) ∧ w'.cell? ⟨b, off + q * 5 + 3, none⟩ = some (.string y4) ∧ w'.cell? ⟨b, off + q * 5 + 4, none⟩ = some (.string y5)) (first | go_keep | (refine ⟨?_, ?_, ?_, ?_, ?_, ?_, ?_, ?_, ?_, ?_⟩ <;> assumption))
          ((go_at_call 11; refine (hmx _).mono ?_; rintro e w2 ⟨rfl, hbel2⟩; have hb4 : Below wr.heap.size wr w2 := below_of_drew hbel2; obtain ⟨u0, u1, u2, u3, u4⟩ := L5.below (x := ⟨x1, x2, x3, LO, HI⟩) (o := 0) ⟨s0, s1, s2, s3, s4⟩ hb4 (Nat.le_refl _); obtain ⟨v0, v1, v2, v3, v4⟩ := L5.below (x := ⟨y1, y2, y3, y4, y5⟩) ⟨p0, p1, p2, p3, p4⟩ hb4 (Nat.le_refl _); simp only [Nat.zero_add] at u0 u1 u2 u3 u4 v0 v1 v2 v3 v4))
                  go_wp2
                  go_roundw
                  case rel => exact ⟨q + 1, m, c, g, O, by omega, by omega, hmc, by go_num, rfl, H2, hrO.below hb4 (Nat.le_refl _), hbB.trans (hb4.mono hbB.size)⟩
                  case measure => simp [intOf]; omega
              · obtain rfl : q = E.length := by omega
                obtain rfl : I = O := by rw [H.out, List.drop_of_length_le (by omega)]; simp
                have hnu := rnums_any (some g) m c I wr (by omega) hrO hIm
                have hB6 := hB5.trans (hbB.mono hB5.size)
                clear H
                obtain ⟨wB, rfl⟩ : ∃ wB, wB = wr := ⟨_, rfl⟩
                go_wp2_with (go_at_call 15; go_must (refine hnu.mono ?_; rintro e w6 ⟨A6, C6, rfl, hown6, hb6⟩))
                have hB7 := hB6.trans (hb6.mono hB6.size)
                have gj : (w6.alloc (oj (.slice A6 (nm I).length C6) ((k : Int) + 1) true)).heap[w6.heap.size]? = some (oj (.slice A6 (nm I).length C6) ((k : Int) + 1) true) := heap_alloc_new w6 _
                have hbj := below_alloc w6 (oj (.slice A6 (nm I).length C6) ((k : Int) + 1) true)
                have hrI6 := hrO.below hb6 (Nat.le_refl _)
                have hrl6 := hrW.below hB7 (Nat.le_refl _)
                obtain ⟨R, hR⟩ : ∃ R, R = !HD := ⟨_, rfl⟩
                have HR0 : Hid (R = (true && !(l.drop 0).any (fun x => decide ((k : Int) + 1 < x.lev) && I.any (Lv.meet x)))) := (by rw [hR, HHR.out]; rfl : R = _)
                have HGOAL2 : Hid (∀ e w', JRes w (nm I) ((k : Int) + 1) R e w' → RPick w D N e w') := (by rw [hR]; exact HGOAL.out : ∀ e w', JRes w (nm I) ((k : Int) + 1) R e w' → RPick w D N e w')
                clear hR HHR HGOAL hnu
                go_loopw [12] (fun i wr => ∃ (t : Nat) (dr : Bool), t ≤ len ∧ i = .int .i64 t ∧ Hid (R = (dr && !(l.drop t).any (fun x => decide ((k : Int) + 1 < x.lev) && I.any (Lv.meet x)))) ∧ wr.heap[w6.heap.size]? = some (oj (.slice A6 (nm I).length C6) ((k : Int) + 1) dr) ∧ Below w6.heap.size w6 wr) (fun i _ => len - (intOf i).toNat)
                case atStart => exact ⟨0, true, by omega, rfl, HR0, gj, hbj⟩
                case round =>
                  obtain ⟨t, dr, ht, rfl, HR1, gj1, hbC⟩ := hrel
                  clear HR0 gj hbj
                  by_cases htlt : t < len
                  · obtain ⟨b, off, y1, y2, y3, y4, y5, rfl, hy, p0, p1, p2, p3, p4⟩ := lget hrl6 hbC htlt
                    have ht' : t < l.length := by rw [hll.out]; exact htlt
                    have i0 : (0 : Int) ≤ (t : Int) := by omega
                    have i2 : (t : Int) < (len : Int) := by omega
                    have HS : Hid ((l.drop t).any (fun x => decide ((k : Int) + 1 < x.lev) && I.any (Lv.meet x)) = ((decide ((k : Int) + 1 < y2) && I.any (Lv.meet ⟨y1, y2, y3, y4, y5⟩)) || (l.drop (t + 1)).any (fun x => decide ((k : Int) + 1 < x.lev) && I.any (Lv.meet x)))) := (by rw [ldrop ht', hy.out]; rfl : (l.drop t).any _ = _)
                    have hme := rmeets_any y1 y2 y3 y4 y5 (some g) m c I wr (by omega) (hrI6.below hbC (Nat.le_refl _))
                    by_cases hl : (k : Int) + 1 < y2
                    · have dl : decide ((k : Int) + 1 < y2) = true := decide_eq_true hl
                      cases hz : I.any (Lv.meet ⟨y1, y2, y3, y4, y5⟩) with
                      | true =>
                        rw [hz] at hme
                        have HR2 : Hid (R = (false && !(l.drop (t + 1)).any (fun x => decide ((k : Int) + 1 < x.lev) && I.any (Lv.meet x)))) := (by rw [HR1.out, HS.out, dl, hz]; simp : R = _)
                        clear HR1 HS hy hz
                        go_wp2_with (go_at_call 33; go_must (refine hme.mono ?_; rintro e w7 ⟨rfl, hb7⟩; have gj2 := blk_kept gj1 hb7; obtain ⟨⟨n0, n1, n2⟩, nf0, nf1, nf2⟩ := blk3 gj2))
                        go_roundw
                        case rel => exact ⟨t + 1, false, by omega, by go_num, HR2, blk_drop gj2 false, below_set (hbC.trans (hb7.mono hbC.size)) (Nat.le_refl _) _ _⟩
                        case measure => simp [intOf]; omega
                      | false =>
                        rw [hz] at hme
                        have HR2 : Hid (R = (dr && !(l.drop (t + 1)).any (fun x => decide ((k : Int) + 1 < x.lev) && I.any (Lv.meet x)))) := (by rw [HR1.out, HS.out, dl, hz]; simp : R = _)
                        clear HR1 HS hy hz
                        go_wp2_with (go_at_call 33; go_must (refine hme.mono ?_; rintro e w7 ⟨rfl, hb7⟩; have gj2 := blk_kept gj1 hb7))
                        go_roundw
                        case rel => exact ⟨t + 1, dr, by omega, by go_num, HR2, gj2, hbC.trans (hb7.mono hbC.size)⟩
                        case measure => simp [intOf]; omega
                    · have dl : decide ((k : Int) + 1 < y2) = false := decide_eq_false hl
                      have HR2 : Hid (R = (dr && !(l.drop (t + 1)).any (fun x => decide ((k : Int) + 1 < x.lev) && I.any (Lv.meet x)))) := (by rw [HR1.out, HS.out, dl]; simp : R = _)
                      clear HR1 HS hy hme
                      go_wp2
                      go_roundw
                      case rel => exact ⟨t + 1, dr, by omega, by go_num, HR2, gj1, hbC⟩
                      case measure => simp [intOf]; omega
                  · obtain rfl : t = len := by omega
                    have HE2 : Hid (R = dr) := (by rw [HR1.out, List.drop_of_length_le (by rw [hll.out]; omega)]; simp : R = dr)
                    clear HR1
                    have hB8 := hB7.trans (hbC.mono hB7.size)
                    obtain ⟨⟨n0, n1, n2⟩, nf0, nf1, nf2⟩ := blk3 gj1
                    obtain ⟨⟨j0, j1, j2⟩, f0, f1, f2⟩ := blk3 (blk_kept g0 hB8)
                    have hs6 : w.heap.size < wB.heap.size := by have := hB6.size; simp at this; omega
                    have hne := own_ne hown6 hs6
                    have ho8 := lowns_base (B' := w.heap.size) (owns_below hown6 hbC) (by omega)
                    go_wp2
                    obtain rfl := HE2.out
                    exact bodyPost_ret (v := .agg #[.slice A6 (nm I).length C6, .int .i64 ((k : Int) + 1), .bool R]) (by simp [results, Try.results20, go_sem, j0, j1, j2]) rfl (HGOAL2.out _ _ ⟨A6, C6, rfl, own_set (own_set (own_set ho8 hne _ _) hne _ _) hne _ _, below_set (below_set (below_set (hb0.trans (hB8.mono hb0.size)) (Nat.le_refl _) _ _) (Nat.le_refl _) _ _) (Nat.le_refl _) _ _⟩)
      | false =>
        have HA2 : Hid (∀ m : Nat, m < k + 1 → Lv.full (Lv.lv D m) m base = false) := (by
          intro m hm
          rcases Nat.lt_or_ge m k with h | h
          · exact HA.out m h
          · obtain rfl : m = k := by omega
            exact hf : ∀ m : Nat, m < k + 1 → Lv.full (Lv.lv D m) m base = false)
        rw [hf] at hfu
        clear hful hlvl HA HN hf HH
        go_wp2_with (go_at_call 31; go_must (refine hfu.mono ?_; rintro e w3 ⟨rfl, hb3⟩; have hB3 := hbel.trans (hb3.mono hbel.size)))
        go_roundw
        case rel => exact ⟨k + 1, by omega, by go_num, HA2, hB3⟩
        case measure => simp [intOf]; omega
    · obtain rfl : k = 4 := by omega
      have HE : Hid (N = 4) := (by rw [HN.out]; exact Lv.pn_none HA.out : N = 4)
      clear HA HN hful hlvl HH hcase
      obtain ⟨⟨j0, j1, j2⟩, f0, f1, f2⟩ := blk3 (blk_kept g0 hbel)
      go_wp2
      obtain rfl := HE.out
      exact bodyPost_ret (v := .agg #[.slice none 0 0, .int .i64 0, .bool false]) (by simp [results, Try.results20, go_sem, j0, j1, j2]) rfl (.inl ⟨rfl, none, 0, rfl, ⟨rfl, .inl ⟨rfl, rfl⟩⟩, below_set (below_set (below_set (hb0.trans (hbel.mono hb0.size)) (Nat.le_refl _) _ _) (Nat.le_refl _) _ _) (Nat.le_refl _) _ _⟩)
end Go.Proofs.Ytghgolpofafjmaa
