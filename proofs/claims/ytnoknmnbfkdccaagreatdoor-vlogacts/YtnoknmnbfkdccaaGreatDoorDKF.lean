/- The disk's Append. -/
import Derived.Test.YtnoknmnbfkdccaaGreatDoorDKD
namespace Go.Proofs.YtnoknmnbfkdccaaGreatDoor
open Go.RowKit Go.Shelf

def Dk.appF (f : Dk.F) (bs : List Nat) : Dk.F := ⟨f.bs ++ bs, f.safe⟩

set_option maxRecDepth 100000 in
set_option maxHeartbeats 4000000 in
theorem append1_some {w : World} {p fm nm sm num : Nat} {D : Dk.D} {tv : Value} {J : List (Nat × FH × Dk.F)} {S : Nat → Prop} {x : FH} {f : Dk.F} (hO : Dk.Ok D) (hP : Parts w p D (Dk.sum D.files) fm nm sm tv J) (hS : ∀ k, foot p fm nm sm tv J k → S k) (hj : look J num = some (x, f))
    (b0 b1 b2 b3 : Nat) (s0 : ¬ S b0) (s1 : ¬ S b1) (s3 : ¬ S b3) (ax : Option Addr) (m c : Nat) (bs : List Nat)
    (k0 : w.cell? ⟨b0, 0, none⟩ = some (.pointer (some ⟨x.q, 0, none⟩))) (k1 : w.cell? ⟨b1, 0, none⟩ = some (.pointer (some ⟨p, 0, none⟩))) (k3 : w.cell? ⟨b3, 0, none⟩ = some (.slice ax m c))
    (hrow : Row .u8 w ax m bs) (hnil : ax = none → m = 0 ∧ c = 0) (hroom : Dk.sum D.files + m ≤ D.quota) :
    Calls Tryz.prog 73 #[.pointer (some ⟨b0, 0, none⟩), .pointer (some ⟨b1, 0, none⟩), .pointer (some ⟨b2, 0, none⟩), .pointer (some ⟨b3, 0, none⟩)] w fun e w' => e = .returned (.tuple #[]) ∧ DK w' p { D with files := mput D.files num (Dk.appF f bs) } (grow1 S w) ∧ OnlyIn S w w' := by
    have hfl : look D.files num = some f := by rw [hP.look, hj]; rfl
    have hq := hO.q
    have hfl2 := Dk.le_sum hfl
    obtain ⟨A, B, rfl, hA⟩ := look_part hj
    have nb0 : ¬ foot p fm nm sm tv (A ++ (num, x, f) :: B) b0 := fun h => s0 (hS _ h)
    have nb1 : ¬ foot p fm nm sm tv (A ++ (num, x, f) :: B) b1 := fun h => s1 (hS _ h)
    have nb3 : ¬ foot p fm nm sm tv (A ++ (num, x, f) :: B) b3 := fun h => s3 (hS _ h)
    obtain ⟨W, hW⟩ : ∃ W, W = w := ⟨_, rfl⟩
    rw [← hW] at hP k0 k1 k3 hrow ⊢
    have hPW := hP
    have rowW := hrow
    clear hP hrow hW
    go_enter Tryz.func73, Tryz.ntmps73
    go_wp2
    have hx : FileAt W x f := hPW.each (num, x, f) (by simp)
    obtain ⟨d0, d1, hfx⟩ := hx.cells
    obtain ⟨va, vc, hv, hva, hvc⟩ := t_shape hx.row
    obtain ⟨L, hL⟩ : ∃ L, L = f.bs.length := ⟨_, rfl⟩
    have HL : Hid (L = f.bs.length) := hL
    have HX : Hid (x.v = .slice va L vc) := (by rw [hL]; exact hv : x.v = .slice va L vc)
    have HV : Hid (W.drew.ownsRow 0 5 1 (.slice va L vc) L (kcells .u8 f.bs)) := (by have := hx.row; rw [hv, ← hL] at this; exact own_keep this fun g _ => rfl : W.drew.ownsRow 0 5 1 (.slice va L vc) L (kcells .u8 f.bs))
    rw [hv, ← hL] at d0
    have hLm : L + m ≤ 1000000000 := by rw [hL]; omega
    have rowd : Row .u8 W.drew ax m bs := rowW.below (below_drew W 1) (Nat.le_refl _)
    clear hv hva hvc hL
    have hxp : ¬ (x.q = p) := fun e => cells_ne hPW.blk hx.blk (by decide) e.symm
    have hpx : ¬ (p = x.q) := fun e => hxp e.symm
    have hfootp : foot p fm nm sm tv (A ++ (num, x, f) :: B) p := .inl rfl
    have hfootq : foot p fm nm sm tv (A ++ (num, x, f) :: B) x.q := .inr (.inr (.inr (.inr (.inr ⟨(num, x, f), by simp, .inl rfl⟩))))
    have hb0q : ¬ (b0 = x.q) := fun e => nb0 (e ▸ hfootq)
    have hqb0 : ¬ (x.q = b0) := fun e => hb0q e.symm
    have hb3q : ¬ (b3 = x.q) := fun e => nb3 (e ▸ hfootq)
    have hqb3 : ¬ (x.q = b3) := fun e => hb3q e.symm
    have hb1q : ¬ (b1 = x.q) := fun e => nb1 (e ▸ hfootq)
    have hqb1 : ¬ (x.q = b1) := fun e => hb1q e.symm
    have hvne : ∀ {k : Nat}, ¬ foot p fm nm sm tv (A ++ (num, x, f) :: B) k → some k ≠ (Value.slice va L vc).ownBlock := fun {k} hk e => hk (.inr (.inr (.inr (.inr (.inr ⟨(num, x, f), by simp, .inr (by rw [HX.out]; exact e.symm)⟩)))))
    have hvq : some x.q ≠ (Value.slice va L vc).ownBlock := fun e => by
      obtain ⟨cc, hcc⟩ := own_blk HV.out e.symm
      exact cells_ne hcc hx.blk (by decide) rfl
    have hvp : some p ≠ (Value.slice va L vc).ownBlock := fun e => by
      obtain ⟨cc, hcc⟩ := own_blk HV.out e.symm
      exact cells_ne hcc hPW.blk (by decide) rfl
    have hb0l := cell_lt k0
    have hb1l := cell_lt k1
    have hb3l := cell_lt k3
    have hql := heap_lt hx.blk
    have hpl := heap_lt hPW.blk
    have hkp : Hid (∀ w2, W.drew.grownBy w2 (Value.slice va L vc).ownBlock → w2.cell? ⟨b0, 0, none⟩ = some (.pointer (some ⟨x.q, 0, none⟩)) ∧ w2.cell? ⟨b3, 0, none⟩ = some (.slice ax m c) ∧ w2.cell? ⟨b1, 0, none⟩ = some (.pointer (some ⟨p, 0, none⟩)) ∧ w2.cell? ⟨x.q, 0, none⟩ = some (.slice va L vc) ∧ (∀ i, w2.frozen? ⟨x.q, i, none⟩ = false) ∧ (w2.heap[p]? = W.heap[p]? ∧ w2.heap[x.q]? = W.heap[x.q]?)) :=
      (fun w2 hg => by
        have hb : ∀ k, k < W.heap.size → some k ≠ (Value.slice va L vc).ownBlock → w2.heap[k]? = W.heap[k]? := fun k hk hne => hg.block k hk hne
        exact ⟨(World.cell?_of_block (hb b0 hb0l (hvne nb0))).trans k0, (World.cell?_of_block (hb b3 hb3l (hvne nb3))).trans k3, (World.cell?_of_block (hb b1 hb1l (hvne nb1))).trans k1, (World.cell?_of_block (hb x.q hql hvq)).trans d0, fun i => (World.frozen?_of_block (hb x.q hql hvq)).trans (hfx i), hb p hpl hvp, hb x.q hql hvq⟩ : ∀ w2, W.drew.grownBy w2 (Value.slice va L vc).ownBlock → w2.cell? ⟨b0, 0, none⟩ = some (.pointer (some ⟨x.q, 0, none⟩)) ∧ w2.cell? ⟨b3, 0, none⟩ = some (.slice ax m c) ∧ w2.cell? ⟨b1, 0, none⟩ = some (.pointer (some ⟨p, 0, none⟩)) ∧ w2.cell? ⟨x.q, 0, none⟩ = some (.slice va L vc) ∧ (∀ i, w2.frozen? ⟨x.q, i, none⟩ = false) ∧ (w2.heap[p]? = W.heap[p]? ∧ w2.heap[x.q]? = W.heap[x.q]?))
    refine wp_region_held_drew (S := fun w' => w'.cell? ⟨b0, 0, none⟩ = some (.pointer (some ⟨x.q, 0, none⟩)) ∧ w'.cell? ⟨b3, 0, none⟩ = some (.slice ax m c)) (by kernel_rfl) ⟨k0, k3⟩ (fun hHeld => ?_)
    refine wpAnyH_take (i := 0) (oi := ⟨some 9, _, _, _, _, _⟩) (v := ?_) rfl (by kernel_rfl) (by kernel_rfl) (by kernel_rfl) (fun _ _ _ h => h) (Or.inl ⟨by rfl, ?_⟩) (by assumption) ?_
    rotate_left
    · intro w hSw; (try dsimp only at hSw); go_simp <;> (try with_reducible rfl)
    go_frame
    refine wpAnyH_take (i := 1) (oi := ⟨some 10, _, _, _, _, _⟩) (v := ?_) rfl (by kernel_rfl) (by kernel_rfl) (by kernel_rfl) (fun _ _ _ h => h) (Or.inl ⟨by rfl, ?_⟩) (by assumption) ?_
    rotate_left
    · intro w hSw; (try dsimp only at hSw); go_simp <;> (try with_reducible rfl)
    go_frame
    refine wpAnyH_take (i := 2) (oi := ⟨some 11, _, _, _, _, _⟩) (v := ?_) rfl (by kernel_rfl) (by kernel_rfl) (by kernel_rfl) (fun _ _ _ h => h) (Or.inl ⟨by rfl, ?_⟩) (by assumption) ?_
    rotate_left
    · intro w hSw; (try dsimp only at hSw); go_simp <;> (try with_reducible rfl)
    go_frame
    refine wpAnyH_take (i := 3) (oi := ⟨some 12, _, _, _, _, _⟩) (v := ?_) rfl (by kernel_rfl) (by kernel_rfl) (by kernel_rfl) (fun _ _ _ h => h) (Or.inl ⟨by rfl, ?_⟩) (by assumption) ?_
    rotate_left
    · intro w hSw; (try dsimp only at hSw); go_simp <;> (try with_reducible rfl)
    go_frame
    refine wpAnyH_take (i := 5) (oi := ⟨some 14, _, _, _, _, _⟩) (v := ?_) rfl (by kernel_rfl) (by kernel_rfl) (by kernel_rfl) (fun _ _ _ h => h) (Or.inl ⟨by rfl, ?_⟩) (by assumption) ?_
    rotate_left
    · intro w hSw; (try dsimp only at hSw); go_simp <;> (try with_reducible rfl)
    go_frame
    refine wpAnyH_ready (rs := [4]) (by kernel_rfl) (by simp) ?_
    refine AllReadyH.cons rfl (fun K hK => ?_) AllReadyH.nil
    go_simp
    refine hK.out _ _ (by first | go_keep | (refine ⟨?_, ?_⟩ <;> assumption)) (fun hHeld => ?_)
    clear hK K
    refine wpAnyH_ready (rs := [6]) (by kernel_rfl) (by simp) ?_
    refine AllReadyH.cons rfl (fun K hK => ?_) AllReadyH.nil
    refine step_bytes (by rfl) _ _ (by rfl) _ L f.bs (by rfl) HV.out ax m c bs (by rfl) rowd hnil hLm ?_; intro a' c' w2 hown2 hg2 hpl2; obtain ⟨m0, m1, m2, m3, m4, m5⟩ := hkp.out w2 hg2
    refine hK.out _ _ (by first | go_keep | (refine ⟨?_, ?_⟩ <;> assumption)) (fun hHeld => ?_)
    clear hK K
    go_frame
    refine wpAnyH_take (i := 7) (oi := ⟨some 16, _, _, _, _, _⟩) (v := ?_) rfl (by kernel_rfl) (by kernel_rfl) (by kernel_rfl) (fun _ _ _ h => h) (Or.inl ⟨by rfl, ?_⟩) (by assumption) ?_
    rotate_left
    · intro w hSw; (try dsimp only at hSw); go_simp <;> (try with_reducible rfl)
    go_frame
    refine wpAnyH_take (i := 8) (oi := ⟨some 17, _, _, _, _, _⟩) (v := ?_) rfl (by kernel_rfl) (by kernel_rfl) (by kernel_rfl) (fun _ _ _ h => h) (Or.inl ⟨by rfl, ?_⟩) (by assumption) ?_
    rotate_left
    · intro w hSw; (try dsimp only at hSw); go_simp <;> (try with_reducible rfl)
    go_frame
    refine wpAnyH_ready (rs := [9]) (by kernel_rfl) (by simp) ?_
    refine AllReadyH.cons rfl (fun K hK => ?_) AllReadyH.nil
    go_simp
    refine hK.out _ _ (by first | go_keep | (refine ⟨?_, ?_⟩ <;> assumption)) (fun hHeld => ?_)
    clear hK K
    refine wpAnyH_done (by kernel_rfl) ?_ _
    have hbl : bs.length = m := rowW.1
    have hset : ∀ k, k ≠ x.q → (w2.setCell ⟨x.q, 0, none⟩ (.slice a' (L + m) c')).heap[k]? = w2.heap[k]? := fun k hk => set_other w2 x.q 0 _ hk
    have hoth : ∀ k, k < W.heap.size → k ≠ x.q → x.v.ownBlock ≠ some k → (w2.setCell ⟨x.q, 0, none⟩ (.slice a' (L + m) c')).heap[k]? = W.heap[k]? := fun k hk h1 h2 => (hset k h1).trans (hg2.block k hk fun e => h2 (by rw [HX.out]; exact e.symm))
    have hP3 := hPW.file (w' := w2.setCell ⟨x.q, 0, none⟩ (.slice a' (L + m) c')) (h' := ⟨x.q, .slice a' (L + m) c'⟩) (f' := Dk.appF f bs) hoth hA (by
      refine ⟨Go.Joins.block_setCell (m5.2.trans hx.blk) _, ?_, ?_, ?_⟩
      · show World.ownsRow _ 0 5 1 (.slice a' (L + m) c') (f.bs ++ bs).length (kcells .u8 (f.bs ++ bs))
        rw [show (f.bs ++ bs).length = L + m by rw [List.length_append, HL.out, hbl]]
        refine own_keep hown2 fun g hg => hset g fun e => ?_
        obtain ⟨cc, hcc⟩ := own_blk hown2 hg
        exact cells_ne hcc (m5.2.trans hx.blk) (by decide) e
      · intro y hy
        rcases List.mem_append.1 hy with h | h
        · exact hx.small y h
        · exact rowW.2.2.1 y h
      · show f.safe ≤ (f.bs ++ bs).length
        rw [List.length_append]
        have := hx.safe
        omega) rfl (fun g hg => (hpl2 g hg).imp (fun e => by rw [HX.out]; exact e) id)
    have q1 : (w2.setCell ⟨x.q, 0, none⟩ (.slice a' (L + m) c')).cell? ⟨b1, 0, none⟩ = some (.pointer (some ⟨p, 0, none⟩)) := (World.cell?_of_block (hset b1 hb1q)).trans m2
    have q3 : (w2.setCell ⟨x.q, 0, none⟩ (.slice a' (L + m) c')).cell? ⟨b3, 0, none⟩ = some (.slice ax m c) := (World.cell?_of_block (hset b3 hb3q)).trans m1
    have hon3 : OnlyIn (fun k => foot p fm nm sm tv (A ++ (num, x, f) :: B) k) W (w2.setCell ⟨x.q, 0, none⟩ (.slice a' (L + m) c')) := ⟨hg2.os, hg2.tape, hg2.output, by have := hg2.size; simpa using this, fun k hk hn => hoth k hk (fun e => hn (e ▸ hfootq)) fun e => hn (.inr (.inr (.inr (.inr (.inr ⟨(num, x, f), by simp, .inr e⟩)))))⟩
    have hs3 : ∀ g, (Value.slice a' (L + m) c').ownBlock = some g → foot p fm nm sm tv (A ++ (num, x, f) :: B) g ∨ W.heap.size ≤ g := fun g hg => (hpl2 g hg).imp (fun e => .inr (.inr (.inr (.inr (.inr ⟨(num, x, f), by simp, .inr (by rw [HX.out]; exact e)⟩))))) id
    generalize w2.setCell ⟨x.q, 0, none⟩ (.slice a' (L + m) c') = W3 at *
    obtain ⟨⟨e0, e1, e2, e3, e4, e5, e6, e7, e8, e9⟩, hf3⟩ := hP3.cells
    clear hoth hset m0 m1 m2 m3 m4 m5 hown2 hg2 hpl2 hHeld
    have j1 : IntKind.i64.wrap (((Dk.sum D.files : Nat) : Int) + (m : Int)) = ((Dk.sum D.files : Nat) : Int) + (m : Int) := by rw [IntKind.wrap_i64]; omega
    go_wp2
    go_region
    all_goals go_wp2
    all_goals first | go_end0 | refine bodyPost_ret (results_none rfl _ _ _) rfl ?_
    have hsum := Dk.sum_mput (Dk.appF f bs) hfl
    have hal : (Dk.appF f bs).bs.length = f.bs.length + m := by simp only [Dk.appF, List.length_append, hbl]
    have hP4 := (hP3.setUsed (z := ((Dk.sum D.files : Nat) : Int) + (m : Int)) (n := Dk.sum D.files + m) (by omega)).keep (w' := (W3.setCell ⟨p, 3, none⟩ (.int .i64 (((Dk.sum D.files : Nat) : Int) + (m : Int)))).drew) fun k _ => rfl
    refine ⟨rfl, ⟨hO.setF _ hfl (by rw [hal]; omega), fm, nm, sm, tv, _, ?_, foot_file (x := x) (x' := ⟨x.q, .slice a' (L + m) c'⟩) (f := f) (f' := Dk.appF f bs) (fun k hk => .inl (hS k hk)) rfl fun g hg => (hs3 g hg).imp (hS g) id⟩, ?_⟩
    · show Parts _ p _ (Dk.sum (mput D.files num (Dk.appF f bs))) fm nm sm tv _
      rw [show Dk.sum (mput D.files num (Dk.appF f bs)) = Dk.sum D.files + m by omega]
      exact hP4
    · exact ((hon3.mono fun k _ hk => hS k hk).trans (only_set W3 p 3 _ (.inl (hS p (.inl rfl))))).trans ⟨rfl, rfl, rfl, Nat.le_refl _, fun _ _ _ => rfl⟩
set_option maxRecDepth 100000 in
set_option maxHeartbeats 4000000 in
theorem append1_none {w : World} {p fm nm sm : Nat} {D : Dk.D} {tv : Value} {J : List (Nat × FH × Dk.F)} {S : Nat → Prop} (hO : Dk.Ok D) (hP : Parts w p D (Dk.sum D.files) fm nm sm tv J) (hS : ∀ k, foot p fm nm sm tv J k → S k) (hn : D.turns.length ≤ 1000000) (hlast : D.last ≤ 1000000) (s : ByteArray) (hz : s.size ≤ 16)
    (b0 b1 b2 b3 : Nat) (s0 : ¬ S b0) (s1 : ¬ S b1) (s3 : ¬ S b3) (ax : Option Addr) (m c : Nat) (bs : List Nat)
    (k0 : w.cell? ⟨b0, 0, none⟩ = some (.pointer none)) (kf : w.frozen? ⟨b0, 0, none⟩ = false) (k1 : w.cell? ⟨b1, 0, none⟩ = some (.pointer (some ⟨p, 0, none⟩))) (k2 : w.cell? ⟨b2, 0, none⟩ = some (.string s)) (k3 : w.cell? ⟨b3, 0, none⟩ = some (.slice ax m c)) (hb01 : b0 ≠ b1) (hb03 : b0 ≠ b3)
    (hrow : Row .u8 w ax m bs) (hnil : ax = none → m = 0 ∧ c = 0) (hax : ∀ b o, ax = some ⟨b, o, none⟩ → ¬ S b ∧ b ≠ b0) (hroom : Dk.sum D.files + m ≤ D.quota) :
    Calls Tryz.prog 73 #[.pointer (some ⟨b0, 0, none⟩), .pointer (some ⟨b1, 0, none⟩), .pointer (some ⟨b2, 0, none⟩), .pointer (some ⟨b3, 0, none⟩)] w fun e w' => e = .returned (.tuple #[]) ∧ DK w' p { Dk.created D s with files := mput (Dk.created D s).files (D.last + 1) (Dk.appF ⟨[], 0⟩ bs) } (grow1 S w) ∧ OnlyIn (fun k => S k ∨ k = b0) w w' := by
    have hq := hO.q
    have hcr := create_any hO hP hS hn hlast s hz
    have hsumC : Dk.sum (Dk.created D s).files = Dk.sum D.files := Dk.sum_app _ _
    obtain ⟨f, hff⟩ : ∃ f : Dk.F, f = ⟨[], 0⟩ := ⟨_, rfl⟩
    have hfl0 : f.bs.length = 0 := by rw [hff]; rfl
    obtain ⟨E, hE⟩ : ∃ E, E = Dk.created D s := ⟨_, rfl⟩
    have hEq : E.quota = D.quota := by rw [hE]; rfl
    obtain ⟨num, hnum⟩ : ∃ num, num = D.last + 1 := ⟨_, rfl⟩
    rw [← hE, ← hnum, ← hff] at hcr
    rw [← hE, ← hnum, ← hff]
    rw [← hE] at hsumC
    have HC : Hid (Dk.sum E.files = Dk.sum D.files) := hsumC
    have HQ : Hid (E.quota = D.quota) := hEq
    have HF : Hid (f.bs.length = 0) := hfl0
    clear hE hnum hff hsumC hEq hfl0
    have hl0 := cell_lt k0
    have hl1 := cell_lt k1
    have hl3 := cell_lt k3
    go_enter Tryz.func73, Tryz.ntmps73
    go_wp2_with (go_at_call 74; go_must (refine hcr.mono ?_; rintro e w1 ⟨x, tv1, J1, rfl, hO1, hP1, hj1, hS1, hon1⟩; have r0 := (World.cell?_of_block (a := ⟨b0, 0, none⟩) (hon1.block b0 hl0 s0)).trans k0; have r0f := (World.frozen?_of_block (a := ⟨b0, 0, none⟩) (hon1.block b0 hl0 s0)).trans kf; have r1 := (World.cell?_of_block (a := ⟨b1, 0, none⟩) (hon1.block b1 hl1 s1)).trans k1; have r3 := (World.cell?_of_block (a := ⟨b3, 0, none⟩) (hon1.block b3 hl3 s3)).trans k3))
    have hw1 := hon1.size
    have hnf : ∀ b, ¬ S b → b < w.heap.size → ¬ foot p fm nm sm tv1 J1 b := fun b h1 h2 h3 => (hS1 b h3).elim h1 fun h => by omega
    have hset1 : ∀ k, k ≠ b0 → (w1.setCell ⟨b0, 0, none⟩ (.pointer (some ⟨x.q, 0, none⟩))).heap[k]? = w1.heap[k]? := fun k hk => set_other w1 b0 0 _ hk
    have hPW : Parts (w1.setCell ⟨b0, 0, none⟩ (.pointer (some ⟨x.q, 0, none⟩))) p E (Dk.sum E.files) fm nm sm tv1 J1 := hP1.keep fun k hk => hset1 k fun e => hnf b0 s0 hl0 (e ▸ hk)
    have rowW : Row .u8 (w1.setCell ⟨b0, 0, none⟩ (.pointer (some ⟨x.q, 0, none⟩))) ax m bs := by
      obtain ⟨h1, h2, h3, h4⟩ := hrow
      refine ⟨h1, h2, h3, ?_⟩
      rcases h4 with h4 | ⟨b, off, e, hc⟩
      · exact .inl h4
      · refine .inr ⟨b, off, e, fun i hi => ?_⟩
        have hbl := cell_lt (hc i hi)
        exact ((World.cell?_of_block (hset1 b (hax b off e).2)).trans (World.cell?_of_block (hon1.block b hbl (hax b off e).1))).trans (hc i hi)
    have k0' : (w1.setCell ⟨b0, 0, none⟩ (.pointer (some ⟨x.q, 0, none⟩))).cell? ⟨b0, 0, none⟩ = some (.pointer (some ⟨x.q, 0, none⟩)) := World.cell?_setCell_same w1 ⟨b0, 0, none⟩ _ (by rw [r0])
    have k1' : (w1.setCell ⟨b0, 0, none⟩ (.pointer (some ⟨x.q, 0, none⟩))).cell? ⟨b1, 0, none⟩ = some (.pointer (some ⟨p, 0, none⟩)) := (World.cell?_of_block (hset1 b1 hb01.symm)).trans r1
    have k3' : (w1.setCell ⟨b0, 0, none⟩ (.pointer (some ⟨x.q, 0, none⟩))).cell? ⟨b3, 0, none⟩ = some (.slice ax m c) := (World.cell?_of_block (hset1 b3 hb03.symm)).trans r3
    have honW : OnlyIn (fun k => S k ∨ k = b0) w (w1.setCell ⟨b0, 0, none⟩ (.pointer (some ⟨x.q, 0, none⟩))) := (hon1.mono fun k _ h => .inl h).trans (only_set w1 b0 0 _ (.inl (.inr rfl)))
    have hsizeW : (w1.setCell ⟨b0, 0, none⟩ (.pointer (some ⟨x.q, 0, none⟩))).heap.size = w1.heap.size := by simp
    clear k0 k1 k3 r0 r0f r1 r3 hset1 hrow kf
    have k0 := k0'
    have k1 := k1'
    have k3 := k3'
    clear k0' k1' k3'
    generalize w1.setCell ⟨b0, 0, none⟩ (.pointer (some ⟨x.q, 0, none⟩)) = W at *
    have hfl : look E.files num = some f := by rw [hP1.look, hj1]; rfl
    obtain ⟨A, B, rfl, hA⟩ := look_part hj1
    have nb0 := hnf b0 s0 hl0
    have nb1 := hnf b1 s1 hl1
    have nb3 := hnf b3 s3 hl3
    have hx : FileAt W x f := hPW.each (num, x, f) (by simp)
    obtain ⟨d0, d1, hfx⟩ := hx.cells
    obtain ⟨va, vc, hv, hva, hvc⟩ := t_shape hx.row
    obtain ⟨L, hL⟩ : ∃ L, L = f.bs.length := ⟨_, rfl⟩
    have HL : Hid (L = f.bs.length) := hL
    have HX : Hid (x.v = .slice va L vc) := (by rw [hL]; exact hv : x.v = .slice va L vc)
    have HV : Hid (W.drew.ownsRow 0 5 1 (.slice va L vc) L (kcells .u8 f.bs)) := (by have := hx.row; rw [hv, ← hL] at this; exact own_keep this fun g _ => rfl : W.drew.ownsRow 0 5 1 (.slice va L vc) L (kcells .u8 f.bs))
    rw [hv, ← hL] at d0
    have hLm : L + m ≤ 1000000000 := by rw [hL]; have h9 := HC.out; have h8 := HQ.out; have h7 := HF.out; omega
    have rowd : Row .u8 W.drew ax m bs := rowW.below (below_drew W 1) (Nat.le_refl _)
    clear hv hva hvc hL
    have hxp : ¬ (x.q = p) := fun e => cells_ne hPW.blk hx.blk (by decide) e.symm
    have hpx : ¬ (p = x.q) := fun e => hxp e.symm
    have hfootp : foot p fm nm sm tv1 (A ++ (num, x, f) :: B) p := .inl rfl
    have hfootq : foot p fm nm sm tv1 (A ++ (num, x, f) :: B) x.q := .inr (.inr (.inr (.inr (.inr ⟨(num, x, f), by simp, .inl rfl⟩))))
    have hb0q : ¬ (b0 = x.q) := fun e => nb0 (e ▸ hfootq)
    have hqb0 : ¬ (x.q = b0) := fun e => hb0q e.symm
    have hb3q : ¬ (b3 = x.q) := fun e => nb3 (e ▸ hfootq)
    have hqb3 : ¬ (x.q = b3) := fun e => hb3q e.symm
    have hb1q : ¬ (b1 = x.q) := fun e => nb1 (e ▸ hfootq)
    have hqb1 : ¬ (x.q = b1) := fun e => hb1q e.symm
    have hvne : ∀ {k : Nat}, ¬ foot p fm nm sm tv1 (A ++ (num, x, f) :: B) k → some k ≠ (Value.slice va L vc).ownBlock := fun {k} hk e => hk (.inr (.inr (.inr (.inr (.inr ⟨(num, x, f), by simp, .inr (by rw [HX.out]; exact e.symm)⟩)))))
    have hvq : some x.q ≠ (Value.slice va L vc).ownBlock := fun e => by
      obtain ⟨cc, hcc⟩ := own_blk HV.out e.symm
      exact cells_ne hcc hx.blk (by decide) rfl
    have hvp : some p ≠ (Value.slice va L vc).ownBlock := fun e => by
      obtain ⟨cc, hcc⟩ := own_blk HV.out e.symm
      exact cells_ne hcc hPW.blk (by decide) rfl
    have hb0l := cell_lt k0
    have hb1l := cell_lt k1
    have hb3l := cell_lt k3
    have hql := heap_lt hx.blk
    have hpl := heap_lt hPW.blk
    have hkp : Hid (∀ w2, W.drew.grownBy w2 (Value.slice va L vc).ownBlock → w2.cell? ⟨b0, 0, none⟩ = some (.pointer (some ⟨x.q, 0, none⟩)) ∧ w2.cell? ⟨b3, 0, none⟩ = some (.slice ax m c) ∧ w2.cell? ⟨b1, 0, none⟩ = some (.pointer (some ⟨p, 0, none⟩)) ∧ w2.cell? ⟨x.q, 0, none⟩ = some (.slice va L vc) ∧ (∀ i, w2.frozen? ⟨x.q, i, none⟩ = false) ∧ (w2.heap[p]? = W.heap[p]? ∧ w2.heap[x.q]? = W.heap[x.q]?)) :=
      (fun w2 hg => by
        have hb : ∀ k, k < W.heap.size → some k ≠ (Value.slice va L vc).ownBlock → w2.heap[k]? = W.heap[k]? := fun k hk hne => hg.block k hk hne
        exact ⟨(World.cell?_of_block (hb b0 hb0l (hvne nb0))).trans k0, (World.cell?_of_block (hb b3 hb3l (hvne nb3))).trans k3, (World.cell?_of_block (hb b1 hb1l (hvne nb1))).trans k1, (World.cell?_of_block (hb x.q hql hvq)).trans d0, fun i => (World.frozen?_of_block (hb x.q hql hvq)).trans (hfx i), hb p hpl hvp, hb x.q hql hvq⟩ : ∀ w2, W.drew.grownBy w2 (Value.slice va L vc).ownBlock → w2.cell? ⟨b0, 0, none⟩ = some (.pointer (some ⟨x.q, 0, none⟩)) ∧ w2.cell? ⟨b3, 0, none⟩ = some (.slice ax m c) ∧ w2.cell? ⟨b1, 0, none⟩ = some (.pointer (some ⟨p, 0, none⟩)) ∧ w2.cell? ⟨x.q, 0, none⟩ = some (.slice va L vc) ∧ (∀ i, w2.frozen? ⟨x.q, i, none⟩ = false) ∧ (w2.heap[p]? = W.heap[p]? ∧ w2.heap[x.q]? = W.heap[x.q]?))
    refine wp_region_held_drew (S := fun w' => w'.cell? ⟨b0, 0, none⟩ = some (.pointer (some ⟨x.q, 0, none⟩)) ∧ w'.cell? ⟨b3, 0, none⟩ = some (.slice ax m c)) (by kernel_rfl) ⟨k0, k3⟩ (fun hHeld => ?_)
    refine wpAnyH_take (i := 0) (oi := ⟨some 9, _, _, _, _, _⟩) (v := ?_) rfl (by kernel_rfl) (by kernel_rfl) (by kernel_rfl) (fun _ _ _ h => h) (Or.inl ⟨by rfl, ?_⟩) (by assumption) ?_
    rotate_left
    · intro w hSw; (try dsimp only at hSw); go_simp <;> (try with_reducible rfl)
    go_frame
    refine wpAnyH_take (i := 1) (oi := ⟨some 10, _, _, _, _, _⟩) (v := ?_) rfl (by kernel_rfl) (by kernel_rfl) (by kernel_rfl) (fun _ _ _ h => h) (Or.inl ⟨by rfl, ?_⟩) (by assumption) ?_
    rotate_left
    · intro w hSw; (try dsimp only at hSw); go_simp <;> (try with_reducible rfl)
    go_frame
    refine wpAnyH_take (i := 2) (oi := ⟨some 11, _, _, _, _, _⟩) (v := ?_) rfl (by kernel_rfl) (by kernel_rfl) (by kernel_rfl) (fun _ _ _ h => h) (Or.inl ⟨by rfl, ?_⟩) (by assumption) ?_
    rotate_left
    · intro w hSw; (try dsimp only at hSw); go_simp <;> (try with_reducible rfl)
    go_frame
    refine wpAnyH_take (i := 3) (oi := ⟨some 12, _, _, _, _, _⟩) (v := ?_) rfl (by kernel_rfl) (by kernel_rfl) (by kernel_rfl) (fun _ _ _ h => h) (Or.inl ⟨by rfl, ?_⟩) (by assumption) ?_
    rotate_left
    · intro w hSw; (try dsimp only at hSw); go_simp <;> (try with_reducible rfl)
    go_frame
    refine wpAnyH_take (i := 5) (oi := ⟨some 14, _, _, _, _, _⟩) (v := ?_) rfl (by kernel_rfl) (by kernel_rfl) (by kernel_rfl) (fun _ _ _ h => h) (Or.inl ⟨by rfl, ?_⟩) (by assumption) ?_
    rotate_left
    · intro w hSw; (try dsimp only at hSw); go_simp <;> (try with_reducible rfl)
    go_frame
    refine wpAnyH_ready (rs := [4]) (by kernel_rfl) (by simp) ?_
    refine AllReadyH.cons rfl (fun K hK => ?_) AllReadyH.nil
    go_simp
    refine hK.out _ _ (by first | go_keep | (refine ⟨?_, ?_⟩ <;> assumption)) (fun hHeld => ?_)
    clear hK K
    refine wpAnyH_ready (rs := [6]) (by kernel_rfl) (by simp) ?_
    refine AllReadyH.cons rfl (fun K hK => ?_) AllReadyH.nil
    refine step_bytes (by rfl) _ _ (by rfl) _ L f.bs (by rfl) HV.out ax m c bs (by rfl) rowd hnil hLm ?_; intro a' c' w2 hown2 hg2 hpl2; obtain ⟨m0, m1, m2, m3, m4, m5⟩ := hkp.out w2 hg2
    refine hK.out _ _ (by first | go_keep | (refine ⟨?_, ?_⟩ <;> assumption)) (fun hHeld => ?_)
    clear hK K
    go_frame
    refine wpAnyH_take (i := 7) (oi := ⟨some 16, _, _, _, _, _⟩) (v := ?_) rfl (by kernel_rfl) (by kernel_rfl) (by kernel_rfl) (fun _ _ _ h => h) (Or.inl ⟨by rfl, ?_⟩) (by assumption) ?_
    rotate_left
    · intro w hSw; (try dsimp only at hSw); go_simp <;> (try with_reducible rfl)
    go_frame
    refine wpAnyH_take (i := 8) (oi := ⟨some 17, _, _, _, _, _⟩) (v := ?_) rfl (by kernel_rfl) (by kernel_rfl) (by kernel_rfl) (fun _ _ _ h => h) (Or.inl ⟨by rfl, ?_⟩) (by assumption) ?_
    rotate_left
    · intro w hSw; (try dsimp only at hSw); go_simp <;> (try with_reducible rfl)
    go_frame
    refine wpAnyH_ready (rs := [9]) (by kernel_rfl) (by simp) ?_
    refine AllReadyH.cons rfl (fun K hK => ?_) AllReadyH.nil
    go_simp
    refine hK.out _ _ (by first | go_keep | (refine ⟨?_, ?_⟩ <;> assumption)) (fun hHeld => ?_)
    clear hK K
    refine wpAnyH_done (by kernel_rfl) ?_ _
    have hbl : bs.length = m := rowW.1
    have hset : ∀ k, k ≠ x.q → (w2.setCell ⟨x.q, 0, none⟩ (.slice a' (L + m) c')).heap[k]? = w2.heap[k]? := fun k hk => set_other w2 x.q 0 _ hk
    have hoth : ∀ k, k < W.heap.size → k ≠ x.q → x.v.ownBlock ≠ some k → (w2.setCell ⟨x.q, 0, none⟩ (.slice a' (L + m) c')).heap[k]? = W.heap[k]? := fun k hk h1 h2 => (hset k h1).trans (hg2.block k hk fun e => h2 (by rw [HX.out]; exact e.symm))
    have hP3 := hPW.file (w' := w2.setCell ⟨x.q, 0, none⟩ (.slice a' (L + m) c')) (h' := ⟨x.q, .slice a' (L + m) c'⟩) (f' := Dk.appF f bs) hoth hA (by
      refine ⟨Go.Joins.block_setCell (m5.2.trans hx.blk) _, ?_, ?_, ?_⟩
      · show World.ownsRow _ 0 5 1 (.slice a' (L + m) c') (f.bs ++ bs).length (kcells .u8 (f.bs ++ bs))
        rw [show (f.bs ++ bs).length = L + m by rw [List.length_append, HL.out, hbl]]
        refine own_keep hown2 fun g hg => hset g fun e => ?_
        obtain ⟨cc, hcc⟩ := own_blk hown2 hg
        exact cells_ne hcc (m5.2.trans hx.blk) (by decide) e
      · intro y hy
        rcases List.mem_append.1 hy with h | h
        · exact hx.small y h
        · exact rowW.2.2.1 y h
      · show f.safe ≤ (f.bs ++ bs).length
        rw [List.length_append]
        have := hx.safe
        omega) rfl (fun g hg => (hpl2 g hg).imp (fun e => by rw [HX.out]; exact e) id)
    have q1 : (w2.setCell ⟨x.q, 0, none⟩ (.slice a' (L + m) c')).cell? ⟨b1, 0, none⟩ = some (.pointer (some ⟨p, 0, none⟩)) := (World.cell?_of_block (hset b1 hb1q)).trans m2
    have q3 : (w2.setCell ⟨x.q, 0, none⟩ (.slice a' (L + m) c')).cell? ⟨b3, 0, none⟩ = some (.slice ax m c) := (World.cell?_of_block (hset b3 hb3q)).trans m1
    have hon3 : OnlyIn (fun k => foot p fm nm sm tv1 (A ++ (num, x, f) :: B) k) W (w2.setCell ⟨x.q, 0, none⟩ (.slice a' (L + m) c')) := ⟨hg2.os, hg2.tape, hg2.output, by have := hg2.size; simpa using this, fun k hk hn => hoth k hk (fun e => hn (e ▸ hfootq)) fun e => hn (.inr (.inr (.inr (.inr (.inr ⟨(num, x, f), by simp, .inr e⟩)))))⟩
    have hs3 : ∀ g, (Value.slice a' (L + m) c').ownBlock = some g → foot p fm nm sm tv1 (A ++ (num, x, f) :: B) g ∨ W.heap.size ≤ g := fun g hg => (hpl2 g hg).imp (fun e => .inr (.inr (.inr (.inr (.inr ⟨(num, x, f), by simp, .inr (by rw [HX.out]; exact e)⟩))))) id
    generalize w2.setCell ⟨x.q, 0, none⟩ (.slice a' (L + m) c') = W3 at *
    obtain ⟨⟨e0, e1, e2, e3, e4, e5, e6, e7, e8, e9⟩, hf3⟩ := hP3.cells
    clear hoth hset m0 m1 m2 m3 m4 m5 hown2 hg2 hpl2 hHeld
    have j1 : IntKind.i64.wrap (((Dk.sum E.files : Nat) : Int) + (m : Int)) = ((Dk.sum E.files : Nat) : Int) + (m : Int) := by rw [IntKind.wrap_i64]; have h9 := HC.out; have h8 := HQ.out; have h7 := HF.out; omega
    go_wp2
    go_region
    all_goals go_wp2
    all_goals first | go_end0 | refine bodyPost_ret (results_none rfl _ _ _) rfl ?_
    have hsumC := HC.out
    have hEq := HQ.out
    have hfl0 := HF.out
    have hsum := Dk.sum_mput (Dk.appF f bs) hfl
    have hal : (Dk.appF f bs).bs.length = f.bs.length + m := by simp only [Dk.appF, List.length_append, hbl]
    have hP4 := (hP3.setUsed (z := ((Dk.sum E.files : Nat) : Int) + (m : Int)) (n := Dk.sum E.files + m) (by omega)).keep (w' := (W3.setCell ⟨p, 3, none⟩ (.int .i64 (((Dk.sum E.files : Nat) : Int) + (m : Int)))).drew) fun k _ => rfl
    have hsW : w.heap.size ≤ W.heap.size := by omega
    refine ⟨rfl, ⟨hO1.setF _ hfl (by rw [hal]; omega), fm, nm, sm, tv1, _, ?_, foot_file (x := x) (x' := ⟨x.q, .slice a' (L + m) c'⟩) (f := f) (f' := Dk.appF f bs) hS1 rfl fun g hg => (hs3 g hg).elim (hS1 g) fun h => .inr (by omega)⟩, ?_⟩
    · show Parts _ p _ (Dk.sum (mput E.files num (Dk.appF f bs))) fm nm sm tv1 _
      rw [show Dk.sum (mput E.files num (Dk.appF f bs)) = Dk.sum E.files + m by omega]
      exact hP4
    · exact (honW.trans (hon3.mono fun k _ hk => (hS1 k hk).imp .inl id)).trans ((only_set W3 p 3 _ (.inl (.inl (hS p (.inl rfl))))).trans ⟨rfl, rfl, rfl, Nat.le_refl _, fun _ _ _ => rfl⟩)
end Go.Proofs.YtnoknmnbfkdccaaGreatDoor

/- The disk's Append, whole. -/
namespace Go.Proofs.YtnoknmnbfkdccaaGreatDoor
open Go.RowKit Go.Shelf

/-- a file's bytes, with some behind them -/
def Dk.appended (D : Dk.D) (s : ByteArray) (bs : List Nat) : Dk.D := match Dk.find D s with
  | some (n, f) => { D with files := mput D.files n (Dk.appF f bs) }
  | none => { Dk.created D s with files := mput (Dk.created D s).files (D.last + 1) (Dk.appF ⟨[], 0⟩ bs) }
/-- what Append does and tells -/
def Dk.append (D : Dk.D) (s : ByteArray) (bs : List Nat) : Dk.D × Int :=
  if D.dead = true then (D, 9) else if ¬ (1 ≤ s.size ∧ s.size ≤ 16) then (D, 1) else
    if (Dk.find D s = none ∧ 5000 ≤ D.names.length) ∨ D.quota < Dk.sum D.files + bs.length then (D, 7) else Dk.acted D (Dk.appended D s bs)

set_option maxRecDepth 100000 in
set_option maxHeartbeats 4000000 in
theorem appendD_any {w : World} {p : Nat} {D : Dk.D} {S : Nat → Prop} (h : DK w p D S) (hSw : ∀ k, S k → k < w.heap.size) (s : ByteArray) (ax : Option Addr) (m c : Nat) (bs : List Nat) (hn : D.turns.length ≤ 1000000) (hlast : D.last ≤ 1000000) (hnames : D.names.length ≤ 1000000)
    (hrow : Row .u8 w ax m bs) (hnil : ax = none → m = 0 ∧ c = 0) (hax : ∀ b o, ax = some ⟨b, o, none⟩ → ¬ S b ∧ b < w.heap.size) :
    Calls Tryz.prog 38 #[.pointer (some ⟨p, 0, none⟩), .string s, .slice ax m c] w fun e w' => e = .returned (.int .i64 (Dk.append D s bs).2) ∧ DK w' p (Dk.append D s bs).1 (grow1 S w) ∧ OnlyIn S w w' := by
  have hgr : ∀ {W : World}, Below w.heap.size w W → DK W p D (grow1 S w) ∧ OnlyIn S w W := fun {W} hb => ⟨h.keep (fun k hk _ => hb.block k hk) fun _ _ h => .inl h, OnlyIn.of_below hb⟩
  obtain ⟨hO, fm, nm, sm, tv, J, hP, hS⟩ := h
  have hPW : ∀ {W : World}, Below w.heap.size w W → Parts W p D (Dk.sum D.files) fm nm sm tv J := fun {W} hb => hP.keep fun k hk => hb.block k (hP.lt hk)
  have hdead := fun (W : World) (hb : Below w.heap.size w W) => dead_any (hPW hb)
  have hisn := fun (W : World) => isname_any s W
  have hbl : bs.length = m := hrow.1
  have hq := hO.q
  have hu := hO.use
  have hfar : ∀ i, ¬ S (w.heap.size + i) := fun i h => by have := hSw _ h; omega
  unfold Dk.append
  rw [hbl]
  by_cases hd : D.dead = true
  · rw [hd] at hdead
    rw [if_pos hd]
    clear hd
    go_enter Tryz.func38, Tryz.ntmps38
    go_wp2_with (go_at_call 42; go_must (refine Calls.mono (hdead _ ?_) ?_; (focus (repeat first | exact Below.refl _ _ | refine bal ?_ _ | refine bdr ?_ _ | refine bd1 ?_)); rintro e w1 ⟨rfl, hw⟩; rw [hw]; clear hw w1))
    go_ret
    exact ⟨rfl, hgr (bal (bal (bal (Below.refl _ w) _) _) _)⟩
  · rw [if_neg hd]
    rw [Bool.not_eq_true] at hd
    rw [hd] at hdead
    clear hd
    by_cases hs : 1 ≤ s.size ∧ s.size ≤ 16
    · rw [if_neg (fun h => h hs)]
      rw [decide_eq_true hs] at hisn
      have hz : s.size ≤ 16 := hs.2
      clear hs
      rcases hP.findJ hO s with ⟨e1, e2⟩ | ⟨num, x, f, e1, e2, e3, e4⟩
      · have hfd := fun (W : World) (hb : Below w.heap.size w W) => find_none (hPW hb) s e2 ((hPW hb).look0 hO)
        unfold Dk.appended
        simp only [e1, true_and]
        have hact := fun (W : World) (b0 b1 b2 b3 : Nat) (hb : Below w.heap.size w W) (s0 : ¬ S b0) (s1 : ¬ S b1) (s3 : ¬ S b3) (k0 : W.cell? ⟨b0, 0, none⟩ = some (.pointer none)) (kf : W.frozen? ⟨b0, 0, none⟩ = false) (k1 : W.cell? ⟨b1, 0, none⟩ = some (.pointer (some ⟨p, 0, none⟩))) (k2 : W.cell? ⟨b2, 0, none⟩ = some (.string s)) (k3 : W.cell? ⟨b3, 0, none⟩ = some (.slice ax m c)) (h01 : b0 ≠ b1) (h03 : b0 ≠ b3) (hx0 : ∀ b o, ax = some ⟨b, o, none⟩ → ¬ S b ∧ b ≠ b0) (hr : Dk.sum D.files + m ≤ D.quota) =>
          append1_none hO (hPW hb) hS hn hlast s hz b0 b1 b2 b3 s0 s1 s3 ax m c bs k0 kf k1 k2 k3 h01 h03 (hrow.below hb (Nat.le_refl _)) hnil hx0 hr
        have hcx : ∀ mm, let W := ((((w.alloc (.cells #[.pointer (some ⟨p, 0, none⟩)] 30)).alloc (.cells #[.string s] 9)).alloc (.cells #[.slice ax m c] 39)).drewN mm).alloc (.cells #[.pointer none] 120)
            Below w.heap.size w W ∧ W.cell? ⟨w.heap.size + 1 + 1 + 1, 0, none⟩ = some (.pointer none) ∧ W.cell? ⟨w.heap.size, 0, none⟩ = some (.pointer (some ⟨p, 0, none⟩)) ∧ W.cell? ⟨w.heap.size + 1, 0, none⟩ = some (.string s) ∧ W.cell? ⟨w.heap.size + 1 + 1, 0, none⟩ = some (.slice ax m c) ∧ W.frozen? ⟨w.heap.size + 1 + 1 + 1, 0, none⟩ = false := fun mm =>
          ⟨bal (bdr (bal (bal (bal (Below.refl _ w) _) _) _) _) _, by simp [go_sem], by simp [go_sem], by simp [go_sem], by simp [go_sem], by simp [go_sem]⟩
        by_cases hg1 : 5000 ≤ D.names.length
        · rw [if_pos (.inl hg1)]
          go_enter Tryz.func38, Tryz.ntmps38
          go_wp2_with (first | (go_at_call 42; go_must (refine Calls.mono (hdead _ ?_) ?_; (focus (repeat first | exact Below.refl _ _ | refine bal ?_ _ | refine bdr ?_ _ | refine bd1 ?_)); rintro e w1 ⟨rfl, hw⟩; rw [hw]; clear hw w1)) | (go_at_call 70; go_must (refine (hisn _).mono ?_; rintro e w1 ⟨rfl, hw⟩; rw [hw]; clear hw w1)) | (go_at_call 71; go_must (refine Calls.mono (hfd _ ?_) ?_; (focus (repeat first | exact Below.refl _ _ | refine bal ?_ _ | refine bdr ?_ _ | refine bd1 ?_)); rintro e w1 ⟨rfl, mm, hw⟩; subst hw)))
          obtain ⟨bw, k0, k1, k2, k3, kf⟩ := hcx mm
          generalize ((((w.alloc (.cells #[.pointer (some ⟨p, 0, none⟩)] 30)).alloc (.cells #[.string s] 9)).alloc (.cells #[.slice ax m c] 39)).drewN mm).alloc (.cells #[.pointer none] 120) = W at bw k0 k1 k2 k3 kf ⊢
          obtain ⟨⟨c0, c1, c2, c3, c4, c5, c6, c7, c8, c9⟩, hf⟩ := (hPW bw).cells
          have hrm := fun n => room_any (hPW (bdr bw n)) hO.use hO.q
          have hln : ∀ n, (Builtin.len_ #[73] 3 #[.map (some nm)]).run Tryz.prog (W.drewN n) = .ok (.int .i64 (D.names.length : Int)) (W.drewN n) := fun n => run_len_at Tryz.underlying73 3 ((hPW bw).names.drewN n)
          have hd1 : decide ((5000 : Int) ≤ (D.names.length : Int)) = true := decide_eq_true (by omega)
          go_quiet (fail)
          go_wp2
          go_ret
          exact ⟨rfl, hgr (bdr bw _)⟩
        · have hd0 : decide ((5000 : Int) ≤ (D.names.length : Int)) = false := decide_eq_false (by omega)
          by_cases hg2 : D.quota < Dk.sum D.files + m
          · rw [if_pos (.inr hg2)]
            go_enter Tryz.func38, Tryz.ntmps38
            go_wp2_with (first | (go_at_call 42; go_must (refine Calls.mono (hdead _ ?_) ?_; (focus (repeat first | exact Below.refl _ _ | refine bal ?_ _ | refine bdr ?_ _ | refine bd1 ?_)); rintro e w1 ⟨rfl, hw⟩; rw [hw]; clear hw w1)) | (go_at_call 70; go_must (refine (hisn _).mono ?_; rintro e w1 ⟨rfl, hw⟩; rw [hw]; clear hw w1)) | (go_at_call 71; go_must (refine Calls.mono (hfd _ ?_) ?_; (focus (repeat first | exact Below.refl _ _ | refine bal ?_ _ | refine bdr ?_ _ | refine bd1 ?_)); rintro e w1 ⟨rfl, mm, hw⟩; subst hw)))
            obtain ⟨bw, k0, k1, k2, k3, kf⟩ := hcx mm
            generalize ((((w.alloc (.cells #[.pointer (some ⟨p, 0, none⟩)] 30)).alloc (.cells #[.string s] 9)).alloc (.cells #[.slice ax m c] 39)).drewN mm).alloc (.cells #[.pointer none] 120) = W at bw k0 k1 k2 k3 kf ⊢
            obtain ⟨⟨c0, c1, c2, c3, c4, c5, c6, c7, c8, c9⟩, hf⟩ := (hPW bw).cells
            have hrm := fun n => room_any (hPW (bdr bw n)) hO.use hO.q
            have hln : ∀ n, (Builtin.len_ #[73] 3 #[.map (some nm)]).run Tryz.prog (W.drewN n) = .ok (.int .i64 (D.names.length : Int)) (W.drewN n) := fun n => run_len_at Tryz.underlying73 3 ((hPW bw).names.drewN n)
            have hd2 : decide ((D.quota : Int) - ((Dk.sum D.files : Nat) : Int) < (m : Int)) = true := decide_eq_true (by omega)
            go_quiet ((go_at_call 72; refine Calls.quiet_of (hrm _)))
            go_wp2
            go_ret
            exact ⟨rfl, hgr (bdr bw _)⟩
          · rw [if_neg (by omega)]
            go_enter Tryz.func38, Tryz.ntmps38
            go_wp2_with (first | (go_at_call 42; go_must (refine Calls.mono (hdead _ ?_) ?_; (focus (repeat first | exact Below.refl _ _ | refine bal ?_ _ | refine bdr ?_ _ | refine bd1 ?_)); rintro e w1 ⟨rfl, hw⟩; rw [hw]; clear hw w1)) | (go_at_call 70; go_must (refine (hisn _).mono ?_; rintro e w1 ⟨rfl, hw⟩; rw [hw]; clear hw w1)) | (go_at_call 71; go_must (refine Calls.mono (hfd _ ?_) ?_; (focus (repeat first | exact Below.refl _ _ | refine bal ?_ _ | refine bdr ?_ _ | refine bd1 ?_)); rintro e w1 ⟨rfl, mm, hw⟩; subst hw)))
            obtain ⟨bw, k0, k1, k2, k3, kf⟩ := hcx mm
            generalize ((((w.alloc (.cells #[.pointer (some ⟨p, 0, none⟩)] 30)).alloc (.cells #[.string s] 9)).alloc (.cells #[.slice ax m c] 39)).drewN mm).alloc (.cells #[.pointer none] 120) = W at bw k0 k1 k2 k3 kf ⊢
            obtain ⟨⟨c0, c1, c2, c3, c4, c5, c6, c7, c8, c9⟩, hf⟩ := (hPW bw).cells
            have hrm := fun n => room_any (hPW (bdr bw n)) hO.use hO.q
            have hln : ∀ n, (Builtin.len_ #[73] 3 #[.map (some nm)]).run Tryz.prog (W.drewN n) = .ok (.int .i64 (D.names.length : Int)) (W.drewN n) := fun n => run_len_at Tryz.underlying73 3 ((hPW bw).names.drewN n)
            have hd2 : decide ((D.quota : Int) - ((Dk.sum D.files : Nat) : Int) < (m : Int)) = false := decide_eq_false (by omega)
            go_quiet ((go_at_call 72; refine Calls.quiet_of (hrm _)))
            have hc := hact (W.drewN nq) (w.heap.size + 1 + 1 + 1) w.heap.size (w.heap.size + 1) (w.heap.size + 1 + 1) (bdr bw _) (hfar 3) (hfar 0) (hfar 2) k0 kf k1 k2 k3 (by omega) (by omega) (fun b o e => ⟨(hax b o e).1, by have := (hax b o e).2; omega⟩) (by omega)
            have hact2 := act_any (S := fun k => S k ∨ k = w.heap.size + 1 + 1 + 1) ⟨hO, fm, nm, sm, tv, J, hPW (bdr bw nq), fun k hk => .inl (hS k hk)⟩ { Dk.created D s with files := mput (Dk.created D s).files (D.last + 1) (Dk.appF ⟨[], 0⟩ bs) } 73 _ rfl rfl (enters_lit Tryz.func73 (by kernel_rfl) rfl) (hc.mono fun e w' h => ⟨h.1, h.2.1.keep (fun _ _ _ => rfl) (fun k _ h => h.imp .inl id), h.2.2⟩)
            go_wp2_with (go_at_call 43; go_must (refine hact2.mono ?_; rintro e w1 ⟨rfl, hDK1, hon1⟩))
            go_ret
            refine ⟨rfl, hDK1.keep (fun _ _ _ => rfl) fun k _ h => ?_, ?_⟩
            · rcases h with (h | h) | h
              · exact .inl h
              · exact .inr (by omega)
              · exact .inr (Nat.le_trans (bdr bw nq).size h)
            · exact (OnlyIn.of_below (bdr bw nq)).trans (hon1.mono fun k _ h => h.imp id fun h => by omega)
      · have hfd := fun (W : World) (hb : Below w.heap.size w W) => find_some (hPW hb) s e2 e3
        unfold Dk.appended
        simp only [e1, reduceCtorEq, false_and, false_or]
        have hact := fun (W : World) (b0 b1 b2 b3 : Nat) (hb : Below w.heap.size w W) (s0 : ¬ S b0) (s1 : ¬ S b1) (s3 : ¬ S b3) (k0 : W.cell? ⟨b0, 0, none⟩ = some (.pointer (some ⟨x.q, 0, none⟩))) (k1 : W.cell? ⟨b1, 0, none⟩ = some (.pointer (some ⟨p, 0, none⟩))) (k3 : W.cell? ⟨b3, 0, none⟩ = some (.slice ax m c)) (hr : Dk.sum D.files + m ≤ D.quota) =>
          act_any ⟨hO, fm, nm, sm, tv, J, hPW hb, hS⟩ { D with files := mput D.files num (Dk.appF f bs) } 73 _ rfl rfl (enters_lit Tryz.func73 (by kernel_rfl) rfl) (append1_some hO (hPW hb) hS e3 b0 b1 b2 b3 s0 s1 s3 ax m c bs k0 k1 k3 (hrow.below hb (Nat.le_refl _)) hnil hr)
        have hcx : ∀ mm, let W := ((((w.alloc (.cells #[.pointer (some ⟨p, 0, none⟩)] 30)).alloc (.cells #[.string s] 9)).alloc (.cells #[.slice ax m c] 39)).drewN mm).alloc (.cells #[.pointer (some ⟨x.q, 0, none⟩)] 120)
            Below w.heap.size w W ∧ W.cell? ⟨w.heap.size + 1 + 1 + 1, 0, none⟩ = some (.pointer (some ⟨x.q, 0, none⟩)) ∧ W.cell? ⟨w.heap.size, 0, none⟩ = some (.pointer (some ⟨p, 0, none⟩)) ∧ W.cell? ⟨w.heap.size + 1, 0, none⟩ = some (.string s) ∧ W.cell? ⟨w.heap.size + 1 + 1, 0, none⟩ = some (.slice ax m c) ∧ W.frozen? ⟨w.heap.size + 1 + 1 + 1, 0, none⟩ = false := fun mm =>
          ⟨bal (bdr (bal (bal (bal (Below.refl _ w) _) _) _) _) _, by simp [go_sem], by simp [go_sem], by simp [go_sem], by simp [go_sem], by simp [go_sem]⟩
        by_cases hg2 : D.quota < Dk.sum D.files + m
        · rw [if_pos hg2]
          go_enter Tryz.func38, Tryz.ntmps38
          go_wp2_with (first | (go_at_call 42; go_must (refine Calls.mono (hdead _ ?_) ?_; (focus (repeat first | exact Below.refl _ _ | refine bal ?_ _ | refine bdr ?_ _ | refine bd1 ?_)); rintro e w1 ⟨rfl, hw⟩; rw [hw]; clear hw w1)) | (go_at_call 70; go_must (refine (hisn _).mono ?_; rintro e w1 ⟨rfl, hw⟩; rw [hw]; clear hw w1)) | (go_at_call 71; go_must (refine Calls.mono (hfd _ ?_) ?_; (focus (repeat first | exact Below.refl _ _ | refine bal ?_ _ | refine bdr ?_ _ | refine bd1 ?_)); rintro e w1 ⟨rfl, mm, hw⟩; subst hw)))
          obtain ⟨bw, k0, k1, k2, k3, kf⟩ := hcx mm
          generalize ((((w.alloc (.cells #[.pointer (some ⟨p, 0, none⟩)] 30)).alloc (.cells #[.string s] 9)).alloc (.cells #[.slice ax m c] 39)).drewN mm).alloc (.cells #[.pointer (some ⟨x.q, 0, none⟩)] 120) = W at bw k0 k1 k2 k3 kf ⊢
          obtain ⟨⟨c0, c1, c2, c3, c4, c5, c6, c7, c8, c9⟩, hf⟩ := (hPW bw).cells
          have hrm := fun n => room_any (hPW (bdr bw n)) hO.use hO.q
          have hd2 : decide ((D.quota : Int) - ((Dk.sum D.files : Nat) : Int) < (m : Int)) = true := decide_eq_true (by omega)
          go_quiet ((go_at_call 72; refine Calls.quiet_of (hrm _)))
          go_wp2
          go_ret
          exact ⟨rfl, hgr (bdr bw _)⟩
        · rw [if_neg hg2]
          go_enter Tryz.func38, Tryz.ntmps38
          go_wp2_with (first | (go_at_call 42; go_must (refine Calls.mono (hdead _ ?_) ?_; (focus (repeat first | exact Below.refl _ _ | refine bal ?_ _ | refine bdr ?_ _ | refine bd1 ?_)); rintro e w1 ⟨rfl, hw⟩; rw [hw]; clear hw w1)) | (go_at_call 70; go_must (refine (hisn _).mono ?_; rintro e w1 ⟨rfl, hw⟩; rw [hw]; clear hw w1)) | (go_at_call 71; go_must (refine Calls.mono (hfd _ ?_) ?_; (focus (repeat first | exact Below.refl _ _ | refine bal ?_ _ | refine bdr ?_ _ | refine bd1 ?_)); rintro e w1 ⟨rfl, mm, hw⟩; subst hw)))
          obtain ⟨bw, k0, k1, k2, k3, kf⟩ := hcx mm
          generalize ((((w.alloc (.cells #[.pointer (some ⟨p, 0, none⟩)] 30)).alloc (.cells #[.string s] 9)).alloc (.cells #[.slice ax m c] 39)).drewN mm).alloc (.cells #[.pointer (some ⟨x.q, 0, none⟩)] 120) = W at bw k0 k1 k2 k3 kf ⊢
          obtain ⟨⟨c0, c1, c2, c3, c4, c5, c6, c7, c8, c9⟩, hf⟩ := (hPW bw).cells
          have hrm := fun n => room_any (hPW (bdr bw n)) hO.use hO.q
          have hd2 : decide ((D.quota : Int) - ((Dk.sum D.files : Nat) : Int) < (m : Int)) = false := decide_eq_false (by omega)
          go_quiet ((go_at_call 72; refine Calls.quiet_of (hrm _)))
          have hc := hact (W.drewN nq) (w.heap.size + 1 + 1 + 1) w.heap.size (w.heap.size + 1) (w.heap.size + 1 + 1) (bdr bw _) (hfar 3) (hfar 0) (hfar 2) k0 k1 k3 (by omega)
          go_wp2_with (go_at_call 43; go_must (refine hc.mono ?_; rintro e w1 ⟨rfl, hDK1, hon1⟩))
          go_ret
          exact ⟨rfl, hDK1.after (bdr bw _), hon1.after (bdr bw _)⟩
    · rw [if_pos hs]
      rw [decide_eq_false hs] at hisn
      go_enter Tryz.func38, Tryz.ntmps38
      go_wp2_with (first | (go_at_call 42; go_must (refine Calls.mono (hdead _ ?_) ?_; (focus (repeat first | exact Below.refl _ _ | refine bal ?_ _ | refine bdr ?_ _ | refine bd1 ?_)); rintro e w1 ⟨rfl, hw⟩; rw [hw]; clear hw w1)) | (go_at_call 70; go_must (refine (hisn _).mono ?_; rintro e w1 ⟨rfl, hw⟩; rw [hw]; clear hw w1)))
      go_ret
      exact ⟨rfl, hgr (bal (bal (bal (Below.refl _ w) _) _) _)⟩
end Go.Proofs.YtnoknmnbfkdccaaGreatDoor
