/- The reference's Do of the edits that make a roster. -/
import Derived.Test.YtmodogmjfbcddaaGreatSJ
import Derived.Deep.DeepCutAuto
namespace Go.Proofs.YtmodogmjfbcddaaGreat
open Go.RowKit

theorem lit_of {α : Type} {s : Nat} {enc : α → List Value} {d : α} {W : World} {g : Nat} {C : Array Value} {T : TypeId} {x : α} (h : W.heap[g]? = some (.cells C T (0, 0))) (hc : ∀ (j : Nat) (v : Value), (enc x)[j]? = some v → C[j]? = some v) : TRow s enc d W (some ⟨g, 0, none⟩) 1 [x] := by
  refine ⟨rfl, by omega, .inr ⟨_, 0, rfl, fun i hi j v hj => ?_⟩⟩
  obtain rfl : i = 0 := by omega
  simp only [Nat.zero_mul, Nat.zero_add]
  rw [(blkc h).1]
  exact hc j v hj
def setA (cs : Array Value) (o : Nat) : List Value → Array Value
  | [] => cs
  | v :: vs => setA (cs.setIfInBounds o v) (o + 1) vs
theorem bput_all {g : Nat} {E : TypeId} : ∀ (vs : List Value) (o : Nat) {W : World} {cs : Array Value}, W.heap[g]? = some (.cells cs E (0, 0)) → (W.setCells g o vs).heap[g]? = some (.cells (setA cs o vs) E (0, 0))
  | [], _, _, _, h => h
  | _ :: vs, o, _, _, h => bput_all vs (o + 1) (bput h _ rfl)
theorem setA_list : ∀ (vs : List Value) (o : Nat) (cs : Array Value), (setA cs o vs).toList = setL cs.toList o vs
  | [], _, _ => rfl
  | v :: vs, o, cs => by rw [setA, setA_list vs (o + 1), Array.toList_setIfInBounds]; rfl
theorem bput_new {W : World} {g : Nat} {E : TypeId} {cs : Array Value} (vs : List Value) (h : W.heap[g]? = some (.cells cs E (0, 0))) (hl : vs.length = cs.size) : (W.setCells g 0 vs).heap[g]? = some (.cells vs.toArray E (0, 0)) := by
  have e : setA cs 0 vs = vs.toArray := by
    apply Array.ext'
    rw [setA_list, setL_eq vs cs.toList 0 (by simp; omega)]
    simp [hl]
  rw [← e]
  exact bput_all vs 0 h
theorem drew_heap {w : World} {g : Nat} {x : Option Obj} (h : w.heap[g]? = x) : w.drew.heap[g]? = x := h
theorem owns_drew {w : World} {B E s n : Nat} {v : Value} {xs : List Value} (h : w.ownsRow B E s v n xs) : w.drew.ownsRow B E s v n xs := own_keptB h (Below.refl _ _).drew

set_option maxRecDepth 100000 in
set_option maxHeartbeats 8000000 in
theorem rdo17_seg (s : List Int) (a1 : Option Addr) (n1 c1 : Nat) (a2 : Option Addr) (n2 c2 : Nat) (a3 : Option Addr) (n3 c3 : Nat) (a4 : Option Addr) (n4 c4 : Nat) (i1 i2 i3 i4 i5 i6 i7 : Int) (n9 i9 t9 a9 b9 c9 p9 q9 r9 : Int) (f9 g9 : ByteArray) (w : World) (hr : ZRow w a1 n1 s) (hn : n1 ≤ 1000) (hz : a1 = none → n1 = 0 ∧ c1 = 0) (hs : ∀ x ∈ s, x < n9) (_hz2 : n2 = 0) :
    Calls Tryz.prog 36 #[.agg #[.slice a1 n1 c1, .slice a2 0 c2, .slice a3 n3 c3, .slice a4 n4 c4, .int .i64 i1, .int .i64 i2, .int .i64 i3, .int .i64 i4, .int .i64 i5, .int .i64 i6, .int .i64 i7], .agg #[.int .i64 1, .int .i64 n9, .int .i64 i9, .int .i64 t9, .int .i64 a9, .int .i64 b9, .int .i64 c9, .int .i64 p9, .int .i64 q9, .int .i64 r9, .string f9, .string g9]] w fun e w' => ∃ (g : Option Addr) (d : Nat), e = .returned (.tuple #[.agg #[.slice g (n1 + 1) d, .slice a2 0 c2, .slice a3 n3 c3, .slice a4 n4 c4, .int .i64 i1, .int .i64 i2, .int .i64 i3, .int .i64 i4, .int .i64 i5, .int .i64 i6, .int .i64 i7], .bool true]) ∧ n1 + 1 ≤ d ∧ w'.ownsRow w.heap.size 3 1 (.slice g (n1 + 1) d) (n1 + 1) (tcells ze (s ++ [n9])) ∧ Below w.heap.size w w' := by
  obtain ⟨U, hU⟩ : ∃ U, U = ((w.alloc (.cells #[.slice a1 n1 c1, .slice a2 0 c2, .slice a3 n3 c3, .slice a4 n4 c4, .int .i64 i1, .int .i64 i2, .int .i64 i3, .int .i64 i4, .int .i64 i5, .int .i64 i6, .int .i64 i7] 29)).alloc (oed 1 n9 i9 t9 a9 b9 c9 p9 q9 r9 f9 g9)).alloc (.cells #[.slice none 0 0, .slice none 0 0, .slice none 0 0, .slice none 0 0, .int .i64 0, .int .i64 0, .int .i64 0, .int .i64 0, .int .i64 0, .int .i64 0, .int .i64 0] 29) := ⟨_, rfl⟩
  have hbU : Below w.heap.size w U := by rw [hU]; exact (below_two _ _ _).alloc (below_two _ _ _).size _
  have e0 : U.heap[w.heap.size]? = some (.cells #[.slice a1 n1 c1, .slice a2 0 c2, .slice a3 n3 c3, .slice a4 n4 c4, .int .i64 i1, .int .i64 i2, .int .i64 i3, .int .i64 i4, .int .i64 i5, .int .i64 i6, .int .i64 i7] 29 (0, 0)) := by
    rw [hU]; exact (Below.heap_alloc _ _ _ (by simp; omega)).trans ((Below.heap_alloc _ _ _ (by simp)).trans (heap_alloc_new _ _))
  have e1 : U.heap[w.heap.size + 1]? = some (oed 1 n9 i9 t9 a9 b9 c9 p9 q9 r9 f9 g9) := by
    have h1 := heap_alloc_new (w.alloc (.cells #[.slice a1 n1 c1, .slice a2 0 c2, .slice a3 n3 c3, .slice a4 n4 c4, .int .i64 i1, .int .i64 i2, .int .i64 i3, .int .i64 i4, .int .i64 i5, .int .i64 i6, .int .i64 i7] 29)) (oed 1 n9 i9 t9 a9 b9 c9 p9 q9 r9 f9 g9)
    rw [World.size_alloc] at h1
    rw [hU]; exact (Below.heap_alloc _ _ _ (by simp)).trans h1
  have e2 : U.heap[w.heap.size + 1 + 1]? = some (.cells #[.slice none 0 0, .slice none 0 0, .slice none 0 0, .slice none 0 0, .int .i64 0, .int .i64 0, .int .i64 0, .int .i64 0, .int .i64 0, .int .i64 0, .int .i64 0] 29 (0, 0)) := by
    have h1 := heap_alloc_new ((w.alloc (.cells #[.slice a1 n1 c1, .slice a2 0 c2, .slice a3 n3 c3, .slice a4 n4 c4, .int .i64 i1, .int .i64 i2, .int .i64 i3, .int .i64 i4, .int .i64 i5, .int .i64 i6, .int .i64 i7] 29)).alloc (oed 1 n9 i9 t9 a9 b9 c9 p9 q9 r9 f9 g9)) (.cells #[.slice none 0 0, .slice none 0 0, .slice none 0 0, .slice none 0 0, .int .i64 0, .int .i64 0, .int .i64 0, .int .i64 0, .int .i64 0, .int .i64 0, .int .i64 0] 29)
    rw [World.size_alloc, World.size_alloc] at h1
    rw [hU]; exact h1
  have HP : Hid (∀ W, Below U.heap.size U W → W.heap[w.heap.size]? = some (.cells #[.slice a1 n1 c1, .slice a2 0 c2, .slice a3 n3 c3, .slice a4 n4 c4, .int .i64 i1, .int .i64 i2, .int .i64 i3, .int .i64 i4, .int .i64 i5, .int .i64 i6, .int .i64 i7] 29 (0, 0))) := (fun W hb => (hb.block _ (ob_ltB e0)).trans e0 : ∀ W, _ → _)
  have HE : Hid (∀ W, Below U.heap.size U W → W.heap[w.heap.size + 1]? = some (oed 1 n9 i9 t9 a9 b9 c9 p9 q9 r9 f9 g9)) := (fun W hb => (hb.block _ (ob_ltB e1)).trans e1 : ∀ W, _ → _)
  have HZ : Hid (∀ W, Below U.heap.size U W → W.heap[w.heap.size + 1 + 1]? = some (.cells #[.slice none 0 0, .slice none 0 0, .slice none 0 0, .slice none 0 0, .int .i64 0, .int .i64 0, .int .i64 0, .int .i64 0, .int .i64 0, .int .i64 0, .int .i64 0] 29 (0, 0))) := (fun W hb => (hb.block _ (ob_ltB e2)).trans e2 : ∀ W, _ → _)
  have HU : Hid (Below w.heap.size w U) := hbU
  have HSZ : Hid (U.heap.size = w.heap.size + 3) := (by rw [hU]; simp : _ = _)
  have hUe : ((w.alloc (.cells #[.slice a1 n1 c1, .slice a2 0 c2, .slice a3 n3 c3, .slice a4 n4 c4, .int .i64 i1, .int .i64 i2, .int .i64 i3, .int .i64 i4, .int .i64 i5, .int .i64 i6, .int .i64 i7] 29)).alloc (oed 1 n9 i9 t9 a9 b9 c9 p9 q9 r9 f9 g9)).alloc (.cells #[.slice none 0 0, .slice none 0 0, .slice none 0 0, .slice none 0 0, .int .i64 0, .int .i64 0, .int .i64 0, .int .i64 0, .int .i64 0, .int .i64 0, .int .i64 0] 29) = U := hU.symm
  have x0 := (blkc e0).1 0
  have x1 := (blkc e0).1 1
  have x2 := (blkc e0).1 2
  have x3 := (blkc e0).1 3
  have x4 := (blkc e0).1 4
  have x5 := (blkc e0).1 5
  have x6 := (blkc e0).1 6
  have x7 := (blkc e0).1 7
  have x8 := (blkc e0).1 8
  have x9 := (blkc e0).1 9
  have x10 := (blkc e0).1 10
  have y0 := (blkc e1).1 0
  have y1 := (blkc e1).1 1
  have y2 := (blkc e1).1 2
  have y3 := (blkc e1).1 3
  have y4 := (blkc e1).1 4
  have y5 := (blkc e1).1 5
  have y6 := (blkc e1).1 6
  have y7 := (blkc e1).1 7
  have y8 := (blkc e1).1 8
  have y9 := (blkc e1).1 9
  have y10 := (blkc e1).1 10
  have y11 := (blkc e1).1 11
  clear hU hbU e0 e1 e2
  have hpe : ¬ (w.heap.size + 1 = w.heap.size) := by omega
  have hpe2 : ¬ (w.heap.size = w.heap.size + 1) := by omega
  have hpz : ¬ (w.heap.size + 1 + 1 = w.heap.size) := by omega
  have hpz2 : ¬ (w.heap.size = w.heap.size + 1 + 1) := by omega
  have hez : ¬ (w.heap.size + 1 = w.heap.size + 1 + 1) := by omega
  have HR : Hid (∀ W, Below U.heap.size U W → ZRow W a1 n1 s) := (fun W hb => hr.below (HU.out.trans (hb.mono HU.out.size)) (Nat.le_refl _) : ∀ W, _ → _)
  have HZN : Hid (a1 = none → n1 = 0 ∧ c1 = 0) := hz
  have hpl := rplace_no a1 n1 c1 a2 0 c2 a3 n3 c3 a4 n4 c4 i1 i2 i3 i4 i5 i6 i7 1 n9 i9 t9 a9 b9 c9 p9 q9 r9 f9 g9 U (by decide) (by decide) (by decide) (by decide)
  have hfr : ∀ W, Below U.heap.size U W → Calls Tryz.prog 82 #[.agg #[.slice a1 n1 c1, .slice a2 0 c2, .slice a3 n3 c3, .slice a4 n4 c4, .int .i64 i1, .int .i64 i2, .int .i64 i3, .int .i64 i4, .int .i64 i5, .int .i64 i6, .int .i64 i7], .int .i64 n9] W (fun e w' => e = .returned (.bool true) ∧ Below W.heap.size W w') := fun W hb => rfresh_yes s a1 n1 c1 a2 0 c2 a3 n3 c3 a4 n4 c4 i1 i2 i3 i4 i5 i6 i7 n9 W hn (HR.out W hb) hs rfl
  clear hs
  clear hr hz
  go_enter Tryz.func36, Tryz.ntmps36
  go_upto_region 5 with (first
    | (go_at_call 81; go_must (refine hpl.mono ?_; rintro e v1 ⟨rfl, b1⟩; clear x0 x1 x2 x3 x4 x5 x6 x7 x8 x9 x10 y0 y1 y2 y3 y4 y5 y6 y7 y8 y9 y10 y11; have hp := HP.out v1 b1; have x0 := (blkc hp).1 0; have x1 := (blkc hp).1 1; have x2 := (blkc hp).1 2; have x3 := (blkc hp).1 3; have x4 := (blkc hp).1 4; have x5 := (blkc hp).1 5; have x6 := (blkc hp).1 6; have x7 := (blkc hp).1 7; have x8 := (blkc hp).1 8; have x9 := (blkc hp).1 9; have x10 := (blkc hp).1 10; clear hp; have y0 := (blkc (HE.out v1 b1)).1 0; have y1 := (blkc (HE.out v1 b1)).1 1; have y2 := (blkc (HE.out v1 b1)).1 2; have y3 := (blkc (HE.out v1 b1)).1 3; have y4 := (blkc (HE.out v1 b1)).1 4; have y5 := (blkc (HE.out v1 b1)).1 5; have y6 := (blkc (HE.out v1 b1)).1 6; have y7 := (blkc (HE.out v1 b1)).1 7; have y8 := (blkc (HE.out v1 b1)).1 8; have y9 := (blkc (HE.out v1 b1)).1 9; have y10 := (blkc (HE.out v1 b1)).1 10; have y11 := (blkc (HE.out v1 b1)).1 11))
    | (go_at_call 82; go_must (refine (hfr v1 b1).mono ?_; rintro e v2 ⟨rfl, h2⟩; have b2 := b1.trans (h2.mono b1.size))))
  
  clear hUe
  have b2d : Below U.heap.size U v2.drew := b2.drew
  clear hpl
  go_cut [] (fun wx => ∃ (g : Option Addr) (d : Nat), n1 + 1 ≤ d ∧ Hid (wx.heap[w.heap.size]? = some (.cells #[.slice g (n1 + 1) d, .slice a2 0 c2, .slice a3 n3 c3, .slice a4 n4 c4, .int .i64 i1, .int .i64 i2, .int .i64 i3, .int .i64 i4, .int .i64 i5, .int .i64 i6, .int .i64 i7] 29 (0, 0))) ∧ Hid (wx.heap[w.heap.size + 1 + 1]? = some (.cells #[.slice none 0 0, .slice none 0 0, .slice none 0 0, .slice none 0 0, .int .i64 0, .int .i64 0, .int .i64 0, .int .i64 0, .int .i64 0, .int .i64 0, .int .i64 0] 29 (0, 0))) ∧ Hid (wx.ownsRow U.heap.size 3 1 (.slice g (n1 + 1) d) (n1 + 1) (tcells ze (s ++ [n9]))) ∧ Hid (Below w.heap.size w wx))
  case first =>
    have xx := (blkc (HP.out v2 b2)).1 0
    refine wp_region_held_drew (S := (fun W => W.cell? ⟨w.heap.size + 1, 1, none⟩ = some (.int .i64 n9))) (by kernel_rfl) ((blkc (HE.out _ b2d)).1 1) (fun hHeld => ?_)
    refine wpAnyH_take (i := 1) (oi := ⟨some 22, _, _, _, _, _⟩) (v := ?_) rfl (by kernel_rfl) (by kernel_rfl) (by kernel_rfl) (fun _ _ _ h => h) (Or.inl ⟨by rfl, ?_⟩) (by assumption) ?_
    rotate_left
    · intro w hSw; (try dsimp only at hSw); go_simp <;> (try with_reducible rfl)
    go_frame
    refine wpAnyH_take (i := 4) (oi := ⟨some 25, _, _, _, _, _⟩) (v := ?_) rfl (by kernel_rfl) (by kernel_rfl) (by kernel_rfl) (fun _ _ _ h => h) (Or.inl ⟨by rfl, ?_⟩) (by assumption) ?_
    rotate_left
    · intro w hSw; (try dsimp only at hSw); go_simp <;> (try with_reducible rfl)
    go_frame
    refine wpAnyH_take (i := 5) (oi := ⟨some 26, _, _, _, _, _⟩) (v := ?_) rfl (by kernel_rfl) (by kernel_rfl) (by kernel_rfl) (fun _ _ _ h => h) (Or.inl ⟨by rfl, ?_⟩) (by assumption) ?_
    rotate_left
    · intro w hSw; (try dsimp only at hSw); go_simp <;> (try with_reducible rfl)
    go_frame
    refine wpAnyH_ready (rs := [0, 2, 6]) (by kernel_rfl) (by simp) ?_
    refine AllReadyH.cons rfl (fun K hK => ?_) (AllReadyH.cons rfl (fun K hK => ?_) (AllReadyH.cons rfl (fun K hK => ?_) AllReadyH.nil))
    · skip
      go_simp
      refine hK.out _ _ ((blkc (HE.out _ ((b2.alloc b2.size (.cells #[] 3)).drew))).1 1) (fun hHeld => ?_)
      clear hK K
      have bm1 : Below U.heap.size U (v2.alloc (.cells #[] 3)).drew := (b2.alloc b2.size _).drew
      have mm1 : (v2.alloc (.cells #[] 3)).drew.ownsRow U.heap.size 3 1 (.slice (some ⟨v2.heap.size, 0, none⟩) 0 0) 0 (tcells ze []) := owns_drew (made_t (s := 1) (enc := ze) v2 b2.size rfl)
      refine wpAnyH_ready (rs := [2, 6]) (by kernel_rfl) (by simp) ?_
      refine AllReadyH.cons rfl (fun K hK => ?_) (AllReadyH.cons rfl (fun K hK => ?_) AllReadyH.nil)
      · skip
        have xb : (v2.alloc (.cells #[] 3)).cell? ⟨w.heap.size, 0, none⟩ = some (.slice a1 n1 c1) := (blkc (HP.out (v2.alloc (.cells #[] 3)).drew bm1)).1 0; go_simp
        refine hK.out _ _ ((blkc (HE.out _ bm1)).1 1) (fun hHeld => ?_)
        clear hK K
        try go_frame
        refine wpAnyH_ready (rs := [3, 6]) (by kernel_rfl) (by simp) ?_
        refine AllReadyH.cons rfl (fun K hK => ?_) (AllReadyH.cons rfl (fun K hK => ?_) AllReadyH.nil)
        · skip
          refine step_tg (d := 0) intZ zeE (w0 := U) (B := U.heap.size) (by rfl) _ _ (by rfl) _ 0 [] (by rfl) mm1 a1 n1 c1 s (by rfl) (HR.out _ bm1) HZN.out (by omega) bm1 bm1.size ?_; intro a6 c6 w6 hg6 hc6 hn6 hown6 hb6; rw [Nat.zero_add] at hown6 hc6 hn6 ⊢; rw [List.nil_append] at hown6
          refine hK.out _ _ ((blkc (HE.out _ hb6)).1 1) (fun hHeld => ?_)
          clear hK K
          try go_frame
          refine wpAnyH_ready (rs := [6]) (by kernel_rfl) (by simp) ?_
          refine AllReadyH.cons rfl (fun K hK => ?_) AllReadyH.nil
          go_simp
          refine hK.out _ _ ((blkc (HE.out _ (hb6.alloc hb6.size (.cells #[.int .i64 n9] 3)))).1 1) (fun hHeld => ?_)
          clear hK K
          have bl3 : Below U.heap.size U (w6.alloc (.cells #[.int .i64 n9] 3)) := hb6.alloc hb6.size _
          have oo3 := hown6.alloc (.cells #[.int .i64 n9] 3)
          have ll3 := heap_alloc_new w6 (.cells #[.int .i64 n9] 3)
          refine wpAnyH_ready (rs := [7]) (by kernel_rfl) (by simp) ?_
          refine AllReadyH.cons rfl (fun K hK => ?_) AllReadyH.nil
          refine step_tg (d := 0) intZ zeE (w0 := U) (B := U.heap.size) (by rfl) _ _ (by rfl) _ n1 s (by rfl) oo3 (some ⟨w6.heap.size, 0, none⟩) 1 1 [n9] (by rfl) (lit_of ll3 (fun j v hj => by match j, hj with | 0, hj => exact hj | j + 1, hj => simp [ze] at hj)) (fun h => by cases h) (by omega) bl3 bl3.size ?_; intro a8 c8 w8 hg8 hc8 hn8 hown8 hb8; have hP8 := HP.out w8 hb8; have zc := (blkc hP8).1 0; have zf := (blkc hP8).2 0
          refine hK.out _ _ ((blkc (HE.out _ hb8)).1 1) (fun hHeld => ?_)
          clear hK K
          try go_frame
          refine wpAnyH_take (i := 8) (oi := ⟨some 29, _, _, _, _, _⟩) (v := ?_) rfl (by kernel_rfl) (by kernel_rfl) (by kernel_rfl) (fun _ _ _ h => h) (Or.inl ⟨by rfl, ?_⟩) (by assumption) ?_
          rotate_left
          · intro w hSw; (try dsimp only at hSw); go_simp <;> (try with_reducible rfl)
          go_frame
          refine wpAnyH_ready (rs := [9]) (by kernel_rfl) (by simp) ?_
          refine AllReadyH.cons rfl (fun K hK => ?_) AllReadyH.nil
          go_simp
          refine hK.out _ _ ((World.cell?_setCell_other _ _ _ _ (fun e => hpe2 (Addr.mk.inj e).1)).trans ((blkc (HE.out w8 hb8)).1 1)) (fun hHeld => ?_)
          clear hK K
          refine wpAnyH_done (by kernel_rfl) ?_ _
          have hg9 : w8.grownBy (w8.setCell ⟨w.heap.size, 0, none⟩ (.slice a8 (n1 + 1) c8)) (some (w.heap.size)) := turned_setL (w.heap.size) [.slice a8 (n1 + 1) c8] 0 w8
          go_wp2_with fail
          go_meet
          case rel => exact ⟨a8, c8, hc8, bput hP8 _ rfl, (hg9.block _ (ob_ltB (HZ.out w8 hb8)) (fun e => hpz (Option.some.inj e))).trans (HZ.out w8 hb8), hown8.kept hg9 (.inr (own_ne hown8 (by have := HSZ.out; omega)).symm), below_grownB (HU.out.trans (hb8.mono HU.out.size)) hg9 (HU.out.trans (hb8.mono HU.out.size)).size (fun q hq => by cases hq; exact Nat.le_refl _)⟩
        · skip
          go_simp
          refine hK.out _ _ ((blkc (HE.out _ (((b2.alloc b2.size (.cells #[] 3)).alloc (b2.alloc b2.size (.cells #[] 3)).size (.cells #[.int .i64 n9] 3)).drew))).1 1) (fun hHeld => ?_)
          clear hK K
          have bl2 : Below U.heap.size U ((v2.alloc (.cells #[] 3)).alloc (.cells #[.int .i64 n9] 3)).drew := ((b2.alloc b2.size _).alloc (b2.alloc b2.size _).size _).drew
          have mm2 : ((v2.alloc (.cells #[] 3)).alloc (.cells #[.int .i64 n9] 3)).drew.ownsRow U.heap.size 3 1 (.slice (some ⟨v2.heap.size, 0, none⟩) 0 0) 0 (tcells ze []) := owns_drew ((made_t (s := 1) (enc := ze) v2 b2.size rfl).alloc _)
          have ll2 : ((v2.alloc (.cells #[] 3)).alloc (.cells #[.int .i64 n9] 3)).drew.heap[v2.heap.size + 1]? = some (.cells #[.int .i64 n9] 3 (0, 0)) := by have := heap_alloc_new (v2.alloc (.cells #[] 3)) (.cells #[.int .i64 n9] 3); rwa [World.size_alloc] at this
          refine wpAnyH_ready (rs := [3]) (by kernel_rfl) (by simp) ?_
          refine AllReadyH.cons rfl (fun K hK => ?_) AllReadyH.nil
          refine step_tg (d := 0) intZ zeE (w0 := U) (B := U.heap.size) (by rfl) _ _ (by rfl) _ 0 [] (by rfl) mm2 a1 n1 c1 s (by rfl) (HR.out _ bl2) HZN.out (by omega) bl2 bl2.size ?_; intro a6 c6 w6 hg6 hc6 hn6 hown6 hb6; rw [Nat.zero_add] at hown6 hc6 hn6 ⊢; rw [List.nil_append] at hown6; have ll6 := (hg6.block _ (ob_ltB ll2) (fun e => by have e2 := Option.some.inj e; dsimp only at e2; omega)).trans ll2
          refine hK.out _ _ ((blkc (HE.out _ hb6)).1 1) (fun hHeld => ?_)
          clear hK K
          try go_frame
          refine wpAnyH_ready (rs := [7]) (by kernel_rfl) (by simp) ?_
          refine AllReadyH.cons rfl (fun K hK => ?_) AllReadyH.nil
          refine step_tg (d := 0) intZ zeE (w0 := U) (B := U.heap.size) (by rfl) _ _ (by rfl) _ n1 s (by rfl) hown6 (some ⟨v2.heap.size + 1, 0, none⟩) 1 1 [n9] (by rfl) (lit_of ll6 (fun j v hj => by match j, hj with | 0, hj => exact hj | j + 1, hj => simp [ze] at hj)) (fun h => by cases h) (by omega) hb6 hb6.size ?_; intro a8 c8 w8 hg8 hc8 hn8 hown8 hb8; have hP8 := HP.out w8 hb8; have zc := (blkc hP8).1 0; have zf := (blkc hP8).2 0
          refine hK.out _ _ ((blkc (HE.out _ hb8)).1 1) (fun hHeld => ?_)
          clear hK K
          try go_frame
          refine wpAnyH_take (i := 8) (oi := ⟨some 29, _, _, _, _, _⟩) (v := ?_) rfl (by kernel_rfl) (by kernel_rfl) (by kernel_rfl) (fun _ _ _ h => h) (Or.inl ⟨by rfl, ?_⟩) (by assumption) ?_
          rotate_left
          · intro w hSw; (try dsimp only at hSw); go_simp <;> (try with_reducible rfl)
          go_frame
          refine wpAnyH_ready (rs := [9]) (by kernel_rfl) (by simp) ?_
          refine AllReadyH.cons rfl (fun K hK => ?_) AllReadyH.nil
          go_simp
          refine hK.out _ _ ((World.cell?_setCell_other _ _ _ _ (fun e => hpe2 (Addr.mk.inj e).1)).trans ((blkc (HE.out w8 hb8)).1 1)) (fun hHeld => ?_)
          clear hK K
          refine wpAnyH_done (by kernel_rfl) ?_ _
          have hg9 : w8.grownBy (w8.setCell ⟨w.heap.size, 0, none⟩ (.slice a8 (n1 + 1) c8)) (some (w.heap.size)) := turned_setL (w.heap.size) [.slice a8 (n1 + 1) c8] 0 w8
          go_wp2_with fail
          go_meet
          case rel => exact ⟨a8, c8, hc8, bput hP8 _ rfl, (hg9.block _ (ob_ltB (HZ.out w8 hb8)) (fun e => hpz (Option.some.inj e))).trans (HZ.out w8 hb8), hown8.kept hg9 (.inr (own_ne hown8 (by have := HSZ.out; omega)).symm), below_grownB (HU.out.trans (hb8.mono HU.out.size)) hg9 (HU.out.trans (hb8.mono HU.out.size)).size (fun q hq => by cases hq; exact Nat.le_refl _)⟩
      · skip
        go_simp
        refine hK.out _ _ ((blkc (HE.out _ (((b2.alloc b2.size (.cells #[] 3)).alloc (b2.alloc b2.size (.cells #[] 3)).size (.cells #[.int .i64 n9] 3)).drew))).1 1) (fun hHeld => ?_)
        clear hK K
        have bl2 : Below U.heap.size U ((v2.alloc (.cells #[] 3)).alloc (.cells #[.int .i64 n9] 3)).drew := ((b2.alloc b2.size _).alloc (b2.alloc b2.size _).size _).drew
        have mm2 : ((v2.alloc (.cells #[] 3)).alloc (.cells #[.int .i64 n9] 3)).drew.ownsRow U.heap.size 3 1 (.slice (some ⟨v2.heap.size, 0, none⟩) 0 0) 0 (tcells ze []) := owns_drew ((made_t (s := 1) (enc := ze) v2 b2.size rfl).alloc _)
        have ll2 : ((v2.alloc (.cells #[] 3)).alloc (.cells #[.int .i64 n9] 3)).drew.heap[v2.heap.size + 1]? = some (.cells #[.int .i64 n9] 3 (0, 0)) := by have := heap_alloc_new (v2.alloc (.cells #[] 3)) (.cells #[.int .i64 n9] 3); rwa [World.size_alloc] at this
        refine wpAnyH_ready (rs := [2]) (by kernel_rfl) (by simp) ?_
        refine AllReadyH.cons rfl (fun K hK => ?_) AllReadyH.nil
        have xb : ((v2.alloc (.cells #[] 3)).alloc (.cells #[.int .i64 n9] 3)).cell? ⟨w.heap.size, 0, none⟩ = some (.slice a1 n1 c1) := (blkc (HP.out ((v2.alloc (.cells #[] 3)).alloc (.cells #[.int .i64 n9] 3)).drew bl2)).1 0; go_simp
        refine hK.out _ _ ((blkc (HE.out _ bl2)).1 1) (fun hHeld => ?_)
        clear hK K
        try go_frame
        refine wpAnyH_ready (rs := [3]) (by kernel_rfl) (by simp) ?_
        refine AllReadyH.cons rfl (fun K hK => ?_) AllReadyH.nil
        refine step_tg (d := 0) intZ zeE (w0 := U) (B := U.heap.size) (by rfl) _ _ (by rfl) _ 0 [] (by rfl) mm2 a1 n1 c1 s (by rfl) (HR.out _ bl2) HZN.out (by omega) bl2 bl2.size ?_; intro a6 c6 w6 hg6 hc6 hn6 hown6 hb6; rw [Nat.zero_add] at hown6 hc6 hn6 ⊢; rw [List.nil_append] at hown6; have ll6 := (hg6.block _ (ob_ltB ll2) (fun e => by have e2 := Option.some.inj e; dsimp only at e2; omega)).trans ll2
        refine hK.out _ _ ((blkc (HE.out _ hb6)).1 1) (fun hHeld => ?_)
        clear hK K
        try go_frame
        refine wpAnyH_ready (rs := [7]) (by kernel_rfl) (by simp) ?_
        refine AllReadyH.cons rfl (fun K hK => ?_) AllReadyH.nil
        refine step_tg (d := 0) intZ zeE (w0 := U) (B := U.heap.size) (by rfl) _ _ (by rfl) _ n1 s (by rfl) hown6 (some ⟨v2.heap.size + 1, 0, none⟩) 1 1 [n9] (by rfl) (lit_of ll6 (fun j v hj => by match j, hj with | 0, hj => exact hj | j + 1, hj => simp [ze] at hj)) (fun h => by cases h) (by omega) hb6 hb6.size ?_; intro a8 c8 w8 hg8 hc8 hn8 hown8 hb8; have hP8 := HP.out w8 hb8; have zc := (blkc hP8).1 0; have zf := (blkc hP8).2 0
        refine hK.out _ _ ((blkc (HE.out _ hb8)).1 1) (fun hHeld => ?_)
        clear hK K
        try go_frame
        refine wpAnyH_take (i := 8) (oi := ⟨some 29, _, _, _, _, _⟩) (v := ?_) rfl (by kernel_rfl) (by kernel_rfl) (by kernel_rfl) (fun _ _ _ h => h) (Or.inl ⟨by rfl, ?_⟩) (by assumption) ?_
        rotate_left
        · intro w hSw; (try dsimp only at hSw); go_simp <;> (try with_reducible rfl)
        go_frame
        refine wpAnyH_ready (rs := [9]) (by kernel_rfl) (by simp) ?_
        refine AllReadyH.cons rfl (fun K hK => ?_) AllReadyH.nil
        go_simp
        refine hK.out _ _ ((World.cell?_setCell_other _ _ _ _ (fun e => hpe2 (Addr.mk.inj e).1)).trans ((blkc (HE.out w8 hb8)).1 1)) (fun hHeld => ?_)
        clear hK K
        refine wpAnyH_done (by kernel_rfl) ?_ _
        have hg9 : w8.grownBy (w8.setCell ⟨w.heap.size, 0, none⟩ (.slice a8 (n1 + 1) c8)) (some (w.heap.size)) := turned_setL (w.heap.size) [.slice a8 (n1 + 1) c8] 0 w8
        go_wp2_with fail
        go_meet
        case rel => exact ⟨a8, c8, hc8, bput hP8 _ rfl, (hg9.block _ (ob_ltB (HZ.out w8 hb8)) (fun e => hpz (Option.some.inj e))).trans (HZ.out w8 hb8), hown8.kept hg9 (.inr (own_ne hown8 (by have := HSZ.out; omega)).symm), below_grownB (HU.out.trans (hb8.mono HU.out.size)) hg9 (HU.out.trans (hb8.mono HU.out.size)).size (fun q hq => by cases hq; exact Nat.le_refl _)⟩
    · skip
      have xb : v2.cell? ⟨w.heap.size, 0, none⟩ = some (.slice a1 n1 c1) := (blkc (HP.out v2.drew b2d)).1 0; go_simp
      refine hK.out _ _ ((blkc (HE.out _ b2d)).1 1) (fun hHeld => ?_)
      clear hK K
      try go_frame
      refine wpAnyH_ready (rs := [0, 6]) (by kernel_rfl) (by simp) ?_
      refine AllReadyH.cons rfl (fun K hK => ?_) (AllReadyH.cons rfl (fun K hK => ?_) AllReadyH.nil)
      · skip
        go_simp
        refine hK.out _ _ ((blkc (HE.out _ ((b2.alloc b2.size (.cells #[] 3)).drew))).1 1) (fun hHeld => ?_)
        clear hK K
        have bm1 : Below U.heap.size U (v2.alloc (.cells #[] 3)).drew := (b2.alloc b2.size _).drew
        have mm1 : (v2.alloc (.cells #[] 3)).drew.ownsRow U.heap.size 3 1 (.slice (some ⟨v2.heap.size, 0, none⟩) 0 0) 0 (tcells ze []) := owns_drew (made_t (s := 1) (enc := ze) v2 b2.size rfl)
        refine wpAnyH_ready (rs := [3, 6]) (by kernel_rfl) (by simp) ?_
        refine AllReadyH.cons rfl (fun K hK => ?_) (AllReadyH.cons rfl (fun K hK => ?_) AllReadyH.nil)
        · skip
          refine step_tg (d := 0) intZ zeE (w0 := U) (B := U.heap.size) (by rfl) _ _ (by rfl) _ 0 [] (by rfl) mm1 a1 n1 c1 s (by rfl) (HR.out _ bm1) HZN.out (by omega) bm1 bm1.size ?_; intro a6 c6 w6 hg6 hc6 hn6 hown6 hb6; rw [Nat.zero_add] at hown6 hc6 hn6 ⊢; rw [List.nil_append] at hown6
          refine hK.out _ _ ((blkc (HE.out _ hb6)).1 1) (fun hHeld => ?_)
          clear hK K
          try go_frame
          refine wpAnyH_ready (rs := [6]) (by kernel_rfl) (by simp) ?_
          refine AllReadyH.cons rfl (fun K hK => ?_) AllReadyH.nil
          go_simp
          refine hK.out _ _ ((blkc (HE.out _ (hb6.alloc hb6.size (.cells #[.int .i64 n9] 3)))).1 1) (fun hHeld => ?_)
          clear hK K
          have bl3 : Below U.heap.size U (w6.alloc (.cells #[.int .i64 n9] 3)) := hb6.alloc hb6.size _
          have oo3 := hown6.alloc (.cells #[.int .i64 n9] 3)
          have ll3 := heap_alloc_new w6 (.cells #[.int .i64 n9] 3)
          refine wpAnyH_ready (rs := [7]) (by kernel_rfl) (by simp) ?_
          refine AllReadyH.cons rfl (fun K hK => ?_) AllReadyH.nil
          refine step_tg (d := 0) intZ zeE (w0 := U) (B := U.heap.size) (by rfl) _ _ (by rfl) _ n1 s (by rfl) oo3 (some ⟨w6.heap.size, 0, none⟩) 1 1 [n9] (by rfl) (lit_of ll3 (fun j v hj => by match j, hj with | 0, hj => exact hj | j + 1, hj => simp [ze] at hj)) (fun h => by cases h) (by omega) bl3 bl3.size ?_; intro a8 c8 w8 hg8 hc8 hn8 hown8 hb8; have hP8 := HP.out w8 hb8; have zc := (blkc hP8).1 0; have zf := (blkc hP8).2 0
          refine hK.out _ _ ((blkc (HE.out _ hb8)).1 1) (fun hHeld => ?_)
          clear hK K
          try go_frame
          refine wpAnyH_take (i := 8) (oi := ⟨some 29, _, _, _, _, _⟩) (v := ?_) rfl (by kernel_rfl) (by kernel_rfl) (by kernel_rfl) (fun _ _ _ h => h) (Or.inl ⟨by rfl, ?_⟩) (by assumption) ?_
          rotate_left
          · intro w hSw; (try dsimp only at hSw); go_simp <;> (try with_reducible rfl)
          go_frame
          refine wpAnyH_ready (rs := [9]) (by kernel_rfl) (by simp) ?_
          refine AllReadyH.cons rfl (fun K hK => ?_) AllReadyH.nil
          go_simp
          refine hK.out _ _ ((World.cell?_setCell_other _ _ _ _ (fun e => hpe2 (Addr.mk.inj e).1)).trans ((blkc (HE.out w8 hb8)).1 1)) (fun hHeld => ?_)
          clear hK K
          refine wpAnyH_done (by kernel_rfl) ?_ _
          have hg9 : w8.grownBy (w8.setCell ⟨w.heap.size, 0, none⟩ (.slice a8 (n1 + 1) c8)) (some (w.heap.size)) := turned_setL (w.heap.size) [.slice a8 (n1 + 1) c8] 0 w8
          go_wp2_with fail
          go_meet
          case rel => exact ⟨a8, c8, hc8, bput hP8 _ rfl, (hg9.block _ (ob_ltB (HZ.out w8 hb8)) (fun e => hpz (Option.some.inj e))).trans (HZ.out w8 hb8), hown8.kept hg9 (.inr (own_ne hown8 (by have := HSZ.out; omega)).symm), below_grownB (HU.out.trans (hb8.mono HU.out.size)) hg9 (HU.out.trans (hb8.mono HU.out.size)).size (fun q hq => by cases hq; exact Nat.le_refl _)⟩
        · skip
          go_simp
          refine hK.out _ _ ((blkc (HE.out _ (((b2.alloc b2.size (.cells #[] 3)).alloc (b2.alloc b2.size (.cells #[] 3)).size (.cells #[.int .i64 n9] 3)).drew))).1 1) (fun hHeld => ?_)
          clear hK K
          have bl2 : Below U.heap.size U ((v2.alloc (.cells #[] 3)).alloc (.cells #[.int .i64 n9] 3)).drew := ((b2.alloc b2.size _).alloc (b2.alloc b2.size _).size _).drew
          have mm2 : ((v2.alloc (.cells #[] 3)).alloc (.cells #[.int .i64 n9] 3)).drew.ownsRow U.heap.size 3 1 (.slice (some ⟨v2.heap.size, 0, none⟩) 0 0) 0 (tcells ze []) := owns_drew ((made_t (s := 1) (enc := ze) v2 b2.size rfl).alloc _)
          have ll2 : ((v2.alloc (.cells #[] 3)).alloc (.cells #[.int .i64 n9] 3)).drew.heap[v2.heap.size + 1]? = some (.cells #[.int .i64 n9] 3 (0, 0)) := by have := heap_alloc_new (v2.alloc (.cells #[] 3)) (.cells #[.int .i64 n9] 3); rwa [World.size_alloc] at this
          refine wpAnyH_ready (rs := [3]) (by kernel_rfl) (by simp) ?_
          refine AllReadyH.cons rfl (fun K hK => ?_) AllReadyH.nil
          refine step_tg (d := 0) intZ zeE (w0 := U) (B := U.heap.size) (by rfl) _ _ (by rfl) _ 0 [] (by rfl) mm2 a1 n1 c1 s (by rfl) (HR.out _ bl2) HZN.out (by omega) bl2 bl2.size ?_; intro a6 c6 w6 hg6 hc6 hn6 hown6 hb6; rw [Nat.zero_add] at hown6 hc6 hn6 ⊢; rw [List.nil_append] at hown6; have ll6 := (hg6.block _ (ob_ltB ll2) (fun e => by have e2 := Option.some.inj e; dsimp only at e2; omega)).trans ll2
          refine hK.out _ _ ((blkc (HE.out _ hb6)).1 1) (fun hHeld => ?_)
          clear hK K
          try go_frame
          refine wpAnyH_ready (rs := [7]) (by kernel_rfl) (by simp) ?_
          refine AllReadyH.cons rfl (fun K hK => ?_) AllReadyH.nil
          refine step_tg (d := 0) intZ zeE (w0 := U) (B := U.heap.size) (by rfl) _ _ (by rfl) _ n1 s (by rfl) hown6 (some ⟨v2.heap.size + 1, 0, none⟩) 1 1 [n9] (by rfl) (lit_of ll6 (fun j v hj => by match j, hj with | 0, hj => exact hj | j + 1, hj => simp [ze] at hj)) (fun h => by cases h) (by omega) hb6 hb6.size ?_; intro a8 c8 w8 hg8 hc8 hn8 hown8 hb8; have hP8 := HP.out w8 hb8; have zc := (blkc hP8).1 0; have zf := (blkc hP8).2 0
          refine hK.out _ _ ((blkc (HE.out _ hb8)).1 1) (fun hHeld => ?_)
          clear hK K
          try go_frame
          refine wpAnyH_take (i := 8) (oi := ⟨some 29, _, _, _, _, _⟩) (v := ?_) rfl (by kernel_rfl) (by kernel_rfl) (by kernel_rfl) (fun _ _ _ h => h) (Or.inl ⟨by rfl, ?_⟩) (by assumption) ?_
          rotate_left
          · intro w hSw; (try dsimp only at hSw); go_simp <;> (try with_reducible rfl)
          go_frame
          refine wpAnyH_ready (rs := [9]) (by kernel_rfl) (by simp) ?_
          refine AllReadyH.cons rfl (fun K hK => ?_) AllReadyH.nil
          go_simp
          refine hK.out _ _ ((World.cell?_setCell_other _ _ _ _ (fun e => hpe2 (Addr.mk.inj e).1)).trans ((blkc (HE.out w8 hb8)).1 1)) (fun hHeld => ?_)
          clear hK K
          refine wpAnyH_done (by kernel_rfl) ?_ _
          have hg9 : w8.grownBy (w8.setCell ⟨w.heap.size, 0, none⟩ (.slice a8 (n1 + 1) c8)) (some (w.heap.size)) := turned_setL (w.heap.size) [.slice a8 (n1 + 1) c8] 0 w8
          go_wp2_with fail
          go_meet
          case rel => exact ⟨a8, c8, hc8, bput hP8 _ rfl, (hg9.block _ (ob_ltB (HZ.out w8 hb8)) (fun e => hpz (Option.some.inj e))).trans (HZ.out w8 hb8), hown8.kept hg9 (.inr (own_ne hown8 (by have := HSZ.out; omega)).symm), below_grownB (HU.out.trans (hb8.mono HU.out.size)) hg9 (HU.out.trans (hb8.mono HU.out.size)).size (fun q hq => by cases hq; exact Nat.le_refl _)⟩
      · skip
        go_simp
        refine hK.out _ _ ((blkc (HE.out _ ((b2.alloc b2.size (.cells #[.int .i64 n9] 3)).drew))).1 1) (fun hHeld => ?_)
        clear hK K
        have bl1 : Below U.heap.size U (v2.alloc (.cells #[.int .i64 n9] 3)).drew := (b2.alloc b2.size _).drew
        have ll1 : (v2.alloc (.cells #[.int .i64 n9] 3)).drew.heap[v2.heap.size]? = some (.cells #[.int .i64 n9] 3 (0, 0)) := heap_alloc_new _ _
        refine wpAnyH_ready (rs := [0]) (by kernel_rfl) (by simp) ?_
        refine AllReadyH.cons rfl (fun K hK => ?_) AllReadyH.nil
        go_simp
        refine hK.out _ _ ((blkc (HE.out _ (((b2.alloc b2.size (.cells #[.int .i64 n9] 3)).alloc (b2.alloc b2.size (.cells #[.int .i64 n9] 3)).size (.cells #[] 3)).drew))).1 1) (fun hHeld => ?_)
        clear hK K
        have bm2 : Below U.heap.size U ((v2.alloc (.cells #[.int .i64 n9] 3)).alloc (.cells #[] 3)).drew := ((b2.alloc b2.size _).alloc (b2.alloc b2.size _).size _).drew
        have mm2 : ((v2.alloc (.cells #[.int .i64 n9] 3)).alloc (.cells #[] 3)).drew.ownsRow U.heap.size 3 1 (.slice (some ⟨v2.heap.size + 1, 0, none⟩) 0 0) 0 (tcells ze []) := owns_drew (made_t (s := 1) (enc := ze) (v2.alloc (.cells #[.int .i64 n9] 3)) (b2.alloc b2.size _).size (by simp))
        have ll2 : ((v2.alloc (.cells #[.int .i64 n9] 3)).alloc (.cells #[] 3)).drew.heap[v2.heap.size]? = some (.cells #[.int .i64 n9] 3 (0, 0)) := (Below.heap_alloc _ _ _ (by simp)).trans (heap_alloc_new _ _)
        refine wpAnyH_ready (rs := [3]) (by kernel_rfl) (by simp) ?_
        refine AllReadyH.cons rfl (fun K hK => ?_) AllReadyH.nil
        refine step_tg (d := 0) intZ zeE (w0 := U) (B := U.heap.size) (by rfl) _ _ (by rfl) _ 0 [] (by rfl) mm2 a1 n1 c1 s (by rfl) (HR.out _ bm2) HZN.out (by omega) bm2 bm2.size ?_; intro a6 c6 w6 hg6 hc6 hn6 hown6 hb6; rw [Nat.zero_add] at hown6 hc6 hn6 ⊢; rw [List.nil_append] at hown6; have ll6 := (hg6.block _ (ob_ltB ll2) (fun e => by have e2 := Option.some.inj e; dsimp only at e2; omega)).trans ll2
        refine hK.out _ _ ((blkc (HE.out _ hb6)).1 1) (fun hHeld => ?_)
        clear hK K
        try go_frame
        refine wpAnyH_ready (rs := [7]) (by kernel_rfl) (by simp) ?_
        refine AllReadyH.cons rfl (fun K hK => ?_) AllReadyH.nil
        refine step_tg (d := 0) intZ zeE (w0 := U) (B := U.heap.size) (by rfl) _ _ (by rfl) _ n1 s (by rfl) hown6 (some ⟨v2.heap.size, 0, none⟩) 1 1 [n9] (by rfl) (lit_of ll6 (fun j v hj => by match j, hj with | 0, hj => exact hj | j + 1, hj => simp [ze] at hj)) (fun h => by cases h) (by omega) hb6 hb6.size ?_; intro a8 c8 w8 hg8 hc8 hn8 hown8 hb8; have hP8 := HP.out w8 hb8; have zc := (blkc hP8).1 0; have zf := (blkc hP8).2 0
        refine hK.out _ _ ((blkc (HE.out _ hb8)).1 1) (fun hHeld => ?_)
        clear hK K
        try go_frame
        refine wpAnyH_take (i := 8) (oi := ⟨some 29, _, _, _, _, _⟩) (v := ?_) rfl (by kernel_rfl) (by kernel_rfl) (by kernel_rfl) (fun _ _ _ h => h) (Or.inl ⟨by rfl, ?_⟩) (by assumption) ?_
        rotate_left
        · intro w hSw; (try dsimp only at hSw); go_simp <;> (try with_reducible rfl)
        go_frame
        refine wpAnyH_ready (rs := [9]) (by kernel_rfl) (by simp) ?_
        refine AllReadyH.cons rfl (fun K hK => ?_) AllReadyH.nil
        go_simp
        refine hK.out _ _ ((World.cell?_setCell_other _ _ _ _ (fun e => hpe2 (Addr.mk.inj e).1)).trans ((blkc (HE.out w8 hb8)).1 1)) (fun hHeld => ?_)
        clear hK K
        refine wpAnyH_done (by kernel_rfl) ?_ _
        have hg9 : w8.grownBy (w8.setCell ⟨w.heap.size, 0, none⟩ (.slice a8 (n1 + 1) c8)) (some (w.heap.size)) := turned_setL (w.heap.size) [.slice a8 (n1 + 1) c8] 0 w8
        go_wp2_with fail
        go_meet
        case rel => exact ⟨a8, c8, hc8, bput hP8 _ rfl, (hg9.block _ (ob_ltB (HZ.out w8 hb8)) (fun e => hpz (Option.some.inj e))).trans (HZ.out w8 hb8), hown8.kept hg9 (.inr (own_ne hown8 (by have := HSZ.out; omega)).symm), below_grownB (HU.out.trans (hb8.mono HU.out.size)) hg9 (HU.out.trans (hb8.mono HU.out.size)).size (fun q hq => by cases hq; exact Nat.le_refl _)⟩
    · skip
      go_simp
      refine hK.out _ _ ((blkc (HE.out _ ((b2.alloc b2.size (.cells #[.int .i64 n9] 3)).drew))).1 1) (fun hHeld => ?_)
      clear hK K
      have bl1 : Below U.heap.size U (v2.alloc (.cells #[.int .i64 n9] 3)).drew := (b2.alloc b2.size _).drew
      have ll1 : (v2.alloc (.cells #[.int .i64 n9] 3)).drew.heap[v2.heap.size]? = some (.cells #[.int .i64 n9] 3 (0, 0)) := heap_alloc_new _ _
      refine wpAnyH_ready (rs := [0, 2]) (by kernel_rfl) (by simp) ?_
      refine AllReadyH.cons rfl (fun K hK => ?_) (AllReadyH.cons rfl (fun K hK => ?_) AllReadyH.nil)
      · skip
        go_simp
        refine hK.out _ _ ((blkc (HE.out _ (((b2.alloc b2.size (.cells #[.int .i64 n9] 3)).alloc (b2.alloc b2.size (.cells #[.int .i64 n9] 3)).size (.cells #[] 3)).drew))).1 1) (fun hHeld => ?_)
        clear hK K
        have bm2 : Below U.heap.size U ((v2.alloc (.cells #[.int .i64 n9] 3)).alloc (.cells #[] 3)).drew := ((b2.alloc b2.size _).alloc (b2.alloc b2.size _).size _).drew
        have mm2 : ((v2.alloc (.cells #[.int .i64 n9] 3)).alloc (.cells #[] 3)).drew.ownsRow U.heap.size 3 1 (.slice (some ⟨v2.heap.size + 1, 0, none⟩) 0 0) 0 (tcells ze []) := owns_drew (made_t (s := 1) (enc := ze) (v2.alloc (.cells #[.int .i64 n9] 3)) (b2.alloc b2.size _).size (by simp))
        have ll2 : ((v2.alloc (.cells #[.int .i64 n9] 3)).alloc (.cells #[] 3)).drew.heap[v2.heap.size]? = some (.cells #[.int .i64 n9] 3 (0, 0)) := (Below.heap_alloc _ _ _ (by simp)).trans (heap_alloc_new _ _)
        refine wpAnyH_ready (rs := [2]) (by kernel_rfl) (by simp) ?_
        refine AllReadyH.cons rfl (fun K hK => ?_) AllReadyH.nil
        have xb : ((v2.alloc (.cells #[.int .i64 n9] 3)).alloc (.cells #[] 3)).cell? ⟨w.heap.size, 0, none⟩ = some (.slice a1 n1 c1) := (blkc (HP.out ((v2.alloc (.cells #[.int .i64 n9] 3)).alloc (.cells #[] 3)).drew bm2)).1 0; go_simp
        refine hK.out _ _ ((blkc (HE.out _ bm2)).1 1) (fun hHeld => ?_)
        clear hK K
        try go_frame
        refine wpAnyH_ready (rs := [3]) (by kernel_rfl) (by simp) ?_
        refine AllReadyH.cons rfl (fun K hK => ?_) AllReadyH.nil
        refine step_tg (d := 0) intZ zeE (w0 := U) (B := U.heap.size) (by rfl) _ _ (by rfl) _ 0 [] (by rfl) mm2 a1 n1 c1 s (by rfl) (HR.out _ bm2) HZN.out (by omega) bm2 bm2.size ?_; intro a6 c6 w6 hg6 hc6 hn6 hown6 hb6; rw [Nat.zero_add] at hown6 hc6 hn6 ⊢; rw [List.nil_append] at hown6; have ll6 := (hg6.block _ (ob_ltB ll2) (fun e => by have e2 := Option.some.inj e; dsimp only at e2; omega)).trans ll2
        refine hK.out _ _ ((blkc (HE.out _ hb6)).1 1) (fun hHeld => ?_)
        clear hK K
        try go_frame
        refine wpAnyH_ready (rs := [7]) (by kernel_rfl) (by simp) ?_
        refine AllReadyH.cons rfl (fun K hK => ?_) AllReadyH.nil
        refine step_tg (d := 0) intZ zeE (w0 := U) (B := U.heap.size) (by rfl) _ _ (by rfl) _ n1 s (by rfl) hown6 (some ⟨v2.heap.size, 0, none⟩) 1 1 [n9] (by rfl) (lit_of ll6 (fun j v hj => by match j, hj with | 0, hj => exact hj | j + 1, hj => simp [ze] at hj)) (fun h => by cases h) (by omega) hb6 hb6.size ?_; intro a8 c8 w8 hg8 hc8 hn8 hown8 hb8; have hP8 := HP.out w8 hb8; have zc := (blkc hP8).1 0; have zf := (blkc hP8).2 0
        refine hK.out _ _ ((blkc (HE.out _ hb8)).1 1) (fun hHeld => ?_)
        clear hK K
        try go_frame
        refine wpAnyH_take (i := 8) (oi := ⟨some 29, _, _, _, _, _⟩) (v := ?_) rfl (by kernel_rfl) (by kernel_rfl) (by kernel_rfl) (fun _ _ _ h => h) (Or.inl ⟨by rfl, ?_⟩) (by assumption) ?_
        rotate_left
        · intro w hSw; (try dsimp only at hSw); go_simp <;> (try with_reducible rfl)
        go_frame
        refine wpAnyH_ready (rs := [9]) (by kernel_rfl) (by simp) ?_
        refine AllReadyH.cons rfl (fun K hK => ?_) AllReadyH.nil
        go_simp
        refine hK.out _ _ ((World.cell?_setCell_other _ _ _ _ (fun e => hpe2 (Addr.mk.inj e).1)).trans ((blkc (HE.out w8 hb8)).1 1)) (fun hHeld => ?_)
        clear hK K
        refine wpAnyH_done (by kernel_rfl) ?_ _
        have hg9 : w8.grownBy (w8.setCell ⟨w.heap.size, 0, none⟩ (.slice a8 (n1 + 1) c8)) (some (w.heap.size)) := turned_setL (w.heap.size) [.slice a8 (n1 + 1) c8] 0 w8
        go_wp2_with fail
        go_meet
        case rel => exact ⟨a8, c8, hc8, bput hP8 _ rfl, (hg9.block _ (ob_ltB (HZ.out w8 hb8)) (fun e => hpz (Option.some.inj e))).trans (HZ.out w8 hb8), hown8.kept hg9 (.inr (own_ne hown8 (by have := HSZ.out; omega)).symm), below_grownB (HU.out.trans (hb8.mono HU.out.size)) hg9 (HU.out.trans (hb8.mono HU.out.size)).size (fun q hq => by cases hq; exact Nat.le_refl _)⟩
      · skip
        have xb : (v2.alloc (.cells #[.int .i64 n9] 3)).cell? ⟨w.heap.size, 0, none⟩ = some (.slice a1 n1 c1) := (blkc (HP.out (v2.alloc (.cells #[.int .i64 n9] 3)).drew bl1)).1 0; go_simp
        refine hK.out _ _ ((blkc (HE.out _ bl1)).1 1) (fun hHeld => ?_)
        clear hK K
        try go_frame
        refine wpAnyH_ready (rs := [0]) (by kernel_rfl) (by simp) ?_
        refine AllReadyH.cons rfl (fun K hK => ?_) AllReadyH.nil
        go_simp
        refine hK.out _ _ ((blkc (HE.out _ (((b2.alloc b2.size (.cells #[.int .i64 n9] 3)).alloc (b2.alloc b2.size (.cells #[.int .i64 n9] 3)).size (.cells #[] 3)).drew))).1 1) (fun hHeld => ?_)
        clear hK K
        have bm2 : Below U.heap.size U ((v2.alloc (.cells #[.int .i64 n9] 3)).alloc (.cells #[] 3)).drew := ((b2.alloc b2.size _).alloc (b2.alloc b2.size _).size _).drew
        have mm2 : ((v2.alloc (.cells #[.int .i64 n9] 3)).alloc (.cells #[] 3)).drew.ownsRow U.heap.size 3 1 (.slice (some ⟨v2.heap.size + 1, 0, none⟩) 0 0) 0 (tcells ze []) := owns_drew (made_t (s := 1) (enc := ze) (v2.alloc (.cells #[.int .i64 n9] 3)) (b2.alloc b2.size _).size (by simp))
        have ll2 : ((v2.alloc (.cells #[.int .i64 n9] 3)).alloc (.cells #[] 3)).drew.heap[v2.heap.size]? = some (.cells #[.int .i64 n9] 3 (0, 0)) := (Below.heap_alloc _ _ _ (by simp)).trans (heap_alloc_new _ _)
        refine wpAnyH_ready (rs := [3]) (by kernel_rfl) (by simp) ?_
        refine AllReadyH.cons rfl (fun K hK => ?_) AllReadyH.nil
        refine step_tg (d := 0) intZ zeE (w0 := U) (B := U.heap.size) (by rfl) _ _ (by rfl) _ 0 [] (by rfl) mm2 a1 n1 c1 s (by rfl) (HR.out _ bm2) HZN.out (by omega) bm2 bm2.size ?_; intro a6 c6 w6 hg6 hc6 hn6 hown6 hb6; rw [Nat.zero_add] at hown6 hc6 hn6 ⊢; rw [List.nil_append] at hown6; have ll6 := (hg6.block _ (ob_ltB ll2) (fun e => by have e2 := Option.some.inj e; dsimp only at e2; omega)).trans ll2
        refine hK.out _ _ ((blkc (HE.out _ hb6)).1 1) (fun hHeld => ?_)
        clear hK K
        try go_frame
        refine wpAnyH_ready (rs := [7]) (by kernel_rfl) (by simp) ?_
        refine AllReadyH.cons rfl (fun K hK => ?_) AllReadyH.nil
        refine step_tg (d := 0) intZ zeE (w0 := U) (B := U.heap.size) (by rfl) _ _ (by rfl) _ n1 s (by rfl) hown6 (some ⟨v2.heap.size, 0, none⟩) 1 1 [n9] (by rfl) (lit_of ll6 (fun j v hj => by match j, hj with | 0, hj => exact hj | j + 1, hj => simp [ze] at hj)) (fun h => by cases h) (by omega) hb6 hb6.size ?_; intro a8 c8 w8 hg8 hc8 hn8 hown8 hb8; have hP8 := HP.out w8 hb8; have zc := (blkc hP8).1 0; have zf := (blkc hP8).2 0
        refine hK.out _ _ ((blkc (HE.out _ hb8)).1 1) (fun hHeld => ?_)
        clear hK K
        try go_frame
        refine wpAnyH_take (i := 8) (oi := ⟨some 29, _, _, _, _, _⟩) (v := ?_) rfl (by kernel_rfl) (by kernel_rfl) (by kernel_rfl) (fun _ _ _ h => h) (Or.inl ⟨by rfl, ?_⟩) (by assumption) ?_
        rotate_left
        · intro w hSw; (try dsimp only at hSw); go_simp <;> (try with_reducible rfl)
        go_frame
        refine wpAnyH_ready (rs := [9]) (by kernel_rfl) (by simp) ?_
        refine AllReadyH.cons rfl (fun K hK => ?_) AllReadyH.nil
        go_simp
        refine hK.out _ _ ((World.cell?_setCell_other _ _ _ _ (fun e => hpe2 (Addr.mk.inj e).1)).trans ((blkc (HE.out w8 hb8)).1 1)) (fun hHeld => ?_)
        clear hK K
        refine wpAnyH_done (by kernel_rfl) ?_ _
        have hg9 : w8.grownBy (w8.setCell ⟨w.heap.size, 0, none⟩ (.slice a8 (n1 + 1) c8)) (some (w.heap.size)) := turned_setL (w.heap.size) [.slice a8 (n1 + 1) c8] 0 w8
        go_wp2_with fail
        go_meet
        case rel => exact ⟨a8, c8, hc8, bput hP8 _ rfl, (hg9.block _ (ob_ltB (HZ.out w8 hb8)) (fun e => hpz (Option.some.inj e))).trans (HZ.out w8 hb8), hown8.kept hg9 (.inr (own_ne hown8 (by have := HSZ.out; omega)).symm), below_grownB (HU.out.trans (hb8.mono HU.out.size)) hg9 (HU.out.trans (hb8.mono HU.out.size)).size (fun q hq => by cases hq; exact Nat.le_refl _)⟩
  case rest =>
    obtain ⟨g, d, hd, hP9, hZ9, hO9, hB9⟩ := hcut
    clear x0 x1 x2 x3 x4 x5 x6 x7 x8 x9 x10 y0 y1 y2 y3 y4 y5 y6 y7 y8 y9 y10 y11
    have d0 := (blkc hP9.out).1 0
    have d1 := (blkc hP9.out).1 1
    have d2 := (blkc hP9.out).1 2
    have d3 := (blkc hP9.out).1 3
    have d4 := (blkc hP9.out).1 4
    have d5 := (blkc hP9.out).1 5
    have d6 := (blkc hP9.out).1 6
    have d7 := (blkc hP9.out).1 7
    have d8 := (blkc hP9.out).1 8
    have d9 := (blkc hP9.out).1 9
    have d10 := (blkc hP9.out).1 10
    have e0 := (blkc hZ9.out).1 0
    have e1 := (blkc hZ9.out).1 1
    have e2 := (blkc hZ9.out).1 2
    have e3 := (blkc hZ9.out).1 3
    have e4 := (blkc hZ9.out).1 4
    have e5 := (blkc hZ9.out).1 5
    have e6 := (blkc hZ9.out).1 6
    have e7 := (blkc hZ9.out).1 7
    have e8 := (blkc hZ9.out).1 8
    have e9 := (blkc hZ9.out).1 9
    have e10 := (blkc hZ9.out).1 10
    have fz0 := (blkc hZ9.out).2 0
    have fz1 := (blkc hZ9.out).2 1
    have fz2 := (blkc hZ9.out).2 2
    have fz3 := (blkc hZ9.out).2 3
    have fz4 := (blkc hZ9.out).2 4
    have fz5 := (blkc hZ9.out).2 5
    have fz6 := (blkc hZ9.out).2 6
    have fz7 := (blkc hZ9.out).2 7
    have fz8 := (blkc hZ9.out).2 8
    have fz9 := (blkc hZ9.out).2 9
    have fz10 := (blkc hZ9.out).2 10
    go_wp2
    have B10 : (((((((((((wc.setCell ⟨w.heap.size + 1 + 1, 0, none⟩ (.slice g (n1 + 1) d)).setCell ⟨w.heap.size + 1 + 1, 1, none⟩ (.slice a2 0 c2)).setCell ⟨w.heap.size + 1 + 1, 2, none⟩ (.slice a3 n3 c3)).setCell ⟨w.heap.size + 1 + 1, 3, none⟩ (.slice a4 n4 c4)).setCell ⟨w.heap.size + 1 + 1, 4, none⟩ (.int .i64 i1)).setCell ⟨w.heap.size + 1 + 1, 5, none⟩ (.int .i64 i2)).setCell ⟨w.heap.size + 1 + 1, 6, none⟩ (.int .i64 i3)).setCell ⟨w.heap.size + 1 + 1, 7, none⟩ (.int .i64 i4)).setCell ⟨w.heap.size + 1 + 1, 8, none⟩ (.int .i64 i5)).setCell ⟨w.heap.size + 1 + 1, 9, none⟩ (.int .i64 i6)).setCell ⟨w.heap.size + 1 + 1, 10, none⟩ (.int .i64 i7)).heap[w.heap.size + 1 + 1]? = some (.cells #[.slice g (n1 + 1) d, .slice a2 0 c2, .slice a3 n3 c3, .slice a4 n4 c4, .int .i64 i1, .int .i64 i2, .int .i64 i3, .int .i64 i4, .int .i64 i5, .int .i64 i6, .int .i64 i7] 29 (0, 0)) := bput_new [.slice g (n1 + 1) d, .slice a2 0 c2, .slice a3 n3 c3, .slice a4 n4 c4, .int .i64 i1, .int .i64 i2, .int .i64 i3, .int .i64 i4, .int .i64 i5, .int .i64 i6, .int .i64 i7] hZ9.out rfl
    have hgr : wc.grownBy (((((((((((wc.setCell ⟨w.heap.size + 1 + 1, 0, none⟩ (.slice g (n1 + 1) d)).setCell ⟨w.heap.size + 1 + 1, 1, none⟩ (.slice a2 0 c2)).setCell ⟨w.heap.size + 1 + 1, 2, none⟩ (.slice a3 n3 c3)).setCell ⟨w.heap.size + 1 + 1, 3, none⟩ (.slice a4 n4 c4)).setCell ⟨w.heap.size + 1 + 1, 4, none⟩ (.int .i64 i1)).setCell ⟨w.heap.size + 1 + 1, 5, none⟩ (.int .i64 i2)).setCell ⟨w.heap.size + 1 + 1, 6, none⟩ (.int .i64 i3)).setCell ⟨w.heap.size + 1 + 1, 7, none⟩ (.int .i64 i4)).setCell ⟨w.heap.size + 1 + 1, 8, none⟩ (.int .i64 i5)).setCell ⟨w.heap.size + 1 + 1, 9, none⟩ (.int .i64 i6)).setCell ⟨w.heap.size + 1 + 1, 10, none⟩ (.int .i64 i7)) (some (w.heap.size + 1 + 1)) := turned_setL (w.heap.size + 1 + 1) [.slice g (n1 + 1) d, .slice a2 0 c2, .slice a3 n3 c3, .slice a4 n4 c4, .int .i64 i1, .int .i64 i2, .int .i64 i3, .int .i64 i4, .int .i64 i5, .int .i64 i6, .int .i64 i7] 0 wc
    have hbF := below_grownB hB9.out hgr hB9.out.size (fun q hq => by cases hq; omega)
    have u0 := (blkc B10).1 0
    have u1 := (blkc B10).1 1
    have u2 := (blkc B10).1 2
    have u3 := (blkc B10).1 3
    have u4 := (blkc B10).1 4
    have u5 := (blkc B10).1 5
    have u6 := (blkc B10).1 6
    have u7 := (blkc B10).1 7
    have u8 := (blkc B10).1 8
    have u9 := (blkc B10).1 9
    have u10 := (blkc B10).1 10
    refine bodyPost_ret (v := .tuple #[.agg #[.slice g (n1 + 1) d, .slice a2 0 c2, .slice a3 n3 c3, .slice a4 n4 c4, .int .i64 i1, .int .i64 i2, .int .i64 i3, .int .i64 i4, .int .i64 i5, .int .i64 i6, .int .i64 i7], .bool true]) (by simp [results, Tryz.results36, go_sem, u0, u1, u2, u3, u4, u5, u6, u7, u8, u9, u10]) rfl ⟨g, d, rfl, hd, (lowns_base (hO9.out.kept hgr (.inr (own_ne hO9.out (by have := HSZ.out; omega)).symm)) HU.out.size), hbF⟩

set_option maxRecDepth 100000 in
set_option maxHeartbeats 8000000 in
theorem rdo17_tab (ts : List Lv.T) (a1 : Option Addr) (n1 c1 : Nat) (a2 : Option Addr) (n2 c2 : Nat) (a3 : Option Addr) (n3 c3 : Nat) (a4 : Option Addr) (n4 c4 : Nat) (i1 i2 i3 i4 i5 i6 i7 : Int) (n9 i9 t9 a9 b9 c9 p9 q9 r9 : Int) (f9 g9 : ByteArray) (w : World) (hr : LRow w a3 n3 ts) (hn : n3 ≤ 1000) (hz : a3 = none → n3 = 0 ∧ c3 = 0) :
    Calls Tryz.prog 36 #[.agg #[.slice a1 n1 c1, .slice a2 n2 c2, .slice a3 n3 c3, .slice a4 n4 c4, .int .i64 i1, .int .i64 i2, .int .i64 i3, .int .i64 i4, .int .i64 i5, .int .i64 i6, .int .i64 i7], .agg #[.int .i64 4, .int .i64 n9, .int .i64 i9, .int .i64 t9, .int .i64 a9, .int .i64 b9, .int .i64 c9, .int .i64 p9, .int .i64 q9, .int .i64 r9, .string f9, .string g9]] w fun e w' => ∃ (g : Option Addr) (d : Nat), e = .returned (.tuple #[.agg #[.slice a1 n1 c1, .slice a2 n2 c2, .slice g (n3 + 1) d, .slice a4 n4 c4, .int .i64 i1, .int .i64 i2, .int .i64 i3, .int .i64 i4, .int .i64 i5, .int .i64 i6, .int .i64 i7], .bool true]) ∧ n3 + 1 ≤ d ∧ w'.ownsRow w.heap.size 44 5 (.slice g (n3 + 1) d) (n3 + 1) (tcells le (ts ++ [⟨p9, q9, r9, f9, g9⟩])) ∧ Below w.heap.size w w' := by
  obtain ⟨U, hU⟩ : ∃ U, U = ((w.alloc (.cells #[.slice a1 n1 c1, .slice a2 n2 c2, .slice a3 n3 c3, .slice a4 n4 c4, .int .i64 i1, .int .i64 i2, .int .i64 i3, .int .i64 i4, .int .i64 i5, .int .i64 i6, .int .i64 i7] 29)).alloc (oed 4 n9 i9 t9 a9 b9 c9 p9 q9 r9 f9 g9)).alloc (.cells #[.slice none 0 0, .slice none 0 0, .slice none 0 0, .slice none 0 0, .int .i64 0, .int .i64 0, .int .i64 0, .int .i64 0, .int .i64 0, .int .i64 0, .int .i64 0] 29) := ⟨_, rfl⟩
  have hbU : Below w.heap.size w U := by rw [hU]; exact (below_two _ _ _).alloc (below_two _ _ _).size _
  have e0 : U.heap[w.heap.size]? = some (.cells #[.slice a1 n1 c1, .slice a2 n2 c2, .slice a3 n3 c3, .slice a4 n4 c4, .int .i64 i1, .int .i64 i2, .int .i64 i3, .int .i64 i4, .int .i64 i5, .int .i64 i6, .int .i64 i7] 29 (0, 0)) := by
    rw [hU]; exact (Below.heap_alloc _ _ _ (by simp; omega)).trans ((Below.heap_alloc _ _ _ (by simp)).trans (heap_alloc_new _ _))
  have e1 : U.heap[w.heap.size + 1]? = some (oed 4 n9 i9 t9 a9 b9 c9 p9 q9 r9 f9 g9) := by
    have h1 := heap_alloc_new (w.alloc (.cells #[.slice a1 n1 c1, .slice a2 n2 c2, .slice a3 n3 c3, .slice a4 n4 c4, .int .i64 i1, .int .i64 i2, .int .i64 i3, .int .i64 i4, .int .i64 i5, .int .i64 i6, .int .i64 i7] 29)) (oed 4 n9 i9 t9 a9 b9 c9 p9 q9 r9 f9 g9)
    rw [World.size_alloc] at h1
    rw [hU]; exact (Below.heap_alloc _ _ _ (by simp)).trans h1
  have e2 : U.heap[w.heap.size + 1 + 1]? = some (.cells #[.slice none 0 0, .slice none 0 0, .slice none 0 0, .slice none 0 0, .int .i64 0, .int .i64 0, .int .i64 0, .int .i64 0, .int .i64 0, .int .i64 0, .int .i64 0] 29 (0, 0)) := by
    have h1 := heap_alloc_new ((w.alloc (.cells #[.slice a1 n1 c1, .slice a2 n2 c2, .slice a3 n3 c3, .slice a4 n4 c4, .int .i64 i1, .int .i64 i2, .int .i64 i3, .int .i64 i4, .int .i64 i5, .int .i64 i6, .int .i64 i7] 29)).alloc (oed 4 n9 i9 t9 a9 b9 c9 p9 q9 r9 f9 g9)) (.cells #[.slice none 0 0, .slice none 0 0, .slice none 0 0, .slice none 0 0, .int .i64 0, .int .i64 0, .int .i64 0, .int .i64 0, .int .i64 0, .int .i64 0, .int .i64 0] 29)
    rw [World.size_alloc, World.size_alloc] at h1
    rw [hU]; exact h1
  have HP : Hid (∀ W, Below U.heap.size U W → W.heap[w.heap.size]? = some (.cells #[.slice a1 n1 c1, .slice a2 n2 c2, .slice a3 n3 c3, .slice a4 n4 c4, .int .i64 i1, .int .i64 i2, .int .i64 i3, .int .i64 i4, .int .i64 i5, .int .i64 i6, .int .i64 i7] 29 (0, 0))) := (fun W hb => (hb.block _ (ob_ltB e0)).trans e0 : ∀ W, _ → _)
  have HE : Hid (∀ W, Below U.heap.size U W → W.heap[w.heap.size + 1]? = some (oed 4 n9 i9 t9 a9 b9 c9 p9 q9 r9 f9 g9)) := (fun W hb => (hb.block _ (ob_ltB e1)).trans e1 : ∀ W, _ → _)
  have HZ : Hid (∀ W, Below U.heap.size U W → W.heap[w.heap.size + 1 + 1]? = some (.cells #[.slice none 0 0, .slice none 0 0, .slice none 0 0, .slice none 0 0, .int .i64 0, .int .i64 0, .int .i64 0, .int .i64 0, .int .i64 0, .int .i64 0, .int .i64 0] 29 (0, 0))) := (fun W hb => (hb.block _ (ob_ltB e2)).trans e2 : ∀ W, _ → _)
  have HU : Hid (Below w.heap.size w U) := hbU
  have HSZ : Hid (U.heap.size = w.heap.size + 3) := (by rw [hU]; simp : _ = _)
  have hUe : ((w.alloc (.cells #[.slice a1 n1 c1, .slice a2 n2 c2, .slice a3 n3 c3, .slice a4 n4 c4, .int .i64 i1, .int .i64 i2, .int .i64 i3, .int .i64 i4, .int .i64 i5, .int .i64 i6, .int .i64 i7] 29)).alloc (oed 4 n9 i9 t9 a9 b9 c9 p9 q9 r9 f9 g9)).alloc (.cells #[.slice none 0 0, .slice none 0 0, .slice none 0 0, .slice none 0 0, .int .i64 0, .int .i64 0, .int .i64 0, .int .i64 0, .int .i64 0, .int .i64 0, .int .i64 0] 29) = U := hU.symm
  have x0 := (blkc e0).1 0
  have x1 := (blkc e0).1 1
  have x2 := (blkc e0).1 2
  have x3 := (blkc e0).1 3
  have x4 := (blkc e0).1 4
  have x5 := (blkc e0).1 5
  have x6 := (blkc e0).1 6
  have x7 := (blkc e0).1 7
  have x8 := (blkc e0).1 8
  have x9 := (blkc e0).1 9
  have x10 := (blkc e0).1 10
  have y0 := (blkc e1).1 0
  have y1 := (blkc e1).1 1
  have y2 := (blkc e1).1 2
  have y3 := (blkc e1).1 3
  have y4 := (blkc e1).1 4
  have y5 := (blkc e1).1 5
  have y6 := (blkc e1).1 6
  have y7 := (blkc e1).1 7
  have y8 := (blkc e1).1 8
  have y9 := (blkc e1).1 9
  have y10 := (blkc e1).1 10
  have y11 := (blkc e1).1 11
  clear hU hbU e0 e1 e2
  have hpe : ¬ (w.heap.size + 1 = w.heap.size) := by omega
  have hpe2 : ¬ (w.heap.size = w.heap.size + 1) := by omega
  have hpz : ¬ (w.heap.size + 1 + 1 = w.heap.size) := by omega
  have hpz2 : ¬ (w.heap.size = w.heap.size + 1 + 1) := by omega
  have hez : ¬ (w.heap.size + 1 = w.heap.size + 1 + 1) := by omega
  have HR : Hid (∀ W, Below U.heap.size U W → LRow W a3 n3 ts) := (fun W hb => hr.below (HU.out.trans (hb.mono HU.out.size)) (Nat.le_refl _) : ∀ W, _ → _)
  have HZN : Hid (a3 = none → n3 = 0 ∧ c3 = 0) := hz
  have hpl := rplace_no a1 n1 c1 a2 n2 c2 a3 n3 c3 a4 n4 c4 i1 i2 i3 i4 i5 i6 i7 4 n9 i9 t9 a9 b9 c9 p9 q9 r9 f9 g9 U (by decide) (by decide) (by decide) (by decide)
  clear hr hz
  go_enter Tryz.func36, Tryz.ntmps36
  go_upto_region 8 with (first
    | (go_at_call 81; go_must (refine hpl.mono ?_; rintro e v1 ⟨rfl, b1⟩; clear x0 x1 x2 x3 x4 x5 x6 x7 x8 x9 x10 y0 y1 y2 y3 y4 y5 y6 y7 y8 y9 y10 y11; have hp := HP.out v1 b1; have x0 := (blkc hp).1 0; have x1 := (blkc hp).1 1; have x2 := (blkc hp).1 2; have x3 := (blkc hp).1 3; have x4 := (blkc hp).1 4; have x5 := (blkc hp).1 5; have x6 := (blkc hp).1 6; have x7 := (blkc hp).1 7; have x8 := (blkc hp).1 8; have x9 := (blkc hp).1 9; have x10 := (blkc hp).1 10; clear hp; have y0 := (blkc (HE.out v1 b1)).1 0; have y1 := (blkc (HE.out v1 b1)).1 1; have y2 := (blkc (HE.out v1 b1)).1 2; have y3 := (blkc (HE.out v1 b1)).1 3; have y4 := (blkc (HE.out v1 b1)).1 4; have y5 := (blkc (HE.out v1 b1)).1 5; have y6 := (blkc (HE.out v1 b1)).1 6; have y7 := (blkc (HE.out v1 b1)).1 7; have y8 := (blkc (HE.out v1 b1)).1 8; have y9 := (blkc (HE.out v1 b1)).1 9; have y10 := (blkc (HE.out v1 b1)).1 10; have y11 := (blkc (HE.out v1 b1)).1 11)))
  obtain ⟨v2, rfl⟩ : ∃ v2, v2 = v1 := ⟨_, rfl⟩; have b2 := b1
  clear hUe
  have b2d : Below U.heap.size U v2.drew := b2.drew
  clear hpl
  go_cut [] (fun wx => ∃ (g : Option Addr) (d : Nat), n3 + 1 ≤ d ∧ Hid (wx.heap[w.heap.size]? = some (.cells #[.slice a1 n1 c1, .slice a2 n2 c2, .slice g (n3 + 1) d, .slice a4 n4 c4, .int .i64 i1, .int .i64 i2, .int .i64 i3, .int .i64 i4, .int .i64 i5, .int .i64 i6, .int .i64 i7] 29 (0, 0))) ∧ Hid (wx.heap[w.heap.size + 1 + 1]? = some (.cells #[.slice none 0 0, .slice none 0 0, .slice none 0 0, .slice none 0 0, .int .i64 0, .int .i64 0, .int .i64 0, .int .i64 0, .int .i64 0, .int .i64 0, .int .i64 0] 29 (0, 0))) ∧ Hid (wx.ownsRow U.heap.size 44 5 (.slice g (n3 + 1) d) (n3 + 1) (tcells le (ts ++ [⟨p9, q9, r9, f9, g9⟩]))) ∧ Hid (Below w.heap.size w wx))
  case first =>
    have xx := (blkc (HP.out v2 b2)).1 2
    refine wp_region_held_drew (S := (fun W => W.cell? ⟨w.heap.size + 1, 7, none⟩ = some (.int .i64 p9) ∧ W.cell? ⟨w.heap.size + 1, 8, none⟩ = some (.int .i64 q9) ∧ W.cell? ⟨w.heap.size + 1, 9, none⟩ = some (.int .i64 r9) ∧ W.cell? ⟨w.heap.size + 1, 10, none⟩ = some (.string f9) ∧ W.cell? ⟨w.heap.size + 1, 11, none⟩ = some (.string g9))) (by kernel_rfl) ⟨(blkc (HE.out _ b2d)).1 7, (blkc (HE.out _ b2d)).1 8, (blkc (HE.out _ b2d)).1 9, (blkc (HE.out _ b2d)).1 10, (blkc (HE.out _ b2d)).1 11⟩ (fun hHeld => ?_)
    refine wpAnyH_take (i := 1) (oi := ⟨some 35, _, _, _, _, _⟩) (v := ?_) rfl (by kernel_rfl) (by kernel_rfl) (by kernel_rfl) (fun _ _ _ h => h) (Or.inl ⟨by rfl, ?_⟩) (by assumption) ?_
    rotate_left
    · intro w hSw; (try dsimp only at hSw); go_simp <;> (try with_reducible rfl)
    go_frame
    refine wpAnyH_take (i := 4) (oi := ⟨some 38, _, _, _, _, _⟩) (v := ?_) rfl (by kernel_rfl) (by kernel_rfl) (by kernel_rfl) (fun _ _ _ h => h) (Or.inl ⟨by rfl, ?_⟩) (by assumption) ?_
    rotate_left
    · intro w hSw; (try dsimp only at hSw); go_simp <;> (try with_reducible rfl)
    go_frame
    refine wpAnyH_take (i := 5) (oi := ⟨some 39, _, _, _, _, _⟩) (v := ?_) rfl (by kernel_rfl) (by kernel_rfl) (by kernel_rfl) (fun _ _ _ h => h) (Or.inl ⟨by rfl, ?_⟩) (by assumption) ?_
    rotate_left
    · intro w hSw; (try dsimp only at hSw); go_simp <;> (try with_reducible rfl)
    go_frame
    refine wpAnyH_ready (rs := [0, 2, 6]) (by kernel_rfl) (by simp) ?_
    refine AllReadyH.cons rfl (fun K hK => ?_) (AllReadyH.cons rfl (fun K hK => ?_) (AllReadyH.cons rfl (fun K hK => ?_) AllReadyH.nil))
    · skip
      go_simp
      refine hK.out _ _ ⟨(blkc (HE.out _ ((b2.alloc b2.size (.cells #[] 44)).drew))).1 7, (blkc (HE.out _ ((b2.alloc b2.size (.cells #[] 44)).drew))).1 8, (blkc (HE.out _ ((b2.alloc b2.size (.cells #[] 44)).drew))).1 9, (blkc (HE.out _ ((b2.alloc b2.size (.cells #[] 44)).drew))).1 10, (blkc (HE.out _ ((b2.alloc b2.size (.cells #[] 44)).drew))).1 11⟩ (fun hHeld => ?_)
      clear hK K
      have bm1 : Below U.heap.size U (v2.alloc (.cells #[] 44)).drew := (b2.alloc b2.size _).drew
      have mm1 : (v2.alloc (.cells #[] 44)).drew.ownsRow U.heap.size 44 5 (.slice (some ⟨v2.heap.size, 0, none⟩) 0 0) 0 (tcells le []) := owns_drew (made_t (s := 5) (enc := le) v2 b2.size rfl)
      refine wpAnyH_ready (rs := [2, 6]) (by kernel_rfl) (by simp) ?_
      refine AllReadyH.cons rfl (fun K hK => ?_) (AllReadyH.cons rfl (fun K hK => ?_) AllReadyH.nil)
      · skip
        have xb : (v2.alloc (.cells #[] 44)).cell? ⟨w.heap.size, 2, none⟩ = some (.slice a3 n3 c3) := (blkc (HP.out (v2.alloc (.cells #[] 44)).drew bm1)).1 2; go_simp
        refine hK.out _ _ ⟨(blkc (HE.out _ bm1)).1 7, (blkc (HE.out _ bm1)).1 8, (blkc (HE.out _ bm1)).1 9, (blkc (HE.out _ bm1)).1 10, (blkc (HE.out _ bm1)).1 11⟩ (fun hHeld => ?_)
        clear hK K
        try go_frame
        refine wpAnyH_ready (rs := [3, 6]) (by kernel_rfl) (by simp) ?_
        refine AllReadyH.cons rfl (fun K hK => ?_) (AllReadyH.cons rfl (fun K hK => ?_) AllReadyH.nil)
        · skip
          refine step_tg (d := Lv.zero) tabE leE (w0 := U) (B := U.heap.size) (by rfl) _ _ (by rfl) _ 0 [] (by rfl) mm1 a3 n3 c3 ts (by rfl) (HR.out _ bm1) HZN.out (by omega) bm1 bm1.size ?_; intro a6 c6 w6 hg6 hc6 hn6 hown6 hb6; rw [Nat.zero_add] at hown6 hc6 hn6 ⊢; rw [List.nil_append] at hown6
          refine hK.out _ _ ⟨(blkc (HE.out _ hb6)).1 7, (blkc (HE.out _ hb6)).1 8, (blkc (HE.out _ hb6)).1 9, (blkc (HE.out _ hb6)).1 10, (blkc (HE.out _ hb6)).1 11⟩ (fun hHeld => ?_)
          clear hK K
          try go_frame
          refine wpAnyH_ready (rs := [6]) (by kernel_rfl) (by simp) ?_
          refine AllReadyH.cons rfl (fun K hK => ?_) AllReadyH.nil
          go_simp
          refine hK.out _ _ ⟨(blkc (HE.out _ (hb6.alloc hb6.size (.cells #[.int .i64 p9, .int .i64 q9, .int .i64 r9, .string f9, .string g9] 44)))).1 7, (blkc (HE.out _ (hb6.alloc hb6.size (.cells #[.int .i64 p9, .int .i64 q9, .int .i64 r9, .string f9, .string g9] 44)))).1 8, (blkc (HE.out _ (hb6.alloc hb6.size (.cells #[.int .i64 p9, .int .i64 q9, .int .i64 r9, .string f9, .string g9] 44)))).1 9, (blkc (HE.out _ (hb6.alloc hb6.size (.cells #[.int .i64 p9, .int .i64 q9, .int .i64 r9, .string f9, .string g9] 44)))).1 10, (blkc (HE.out _ (hb6.alloc hb6.size (.cells #[.int .i64 p9, .int .i64 q9, .int .i64 r9, .string f9, .string g9] 44)))).1 11⟩ (fun hHeld => ?_)
          clear hK K
          have bl3 : Below U.heap.size U (w6.alloc (.cells #[.int .i64 p9, .int .i64 q9, .int .i64 r9, .string f9, .string g9] 44)) := hb6.alloc hb6.size _
          have oo3 := hown6.alloc (.cells #[.int .i64 p9, .int .i64 q9, .int .i64 r9, .string f9, .string g9] 44)
          have ll3 := heap_alloc_new w6 (.cells #[.int .i64 p9, .int .i64 q9, .int .i64 r9, .string f9, .string g9] 44)
          refine wpAnyH_ready (rs := [7]) (by kernel_rfl) (by simp) ?_
          refine AllReadyH.cons rfl (fun K hK => ?_) AllReadyH.nil
          refine step_tg (d := Lv.zero) tabE leE (w0 := U) (B := U.heap.size) (by rfl) _ _ (by rfl) _ n3 ts (by rfl) oo3 (some ⟨w6.heap.size, 0, none⟩) 1 1 [⟨p9, q9, r9, f9, g9⟩] (by rfl) (lit_of ll3 (fun j v hj => by match j, hj with | 0, hj | 1, hj | 2, hj | 3, hj | 4, hj => exact hj | j + 5, hj => simp [le] at hj)) (fun h => by cases h) (by omega) bl3 bl3.size ?_; intro a8 c8 w8 hg8 hc8 hn8 hown8 hb8; have hP8 := HP.out w8 hb8; have zc := (blkc hP8).1 2; have zf := (blkc hP8).2 2
          refine hK.out _ _ ⟨(blkc (HE.out _ hb8)).1 7, (blkc (HE.out _ hb8)).1 8, (blkc (HE.out _ hb8)).1 9, (blkc (HE.out _ hb8)).1 10, (blkc (HE.out _ hb8)).1 11⟩ (fun hHeld => ?_)
          clear hK K
          try go_frame
          refine wpAnyH_take (i := 8) (oi := ⟨some 42, _, _, _, _, _⟩) (v := ?_) rfl (by kernel_rfl) (by kernel_rfl) (by kernel_rfl) (fun _ _ _ h => h) (Or.inl ⟨by rfl, ?_⟩) (by assumption) ?_
          rotate_left
          · intro w hSw; (try dsimp only at hSw); go_simp <;> (try with_reducible rfl)
          go_frame
          refine wpAnyH_ready (rs := [9]) (by kernel_rfl) (by simp) ?_
          refine AllReadyH.cons rfl (fun K hK => ?_) AllReadyH.nil
          go_simp
          refine hK.out _ _ ⟨(World.cell?_setCell_other _ _ _ _ (fun e => hpe2 (Addr.mk.inj e).1)).trans ((blkc (HE.out w8 hb8)).1 7), (World.cell?_setCell_other _ _ _ _ (fun e => hpe2 (Addr.mk.inj e).1)).trans ((blkc (HE.out w8 hb8)).1 8), (World.cell?_setCell_other _ _ _ _ (fun e => hpe2 (Addr.mk.inj e).1)).trans ((blkc (HE.out w8 hb8)).1 9), (World.cell?_setCell_other _ _ _ _ (fun e => hpe2 (Addr.mk.inj e).1)).trans ((blkc (HE.out w8 hb8)).1 10), (World.cell?_setCell_other _ _ _ _ (fun e => hpe2 (Addr.mk.inj e).1)).trans ((blkc (HE.out w8 hb8)).1 11)⟩ (fun hHeld => ?_)
          clear hK K
          refine wpAnyH_done (by kernel_rfl) ?_ _
          have hg9 : w8.grownBy (w8.setCell ⟨w.heap.size, 2, none⟩ (.slice a8 (n3 + 1) c8)) (some (w.heap.size)) := turned_setL (w.heap.size) [.slice a8 (n3 + 1) c8] 2 w8
          go_wp2_with fail
          go_meet
          case rel => exact ⟨a8, c8, hc8, bput hP8 _ rfl, (hg9.block _ (ob_ltB (HZ.out w8 hb8)) (fun e => hpz (Option.some.inj e))).trans (HZ.out w8 hb8), hown8.kept hg9 (.inr (own_ne hown8 (by have := HSZ.out; omega)).symm), below_grownB (HU.out.trans (hb8.mono HU.out.size)) hg9 (HU.out.trans (hb8.mono HU.out.size)).size (fun q hq => by cases hq; exact Nat.le_refl _)⟩
        · skip
          go_simp
          refine hK.out _ _ ⟨(blkc (HE.out _ (((b2.alloc b2.size (.cells #[] 44)).alloc (b2.alloc b2.size (.cells #[] 44)).size (.cells #[.int .i64 p9, .int .i64 q9, .int .i64 r9, .string f9, .string g9] 44)).drew))).1 7, (blkc (HE.out _ (((b2.alloc b2.size (.cells #[] 44)).alloc (b2.alloc b2.size (.cells #[] 44)).size (.cells #[.int .i64 p9, .int .i64 q9, .int .i64 r9, .string f9, .string g9] 44)).drew))).1 8, (blkc (HE.out _ (((b2.alloc b2.size (.cells #[] 44)).alloc (b2.alloc b2.size (.cells #[] 44)).size (.cells #[.int .i64 p9, .int .i64 q9, .int .i64 r9, .string f9, .string g9] 44)).drew))).1 9, (blkc (HE.out _ (((b2.alloc b2.size (.cells #[] 44)).alloc (b2.alloc b2.size (.cells #[] 44)).size (.cells #[.int .i64 p9, .int .i64 q9, .int .i64 r9, .string f9, .string g9] 44)).drew))).1 10, (blkc (HE.out _ (((b2.alloc b2.size (.cells #[] 44)).alloc (b2.alloc b2.size (.cells #[] 44)).size (.cells #[.int .i64 p9, .int .i64 q9, .int .i64 r9, .string f9, .string g9] 44)).drew))).1 11⟩ (fun hHeld => ?_)
          clear hK K
          have bl2 : Below U.heap.size U ((v2.alloc (.cells #[] 44)).alloc (.cells #[.int .i64 p9, .int .i64 q9, .int .i64 r9, .string f9, .string g9] 44)).drew := ((b2.alloc b2.size _).alloc (b2.alloc b2.size _).size _).drew
          have mm2 : ((v2.alloc (.cells #[] 44)).alloc (.cells #[.int .i64 p9, .int .i64 q9, .int .i64 r9, .string f9, .string g9] 44)).drew.ownsRow U.heap.size 44 5 (.slice (some ⟨v2.heap.size, 0, none⟩) 0 0) 0 (tcells le []) := owns_drew ((made_t (s := 5) (enc := le) v2 b2.size rfl).alloc _)
          have ll2 : ((v2.alloc (.cells #[] 44)).alloc (.cells #[.int .i64 p9, .int .i64 q9, .int .i64 r9, .string f9, .string g9] 44)).drew.heap[v2.heap.size + 1]? = some (.cells #[.int .i64 p9, .int .i64 q9, .int .i64 r9, .string f9, .string g9] 44 (0, 0)) := by have := heap_alloc_new (v2.alloc (.cells #[] 44)) (.cells #[.int .i64 p9, .int .i64 q9, .int .i64 r9, .string f9, .string g9] 44); rwa [World.size_alloc] at this
          refine wpAnyH_ready (rs := [3]) (by kernel_rfl) (by simp) ?_
          refine AllReadyH.cons rfl (fun K hK => ?_) AllReadyH.nil
          refine step_tg (d := Lv.zero) tabE leE (w0 := U) (B := U.heap.size) (by rfl) _ _ (by rfl) _ 0 [] (by rfl) mm2 a3 n3 c3 ts (by rfl) (HR.out _ bl2) HZN.out (by omega) bl2 bl2.size ?_; intro a6 c6 w6 hg6 hc6 hn6 hown6 hb6; rw [Nat.zero_add] at hown6 hc6 hn6 ⊢; rw [List.nil_append] at hown6; have ll6 := (hg6.block _ (ob_ltB ll2) (fun e => by have e2 := Option.some.inj e; dsimp only at e2; omega)).trans ll2
          refine hK.out _ _ ⟨(blkc (HE.out _ hb6)).1 7, (blkc (HE.out _ hb6)).1 8, (blkc (HE.out _ hb6)).1 9, (blkc (HE.out _ hb6)).1 10, (blkc (HE.out _ hb6)).1 11⟩ (fun hHeld => ?_)
          clear hK K
          try go_frame
          refine wpAnyH_ready (rs := [7]) (by kernel_rfl) (by simp) ?_
          refine AllReadyH.cons rfl (fun K hK => ?_) AllReadyH.nil
          refine step_tg (d := Lv.zero) tabE leE (w0 := U) (B := U.heap.size) (by rfl) _ _ (by rfl) _ n3 ts (by rfl) hown6 (some ⟨v2.heap.size + 1, 0, none⟩) 1 1 [⟨p9, q9, r9, f9, g9⟩] (by rfl) (lit_of ll6 (fun j v hj => by match j, hj with | 0, hj | 1, hj | 2, hj | 3, hj | 4, hj => exact hj | j + 5, hj => simp [le] at hj)) (fun h => by cases h) (by omega) hb6 hb6.size ?_; intro a8 c8 w8 hg8 hc8 hn8 hown8 hb8; have hP8 := HP.out w8 hb8; have zc := (blkc hP8).1 2; have zf := (blkc hP8).2 2
          refine hK.out _ _ ⟨(blkc (HE.out _ hb8)).1 7, (blkc (HE.out _ hb8)).1 8, (blkc (HE.out _ hb8)).1 9, (blkc (HE.out _ hb8)).1 10, (blkc (HE.out _ hb8)).1 11⟩ (fun hHeld => ?_)
          clear hK K
          try go_frame
          refine wpAnyH_take (i := 8) (oi := ⟨some 42, _, _, _, _, _⟩) (v := ?_) rfl (by kernel_rfl) (by kernel_rfl) (by kernel_rfl) (fun _ _ _ h => h) (Or.inl ⟨by rfl, ?_⟩) (by assumption) ?_
          rotate_left
          · intro w hSw; (try dsimp only at hSw); go_simp <;> (try with_reducible rfl)
          go_frame
          refine wpAnyH_ready (rs := [9]) (by kernel_rfl) (by simp) ?_
          refine AllReadyH.cons rfl (fun K hK => ?_) AllReadyH.nil
          go_simp
          refine hK.out _ _ ⟨(World.cell?_setCell_other _ _ _ _ (fun e => hpe2 (Addr.mk.inj e).1)).trans ((blkc (HE.out w8 hb8)).1 7), (World.cell?_setCell_other _ _ _ _ (fun e => hpe2 (Addr.mk.inj e).1)).trans ((blkc (HE.out w8 hb8)).1 8), (World.cell?_setCell_other _ _ _ _ (fun e => hpe2 (Addr.mk.inj e).1)).trans ((blkc (HE.out w8 hb8)).1 9), (World.cell?_setCell_other _ _ _ _ (fun e => hpe2 (Addr.mk.inj e).1)).trans ((blkc (HE.out w8 hb8)).1 10), (World.cell?_setCell_other _ _ _ _ (fun e => hpe2 (Addr.mk.inj e).1)).trans ((blkc (HE.out w8 hb8)).1 11)⟩ (fun hHeld => ?_)
          clear hK K
          refine wpAnyH_done (by kernel_rfl) ?_ _
          have hg9 : w8.grownBy (w8.setCell ⟨w.heap.size, 2, none⟩ (.slice a8 (n3 + 1) c8)) (some (w.heap.size)) := turned_setL (w.heap.size) [.slice a8 (n3 + 1) c8] 2 w8
          go_wp2_with fail
          go_meet
          case rel => exact ⟨a8, c8, hc8, bput hP8 _ rfl, (hg9.block _ (ob_ltB (HZ.out w8 hb8)) (fun e => hpz (Option.some.inj e))).trans (HZ.out w8 hb8), hown8.kept hg9 (.inr (own_ne hown8 (by have := HSZ.out; omega)).symm), below_grownB (HU.out.trans (hb8.mono HU.out.size)) hg9 (HU.out.trans (hb8.mono HU.out.size)).size (fun q hq => by cases hq; exact Nat.le_refl _)⟩
      · skip
        go_simp
        refine hK.out _ _ ⟨(blkc (HE.out _ (((b2.alloc b2.size (.cells #[] 44)).alloc (b2.alloc b2.size (.cells #[] 44)).size (.cells #[.int .i64 p9, .int .i64 q9, .int .i64 r9, .string f9, .string g9] 44)).drew))).1 7, (blkc (HE.out _ (((b2.alloc b2.size (.cells #[] 44)).alloc (b2.alloc b2.size (.cells #[] 44)).size (.cells #[.int .i64 p9, .int .i64 q9, .int .i64 r9, .string f9, .string g9] 44)).drew))).1 8, (blkc (HE.out _ (((b2.alloc b2.size (.cells #[] 44)).alloc (b2.alloc b2.size (.cells #[] 44)).size (.cells #[.int .i64 p9, .int .i64 q9, .int .i64 r9, .string f9, .string g9] 44)).drew))).1 9, (blkc (HE.out _ (((b2.alloc b2.size (.cells #[] 44)).alloc (b2.alloc b2.size (.cells #[] 44)).size (.cells #[.int .i64 p9, .int .i64 q9, .int .i64 r9, .string f9, .string g9] 44)).drew))).1 10, (blkc (HE.out _ (((b2.alloc b2.size (.cells #[] 44)).alloc (b2.alloc b2.size (.cells #[] 44)).size (.cells #[.int .i64 p9, .int .i64 q9, .int .i64 r9, .string f9, .string g9] 44)).drew))).1 11⟩ (fun hHeld => ?_)
        clear hK K
        have bl2 : Below U.heap.size U ((v2.alloc (.cells #[] 44)).alloc (.cells #[.int .i64 p9, .int .i64 q9, .int .i64 r9, .string f9, .string g9] 44)).drew := ((b2.alloc b2.size _).alloc (b2.alloc b2.size _).size _).drew
        have mm2 : ((v2.alloc (.cells #[] 44)).alloc (.cells #[.int .i64 p9, .int .i64 q9, .int .i64 r9, .string f9, .string g9] 44)).drew.ownsRow U.heap.size 44 5 (.slice (some ⟨v2.heap.size, 0, none⟩) 0 0) 0 (tcells le []) := owns_drew ((made_t (s := 5) (enc := le) v2 b2.size rfl).alloc _)
        have ll2 : ((v2.alloc (.cells #[] 44)).alloc (.cells #[.int .i64 p9, .int .i64 q9, .int .i64 r9, .string f9, .string g9] 44)).drew.heap[v2.heap.size + 1]? = some (.cells #[.int .i64 p9, .int .i64 q9, .int .i64 r9, .string f9, .string g9] 44 (0, 0)) := by have := heap_alloc_new (v2.alloc (.cells #[] 44)) (.cells #[.int .i64 p9, .int .i64 q9, .int .i64 r9, .string f9, .string g9] 44); rwa [World.size_alloc] at this
        refine wpAnyH_ready (rs := [2]) (by kernel_rfl) (by simp) ?_
        refine AllReadyH.cons rfl (fun K hK => ?_) AllReadyH.nil
        have xb : ((v2.alloc (.cells #[] 44)).alloc (.cells #[.int .i64 p9, .int .i64 q9, .int .i64 r9, .string f9, .string g9] 44)).cell? ⟨w.heap.size, 2, none⟩ = some (.slice a3 n3 c3) := (blkc (HP.out ((v2.alloc (.cells #[] 44)).alloc (.cells #[.int .i64 p9, .int .i64 q9, .int .i64 r9, .string f9, .string g9] 44)).drew bl2)).1 2; go_simp
        refine hK.out _ _ ⟨(blkc (HE.out _ bl2)).1 7, (blkc (HE.out _ bl2)).1 8, (blkc (HE.out _ bl2)).1 9, (blkc (HE.out _ bl2)).1 10, (blkc (HE.out _ bl2)).1 11⟩ (fun hHeld => ?_)
        clear hK K
        try go_frame
        refine wpAnyH_ready (rs := [3]) (by kernel_rfl) (by simp) ?_
        refine AllReadyH.cons rfl (fun K hK => ?_) AllReadyH.nil
        refine step_tg (d := Lv.zero) tabE leE (w0 := U) (B := U.heap.size) (by rfl) _ _ (by rfl) _ 0 [] (by rfl) mm2 a3 n3 c3 ts (by rfl) (HR.out _ bl2) HZN.out (by omega) bl2 bl2.size ?_; intro a6 c6 w6 hg6 hc6 hn6 hown6 hb6; rw [Nat.zero_add] at hown6 hc6 hn6 ⊢; rw [List.nil_append] at hown6; have ll6 := (hg6.block _ (ob_ltB ll2) (fun e => by have e2 := Option.some.inj e; dsimp only at e2; omega)).trans ll2
        refine hK.out _ _ ⟨(blkc (HE.out _ hb6)).1 7, (blkc (HE.out _ hb6)).1 8, (blkc (HE.out _ hb6)).1 9, (blkc (HE.out _ hb6)).1 10, (blkc (HE.out _ hb6)).1 11⟩ (fun hHeld => ?_)
        clear hK K
        try go_frame
        refine wpAnyH_ready (rs := [7]) (by kernel_rfl) (by simp) ?_
        refine AllReadyH.cons rfl (fun K hK => ?_) AllReadyH.nil
        refine step_tg (d := Lv.zero) tabE leE (w0 := U) (B := U.heap.size) (by rfl) _ _ (by rfl) _ n3 ts (by rfl) hown6 (some ⟨v2.heap.size + 1, 0, none⟩) 1 1 [⟨p9, q9, r9, f9, g9⟩] (by rfl) (lit_of ll6 (fun j v hj => by match j, hj with | 0, hj | 1, hj | 2, hj | 3, hj | 4, hj => exact hj | j + 5, hj => simp [le] at hj)) (fun h => by cases h) (by omega) hb6 hb6.size ?_; intro a8 c8 w8 hg8 hc8 hn8 hown8 hb8; have hP8 := HP.out w8 hb8; have zc := (blkc hP8).1 2; have zf := (blkc hP8).2 2
        refine hK.out _ _ ⟨(blkc (HE.out _ hb8)).1 7, (blkc (HE.out _ hb8)).1 8, (blkc (HE.out _ hb8)).1 9, (blkc (HE.out _ hb8)).1 10, (blkc (HE.out _ hb8)).1 11⟩ (fun hHeld => ?_)
        clear hK K
        try go_frame
        refine wpAnyH_take (i := 8) (oi := ⟨some 42, _, _, _, _, _⟩) (v := ?_) rfl (by kernel_rfl) (by kernel_rfl) (by kernel_rfl) (fun _ _ _ h => h) (Or.inl ⟨by rfl, ?_⟩) (by assumption) ?_
        rotate_left
        · intro w hSw; (try dsimp only at hSw); go_simp <;> (try with_reducible rfl)
        go_frame
        refine wpAnyH_ready (rs := [9]) (by kernel_rfl) (by simp) ?_
        refine AllReadyH.cons rfl (fun K hK => ?_) AllReadyH.nil
        go_simp
        refine hK.out _ _ ⟨(World.cell?_setCell_other _ _ _ _ (fun e => hpe2 (Addr.mk.inj e).1)).trans ((blkc (HE.out w8 hb8)).1 7), (World.cell?_setCell_other _ _ _ _ (fun e => hpe2 (Addr.mk.inj e).1)).trans ((blkc (HE.out w8 hb8)).1 8), (World.cell?_setCell_other _ _ _ _ (fun e => hpe2 (Addr.mk.inj e).1)).trans ((blkc (HE.out w8 hb8)).1 9), (World.cell?_setCell_other _ _ _ _ (fun e => hpe2 (Addr.mk.inj e).1)).trans ((blkc (HE.out w8 hb8)).1 10), (World.cell?_setCell_other _ _ _ _ (fun e => hpe2 (Addr.mk.inj e).1)).trans ((blkc (HE.out w8 hb8)).1 11)⟩ (fun hHeld => ?_)
        clear hK K
        refine wpAnyH_done (by kernel_rfl) ?_ _
        have hg9 : w8.grownBy (w8.setCell ⟨w.heap.size, 2, none⟩ (.slice a8 (n3 + 1) c8)) (some (w.heap.size)) := turned_setL (w.heap.size) [.slice a8 (n3 + 1) c8] 2 w8
        go_wp2_with fail
        go_meet
        case rel => exact ⟨a8, c8, hc8, bput hP8 _ rfl, (hg9.block _ (ob_ltB (HZ.out w8 hb8)) (fun e => hpz (Option.some.inj e))).trans (HZ.out w8 hb8), hown8.kept hg9 (.inr (own_ne hown8 (by have := HSZ.out; omega)).symm), below_grownB (HU.out.trans (hb8.mono HU.out.size)) hg9 (HU.out.trans (hb8.mono HU.out.size)).size (fun q hq => by cases hq; exact Nat.le_refl _)⟩
    · skip
      have xb : v2.cell? ⟨w.heap.size, 2, none⟩ = some (.slice a3 n3 c3) := (blkc (HP.out v2.drew b2d)).1 2; go_simp
      refine hK.out _ _ ⟨(blkc (HE.out _ b2d)).1 7, (blkc (HE.out _ b2d)).1 8, (blkc (HE.out _ b2d)).1 9, (blkc (HE.out _ b2d)).1 10, (blkc (HE.out _ b2d)).1 11⟩ (fun hHeld => ?_)
      clear hK K
      try go_frame
      refine wpAnyH_ready (rs := [0, 6]) (by kernel_rfl) (by simp) ?_
      refine AllReadyH.cons rfl (fun K hK => ?_) (AllReadyH.cons rfl (fun K hK => ?_) AllReadyH.nil)
      · skip
        go_simp
        refine hK.out _ _ ⟨(blkc (HE.out _ ((b2.alloc b2.size (.cells #[] 44)).drew))).1 7, (blkc (HE.out _ ((b2.alloc b2.size (.cells #[] 44)).drew))).1 8, (blkc (HE.out _ ((b2.alloc b2.size (.cells #[] 44)).drew))).1 9, (blkc (HE.out _ ((b2.alloc b2.size (.cells #[] 44)).drew))).1 10, (blkc (HE.out _ ((b2.alloc b2.size (.cells #[] 44)).drew))).1 11⟩ (fun hHeld => ?_)
        clear hK K
        have bm1 : Below U.heap.size U (v2.alloc (.cells #[] 44)).drew := (b2.alloc b2.size _).drew
        have mm1 : (v2.alloc (.cells #[] 44)).drew.ownsRow U.heap.size 44 5 (.slice (some ⟨v2.heap.size, 0, none⟩) 0 0) 0 (tcells le []) := owns_drew (made_t (s := 5) (enc := le) v2 b2.size rfl)
        refine wpAnyH_ready (rs := [3, 6]) (by kernel_rfl) (by simp) ?_
        refine AllReadyH.cons rfl (fun K hK => ?_) (AllReadyH.cons rfl (fun K hK => ?_) AllReadyH.nil)
        · skip
          refine step_tg (d := Lv.zero) tabE leE (w0 := U) (B := U.heap.size) (by rfl) _ _ (by rfl) _ 0 [] (by rfl) mm1 a3 n3 c3 ts (by rfl) (HR.out _ bm1) HZN.out (by omega) bm1 bm1.size ?_; intro a6 c6 w6 hg6 hc6 hn6 hown6 hb6; rw [Nat.zero_add] at hown6 hc6 hn6 ⊢; rw [List.nil_append] at hown6
          refine hK.out _ _ ⟨(blkc (HE.out _ hb6)).1 7, (blkc (HE.out _ hb6)).1 8, (blkc (HE.out _ hb6)).1 9, (blkc (HE.out _ hb6)).1 10, (blkc (HE.out _ hb6)).1 11⟩ (fun hHeld => ?_)
          clear hK K
          try go_frame
          refine wpAnyH_ready (rs := [6]) (by kernel_rfl) (by simp) ?_
          refine AllReadyH.cons rfl (fun K hK => ?_) AllReadyH.nil
          go_simp
          refine hK.out _ _ ⟨(blkc (HE.out _ (hb6.alloc hb6.size (.cells #[.int .i64 p9, .int .i64 q9, .int .i64 r9, .string f9, .string g9] 44)))).1 7, (blkc (HE.out _ (hb6.alloc hb6.size (.cells #[.int .i64 p9, .int .i64 q9, .int .i64 r9, .string f9, .string g9] 44)))).1 8, (blkc (HE.out _ (hb6.alloc hb6.size (.cells #[.int .i64 p9, .int .i64 q9, .int .i64 r9, .string f9, .string g9] 44)))).1 9, (blkc (HE.out _ (hb6.alloc hb6.size (.cells #[.int .i64 p9, .int .i64 q9, .int .i64 r9, .string f9, .string g9] 44)))).1 10, (blkc (HE.out _ (hb6.alloc hb6.size (.cells #[.int .i64 p9, .int .i64 q9, .int .i64 r9, .string f9, .string g9] 44)))).1 11⟩ (fun hHeld => ?_)
          clear hK K
          have bl3 : Below U.heap.size U (w6.alloc (.cells #[.int .i64 p9, .int .i64 q9, .int .i64 r9, .string f9, .string g9] 44)) := hb6.alloc hb6.size _
          have oo3 := hown6.alloc (.cells #[.int .i64 p9, .int .i64 q9, .int .i64 r9, .string f9, .string g9] 44)
          have ll3 := heap_alloc_new w6 (.cells #[.int .i64 p9, .int .i64 q9, .int .i64 r9, .string f9, .string g9] 44)
          refine wpAnyH_ready (rs := [7]) (by kernel_rfl) (by simp) ?_
          refine AllReadyH.cons rfl (fun K hK => ?_) AllReadyH.nil
          refine step_tg (d := Lv.zero) tabE leE (w0 := U) (B := U.heap.size) (by rfl) _ _ (by rfl) _ n3 ts (by rfl) oo3 (some ⟨w6.heap.size, 0, none⟩) 1 1 [⟨p9, q9, r9, f9, g9⟩] (by rfl) (lit_of ll3 (fun j v hj => by match j, hj with | 0, hj | 1, hj | 2, hj | 3, hj | 4, hj => exact hj | j + 5, hj => simp [le] at hj)) (fun h => by cases h) (by omega) bl3 bl3.size ?_; intro a8 c8 w8 hg8 hc8 hn8 hown8 hb8; have hP8 := HP.out w8 hb8; have zc := (blkc hP8).1 2; have zf := (blkc hP8).2 2
          refine hK.out _ _ ⟨(blkc (HE.out _ hb8)).1 7, (blkc (HE.out _ hb8)).1 8, (blkc (HE.out _ hb8)).1 9, (blkc (HE.out _ hb8)).1 10, (blkc (HE.out _ hb8)).1 11⟩ (fun hHeld => ?_)
          clear hK K
          try go_frame
          refine wpAnyH_take (i := 8) (oi := ⟨some 42, _, _, _, _, _⟩) (v := ?_) rfl (by kernel_rfl) (by kernel_rfl) (by kernel_rfl) (fun _ _ _ h => h) (Or.inl ⟨by rfl, ?_⟩) (by assumption) ?_
          rotate_left
          · intro w hSw; (try dsimp only at hSw); go_simp <;> (try with_reducible rfl)
          go_frame
          refine wpAnyH_ready (rs := [9]) (by kernel_rfl) (by simp) ?_
          refine AllReadyH.cons rfl (fun K hK => ?_) AllReadyH.nil
          go_simp
          refine hK.out _ _ ⟨(World.cell?_setCell_other _ _ _ _ (fun e => hpe2 (Addr.mk.inj e).1)).trans ((blkc (HE.out w8 hb8)).1 7), (World.cell?_setCell_other _ _ _ _ (fun e => hpe2 (Addr.mk.inj e).1)).trans ((blkc (HE.out w8 hb8)).1 8), (World.cell?_setCell_other _ _ _ _ (fun e => hpe2 (Addr.mk.inj e).1)).trans ((blkc (HE.out w8 hb8)).1 9), (World.cell?_setCell_other _ _ _ _ (fun e => hpe2 (Addr.mk.inj e).1)).trans ((blkc (HE.out w8 hb8)).1 10), (World.cell?_setCell_other _ _ _ _ (fun e => hpe2 (Addr.mk.inj e).1)).trans ((blkc (HE.out w8 hb8)).1 11)⟩ (fun hHeld => ?_)
          clear hK K
          refine wpAnyH_done (by kernel_rfl) ?_ _
          have hg9 : w8.grownBy (w8.setCell ⟨w.heap.size, 2, none⟩ (.slice a8 (n3 + 1) c8)) (some (w.heap.size)) := turned_setL (w.heap.size) [.slice a8 (n3 + 1) c8] 2 w8
          go_wp2_with fail
          go_meet
          case rel => exact ⟨a8, c8, hc8, bput hP8 _ rfl, (hg9.block _ (ob_ltB (HZ.out w8 hb8)) (fun e => hpz (Option.some.inj e))).trans (HZ.out w8 hb8), hown8.kept hg9 (.inr (own_ne hown8 (by have := HSZ.out; omega)).symm), below_grownB (HU.out.trans (hb8.mono HU.out.size)) hg9 (HU.out.trans (hb8.mono HU.out.size)).size (fun q hq => by cases hq; exact Nat.le_refl _)⟩
        · skip
          go_simp
          refine hK.out _ _ ⟨(blkc (HE.out _ (((b2.alloc b2.size (.cells #[] 44)).alloc (b2.alloc b2.size (.cells #[] 44)).size (.cells #[.int .i64 p9, .int .i64 q9, .int .i64 r9, .string f9, .string g9] 44)).drew))).1 7, (blkc (HE.out _ (((b2.alloc b2.size (.cells #[] 44)).alloc (b2.alloc b2.size (.cells #[] 44)).size (.cells #[.int .i64 p9, .int .i64 q9, .int .i64 r9, .string f9, .string g9] 44)).drew))).1 8, (blkc (HE.out _ (((b2.alloc b2.size (.cells #[] 44)).alloc (b2.alloc b2.size (.cells #[] 44)).size (.cells #[.int .i64 p9, .int .i64 q9, .int .i64 r9, .string f9, .string g9] 44)).drew))).1 9, (blkc (HE.out _ (((b2.alloc b2.size (.cells #[] 44)).alloc (b2.alloc b2.size (.cells #[] 44)).size (.cells #[.int .i64 p9, .int .i64 q9, .int .i64 r9, .string f9, .string g9] 44)).drew))).1 10, (blkc (HE.out _ (((b2.alloc b2.size (.cells #[] 44)).alloc (b2.alloc b2.size (.cells #[] 44)).size (.cells #[.int .i64 p9, .int .i64 q9, .int .i64 r9, .string f9, .string g9] 44)).drew))).1 11⟩ (fun hHeld => ?_)
          clear hK K
          have bl2 : Below U.heap.size U ((v2.alloc (.cells #[] 44)).alloc (.cells #[.int .i64 p9, .int .i64 q9, .int .i64 r9, .string f9, .string g9] 44)).drew := ((b2.alloc b2.size _).alloc (b2.alloc b2.size _).size _).drew
          have mm2 : ((v2.alloc (.cells #[] 44)).alloc (.cells #[.int .i64 p9, .int .i64 q9, .int .i64 r9, .string f9, .string g9] 44)).drew.ownsRow U.heap.size 44 5 (.slice (some ⟨v2.heap.size, 0, none⟩) 0 0) 0 (tcells le []) := owns_drew ((made_t (s := 5) (enc := le) v2 b2.size rfl).alloc _)
          have ll2 : ((v2.alloc (.cells #[] 44)).alloc (.cells #[.int .i64 p9, .int .i64 q9, .int .i64 r9, .string f9, .string g9] 44)).drew.heap[v2.heap.size + 1]? = some (.cells #[.int .i64 p9, .int .i64 q9, .int .i64 r9, .string f9, .string g9] 44 (0, 0)) := by have := heap_alloc_new (v2.alloc (.cells #[] 44)) (.cells #[.int .i64 p9, .int .i64 q9, .int .i64 r9, .string f9, .string g9] 44); rwa [World.size_alloc] at this
          refine wpAnyH_ready (rs := [3]) (by kernel_rfl) (by simp) ?_
          refine AllReadyH.cons rfl (fun K hK => ?_) AllReadyH.nil
          refine step_tg (d := Lv.zero) tabE leE (w0 := U) (B := U.heap.size) (by rfl) _ _ (by rfl) _ 0 [] (by rfl) mm2 a3 n3 c3 ts (by rfl) (HR.out _ bl2) HZN.out (by omega) bl2 bl2.size ?_; intro a6 c6 w6 hg6 hc6 hn6 hown6 hb6; rw [Nat.zero_add] at hown6 hc6 hn6 ⊢; rw [List.nil_append] at hown6; have ll6 := (hg6.block _ (ob_ltB ll2) (fun e => by have e2 := Option.some.inj e; dsimp only at e2; omega)).trans ll2
          refine hK.out _ _ ⟨(blkc (HE.out _ hb6)).1 7, (blkc (HE.out _ hb6)).1 8, (blkc (HE.out _ hb6)).1 9, (blkc (HE.out _ hb6)).1 10, (blkc (HE.out _ hb6)).1 11⟩ (fun hHeld => ?_)
          clear hK K
          try go_frame
          refine wpAnyH_ready (rs := [7]) (by kernel_rfl) (by simp) ?_
          refine AllReadyH.cons rfl (fun K hK => ?_) AllReadyH.nil
          refine step_tg (d := Lv.zero) tabE leE (w0 := U) (B := U.heap.size) (by rfl) _ _ (by rfl) _ n3 ts (by rfl) hown6 (some ⟨v2.heap.size + 1, 0, none⟩) 1 1 [⟨p9, q9, r9, f9, g9⟩] (by rfl) (lit_of ll6 (fun j v hj => by match j, hj with | 0, hj | 1, hj | 2, hj | 3, hj | 4, hj => exact hj | j + 5, hj => simp [le] at hj)) (fun h => by cases h) (by omega) hb6 hb6.size ?_; intro a8 c8 w8 hg8 hc8 hn8 hown8 hb8; have hP8 := HP.out w8 hb8; have zc := (blkc hP8).1 2; have zf := (blkc hP8).2 2
          refine hK.out _ _ ⟨(blkc (HE.out _ hb8)).1 7, (blkc (HE.out _ hb8)).1 8, (blkc (HE.out _ hb8)).1 9, (blkc (HE.out _ hb8)).1 10, (blkc (HE.out _ hb8)).1 11⟩ (fun hHeld => ?_)
          clear hK K
          try go_frame
          refine wpAnyH_take (i := 8) (oi := ⟨some 42, _, _, _, _, _⟩) (v := ?_) rfl (by kernel_rfl) (by kernel_rfl) (by kernel_rfl) (fun _ _ _ h => h) (Or.inl ⟨by rfl, ?_⟩) (by assumption) ?_
          rotate_left
          · intro w hSw; (try dsimp only at hSw); go_simp <;> (try with_reducible rfl)
          go_frame
          refine wpAnyH_ready (rs := [9]) (by kernel_rfl) (by simp) ?_
          refine AllReadyH.cons rfl (fun K hK => ?_) AllReadyH.nil
          go_simp
          refine hK.out _ _ ⟨(World.cell?_setCell_other _ _ _ _ (fun e => hpe2 (Addr.mk.inj e).1)).trans ((blkc (HE.out w8 hb8)).1 7), (World.cell?_setCell_other _ _ _ _ (fun e => hpe2 (Addr.mk.inj e).1)).trans ((blkc (HE.out w8 hb8)).1 8), (World.cell?_setCell_other _ _ _ _ (fun e => hpe2 (Addr.mk.inj e).1)).trans ((blkc (HE.out w8 hb8)).1 9), (World.cell?_setCell_other _ _ _ _ (fun e => hpe2 (Addr.mk.inj e).1)).trans ((blkc (HE.out w8 hb8)).1 10), (World.cell?_setCell_other _ _ _ _ (fun e => hpe2 (Addr.mk.inj e).1)).trans ((blkc (HE.out w8 hb8)).1 11)⟩ (fun hHeld => ?_)
          clear hK K
          refine wpAnyH_done (by kernel_rfl) ?_ _
          have hg9 : w8.grownBy (w8.setCell ⟨w.heap.size, 2, none⟩ (.slice a8 (n3 + 1) c8)) (some (w.heap.size)) := turned_setL (w.heap.size) [.slice a8 (n3 + 1) c8] 2 w8
          go_wp2_with fail
          go_meet
          case rel => exact ⟨a8, c8, hc8, bput hP8 _ rfl, (hg9.block _ (ob_ltB (HZ.out w8 hb8)) (fun e => hpz (Option.some.inj e))).trans (HZ.out w8 hb8), hown8.kept hg9 (.inr (own_ne hown8 (by have := HSZ.out; omega)).symm), below_grownB (HU.out.trans (hb8.mono HU.out.size)) hg9 (HU.out.trans (hb8.mono HU.out.size)).size (fun q hq => by cases hq; exact Nat.le_refl _)⟩
      · skip
        go_simp
        refine hK.out _ _ ⟨(blkc (HE.out _ ((b2.alloc b2.size (.cells #[.int .i64 p9, .int .i64 q9, .int .i64 r9, .string f9, .string g9] 44)).drew))).1 7, (blkc (HE.out _ ((b2.alloc b2.size (.cells #[.int .i64 p9, .int .i64 q9, .int .i64 r9, .string f9, .string g9] 44)).drew))).1 8, (blkc (HE.out _ ((b2.alloc b2.size (.cells #[.int .i64 p9, .int .i64 q9, .int .i64 r9, .string f9, .string g9] 44)).drew))).1 9, (blkc (HE.out _ ((b2.alloc b2.size (.cells #[.int .i64 p9, .int .i64 q9, .int .i64 r9, .string f9, .string g9] 44)).drew))).1 10, (blkc (HE.out _ ((b2.alloc b2.size (.cells #[.int .i64 p9, .int .i64 q9, .int .i64 r9, .string f9, .string g9] 44)).drew))).1 11⟩ (fun hHeld => ?_)
        clear hK K
        have bl1 : Below U.heap.size U (v2.alloc (.cells #[.int .i64 p9, .int .i64 q9, .int .i64 r9, .string f9, .string g9] 44)).drew := (b2.alloc b2.size _).drew
        have ll1 : (v2.alloc (.cells #[.int .i64 p9, .int .i64 q9, .int .i64 r9, .string f9, .string g9] 44)).drew.heap[v2.heap.size]? = some (.cells #[.int .i64 p9, .int .i64 q9, .int .i64 r9, .string f9, .string g9] 44 (0, 0)) := heap_alloc_new _ _
        refine wpAnyH_ready (rs := [0]) (by kernel_rfl) (by simp) ?_
        refine AllReadyH.cons rfl (fun K hK => ?_) AllReadyH.nil
        go_simp
        refine hK.out _ _ ⟨(blkc (HE.out _ (((b2.alloc b2.size (.cells #[.int .i64 p9, .int .i64 q9, .int .i64 r9, .string f9, .string g9] 44)).alloc (b2.alloc b2.size (.cells #[.int .i64 p9, .int .i64 q9, .int .i64 r9, .string f9, .string g9] 44)).size (.cells #[] 44)).drew))).1 7, (blkc (HE.out _ (((b2.alloc b2.size (.cells #[.int .i64 p9, .int .i64 q9, .int .i64 r9, .string f9, .string g9] 44)).alloc (b2.alloc b2.size (.cells #[.int .i64 p9, .int .i64 q9, .int .i64 r9, .string f9, .string g9] 44)).size (.cells #[] 44)).drew))).1 8, (blkc (HE.out _ (((b2.alloc b2.size (.cells #[.int .i64 p9, .int .i64 q9, .int .i64 r9, .string f9, .string g9] 44)).alloc (b2.alloc b2.size (.cells #[.int .i64 p9, .int .i64 q9, .int .i64 r9, .string f9, .string g9] 44)).size (.cells #[] 44)).drew))).1 9, (blkc (HE.out _ (((b2.alloc b2.size (.cells #[.int .i64 p9, .int .i64 q9, .int .i64 r9, .string f9, .string g9] 44)).alloc (b2.alloc b2.size (.cells #[.int .i64 p9, .int .i64 q9, .int .i64 r9, .string f9, .string g9] 44)).size (.cells #[] 44)).drew))).1 10, (blkc (HE.out _ (((b2.alloc b2.size (.cells #[.int .i64 p9, .int .i64 q9, .int .i64 r9, .string f9, .string g9] 44)).alloc (b2.alloc b2.size (.cells #[.int .i64 p9, .int .i64 q9, .int .i64 r9, .string f9, .string g9] 44)).size (.cells #[] 44)).drew))).1 11⟩ (fun hHeld => ?_)
        clear hK K
        have bm2 : Below U.heap.size U ((v2.alloc (.cells #[.int .i64 p9, .int .i64 q9, .int .i64 r9, .string f9, .string g9] 44)).alloc (.cells #[] 44)).drew := ((b2.alloc b2.size _).alloc (b2.alloc b2.size _).size _).drew
        have mm2 : ((v2.alloc (.cells #[.int .i64 p9, .int .i64 q9, .int .i64 r9, .string f9, .string g9] 44)).alloc (.cells #[] 44)).drew.ownsRow U.heap.size 44 5 (.slice (some ⟨v2.heap.size + 1, 0, none⟩) 0 0) 0 (tcells le []) := owns_drew (made_t (s := 5) (enc := le) (v2.alloc (.cells #[.int .i64 p9, .int .i64 q9, .int .i64 r9, .string f9, .string g9] 44)) (b2.alloc b2.size _).size (by simp))
        have ll2 : ((v2.alloc (.cells #[.int .i64 p9, .int .i64 q9, .int .i64 r9, .string f9, .string g9] 44)).alloc (.cells #[] 44)).drew.heap[v2.heap.size]? = some (.cells #[.int .i64 p9, .int .i64 q9, .int .i64 r9, .string f9, .string g9] 44 (0, 0)) := (Below.heap_alloc _ _ _ (by simp)).trans (heap_alloc_new _ _)
        refine wpAnyH_ready (rs := [3]) (by kernel_rfl) (by simp) ?_
        refine AllReadyH.cons rfl (fun K hK => ?_) AllReadyH.nil
        refine step_tg (d := Lv.zero) tabE leE (w0 := U) (B := U.heap.size) (by rfl) _ _ (by rfl) _ 0 [] (by rfl) mm2 a3 n3 c3 ts (by rfl) (HR.out _ bm2) HZN.out (by omega) bm2 bm2.size ?_; intro a6 c6 w6 hg6 hc6 hn6 hown6 hb6; rw [Nat.zero_add] at hown6 hc6 hn6 ⊢; rw [List.nil_append] at hown6; have ll6 := (hg6.block _ (ob_ltB ll2) (fun e => by have e2 := Option.some.inj e; dsimp only at e2; omega)).trans ll2
        refine hK.out _ _ ⟨(blkc (HE.out _ hb6)).1 7, (blkc (HE.out _ hb6)).1 8, (blkc (HE.out _ hb6)).1 9, (blkc (HE.out _ hb6)).1 10, (blkc (HE.out _ hb6)).1 11⟩ (fun hHeld => ?_)
        clear hK K
        try go_frame
        refine wpAnyH_ready (rs := [7]) (by kernel_rfl) (by simp) ?_
        refine AllReadyH.cons rfl (fun K hK => ?_) AllReadyH.nil
        refine step_tg (d := Lv.zero) tabE leE (w0 := U) (B := U.heap.size) (by rfl) _ _ (by rfl) _ n3 ts (by rfl) hown6 (some ⟨v2.heap.size, 0, none⟩) 1 1 [⟨p9, q9, r9, f9, g9⟩] (by rfl) (lit_of ll6 (fun j v hj => by match j, hj with | 0, hj | 1, hj | 2, hj | 3, hj | 4, hj => exact hj | j + 5, hj => simp [le] at hj)) (fun h => by cases h) (by omega) hb6 hb6.size ?_; intro a8 c8 w8 hg8 hc8 hn8 hown8 hb8; have hP8 := HP.out w8 hb8; have zc := (blkc hP8).1 2; have zf := (blkc hP8).2 2
        refine hK.out _ _ ⟨(blkc (HE.out _ hb8)).1 7, (blkc (HE.out _ hb8)).1 8, (blkc (HE.out _ hb8)).1 9, (blkc (HE.out _ hb8)).1 10, (blkc (HE.out _ hb8)).1 11⟩ (fun hHeld => ?_)
        clear hK K
        try go_frame
        refine wpAnyH_take (i := 8) (oi := ⟨some 42, _, _, _, _, _⟩) (v := ?_) rfl (by kernel_rfl) (by kernel_rfl) (by kernel_rfl) (fun _ _ _ h => h) (Or.inl ⟨by rfl, ?_⟩) (by assumption) ?_
        rotate_left
        · intro w hSw; (try dsimp only at hSw); go_simp <;> (try with_reducible rfl)
        go_frame
        refine wpAnyH_ready (rs := [9]) (by kernel_rfl) (by simp) ?_
        refine AllReadyH.cons rfl (fun K hK => ?_) AllReadyH.nil
        go_simp
        refine hK.out _ _ ⟨(World.cell?_setCell_other _ _ _ _ (fun e => hpe2 (Addr.mk.inj e).1)).trans ((blkc (HE.out w8 hb8)).1 7), (World.cell?_setCell_other _ _ _ _ (fun e => hpe2 (Addr.mk.inj e).1)).trans ((blkc (HE.out w8 hb8)).1 8), (World.cell?_setCell_other _ _ _ _ (fun e => hpe2 (Addr.mk.inj e).1)).trans ((blkc (HE.out w8 hb8)).1 9), (World.cell?_setCell_other _ _ _ _ (fun e => hpe2 (Addr.mk.inj e).1)).trans ((blkc (HE.out w8 hb8)).1 10), (World.cell?_setCell_other _ _ _ _ (fun e => hpe2 (Addr.mk.inj e).1)).trans ((blkc (HE.out w8 hb8)).1 11)⟩ (fun hHeld => ?_)
        clear hK K
        refine wpAnyH_done (by kernel_rfl) ?_ _
        have hg9 : w8.grownBy (w8.setCell ⟨w.heap.size, 2, none⟩ (.slice a8 (n3 + 1) c8)) (some (w.heap.size)) := turned_setL (w.heap.size) [.slice a8 (n3 + 1) c8] 2 w8
        go_wp2_with fail
        go_meet
        case rel => exact ⟨a8, c8, hc8, bput hP8 _ rfl, (hg9.block _ (ob_ltB (HZ.out w8 hb8)) (fun e => hpz (Option.some.inj e))).trans (HZ.out w8 hb8), hown8.kept hg9 (.inr (own_ne hown8 (by have := HSZ.out; omega)).symm), below_grownB (HU.out.trans (hb8.mono HU.out.size)) hg9 (HU.out.trans (hb8.mono HU.out.size)).size (fun q hq => by cases hq; exact Nat.le_refl _)⟩
    · skip
      go_simp
      refine hK.out _ _ ⟨(blkc (HE.out _ ((b2.alloc b2.size (.cells #[.int .i64 p9, .int .i64 q9, .int .i64 r9, .string f9, .string g9] 44)).drew))).1 7, (blkc (HE.out _ ((b2.alloc b2.size (.cells #[.int .i64 p9, .int .i64 q9, .int .i64 r9, .string f9, .string g9] 44)).drew))).1 8, (blkc (HE.out _ ((b2.alloc b2.size (.cells #[.int .i64 p9, .int .i64 q9, .int .i64 r9, .string f9, .string g9] 44)).drew))).1 9, (blkc (HE.out _ ((b2.alloc b2.size (.cells #[.int .i64 p9, .int .i64 q9, .int .i64 r9, .string f9, .string g9] 44)).drew))).1 10, (blkc (HE.out _ ((b2.alloc b2.size (.cells #[.int .i64 p9, .int .i64 q9, .int .i64 r9, .string f9, .string g9] 44)).drew))).1 11⟩ (fun hHeld => ?_)
      clear hK K
      have bl1 : Below U.heap.size U (v2.alloc (.cells #[.int .i64 p9, .int .i64 q9, .int .i64 r9, .string f9, .string g9] 44)).drew := (b2.alloc b2.size _).drew
      have ll1 : (v2.alloc (.cells #[.int .i64 p9, .int .i64 q9, .int .i64 r9, .string f9, .string g9] 44)).drew.heap[v2.heap.size]? = some (.cells #[.int .i64 p9, .int .i64 q9, .int .i64 r9, .string f9, .string g9] 44 (0, 0)) := heap_alloc_new _ _
      refine wpAnyH_ready (rs := [0, 2]) (by kernel_rfl) (by simp) ?_
      refine AllReadyH.cons rfl (fun K hK => ?_) (AllReadyH.cons rfl (fun K hK => ?_) AllReadyH.nil)
      · skip
        go_simp
        refine hK.out _ _ ⟨(blkc (HE.out _ (((b2.alloc b2.size (.cells #[.int .i64 p9, .int .i64 q9, .int .i64 r9, .string f9, .string g9] 44)).alloc (b2.alloc b2.size (.cells #[.int .i64 p9, .int .i64 q9, .int .i64 r9, .string f9, .string g9] 44)).size (.cells #[] 44)).drew))).1 7, (blkc (HE.out _ (((b2.alloc b2.size (.cells #[.int .i64 p9, .int .i64 q9, .int .i64 r9, .string f9, .string g9] 44)).alloc (b2.alloc b2.size (.cells #[.int .i64 p9, .int .i64 q9, .int .i64 r9, .string f9, .string g9] 44)).size (.cells #[] 44)).drew))).1 8, (blkc (HE.out _ (((b2.alloc b2.size (.cells #[.int .i64 p9, .int .i64 q9, .int .i64 r9, .string f9, .string g9] 44)).alloc (b2.alloc b2.size (.cells #[.int .i64 p9, .int .i64 q9, .int .i64 r9, .string f9, .string g9] 44)).size (.cells #[] 44)).drew))).1 9, (blkc (HE.out _ (((b2.alloc b2.size (.cells #[.int .i64 p9, .int .i64 q9, .int .i64 r9, .string f9, .string g9] 44)).alloc (b2.alloc b2.size (.cells #[.int .i64 p9, .int .i64 q9, .int .i64 r9, .string f9, .string g9] 44)).size (.cells #[] 44)).drew))).1 10, (blkc (HE.out _ (((b2.alloc b2.size (.cells #[.int .i64 p9, .int .i64 q9, .int .i64 r9, .string f9, .string g9] 44)).alloc (b2.alloc b2.size (.cells #[.int .i64 p9, .int .i64 q9, .int .i64 r9, .string f9, .string g9] 44)).size (.cells #[] 44)).drew))).1 11⟩ (fun hHeld => ?_)
        clear hK K
        have bm2 : Below U.heap.size U ((v2.alloc (.cells #[.int .i64 p9, .int .i64 q9, .int .i64 r9, .string f9, .string g9] 44)).alloc (.cells #[] 44)).drew := ((b2.alloc b2.size _).alloc (b2.alloc b2.size _).size _).drew
        have mm2 : ((v2.alloc (.cells #[.int .i64 p9, .int .i64 q9, .int .i64 r9, .string f9, .string g9] 44)).alloc (.cells #[] 44)).drew.ownsRow U.heap.size 44 5 (.slice (some ⟨v2.heap.size + 1, 0, none⟩) 0 0) 0 (tcells le []) := owns_drew (made_t (s := 5) (enc := le) (v2.alloc (.cells #[.int .i64 p9, .int .i64 q9, .int .i64 r9, .string f9, .string g9] 44)) (b2.alloc b2.size _).size (by simp))
        have ll2 : ((v2.alloc (.cells #[.int .i64 p9, .int .i64 q9, .int .i64 r9, .string f9, .string g9] 44)).alloc (.cells #[] 44)).drew.heap[v2.heap.size]? = some (.cells #[.int .i64 p9, .int .i64 q9, .int .i64 r9, .string f9, .string g9] 44 (0, 0)) := (Below.heap_alloc _ _ _ (by simp)).trans (heap_alloc_new _ _)
        refine wpAnyH_ready (rs := [2]) (by kernel_rfl) (by simp) ?_
        refine AllReadyH.cons rfl (fun K hK => ?_) AllReadyH.nil
        have xb : ((v2.alloc (.cells #[.int .i64 p9, .int .i64 q9, .int .i64 r9, .string f9, .string g9] 44)).alloc (.cells #[] 44)).cell? ⟨w.heap.size, 2, none⟩ = some (.slice a3 n3 c3) := (blkc (HP.out ((v2.alloc (.cells #[.int .i64 p9, .int .i64 q9, .int .i64 r9, .string f9, .string g9] 44)).alloc (.cells #[] 44)).drew bm2)).1 2; go_simp
        refine hK.out _ _ ⟨(blkc (HE.out _ bm2)).1 7, (blkc (HE.out _ bm2)).1 8, (blkc (HE.out _ bm2)).1 9, (blkc (HE.out _ bm2)).1 10, (blkc (HE.out _ bm2)).1 11⟩ (fun hHeld => ?_)
        clear hK K
        try go_frame
        refine wpAnyH_ready (rs := [3]) (by kernel_rfl) (by simp) ?_
        refine AllReadyH.cons rfl (fun K hK => ?_) AllReadyH.nil
        refine step_tg (d := Lv.zero) tabE leE (w0 := U) (B := U.heap.size) (by rfl) _ _ (by rfl) _ 0 [] (by rfl) mm2 a3 n3 c3 ts (by rfl) (HR.out _ bm2) HZN.out (by omega) bm2 bm2.size ?_; intro a6 c6 w6 hg6 hc6 hn6 hown6 hb6; rw [Nat.zero_add] at hown6 hc6 hn6 ⊢; rw [List.nil_append] at hown6; have ll6 := (hg6.block _ (ob_ltB ll2) (fun e => by have e2 := Option.some.inj e; dsimp only at e2; omega)).trans ll2
        refine hK.out _ _ ⟨(blkc (HE.out _ hb6)).1 7, (blkc (HE.out _ hb6)).1 8, (blkc (HE.out _ hb6)).1 9, (blkc (HE.out _ hb6)).1 10, (blkc (HE.out _ hb6)).1 11⟩ (fun hHeld => ?_)
        clear hK K
        try go_frame
        refine wpAnyH_ready (rs := [7]) (by kernel_rfl) (by simp) ?_
        refine AllReadyH.cons rfl (fun K hK => ?_) AllReadyH.nil
        refine step_tg (d := Lv.zero) tabE leE (w0 := U) (B := U.heap.size) (by rfl) _ _ (by rfl) _ n3 ts (by rfl) hown6 (some ⟨v2.heap.size, 0, none⟩) 1 1 [⟨p9, q9, r9, f9, g9⟩] (by rfl) (lit_of ll6 (fun j v hj => by match j, hj with | 0, hj | 1, hj | 2, hj | 3, hj | 4, hj => exact hj | j + 5, hj => simp [le] at hj)) (fun h => by cases h) (by omega) hb6 hb6.size ?_; intro a8 c8 w8 hg8 hc8 hn8 hown8 hb8; have hP8 := HP.out w8 hb8; have zc := (blkc hP8).1 2; have zf := (blkc hP8).2 2
        refine hK.out _ _ ⟨(blkc (HE.out _ hb8)).1 7, (blkc (HE.out _ hb8)).1 8, (blkc (HE.out _ hb8)).1 9, (blkc (HE.out _ hb8)).1 10, (blkc (HE.out _ hb8)).1 11⟩ (fun hHeld => ?_)
        clear hK K
        try go_frame
        refine wpAnyH_take (i := 8) (oi := ⟨some 42, _, _, _, _, _⟩) (v := ?_) rfl (by kernel_rfl) (by kernel_rfl) (by kernel_rfl) (fun _ _ _ h => h) (Or.inl ⟨by rfl, ?_⟩) (by assumption) ?_
        rotate_left
        · intro w hSw; (try dsimp only at hSw); go_simp <;> (try with_reducible rfl)
        go_frame
        refine wpAnyH_ready (rs := [9]) (by kernel_rfl) (by simp) ?_
        refine AllReadyH.cons rfl (fun K hK => ?_) AllReadyH.nil
        go_simp
        refine hK.out _ _ ⟨(World.cell?_setCell_other _ _ _ _ (fun e => hpe2 (Addr.mk.inj e).1)).trans ((blkc (HE.out w8 hb8)).1 7), (World.cell?_setCell_other _ _ _ _ (fun e => hpe2 (Addr.mk.inj e).1)).trans ((blkc (HE.out w8 hb8)).1 8), (World.cell?_setCell_other _ _ _ _ (fun e => hpe2 (Addr.mk.inj e).1)).trans ((blkc (HE.out w8 hb8)).1 9), (World.cell?_setCell_other _ _ _ _ (fun e => hpe2 (Addr.mk.inj e).1)).trans ((blkc (HE.out w8 hb8)).1 10), (World.cell?_setCell_other _ _ _ _ (fun e => hpe2 (Addr.mk.inj e).1)).trans ((blkc (HE.out w8 hb8)).1 11)⟩ (fun hHeld => ?_)
        clear hK K
        refine wpAnyH_done (by kernel_rfl) ?_ _
        have hg9 : w8.grownBy (w8.setCell ⟨w.heap.size, 2, none⟩ (.slice a8 (n3 + 1) c8)) (some (w.heap.size)) := turned_setL (w.heap.size) [.slice a8 (n3 + 1) c8] 2 w8
        go_wp2_with fail
        go_meet
        case rel => exact ⟨a8, c8, hc8, bput hP8 _ rfl, (hg9.block _ (ob_ltB (HZ.out w8 hb8)) (fun e => hpz (Option.some.inj e))).trans (HZ.out w8 hb8), hown8.kept hg9 (.inr (own_ne hown8 (by have := HSZ.out; omega)).symm), below_grownB (HU.out.trans (hb8.mono HU.out.size)) hg9 (HU.out.trans (hb8.mono HU.out.size)).size (fun q hq => by cases hq; exact Nat.le_refl _)⟩
      · skip
        have xb : (v2.alloc (.cells #[.int .i64 p9, .int .i64 q9, .int .i64 r9, .string f9, .string g9] 44)).cell? ⟨w.heap.size, 2, none⟩ = some (.slice a3 n3 c3) := (blkc (HP.out (v2.alloc (.cells #[.int .i64 p9, .int .i64 q9, .int .i64 r9, .string f9, .string g9] 44)).drew bl1)).1 2; go_simp
        refine hK.out _ _ ⟨(blkc (HE.out _ bl1)).1 7, (blkc (HE.out _ bl1)).1 8, (blkc (HE.out _ bl1)).1 9, (blkc (HE.out _ bl1)).1 10, (blkc (HE.out _ bl1)).1 11⟩ (fun hHeld => ?_)
        clear hK K
        try go_frame
        refine wpAnyH_ready (rs := [0]) (by kernel_rfl) (by simp) ?_
        refine AllReadyH.cons rfl (fun K hK => ?_) AllReadyH.nil
        go_simp
        refine hK.out _ _ ⟨(blkc (HE.out _ (((b2.alloc b2.size (.cells #[.int .i64 p9, .int .i64 q9, .int .i64 r9, .string f9, .string g9] 44)).alloc (b2.alloc b2.size (.cells #[.int .i64 p9, .int .i64 q9, .int .i64 r9, .string f9, .string g9] 44)).size (.cells #[] 44)).drew))).1 7, (blkc (HE.out _ (((b2.alloc b2.size (.cells #[.int .i64 p9, .int .i64 q9, .int .i64 r9, .string f9, .string g9] 44)).alloc (b2.alloc b2.size (.cells #[.int .i64 p9, .int .i64 q9, .int .i64 r9, .string f9, .string g9] 44)).size (.cells #[] 44)).drew))).1 8, (blkc (HE.out _ (((b2.alloc b2.size (.cells #[.int .i64 p9, .int .i64 q9, .int .i64 r9, .string f9, .string g9] 44)).alloc (b2.alloc b2.size (.cells #[.int .i64 p9, .int .i64 q9, .int .i64 r9, .string f9, .string g9] 44)).size (.cells #[] 44)).drew))).1 9, (blkc (HE.out _ (((b2.alloc b2.size (.cells #[.int .i64 p9, .int .i64 q9, .int .i64 r9, .string f9, .string g9] 44)).alloc (b2.alloc b2.size (.cells #[.int .i64 p9, .int .i64 q9, .int .i64 r9, .string f9, .string g9] 44)).size (.cells #[] 44)).drew))).1 10, (blkc (HE.out _ (((b2.alloc b2.size (.cells #[.int .i64 p9, .int .i64 q9, .int .i64 r9, .string f9, .string g9] 44)).alloc (b2.alloc b2.size (.cells #[.int .i64 p9, .int .i64 q9, .int .i64 r9, .string f9, .string g9] 44)).size (.cells #[] 44)).drew))).1 11⟩ (fun hHeld => ?_)
        clear hK K
        have bm2 : Below U.heap.size U ((v2.alloc (.cells #[.int .i64 p9, .int .i64 q9, .int .i64 r9, .string f9, .string g9] 44)).alloc (.cells #[] 44)).drew := ((b2.alloc b2.size _).alloc (b2.alloc b2.size _).size _).drew
        have mm2 : ((v2.alloc (.cells #[.int .i64 p9, .int .i64 q9, .int .i64 r9, .string f9, .string g9] 44)).alloc (.cells #[] 44)).drew.ownsRow U.heap.size 44 5 (.slice (some ⟨v2.heap.size + 1, 0, none⟩) 0 0) 0 (tcells le []) := owns_drew (made_t (s := 5) (enc := le) (v2.alloc (.cells #[.int .i64 p9, .int .i64 q9, .int .i64 r9, .string f9, .string g9] 44)) (b2.alloc b2.size _).size (by simp))
        have ll2 : ((v2.alloc (.cells #[.int .i64 p9, .int .i64 q9, .int .i64 r9, .string f9, .string g9] 44)).alloc (.cells #[] 44)).drew.heap[v2.heap.size]? = some (.cells #[.int .i64 p9, .int .i64 q9, .int .i64 r9, .string f9, .string g9] 44 (0, 0)) := (Below.heap_alloc _ _ _ (by simp)).trans (heap_alloc_new _ _)
        refine wpAnyH_ready (rs := [3]) (by kernel_rfl) (by simp) ?_
        refine AllReadyH.cons rfl (fun K hK => ?_) AllReadyH.nil
        refine step_tg (d := Lv.zero) tabE leE (w0 := U) (B := U.heap.size) (by rfl) _ _ (by rfl) _ 0 [] (by rfl) mm2 a3 n3 c3 ts (by rfl) (HR.out _ bm2) HZN.out (by omega) bm2 bm2.size ?_; intro a6 c6 w6 hg6 hc6 hn6 hown6 hb6; rw [Nat.zero_add] at hown6 hc6 hn6 ⊢; rw [List.nil_append] at hown6; have ll6 := (hg6.block _ (ob_ltB ll2) (fun e => by have e2 := Option.some.inj e; dsimp only at e2; omega)).trans ll2
        refine hK.out _ _ ⟨(blkc (HE.out _ hb6)).1 7, (blkc (HE.out _ hb6)).1 8, (blkc (HE.out _ hb6)).1 9, (blkc (HE.out _ hb6)).1 10, (blkc (HE.out _ hb6)).1 11⟩ (fun hHeld => ?_)
        clear hK K
        try go_frame
        refine wpAnyH_ready (rs := [7]) (by kernel_rfl) (by simp) ?_
        refine AllReadyH.cons rfl (fun K hK => ?_) AllReadyH.nil
        refine step_tg (d := Lv.zero) tabE leE (w0 := U) (B := U.heap.size) (by rfl) _ _ (by rfl) _ n3 ts (by rfl) hown6 (some ⟨v2.heap.size, 0, none⟩) 1 1 [⟨p9, q9, r9, f9, g9⟩] (by rfl) (lit_of ll6 (fun j v hj => by match j, hj with | 0, hj | 1, hj | 2, hj | 3, hj | 4, hj => exact hj | j + 5, hj => simp [le] at hj)) (fun h => by cases h) (by omega) hb6 hb6.size ?_; intro a8 c8 w8 hg8 hc8 hn8 hown8 hb8; have hP8 := HP.out w8 hb8; have zc := (blkc hP8).1 2; have zf := (blkc hP8).2 2
        refine hK.out _ _ ⟨(blkc (HE.out _ hb8)).1 7, (blkc (HE.out _ hb8)).1 8, (blkc (HE.out _ hb8)).1 9, (blkc (HE.out _ hb8)).1 10, (blkc (HE.out _ hb8)).1 11⟩ (fun hHeld => ?_)
        clear hK K
        try go_frame
        refine wpAnyH_take (i := 8) (oi := ⟨some 42, _, _, _, _, _⟩) (v := ?_) rfl (by kernel_rfl) (by kernel_rfl) (by kernel_rfl) (fun _ _ _ h => h) (Or.inl ⟨by rfl, ?_⟩) (by assumption) ?_
        rotate_left
        · intro w hSw; (try dsimp only at hSw); go_simp <;> (try with_reducible rfl)
        go_frame
        refine wpAnyH_ready (rs := [9]) (by kernel_rfl) (by simp) ?_
        refine AllReadyH.cons rfl (fun K hK => ?_) AllReadyH.nil
        go_simp
        refine hK.out _ _ ⟨(World.cell?_setCell_other _ _ _ _ (fun e => hpe2 (Addr.mk.inj e).1)).trans ((blkc (HE.out w8 hb8)).1 7), (World.cell?_setCell_other _ _ _ _ (fun e => hpe2 (Addr.mk.inj e).1)).trans ((blkc (HE.out w8 hb8)).1 8), (World.cell?_setCell_other _ _ _ _ (fun e => hpe2 (Addr.mk.inj e).1)).trans ((blkc (HE.out w8 hb8)).1 9), (World.cell?_setCell_other _ _ _ _ (fun e => hpe2 (Addr.mk.inj e).1)).trans ((blkc (HE.out w8 hb8)).1 10), (World.cell?_setCell_other _ _ _ _ (fun e => hpe2 (Addr.mk.inj e).1)).trans ((blkc (HE.out w8 hb8)).1 11)⟩ (fun hHeld => ?_)
        clear hK K
        refine wpAnyH_done (by kernel_rfl) ?_ _
        have hg9 : w8.grownBy (w8.setCell ⟨w.heap.size, 2, none⟩ (.slice a8 (n3 + 1) c8)) (some (w.heap.size)) := turned_setL (w.heap.size) [.slice a8 (n3 + 1) c8] 2 w8
        go_wp2_with fail
        go_meet
        case rel => exact ⟨a8, c8, hc8, bput hP8 _ rfl, (hg9.block _ (ob_ltB (HZ.out w8 hb8)) (fun e => hpz (Option.some.inj e))).trans (HZ.out w8 hb8), hown8.kept hg9 (.inr (own_ne hown8 (by have := HSZ.out; omega)).symm), below_grownB (HU.out.trans (hb8.mono HU.out.size)) hg9 (HU.out.trans (hb8.mono HU.out.size)).size (fun q hq => by cases hq; exact Nat.le_refl _)⟩
  case rest =>
    obtain ⟨g, d, hd, hP9, hZ9, hO9, hB9⟩ := hcut
    clear x0 x1 x2 x3 x4 x5 x6 x7 x8 x9 x10 y0 y1 y2 y3 y4 y5 y6 y7 y8 y9 y10 y11
    have d0 := (blkc hP9.out).1 0
    have d1 := (blkc hP9.out).1 1
    have d2 := (blkc hP9.out).1 2
    have d3 := (blkc hP9.out).1 3
    have d4 := (blkc hP9.out).1 4
    have d5 := (blkc hP9.out).1 5
    have d6 := (blkc hP9.out).1 6
    have d7 := (blkc hP9.out).1 7
    have d8 := (blkc hP9.out).1 8
    have d9 := (blkc hP9.out).1 9
    have d10 := (blkc hP9.out).1 10
    have e0 := (blkc hZ9.out).1 0
    have e1 := (blkc hZ9.out).1 1
    have e2 := (blkc hZ9.out).1 2
    have e3 := (blkc hZ9.out).1 3
    have e4 := (blkc hZ9.out).1 4
    have e5 := (blkc hZ9.out).1 5
    have e6 := (blkc hZ9.out).1 6
    have e7 := (blkc hZ9.out).1 7
    have e8 := (blkc hZ9.out).1 8
    have e9 := (blkc hZ9.out).1 9
    have e10 := (blkc hZ9.out).1 10
    have fz0 := (blkc hZ9.out).2 0
    have fz1 := (blkc hZ9.out).2 1
    have fz2 := (blkc hZ9.out).2 2
    have fz3 := (blkc hZ9.out).2 3
    have fz4 := (blkc hZ9.out).2 4
    have fz5 := (blkc hZ9.out).2 5
    have fz6 := (blkc hZ9.out).2 6
    have fz7 := (blkc hZ9.out).2 7
    have fz8 := (blkc hZ9.out).2 8
    have fz9 := (blkc hZ9.out).2 9
    have fz10 := (blkc hZ9.out).2 10
    go_wp2
    have B10 : (((((((((((wc.setCell ⟨w.heap.size + 1 + 1, 0, none⟩ (.slice a1 n1 c1)).setCell ⟨w.heap.size + 1 + 1, 1, none⟩ (.slice a2 n2 c2)).setCell ⟨w.heap.size + 1 + 1, 2, none⟩ (.slice g (n3 + 1) d)).setCell ⟨w.heap.size + 1 + 1, 3, none⟩ (.slice a4 n4 c4)).setCell ⟨w.heap.size + 1 + 1, 4, none⟩ (.int .i64 i1)).setCell ⟨w.heap.size + 1 + 1, 5, none⟩ (.int .i64 i2)).setCell ⟨w.heap.size + 1 + 1, 6, none⟩ (.int .i64 i3)).setCell ⟨w.heap.size + 1 + 1, 7, none⟩ (.int .i64 i4)).setCell ⟨w.heap.size + 1 + 1, 8, none⟩ (.int .i64 i5)).setCell ⟨w.heap.size + 1 + 1, 9, none⟩ (.int .i64 i6)).setCell ⟨w.heap.size + 1 + 1, 10, none⟩ (.int .i64 i7)).heap[w.heap.size + 1 + 1]? = some (.cells #[.slice a1 n1 c1, .slice a2 n2 c2, .slice g (n3 + 1) d, .slice a4 n4 c4, .int .i64 i1, .int .i64 i2, .int .i64 i3, .int .i64 i4, .int .i64 i5, .int .i64 i6, .int .i64 i7] 29 (0, 0)) := bput_new [.slice a1 n1 c1, .slice a2 n2 c2, .slice g (n3 + 1) d, .slice a4 n4 c4, .int .i64 i1, .int .i64 i2, .int .i64 i3, .int .i64 i4, .int .i64 i5, .int .i64 i6, .int .i64 i7] hZ9.out rfl
    have hgr : wc.grownBy (((((((((((wc.setCell ⟨w.heap.size + 1 + 1, 0, none⟩ (.slice a1 n1 c1)).setCell ⟨w.heap.size + 1 + 1, 1, none⟩ (.slice a2 n2 c2)).setCell ⟨w.heap.size + 1 + 1, 2, none⟩ (.slice g (n3 + 1) d)).setCell ⟨w.heap.size + 1 + 1, 3, none⟩ (.slice a4 n4 c4)).setCell ⟨w.heap.size + 1 + 1, 4, none⟩ (.int .i64 i1)).setCell ⟨w.heap.size + 1 + 1, 5, none⟩ (.int .i64 i2)).setCell ⟨w.heap.size + 1 + 1, 6, none⟩ (.int .i64 i3)).setCell ⟨w.heap.size + 1 + 1, 7, none⟩ (.int .i64 i4)).setCell ⟨w.heap.size + 1 + 1, 8, none⟩ (.int .i64 i5)).setCell ⟨w.heap.size + 1 + 1, 9, none⟩ (.int .i64 i6)).setCell ⟨w.heap.size + 1 + 1, 10, none⟩ (.int .i64 i7)) (some (w.heap.size + 1 + 1)) := turned_setL (w.heap.size + 1 + 1) [.slice a1 n1 c1, .slice a2 n2 c2, .slice g (n3 + 1) d, .slice a4 n4 c4, .int .i64 i1, .int .i64 i2, .int .i64 i3, .int .i64 i4, .int .i64 i5, .int .i64 i6, .int .i64 i7] 0 wc
    have hbF := below_grownB hB9.out hgr hB9.out.size (fun q hq => by cases hq; omega)
    have u0 := (blkc B10).1 0
    have u1 := (blkc B10).1 1
    have u2 := (blkc B10).1 2
    have u3 := (blkc B10).1 3
    have u4 := (blkc B10).1 4
    have u5 := (blkc B10).1 5
    have u6 := (blkc B10).1 6
    have u7 := (blkc B10).1 7
    have u8 := (blkc B10).1 8
    have u9 := (blkc B10).1 9
    have u10 := (blkc B10).1 10
    refine bodyPost_ret (v := .tuple #[.agg #[.slice a1 n1 c1, .slice a2 n2 c2, .slice g (n3 + 1) d, .slice a4 n4 c4, .int .i64 i1, .int .i64 i2, .int .i64 i3, .int .i64 i4, .int .i64 i5, .int .i64 i6, .int .i64 i7], .bool true]) (by simp [results, Tryz.results36, go_sem, u0, u1, u2, u3, u4, u5, u6, u7, u8, u9, u10]) rfl ⟨g, d, rfl, hd, (lowns_base (hO9.out.kept hgr (.inr (own_ne hO9.out (by have := HSZ.out; omega)).symm)) HU.out.size), hbF⟩
end Go.Proofs.YtmodogmjfbcddaaGreat
