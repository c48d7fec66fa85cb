/- The disk's turnNames. -/
import Derived.Test.YtefadkengfjdmaaDKA
import Derived.Deep.RegionHeld3
namespace Go.Proofs.Ytefadkengfjdmaa
open Go.RowKit Go.Shelf

set_option maxHeartbeats 2000000 in
theorem turn_any {w : World} {p u fm nm sm : Nat} {D : Dk.D} {tv : Value} {J : List (Nat × FH × Dk.F)} (hP : Parts w p D u fm nm sm tv J) (t : Dk.T) (hn : D.turns.length ≤ 1000000) :
    Calls Try.prog 35 #[.pointer (some ⟨p, 0, none⟩), tval t] w fun e w' => e = .returned (.tuple #[]) ∧
      (∃ tv', Parts w' p { D with names := Dk.turn t D.names, turns := D.turns ++ [t] } u fm nm sm tv' J ∧ ∀ g, tv'.ownBlock = some g → tv.ownBlock = some g ∨ w.heap.size ≤ g) ∧ OnlyIn (fun k => k = p ∨ k = nm ∨ tv.ownBlock = some k) w w' := by
  have hP0 : Parts (w.alloc (.cells #[.string t.taken, .string t.given, .int .i64 (t.file : Int)] 64)) p D u fm nm sm tv J := hP.keep fun k hk => heap_alloc_old w _ (hP.lt hk)
  have hb0 : (w.alloc (.cells #[.string t.taken, .string t.given, .int .i64 (t.file : Int)] 64)).heap[w.heap.size]? = some (.cells #[.string t.taken, .string t.given, .int .i64 (t.file : Int)] 64 (0, 0)) := heap_alloc_new w _
  have hold : ∀ k, k < w.heap.size → (w.alloc (.cells #[.string t.taken, .string t.given, .int .i64 (t.file : Int)] 64)).heap[k]? = w.heap[k]? := fun k hk => heap_alloc_old w _ hk
  have hsz : (w.alloc (.cells #[.string t.taken, .string t.given, .int .i64 (t.file : Int)] 64)).heap.size = w.heap.size + 1 := by simp
  have hlt : ∀ k, foot p fm nm sm tv J k → k < w.heap.size := fun k hk => hP.lt hk
  unfold tval
  go_enter Try.func35, Try.ntmps35
  go_wp2
  have hbel : Below w.heap.size w (w.alloc (.cells #[.string t.taken, .string t.given, .int .i64 (t.file : Int)] 64)) := below_alloc w _
  generalize w.alloc (.cells #[.string t.taken, .string t.given, .int .i64 (t.file : Int)] 64) = W at *
  obtain ⟨⟨c0, c1, c2, c3, c4, c5, c6, c7, c8, c9⟩, hf⟩ := hP0.cells
  have k0 : W.cell? ⟨w.heap.size, 0, none⟩ = some (.string t.taken) := (Go.Joins.cell_of_block hb0 _).trans rfl
  have k1 : W.cell? ⟨w.heap.size, 1, none⟩ = some (.string t.given) := (Go.Joins.cell_of_block hb0 _).trans rfl
  have k2 : W.cell? ⟨w.heap.size, 2, none⟩ = some (.int .i64 (t.file : Int)) := (Go.Joins.cell_of_block hb0 _).trans rfl
  obtain ⟨N, hN⟩ : ∃ N, N = w.heap.size := ⟨_, rfl⟩
  rw [← hN] at k0 k1 k2 hb0 ⊢
  have HN : Hid (N = w.heap.size) := hN
  clear hN
  have hNn : ¬ (N = nm) := fun e => by have := hlt nm (.inr (.inr (.inl rfl))); rw [HN.out] at e; omega
  have hpn : ¬ (p = nm) := by obtain ⟨es, c, he⟩ := hP0.names.blk; exact cells_map hP0.blk he
  have hNl : N < W.heap.size := by rw [HN.out]; omega
  have hpl : p < W.heap.size := heap_lt hP0.blk
  have hcs : Hid (∀ w1, OnlyIn (fun k => k = nm) W.drew w1 → w1.cell? ⟨N, 0, none⟩ = some (.string t.taken) ∧ w1.cell? ⟨N, 1, none⟩ = some (.string t.given) ∧ w1.cell? ⟨N, 2, none⟩ = some (.int .i64 (t.file : Int)) ∧ w1.cell? ⟨p, 4, none⟩ = some (.map (some nm))) :=
    (fun w1 ho => ⟨(World.cell?_of_block (ho.block N hNl hNn)).trans k0, (World.cell?_of_block (ho.block N hNl hNn)).trans k1, (World.cell?_of_block (ho.block N hNl hNn)).trans k2, (World.cell?_of_block (ho.block p hpl hpn)).trans c4⟩ : ∀ w1, OnlyIn (fun k => k = nm) W.drew w1 → w1.cell? ⟨N, 0, none⟩ = some (.string t.taken) ∧ w1.cell? ⟨N, 1, none⟩ = some (.string t.given) ∧ w1.cell? ⟨N, 2, none⟩ = some (.int .i64 (t.file : Int)) ∧ w1.cell? ⟨p, 4, none⟩ = some (.map (some nm)))
  have hdo := do_any t nm D.names W.drew (hP0.names.keep rfl)
  unfold tval at hdo
  go_region_held3 (fun w' => w'.cell? ⟨N, 0, none⟩ = some (.string t.taken) ∧ w'.cell? ⟨N, 1, none⟩ = some (.string t.given) ∧ w'.cell? ⟨N, 2, none⟩ = some (.int .i64 (t.file : Int)) ∧ w'.cell? ⟨p, 4, none⟩ = some (.map (some nm))) (first | go_keep | (refine ⟨?_, ?_, ?_, ?_⟩ <;> assumption))
    ((go_at_call 37; refine hdo.mono ?_; rintro e w1 ⟨rfl, hm1, hon1⟩; obtain ⟨m0, m1, m2, m3⟩ := hcs.out w1 hon1))
  have hP1 : Parts w1 p { D with names := Dk.turn t D.names } u fm nm sm tv J := hP0.named (fun k hk hn => hon1.block k hk hn) hm1
  have hb1 : w1.heap[N]? = some (.cells #[.string t.taken, .string t.given, .int .i64 (t.file : Int)] 64 (0, 0)) := (hon1.block N hNl hNn).trans hb0
  have hs1 : W.heap.size ≤ w1.heap.size := hon1.size
  have hold1 : ∀ k, k < w.heap.size → k ≠ nm → w1.heap[k]? = w.heap[k]? := fun k hk hn => (hon1.block k (by show k < W.heap.size; omega) hn).trans (hold k hk)
  have ho1 : w1.os = w.os ∧ w1.tape = w.tape ∧ w1.output = w.output := ⟨hon1.os.trans hbel.os, hon1.tape.trans hbel.tape, hon1.output.trans hbel.output⟩
  clear m0 m1 m2 m3 k0 k1 k2 hcs c0 c1 c2 c3 c4 c5 c6 c7 c8 c9 hf hdo hm1
  obtain ⟨⟨c0, c1, c2, c3, c4, c5, c6, c7, c8, c9⟩, hf⟩ := hP1.cells
  have k0 : w1.cell? ⟨N, 0, none⟩ = some (.string t.taken) := (Go.Joins.cell_of_block hb1 _).trans rfl
  have k1 : w1.cell? ⟨N, 1, none⟩ = some (.string t.given) := (Go.Joins.cell_of_block hb1 _).trans rfl
  have k2 : w1.cell? ⟨N, 2, none⟩ = some (.int .i64 (t.file : Int)) := (Go.Joins.cell_of_block hb1 _).trans rfl
  have hal : (w1.drew.alloc (.cells #[.string t.taken, .string t.given, .int .i64 (t.file : Int)] 64)).heap[w1.heap.size]? = some (.cells #[.string t.taken, .string t.given, .int .i64 (t.file : Int)] 64 (0, 0)) := heap_alloc_new w1.drew _
  have HO : Hid ((w1.drew.alloc (.cells #[.string t.taken, .string t.given, .int .i64 (t.file : Int)] 64)).ownsRow 0 64 3 tv D.turns.length (tcells tenc D.turns)) := hP1.turns.alloc _
  obtain ⟨ta, tc, htv, _, _⟩ := t_shape hP1.turns
  have HTV : Hid (tv = .slice ta D.turns.length tc) := htv
  rw [htv] at c6 HO
  obtain ⟨L, hL⟩ : ∃ L, L = D.turns.length := ⟨_, rfl⟩
  have HL : Hid (L = D.turns.length) := hL
  simp only at c6
  rw [← hL] at c6 HO
  have hLs : L + 1 ≤ 1000000000 := by omega
  clear htv hL
  have n1 := World.new_ne w1 ⟨p, 6, none⟩ c6
  have n2 := World.new_ne w1 ⟨N, 0, none⟩ k0
  have hNw : N < w1.heap.size := by omega
  have hpw : p < w1.heap.size := by omega
  have hNv : some N ≠ (Value.slice ta L tc).ownBlock := fun e => by
    have h1 := hlt N (.inr (.inr (.inr (.inr (.inl (by rw [HTV.out, ← HL.out]; exact e.symm))))))
    rw [HN.out] at h1; omega
  have hpv : some p ≠ (Value.slice ta L tc).ownBlock := fun e => by
    have h1 := hP1.turns
    rw [HTV.out, ← HL.out] at h1
    obtain ⟨c, hc⟩ := own_blk h1 e.symm
    exact cells_ne hc hP1.blk (by decide) rfl
  have hkp : Hid (∀ w2, (w1.drew.alloc (.cells #[.string t.taken, .string t.given, .int .i64 (t.file : Int)] 64)).grownBy w2 (Value.slice ta L tc).ownBlock → w2.cell? ⟨N, 0, none⟩ = some (.string t.taken) ∧ w2.cell? ⟨N, 1, none⟩ = some (.string t.given) ∧ w2.cell? ⟨N, 2, none⟩ = some (.int .i64 (t.file : Int)) ∧ w2.cell? ⟨p, 6, none⟩ = some (.slice ta L tc) ∧ (∀ i, w2.frozen? ⟨p, i, none⟩ = false)) :=
    (fun w2 hg => by
      have hb : ∀ k, k < w1.heap.size → some k ≠ (Value.slice ta L tc).ownBlock → w2.heap[k]? = w1.heap[k]? := fun k hk hne => (hg.block k (by simp; omega) hne).trans (heap_alloc_old w1.drew _ hk)
      exact ⟨(World.cell?_of_block (hb N hNw hNv)).trans k0, (World.cell?_of_block (hb N hNw hNv)).trans k1, (World.cell?_of_block (hb N hNw hNv)).trans k2, (World.cell?_of_block (hb p hpw hpv)).trans c6, fun i => (World.frozen?_of_block (hb p hpw hpv)).trans (hf i)⟩ : ∀ w2, (w1.drew.alloc (.cells #[.string t.taken, .string t.given, .int .i64 (t.file : Int)] 64)).grownBy w2 (Value.slice ta L tc).ownBlock → w2.cell? ⟨N, 0, none⟩ = some (.string t.taken) ∧ w2.cell? ⟨N, 1, none⟩ = some (.string t.given) ∧ w2.cell? ⟨N, 2, none⟩ = some (.int .i64 (t.file : Int)) ∧ w2.cell? ⟨p, 6, none⟩ = some (.slice ta L tc) ∧ (∀ i, w2.frozen? ⟨p, i, none⟩ = false))
  have HH : Hid (w1.os = w.os ∧ w1.tape = w.tape ∧ w1.output = w.output) := ho1
  clear ho1
  go_wp2
  have hNp : ¬ (N = p) := fun e => by have := hlt p (.inl rfl); rw [HN.out] at e; omega
  have hpN : ¬ (p = N) := fun e => hNp e.symm
  refine wp_region_held_drew (S := fun w' => w'.cell? ⟨N, 0, none⟩ = some (.string t.taken) ∧ w'.cell? ⟨N, 1, none⟩ = some (.string t.given) ∧ w'.cell? ⟨N, 2, none⟩ = some (.int .i64 (t.file : Int))) (by kernel_rfl) ⟨k0, k1, k2⟩ (fun hHeld => ?_)
  refine wpAnyH_take (i := 0) (oi := ⟨some 10, _, _, _, _, _⟩) (v := ?_) rfl (by kernel_rfl) (by kernel_rfl) (by kernel_rfl) (fun _ _ _ h => h) (Or.inl ⟨by rfl, ?_⟩) (by assumption) ?_
  rotate_left
  · intro w hSw; (try dsimp only at hSw); go_simp <;> (try with_reducible rfl)
  go_frame
  refine wpAnyH_take (i := 1) (oi := ⟨some 11, _, _, _, _, _⟩) (v := ?_) rfl (by kernel_rfl) (by kernel_rfl) (by kernel_rfl) (fun _ _ _ h => h) (Or.inl ⟨by rfl, ?_⟩) (by assumption) ?_
  rotate_left
  · intro w hSw; (try dsimp only at hSw); go_simp <;> (try with_reducible rfl)
  go_frame
  refine wpAnyH_take (i := 2) (oi := ⟨some 12, _, _, _, _, _⟩) (v := ?_) rfl (by kernel_rfl) (by kernel_rfl) (by kernel_rfl) (fun _ _ _ h => h) (Or.inl ⟨by rfl, ?_⟩) (by assumption) ?_
  rotate_left
  · intro w hSw; (try dsimp only at hSw); go_simp <;> (try with_reducible rfl)
  go_frame
  refine wpAnyH_take (i := 3) (oi := ⟨some 13, _, _, _, _, _⟩) (v := ?_) rfl (by kernel_rfl) (by kernel_rfl) (by kernel_rfl) (fun _ _ _ h => h) (Or.inl ⟨by rfl, ?_⟩) (by assumption) ?_
  rotate_left
  · intro w hSw; (try dsimp only at hSw); go_simp <;> (try with_reducible rfl)
  go_frame
  refine wpAnyH_take (i := 5) (oi := ⟨some 15, _, _, _, _, _⟩) (v := ?_) rfl (by kernel_rfl) (by kernel_rfl) (by kernel_rfl) (fun _ _ _ h => h) (Or.inl ⟨by rfl, ?_⟩) (by assumption) ?_
  rotate_left
  · intro w hSw; (try dsimp only at hSw); go_simp <;> (try with_reducible rfl)
  go_frame
  refine wpAnyH_ready (rs := [4, 6]) (by kernel_rfl) (by simp) ?_
  refine AllReadyH.cons rfl (fun K hK => ?_) (AllReadyH.cons rfl (fun K hK => ?_) AllReadyH.nil)
  · skip
    go_simp
    refine hK.out _ _ (by first | go_keep | (refine ⟨?_, ?_, ?_⟩ <;> assumption)) (fun hHeld => ?_)
    clear hK K
    refine wpAnyH_ready (rs := [6]) (by kernel_rfl) (by simp) ?_
    refine AllReadyH.cons rfl (fun K hK => ?_) AllReadyH.nil
    go_simp
    refine hK.out _ _ (by first | go_keep | (refine ⟨?_, ?_, ?_⟩ <;> assumption)) (fun hHeld => ?_)
    clear hK K
    refine wpAnyH_ready (rs := [7]) (by kernel_rfl) (by simp) ?_
    refine AllReadyH.cons rfl (fun K hK => ?_) AllReadyH.nil
    refine step_turn (by rfl) _ _ (by rfl) _ L D.turns (by rfl) HO.out ⟨w1.heap.size, 0, none⟩ _ t (by rfl) (fun j v hj => World.news_of_block hal j v hj) hLs ?_; intro a' c' w2 hown2 hg2 hpl2; obtain ⟨m0, m1, m2, m3, m4⟩ := hkp.out w2 hg2
    refine hK.out _ _ (by first | go_keep | (refine ⟨?_, ?_, ?_⟩ <;> assumption)) (fun hHeld => ?_)
    clear hK K
    go_frame
    refine wpAnyH_take (i := 8) (oi := ⟨some 18, _, _, _, _, _⟩) (v := ?_) rfl (by kernel_rfl) (by kernel_rfl) (by kernel_rfl) (fun _ _ _ h => h) (Or.inl ⟨by rfl, ?_⟩) (by assumption) ?_
    rotate_left
    · intro w hSw; (try dsimp only at hSw); go_simp <;> (try with_reducible rfl)
    go_frame
    refine wpAnyH_take (i := 9) (oi := ⟨some 19, _, _, _, _, _⟩) (v := ?_) rfl (by kernel_rfl) (by kernel_rfl) (by kernel_rfl) (fun _ _ _ h => h) (Or.inl ⟨by rfl, ?_⟩) (by assumption) ?_
    rotate_left
    · intro w hSw; (try dsimp only at hSw); go_simp <;> (try with_reducible rfl)
    go_frame
    refine wpAnyH_ready (rs := [10]) (by kernel_rfl) (by simp) ?_
    refine AllReadyH.cons rfl (fun K hK => ?_) AllReadyH.nil
    go_simp
    refine hK.out _ _ (by first | go_keep | (refine ⟨?_, ?_, ?_⟩ <;> assumption)) (fun hHeld => ?_)
    clear hK K
    refine wpAnyH_done (by kernel_rfl) ?_ _
    go_wp2
    first | go_end0 | refine bodyPost_ret (results_none rfl _ _ _) rfl ?_
    have hb2 : ∀ k, k < w1.heap.size → some k ≠ (Value.slice ta L tc).ownBlock → w2.heap[k]? = w1.heap[k]? := fun k hk hne => (hg2.block k (by simp; omega) hne).trans (heap_alloc_old w1.drew _ hk)
    have hset : ∀ k, k ≠ p → (w2.setCell ⟨p, 6, none⟩ (.slice a' (L + 1) c')).heap[k]? = w2.heap[k]? := fun k hk => set_other w2 p 6 _ hk
    have htv : tv.ownBlock = (Value.slice ta L tc).ownBlock := by rw [HTV.out, ← HL.out]
    refine ⟨rfl, ⟨.slice a' (L + 1) c', ?_, fun g hg => ?_⟩, ?_⟩
    · refine hP1.turned (fun k hk h1 h2 => (hset k h1).trans (hb2 k hk (fun e => h2 (htv.trans e.symm)))) (D.turns ++ [t]) (Go.Joins.block_setCell ((hb2 p hpw hpv).trans hP1.blk) _) ?_
      rw [show (D.turns ++ [t]).length = L + 1 by rw [List.length_append, HL.out]; rfl]
      refine own_keep hown2 fun g hg => hset g fun e => ?_
      obtain ⟨c, hc⟩ := own_blk hown2 hg
      have hpb := (hb2 p hpw hpv).trans hP1.blk
      exact cells_ne hc hpb (by decide) e
    · rcases hpl2 g hg with h1 | h1
      · exact .inl (htv.trans h1)
      · have : w1.heap.size ≤ g := by simp at h1; omega
        right; omega
    · refine ⟨?_, ?_, ?_, ?_, fun k hk hn => ?_⟩
      · exact hg2.os.trans HH.out.1
      · exact hg2.tape.trans HH.out.2.1
      · exact hg2.output.trans HH.out.2.2
      · have := hg2.size; simp at this ⊢; omega
      · have h1 : k ≠ p := fun e => hn (.inl e)
        exact ((hset k h1).trans (hb2 k (by omega) fun e => hn (.inr (.inr (htv.trans e.symm))))).trans (hold1 k hk fun e => hn (.inr (.inl e)))
  · skip
    go_simp
    refine hK.out _ _ (by first | go_keep | (refine ⟨?_, ?_, ?_⟩ <;> assumption)) (fun hHeld => ?_)
    clear hK K
    refine wpAnyH_ready (rs := [4]) (by kernel_rfl) (by simp) ?_
    refine AllReadyH.cons rfl (fun K hK => ?_) AllReadyH.nil
    go_simp
    refine hK.out _ _ (by first | go_keep | (refine ⟨?_, ?_, ?_⟩ <;> assumption)) (fun hHeld => ?_)
    clear hK K
    refine wpAnyH_ready (rs := [7]) (by kernel_rfl) (by simp) ?_
    refine AllReadyH.cons rfl (fun K hK => ?_) AllReadyH.nil
    refine step_turn (by rfl) _ _ (by rfl) _ L D.turns (by rfl) HO.out ⟨w1.heap.size, 0, none⟩ _ t (by rfl) (fun j v hj => World.news_of_block hal j v hj) hLs ?_; intro a' c' w2 hown2 hg2 hpl2; obtain ⟨m0, m1, m2, m3, m4⟩ := hkp.out w2 hg2
    refine hK.out _ _ (by first | go_keep | (refine ⟨?_, ?_, ?_⟩ <;> assumption)) (fun hHeld => ?_)
    clear hK K
    go_frame
    refine wpAnyH_take (i := 8) (oi := ⟨some 18, _, _, _, _, _⟩) (v := ?_) rfl (by kernel_rfl) (by kernel_rfl) (by kernel_rfl) (fun _ _ _ h => h) (Or.inl ⟨by rfl, ?_⟩) (by assumption) ?_
    rotate_left
    · intro w hSw; (try dsimp only at hSw); go_simp <;> (try with_reducible rfl)
    go_frame
    refine wpAnyH_take (i := 9) (oi := ⟨some 19, _, _, _, _, _⟩) (v := ?_) rfl (by kernel_rfl) (by kernel_rfl) (by kernel_rfl) (fun _ _ _ h => h) (Or.inl ⟨by rfl, ?_⟩) (by assumption) ?_
    rotate_left
    · intro w hSw; (try dsimp only at hSw); go_simp <;> (try with_reducible rfl)
    go_frame
    refine wpAnyH_ready (rs := [10]) (by kernel_rfl) (by simp) ?_
    refine AllReadyH.cons rfl (fun K hK => ?_) AllReadyH.nil
    go_simp
    refine hK.out _ _ (by first | go_keep | (refine ⟨?_, ?_, ?_⟩ <;> assumption)) (fun hHeld => ?_)
    clear hK K
    refine wpAnyH_done (by kernel_rfl) ?_ _
    go_wp2
    first | go_end0 | refine bodyPost_ret (results_none rfl _ _ _) rfl ?_
    have hb2 : ∀ k, k < w1.heap.size → some k ≠ (Value.slice ta L tc).ownBlock → w2.heap[k]? = w1.heap[k]? := fun k hk hne => (hg2.block k (by simp; omega) hne).trans (heap_alloc_old w1.drew _ hk)
    have hset : ∀ k, k ≠ p → (w2.setCell ⟨p, 6, none⟩ (.slice a' (L + 1) c')).heap[k]? = w2.heap[k]? := fun k hk => set_other w2 p 6 _ hk
    have htv : tv.ownBlock = (Value.slice ta L tc).ownBlock := by rw [HTV.out, ← HL.out]
    refine ⟨rfl, ⟨.slice a' (L + 1) c', ?_, fun g hg => ?_⟩, ?_⟩
    · refine hP1.turned (fun k hk h1 h2 => (hset k h1).trans (hb2 k hk (fun e => h2 (htv.trans e.symm)))) (D.turns ++ [t]) (Go.Joins.block_setCell ((hb2 p hpw hpv).trans hP1.blk) _) ?_
      rw [show (D.turns ++ [t]).length = L + 1 by rw [List.length_append, HL.out]; rfl]
      refine own_keep hown2 fun g hg => hset g fun e => ?_
      obtain ⟨c, hc⟩ := own_blk hown2 hg
      have hpb := (hb2 p hpw hpv).trans hP1.blk
      exact cells_ne hc hpb (by decide) e
    · rcases hpl2 g hg with h1 | h1
      · exact .inl (htv.trans h1)
      · have : w1.heap.size ≤ g := by simp at h1; omega
        right; omega
    · refine ⟨?_, ?_, ?_, ?_, fun k hk hn => ?_⟩
      · exact hg2.os.trans HH.out.1
      · exact hg2.tape.trans HH.out.2.1
      · exact hg2.output.trans HH.out.2.2
      · have := hg2.size; simp at this ⊢; omega
      · have h1 : k ≠ p := fun e => hn (.inl e)
        exact ((hset k h1).trans (hb2 k (by omega) fun e => hn (.inr (.inr (htv.trans e.symm))))).trans (hold1 k hk fun e => hn (.inr (.inl e)))
end Go.Proofs.Ytefadkengfjdmaa
