/- The disk's create. -/
import Derived.Test.YtefadkengfjdmaaDKC
namespace Go.Proofs.Ytefadkengfjdmaa
open Go.RowKit Go.Shelf

/-- a file more -/
theorem parts_created {W w' : World} {p u fm nm sm q n : Nat} {D : Dk.D} {tv : Value} {J : List (Nat × FH × Dk.F)} (h : Parts W p D u fm nm sm tv J)
    (hq : W.heap[q]? = some (.cells #[.slice none 0 0, .int .i64 0] 58 (0, 0))) (hnew : ∀ k, foot p fm nm sm tv J k → k ≠ q) (hn : look D.files n = none)
    (hm : MapAt ik fv w' fm (mput (J.map fun x => (x.1, x.2.1)) n ⟨q, .slice none 0 0⟩)) (ht : Turn1 W w' fm) :
    Parts w' p { D with files := D.files ++ [(n, ⟨[], 0⟩)] } u fm nm sm tv (J ++ [(n, ⟨q, .slice none 0 0⟩, ⟨[], 0⟩)]) := by
  obtain ⟨es, c, he⟩ := h.files.blk
  obtain ⟨a, _, b, d, e, f⟩ := h.maps he (fun k _ hk => ht.block k hk)
  have hl : look (J.map fun x => (x.1, x.2.1)) n = none := by
    rw [look_j]
    have := h.look n
    rw [hn] at this
    cases hj : look J n with
    | none => rfl
    | some y => rw [hj] at this; cases this
  refine ⟨a.trans h.blk, ?_, ?_, b h.ne.1.symm, d h.ne.2.1.symm, e, ?_, ?_, ?_, h.ne⟩
  · rw [List.map_append, h.jf]; rfl
  · rw [mput_none _ _ _ hl] at hm
    rw [List.map_append]
    exact hm
  · intro x hx
    rcases List.mem_append.1 hx with hx | hx
    · exact f x hx
    · simp at hx
      subst hx
      refine ⟨(ht.block q (cells_map hq he)).trans hq, ⟨rfl, .inl ⟨rfl, rfl⟩⟩, by simp, by simp⟩
  · rw [List.map_append, List.nodup_append]
    refine ⟨h.qs, by simp, ?_⟩
    intro x hx y hy
    simp at hy
    subst hy
    obtain ⟨z, hz, rfl⟩ := List.mem_map.1 hx
    exact hnew _ (.inr (.inr (.inr (.inr (.inr ⟨z, hz, .inl rfl⟩)))))
  · refine List.pairwise_append.2 ⟨h.vs, by simp, fun x hx y hy => ?_⟩
    simp at hy
    subst hy
    cases hg : x.2.1.v.ownBlock with
    | none => exact .inl rfl
    | some g => exact .inr (by simp [Value.ownBlock])

theorem look_app {α β : Type} [DecidableEq α] : ∀ {l : List (α × β)} {k : α} (v : β), look l k = none → look (l ++ [(k, v)]) k = some v
  | [], k, v, _ => by simp [look]
  | (a, x) :: l, k, v, h => by
    by_cases hk : a = k
    · simp [look, hk] at h
    · simp only [look, hk, if_false] at h
      simp only [List.cons_append, look, hk, if_false]
      exact look_app v h
theorem Dk.sum_app (l : List (Nat × Dk.F)) (n : Nat) : Dk.sum (l ++ [(n, ⟨[], 0⟩)]) = Dk.sum l := by simp [Dk.sum]

/-- the disk with a file more -/
def Dk.created (D : Dk.D) (s : ByteArray) : Dk.D := Dk.turned { D with files := D.files ++ [(D.last + 1, (⟨[], 0⟩ : Dk.F))], last := D.last + 1 } ⟨⟨#[]⟩, s, D.last + 1⟩
theorem Dk.Ok.more {D : Dk.D} (h : Dk.Ok D) : Dk.Ok { D with files := D.files ++ [(D.last + 1, (⟨[], 0⟩ : Dk.F))], last := D.last + 1 } := by
  refine ⟨h.q, ?_, ?_, ?_, h.nk, h.kk, ?_, ?_, ?_, h.stop, h.fault, h.ns, h.ks, h.ts⟩
  · show Dk.sum (D.files ++ [(D.last + 1, (⟨[], 0⟩ : Dk.F))]) ≤ D.quota; rw [Dk.sum_app]; exact h.use
  · show ((D.files ++ [(D.last + 1, (⟨[], 0⟩ : Dk.F))]).map (·.1)).Nodup
    rw [List.map_append, List.nodup_append]
    refine ⟨h.fk, by simp, fun a ha b hb => ?_⟩
    simp at hb
    obtain ⟨y, hy, rfl⟩ := List.mem_map.1 ha
    have := h.pos y hy
    omega
  · intro x hx
    rcases List.mem_append.1 hx with hx | hx
    · have := h.pos x hx; show 1 ≤ x.1 ∧ x.1 ≤ D.last + 1; omega
    · simp at hx; subst hx; exact ⟨by simp, Nat.le_refl _⟩
  · intro x hx
    show x.2 ∈ (D.files ++ [(D.last + 1, (⟨[], 0⟩ : Dk.F))]).map (·.1)
    rw [List.map_append]; exact List.mem_append.2 (.inl (h.nf x hx))
  · intro x hx
    show x.2 ∈ (D.files ++ [(D.last + 1, (⟨[], 0⟩ : Dk.F))]).map (·.1)
    rw [List.map_append]; exact List.mem_append.2 (.inl (h.kf x hx))
  · intro t ht hg
    show t.file ∈ (D.files ++ [(D.last + 1, (⟨[], 0⟩ : Dk.F))]).map (·.1)
    rw [List.map_append]; exact List.mem_append.2 (.inl (h.tf t ht hg))
theorem Dk.no_last {D : Dk.D} (h : Dk.Ok D) : look D.files (D.last + 1) = none := look_none.2 fun hm => by
  obtain ⟨y, hy, e⟩ := List.mem_map.1 hm
  have := h.pos y hy
  omega

set_option maxRecDepth 100000 in
set_option maxHeartbeats 2000000 in
theorem create_any {w : World} {p fm nm sm : Nat} {D : Dk.D} {tv : Value} {J : List (Nat × FH × Dk.F)} {S : Nat → Prop} (hO : Dk.Ok D) (hP : Parts w p D (Dk.sum D.files) fm nm sm tv J) (hS : ∀ k, foot p fm nm sm tv J k → S k) (hn : D.turns.length ≤ 1000000) (hlast : D.last ≤ 1000000) (s : ByteArray) (hz : s.size ≤ 16) :
    Calls Try.prog 26 #[.pointer (some ⟨p, 0, none⟩), .string s] w fun e w' => ∃ x tv' J', e = .returned (.pointer (some ⟨x.q, 0, none⟩)) ∧ Dk.Ok (Dk.created D s) ∧ Parts w' p (Dk.created D s) (Dk.sum (Dk.created D s).files) fm nm sm tv' J' ∧ look J' (D.last + 1) = some (x, ⟨[], 0⟩) ∧ (∀ k, foot p fm nm sm tv' J' k → grow1 S w k) ∧ OnlyIn S w w' := by
  have hm : Try.prog.follows .mixedOrders = true := by kernel_rfl
  have hO2 : Dk.Ok (Dk.created D s) := hO.more.turned _ hz (fun _ => by show D.last + 1 ∈ (D.files ++ [(D.last + 1, (⟨[], 0⟩ : Dk.F))]).map (·.1); simp)
  have hnl := Dk.no_last hO
  have hO1 := hO.more
  unfold Dk.created at hO2 ⊢
  obtain ⟨M, hM⟩ : ∃ M, M = D.last + 1 := ⟨_, rfl⟩
  have HM : Hid (M = D.last + 1) := hM
  rw [← hM] at hO2 hnl hO1 ⊢
  have j1 : IntKind.i64.wrap ((D.last : Int) + 1) = (M : Int) := by rw [IntKind.wrap_i64]; omega
  clear hM
  have hP1 : Parts (w.setCell ⟨p, 2, none⟩ (.int .i64 (M : Int))) p { D with last := M } (Dk.sum D.files) fm nm sm tv J := hP.setLast rfl
  have hP2 : Parts ((w.setCell ⟨p, 2, none⟩ (.int .i64 (M : Int))).alloc (.cells #[.slice none 0 0, .int .i64 0] 58)) p { D with last := M } (Dk.sum D.files) fm nm sm tv J := hP1.keep fun k hk => heap_alloc_old _ _ (hP1.lt hk)
  have hq2 : ((w.setCell ⟨p, 2, none⟩ (.int .i64 (M : Int))).alloc (.cells #[.slice none 0 0, .int .i64 0] 58)).heap[w.heap.size]? = some (.cells #[.slice none 0 0, .int .i64 0] 58 (0, 0)) := by
    have := heap_alloc_new (w.setCell ⟨p, 2, none⟩ (.int .i64 (M : Int))) (.cells #[.slice none 0 0, .int .i64 0] 58)
    rwa [show (w.setCell ⟨p, 2, none⟩ (.int .i64 (M : Int))).heap.size = w.heap.size by simp] at this
  have hon2 : OnlyIn S w ((w.setCell ⟨p, 2, none⟩ (.int .i64 (M : Int))).alloc (.cells #[.slice none 0 0, .int .i64 0] 58)) := (only_set w p 2 _ (hS p (.inl rfl))).trans (OnlyIn.of_below (below_alloc _ _))
  have hnew : ∀ k, foot p fm nm sm tv J k → k ≠ w.heap.size := fun k hk => by have := hP.lt hk; omega
  obtain ⟨⟨c0, c1, c2, c3, c4, c5, c6, c7, c8, c9⟩, hf⟩ := hP.cells
  go_enter Try.func26, Try.ntmps26
  go_wp2
  generalize (w.setCell ⟨p, 2, none⟩ (.int .i64 (M : Int))).alloc (.cells #[.slice none 0 0, .int .i64 0] 58) = W at *
  clear c0 c1 c2 c3 c4 c5 c6 c7 c8 c9 hf hP1
  obtain ⟨⟨c0, c1, c2, c3, c4, c5, c6, c7, c8, c9⟩, hf⟩ := hP2.cells
  simp only at c2
  go_still_tail 9, hm
  go_wp2_with (first
    | (at_mapUpdate; go_must (refine wp_update_at (w := _) rfl _ _ _ _ rfl 54 ikE Try.underlying45 fm (J.map fun x => (x.1, x.2.1)) M (⟨w.heap.size, .slice none 0 0⟩ : FH) rfl rfl rfl (hP2.files.keep rfl) ?_; intro w1 hm1 ht1; have hP3 := parts_created (n := M) (hP2.keep (w' := W.drew) fun k _ => rfl) hq2 hnew hnl hm1 ht1; have cl := hP3.cells.1.2.2.1; simp only at cl; have hc := turn_any hP3 ⟨⟨#[]⟩, s, M⟩ hn; simp only [tval] at hc))
    | (go_at_call 35; go_must (refine hc.mono ?_; rintro e w2 ⟨rfl, ⟨tv', hP4, hv4⟩, hon4⟩)))
  go_ret
  have hs1 : W.heap.size = w1.heap.size := ht1.size.symm
  have hsw := hon2.size
  refine ⟨⟨w.heap.size, .slice none 0 0⟩, tv', J ++ [(M, (⟨w.heap.size, .slice none 0 0⟩ : FH), (⟨[], 0⟩ : Dk.F))], rfl, hO2, ?_, look_app _ ?_, ?_, ?_⟩
  · show Parts w2 p _ (Dk.sum (D.files ++ [(M, (⟨[], 0⟩ : Dk.F))])) fm nm sm tv' _
    rw [Dk.sum_app]
    exact hP4
  · have := hP.look M
    rw [hnl] at this
    cases hj : look J M with
    | none => rfl
    | some y => rw [hj] at this; cases this
  · rintro k (h | h | h | h | h | ⟨y, hy, h⟩)
    · exact .inl (hS k (.inl h))
    · exact .inl (hS k (.inr (.inl h)))
    · exact .inl (hS k (.inr (.inr (.inl h))))
    · exact .inl (hS k (.inr (.inr (.inr (.inl h)))))
    · exact (hv4 k h).imp (fun h => hS k (.inr (.inr (.inr (.inr (.inl h)))))) fun h => by omega
    · rcases List.mem_append.1 hy with hy | hy
      · exact .inl (hS k (.inr (.inr (.inr (.inr (.inr ⟨y, hy, h⟩))))))
      · simp at hy
        subst hy
        rcases h with h | h
        · exact .inr (by rw [h]; exact Nat.le_refl _)
        · simp [Value.ownBlock] at h
  · refine hon2.trans (OnlyIn.trans (b := w1) ⟨ht1.os, ht1.tape, ht1.output, by omega, fun k _ hk => ht1.block k fun e => hk (.inl (hS k (.inr (.inl e))))⟩ (hon4.mono fun k _ hk => ?_))
    rcases hk with h | h | h
    · exact .inl (.inl (hS k (.inl h)))
    · exact .inl (.inl (hS k (.inr (.inr (.inl h)))))
    · exact .inl (.inl (hS k (.inr (.inr (.inr (.inr (.inl h)))))))
end Go.Proofs.Ytefadkengfjdmaa
