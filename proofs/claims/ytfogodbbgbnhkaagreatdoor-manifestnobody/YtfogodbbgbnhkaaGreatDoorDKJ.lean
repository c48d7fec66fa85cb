/- The disk's settle. -/
import Derived.Test.YtfogodbbgbnhkaaGreatDoorDKH
import Derived.Shelf.SlMaps.Clone
namespace Go.Proofs.YtfogodbbgbnhkaaGreatDoor
open Go.RowKit Go.Shelf

set_option maxRecDepth 100000 in
set_option maxHeartbeats 2000000 in
theorem dclone_any (b : Nat) (es : Array MapEntry) (clock : Nat) (w : World) (hb : w.heap[b]? = some (.map es clock)) :
    Calls Tryz.prog 53 #[.map (some b)] w fun e w' => e = .returned (.map (some w.heap.size)) ∧ w' = w.alloc (.map es clock) := by
  have hq := fun w => run_eql_map_nil_sl (P := Tryz.prog) w 45 _ _ (some b) Tryz.underlying45
  go_enter Tryz.func53, Tryz.ntmps53
  go_wp2
  rw [run_callFunc_extern Tryz.func107 (by kernel_rfl) (by kernel_rfl) (by kernel_rfl) (e := Extern.MapsClone.clone) (by kernel_rfl), run_maps_clone_sl w 45 hb]
  simp only [Result.andThen]
  rw [Oper.upon_value]
  go_wp2
  rw [run_typeAssert_map_sl _ 45 20 _ _ _ Tryz.underlying45]
  simp only [Result.andThen]
  rw [Oper.upon_value]
  go_wp2
  go_ret
  exact ⟨rfl, rfl⟩

/-- names behind some turns -/
def Dk.turns (l : List Dk.T) (K : List (ByteArray × Nat)) : List (ByteArray × Nat) := l.foldl (fun K t => Dk.turn t K) K
theorem Dk.turns_take {l : List Dk.T} {K : List (ByteArray × Nat)} {k : Nat} {t : Dk.T} (h : l[k]? = some t) : Dk.turns (l.take (k + 1)) K = Dk.turn t (Dk.turns (l.take k) K) := by
  unfold Dk.turns
  rw [List.take_add_one, h]
  simp
theorem Dk.turns_nodup : ∀ (l : List Dk.T) (K : List (ByteArray × Nat)), (K.map (·.1)).Nodup → ((Dk.turns l K).map (·.1)).Nodup
  | [], _, h => h
  | _ :: l, _, h => Dk.turns_nodup l _ (Dk.turn_nodup h)
theorem Dk.turns_mem : ∀ (l : List Dk.T) (K : List (ByteArray × Nat)) (Q : ByteArray × Nat → Prop), (∀ x ∈ K, Q x) → (∀ t ∈ l, t.given ≠ ⟨#[]⟩ → Q (t.given, t.file)) → ∀ x ∈ Dk.turns l K, Q x
  | [], _, _, h, _ => h
  | t :: l, K, Q, h, ht => Dk.turns_mem l (Dk.turn t K) Q (fun x hx => by
      rcases Dk.turn_mem hx with h1 | ⟨h1, rfl⟩
      · exact h x h1
      · exact ht t (.head _) h1) fun t' h' => ht t' (.tail _ h')
/-- the first turns are safe, the others never were -/
def Dk.settled (D : Dk.D) (n : Nat) : Dk.D := { D with kept := Dk.turns (D.turns.take n) D.kept, names := Dk.turns (D.turns.take n) D.kept, turns := [] }
def Dk.settle (D : Dk.D) (n : Nat) : Dk.D := { Dk.settled D n with files := D.files.filter fun x => Dk.named (Dk.settled D n) x.1 }
theorem Dk.Ok.settled {D : Dk.D} (h : Dk.Ok D) (n : Nat) : Dk.Ok (Dk.settled D n) := by
  have h1 : ∀ x ∈ Dk.turns (D.turns.take n) D.kept, x.2 ∈ D.files.map (·.1) := Dk.turns_mem _ _ (fun x => x.2 ∈ D.files.map (·.1)) h.kf fun t ht hg => h.tf t (List.mem_of_mem_take ht) hg
  have h3 : ∀ x ∈ Dk.turns (D.turns.take n) D.kept, x.1.size ≤ 16 := Dk.turns_mem _ _ (fun x => x.1.size ≤ 16) h.ks fun t ht _ => h.ts t (List.mem_of_mem_take ht)
  have h2 := Dk.turns_nodup (D.turns.take n) D.kept h.kk
  exact ⟨h.q, h.use, h.fk, h.pos, h2, h2, h1, h1, fun t ht => (by cases ht), h.stop, h.fault, h3, h3, fun t ht => (by cases ht)⟩
theorem Dk.sum_filter (l : List (Nat × Dk.F)) (g : Nat × Dk.F → Bool) : Dk.sum (l.filter g) ≤ Dk.sum l := by
  induction l with
  | nil => simp [Dk.sum]
  | cons a l ih =>
    simp only [List.filter_cons]
    split
    · simp only [Dk.sum, List.map_cons, List.sum_cons] at ih ⊢; omega
    · simp only [Dk.sum, List.map_cons, List.sum_cons] at ih ⊢; omega
theorem Dk.Ok.settle {D : Dk.D} (h : Dk.Ok D) (n : Nat) : Dk.Ok (Dk.settle D n) := by
  have hS := h.settled n
  have hn : ∀ x ∈ (Dk.settled D n).names, x.2 ∈ (D.files.filter fun x => Dk.named (Dk.settled D n) x.1).map (·.1) := fun x hx => by
    obtain ⟨y, hy, e⟩ := List.mem_map.1 (hS.nf x hx)
    refine List.mem_map.2 ⟨y, List.mem_filter.2 ⟨hy, ?_⟩, e⟩
    unfold Dk.named
    rw [decide_eq_true_eq, e]
    exact List.mem_map.2 ⟨x, hx, rfl⟩
  exact ⟨hS.q, Nat.le_trans (Dk.sum_filter _ _) hS.use, hS.fk.sublist (List.filter_sublist.map _), fun x hx => hS.pos x (List.mem_filter.1 hx).1, hS.nk, hS.kk, hn, hn, fun t ht => (by cases ht), hS.stop, hS.fault, hS.ns, hS.ks, fun t ht => (by cases ht)⟩

/-- the names are cloned, the turns are gone -/
theorem parts_settled {w W : World} {p u fm nm sm : Nat} {D : Dk.D} {tv : Value} {J : List (Nat × FH × Dk.F)} (h : Parts w p D u fm nm sm tv J) {es : Array MapEntry} {clock : Nat} (hs : w.heap[sm]? = some (.map es clock))
    (hW : W = ((w.setCell ⟨p, 4, none⟩ (.map (some w.heap.size))).setCell ⟨p, 6, none⟩ (.slice none 0 0)).alloc (.map es clock)) : Parts W p { D with names := D.kept, turns := [] } u fm w.heap.size sm (.slice none 0 0) J ∧ OnlyIn (fun k => k = p) w W := by
  have hpl := heap_lt h.blk
  have hsz : ((w.setCell ⟨p, 4, none⟩ (.map (some w.heap.size))).setCell ⟨p, 6, none⟩ (.slice none 0 0)).heap.size = w.heap.size := by simp
  have hko : ∀ k, k ≠ p → k < w.heap.size → W.heap[k]? = w.heap[k]? := fun k hk1 hk2 => by rw [hW, heap_alloc_old _ _ (by rw [hsz]; exact hk2), set_other _ p 6 _ hk1, set_other _ p 4 _ hk1]
  have hnew : W.heap[w.heap.size]? = some (.map es clock) := by rw [hW, heap_alloc_at, if_pos hsz.symm]
  have hmp : ∀ {b : Nat} {e : Array MapEntry} {c : Nat}, w.heap[b]? = some (.map e c) → W.heap[b]? = w.heap[b]? := fun he => hko _ (cells_map h.blk he).symm (heap_lt he)
  have hcell : ∀ {k : Nat} {c : Array Value} {T : TypeId} {r : Nat × Nat}, w.heap[k]? = some (.cells c T r) → T ≠ 48 → W.heap[k]? = w.heap[k]? := fun hc hT => hko _ (cells_ne hc h.blk hT) (heap_lt hc)
  have hsl := h.kept.lt
  have hfl := h.files.lt
  refine ⟨⟨?_, h.jf, ?_, ?_, ?_, ⟨rfl, .inl ⟨rfl, rfl⟩⟩, ?_, h.qs, h.vs, ?_⟩, ?_⟩
  · rw [hW, heap_alloc_old _ _ (by rw [hsz]; exact hpl)]
    exact Go.Joins.block_setCell (Go.Joins.block_setCell h.blk _) _
  · obtain ⟨e, c, he⟩ := h.files.blk; exact h.files.keep (hmp he)
  · obtain ⟨e, c, h1, h2, h3⟩ := h.kept
    rw [hs] at h1
    simp only [Option.some.injEq, Obj.map.injEq] at h1
    obtain ⟨rfl, rfl⟩ := h1
    exact ⟨_, _, hnew, h2, h3⟩
  · obtain ⟨e, c, he⟩ := h.kept.blk; exact h.kept.keep (hmp he)
  · intro x hx
    refine (h.each x hx).keep (hcell (h.each x hx).blk (by decide)) fun g hg => ?_
    obtain ⟨c, hc⟩ := own_blk (h.each x hx).row hg
    exact hcell hc (by decide)
  · exact ⟨by omega, h.ne.2.1, by omega⟩
  · rw [hW]
    refine ⟨rfl, rfl, rfl, by simp, fun k hk1 hk2 => ?_⟩
    rw [← hW]
    exact hko k hk2 hk1

set_option maxRecDepth 100000 in
set_option maxHeartbeats 4000000 in
theorem settle_any {w : World} {p fm nm sm : Nat} {D : Dk.D} {tv : Value} {J : List (Nat × FH × Dk.F)} {S : Nat → Prop} (hO : Dk.Ok D) (hP : Parts w p D (Dk.sum D.files) fm nm sm tv J) (hS : ∀ k, foot p fm nm sm tv J k → S k) (n : Nat) (hn : n ≤ D.turns.length) (htl : D.turns.length ≤ 1000000) :
    Calls Tryz.prog 25 #[.pointer (some ⟨p, 0, none⟩), .int .i64 (n : Int)] w fun e w' => e = .returned (.tuple #[]) ∧ DK w' p (Dk.settle D n) (grow1 S w) ∧ OnlyIn S w w' := by
  have hm : Tryz.prog.follows .mixedOrders = true := by kernel_rfl
  obtain ⟨⟨c0, c1, c2, c3, c4, c5, c6, c7, c8, c9⟩, hf⟩ := hP.cells
  obtain ⟨ta, tc, htv, hta, htc⟩ := t_shape hP.turns
  have hrow : TRow 3 tenc (⟨⟨#[]⟩, ⟨#[]⟩, 0⟩ : Dk.T) w ta D.turns.length D.turns := trow_of_owns tencE (by rw [← htv]; exact hP.turns) (by decide) (by omega)
  rw [htv] at c6
  have i1 : (0 : Int) ≤ (n : Int) := by omega
  have i2 : (n : Int) ≤ (tc : Int) := by omega
  have Htv : Hid (tv = .slice ta D.turns.length tc) := htv
  have hng : ∃ g, ta = some ⟨g, 0, none⟩ ∨ (ta = none ∧ n = 0) := by
    rcases hP.turns.2 with ⟨h1, h2⟩ | ⟨g, cap, cur, h1, _⟩
    · rw [htv] at h1
      simp only [Value.slice.injEq] at h1
      exact ⟨0, .inr ⟨h1.1, by omega⟩⟩
    · rw [htv] at h1
      simp only [Value.slice.injEq] at h1
      exact ⟨g, .inl h1.1⟩
  obtain ⟨g, hg⟩ := hng
  rcases hg with rfl | ⟨rfl, rfl⟩
  · clear hta htv
    obtain ⟨L, hL⟩ : ∃ L, L = D.turns.length := ⟨_, rfl⟩
    have HL : Hid (L = D.turns.length) := hL
    rw [← hL] at c6
    clear hL
    go_enter Tryz.func25, Tryz.ntmps25
    go_wp2
    go_loopw [13] (fun i wr => ∃ k : Nat, k ≤ n ∧ i = .int .i64 k ∧ Parts wr p { D with kept := Dk.turns (D.turns.take k) D.kept } (Dk.sum D.files) fm nm sm tv J ∧ OnlyIn (fun x => x = sm) w wr) (fun i _ => n - (intOf i).toNat)
    case atStart => exact ⟨0, by omega, rfl, hP, OnlyIn.refl _ _⟩
    case round =>
      obtain ⟨k, hk, rfl, hPr, honr⟩ := hrel
      clear c0 c1 c2 c3 c4 c5 c6 c7 c8 c9 hf
      by_cases hlt : k < n
      · have hkl : k < D.turns.length := by omega
        obtain ⟨t, ht⟩ : ∃ t, D.turns[k]? = some t := ⟨D.turns[k], List.getElem?_eq_getElem hkl⟩
        have hrowr : TRow 3 tenc (⟨⟨#[]⟩, ⟨#[]⟩, 0⟩ : Dk.T) wr (some ⟨g, 0, none⟩) D.turns.length D.turns := trow_of_owns tencE (by rw [← Htv.out]; exact hPr.turns) (by decide) (by omega)
        obtain ⟨b, off, eb, hat⟩ := hrowr.at (by omega)
        simp only [Option.some.injEq, Addr.mk.injEq] at eb
        obtain ⟨rfl, rfl, _⟩ := eb
        have hatk := hat k hkl
        rw [show D.turns.getD k ⟨⟨#[]⟩, ⟨#[]⟩, 0⟩ = t by rw [List.getD_eq_getElem?_getD, ht]; rfl] at hatk
        have y0 : wr.cell? ⟨g, k * 3, none⟩ = some (.string t.taken) := by have := hatk 0 _ rfl; simpa using this
        have y1 : wr.cell? ⟨g, k * 3 + 1, none⟩ = some (.string t.given) := by have := hatk 1 _ rfl; simpa using this
        have y2 : wr.cell? ⟨g, k * 3 + 2, none⟩ = some (.int .i64 (t.file : Int)) := by have := hatk 2 _ rfl; simpa using this
        have i3 : (0 : Int) ≤ (k : Int) := by omega
        have i4 : (k : Int) < (n : Int) := by omega
        have i5 : IntKind.i64.wrap ((k : Int) + 1) = ((k + 1 : Nat) : Int) := by rw [IntKind.wrap_i64]; omega
        obtain ⟨⟨c0, c1, c2, c3, c4, c5, c6, c7, c8, c9⟩, hf⟩ := hPr.cells
        have HT : Hid (D.turns[k]? = some t) := ht
        clear ht hat hatk hrowr hrow
        go_wp2
        have hPW : Parts (wr.alloc (.cells #[.string t.taken, .string t.given, .int .i64 (t.file : Int)] 109)) p { D with kept := Dk.turns (D.turns.take k) D.kept } (Dk.sum D.files) fm nm sm tv J := hPr.keep fun x hx => heap_alloc_old wr _ (hPr.lt hx)
        have hbW : (wr.alloc (.cells #[.string t.taken, .string t.given, .int .i64 (t.file : Int)] 109)).heap[wr.heap.size]? = some (.cells #[.string t.taken, .string t.given, .int .i64 (t.file : Int)] 109 (0, 0)) := heap_alloc_new wr _
        have honW : OnlyIn (fun x => x = sm) w (wr.alloc (.cells #[.string t.taken, .string t.given, .int .i64 (t.file : Int)] 109)) := honr.trans (OnlyIn.of_below (below_alloc wr _))
        generalize wr.alloc (.cells #[.string t.taken, .string t.given, .int .i64 (t.file : Int)] 109) = W at hPW hbW honW ⊢
        have k0 : W.cell? ⟨wr.heap.size, 0, none⟩ = some (.string t.taken) := (Go.Joins.cell_of_block hbW _).trans rfl
        have k1 : W.cell? ⟨wr.heap.size, 1, none⟩ = some (.string t.given) := (Go.Joins.cell_of_block hbW _).trans rfl
        have k2 : W.cell? ⟨wr.heap.size, 2, none⟩ = some (.int .i64 (t.file : Int)) := (Go.Joins.cell_of_block hbW _).trans rfl
        have q5 := hPW.cells.1.2.2.2.2.2.1
        have hdo := do_any t sm (Dk.turns (D.turns.take k) D.kept) W.drew (hPW.kept.keep rfl)
        simp only [tval] at hdo
        go_still_tail 5, hm
        go_wp2_with (go_at_call 52; go_must (refine hdo.mono ?_; rintro e w1 ⟨rfl, hm1, hon1⟩))
        have hP1 := hPW.keeps (fun x hx hn => hon1.block x hx hn) hm1
        go_roundw
        case rel =>
          refine ⟨k + 1, by omega, rfl, ?_, honW.trans (OnlyIn.trans (b := W.drew) ⟨rfl, rfl, rfl, Nat.le_refl _, fun _ _ _ => rfl⟩ (hon1.mono fun x _ h => .inl (.inl h)))⟩
          rw [Dk.turns_take HT.out]
          exact hP1
        case measure => simp [intOf]; omega
      · skip
        have hkn : k = n := by omega
        subst hkn
        obtain ⟨es, clock, hb, _, _, _⟩ := id hPr.kept
        have hcl := dclone_any sm es clock wr hb
        have hPs := fun W hW => parts_settled (W := W) hPr hb hW
        have HPS : Hid (∀ W, W = ((wr.setCell ⟨p, 4, none⟩ (.map (some wr.heap.size))).setCell ⟨p, 6, none⟩ (.slice none 0 0)).alloc (.map es clock) → Parts W p (Dk.settled D k) (Dk.sum D.files) fm wr.heap.size sm (.slice none 0 0) J ∧ OnlyIn (fun k => k = p) wr W) := hPs
        obtain ⟨⟨c0, c1, c2, c3, c4, c5, c6, c7, c8, c9⟩, hf⟩ := hPr.cells
        have hpl := heap_lt hPr.blk
        have hi : ¬ ((k : Int) < (k : Int)) := by omega
        have hrz := honr.size
        clear hb hPs
        go_wp2_with (first | (go_at_call 53; go_must (refine hcl.mono ?_; rintro e w1 ⟨rfl, hw⟩; rw [hw]; clear hw w1)) | (go_at_call 54; go_must (obtain ⟨hP5, hon5⟩ := HPS.out _ rfl; refine (drop_any (hO.settled k) hP5).mono ?_; rintro e w6 ⟨rfl, hP6, hon6⟩)))
        first | go_end0 | refine bodyPost_ret (results_none rfl _ _ _) rfl ?_
        refine ⟨rfl, ⟨hO.settle k, fm, wr.heap.size, sm, .slice none 0 0, _, hP6, ?_⟩, ?_⟩
        · rintro x (h | h | h | h | h | ⟨y, hy, h⟩)
          · exact .inl (hS x (.inl h))
          · exact .inl (hS x (.inr (.inl h)))
          · exact .inr (by omega)
          · exact .inl (hS x (.inr (.inr (.inr (.inl h)))))
          · simp [Value.ownBlock] at h
          · exact .inl (hS x (.inr (.inr (.inr (.inr (.inr ⟨y, (List.mem_filter.1 hy).1, h⟩))))))
        · refine ((honr.mono fun x _ h => ?_).trans (hon5.mono fun x _ h => ?_)).trans (hon6.mono fun x _ h => ?_)
          · exact hS x (.inr (.inr (.inr (.inl h))))
          · exact .inl (hS x (.inl h))
          · rcases h with h | h
            · exact .inl (hS x (.inl h))
            · exact .inl (hS x (.inr (.inl h)))
  · have hL0 : D.turns.length = 0 := (hta rfl).1
    obtain rfl : tc = 0 := (hta rfl).2
    rw [hL0] at c6
    go_enter Tryz.func25, Tryz.ntmps25
    go_wp2
    go_loopw [13] (fun i wr => ∃ k : Nat, k = 0 ∧ i = .int .i64 k ∧ Parts wr p { D with kept := Dk.turns (D.turns.take k) D.kept } (Dk.sum D.files) fm nm sm tv J ∧ OnlyIn (fun x => x = sm) w wr) (fun i _ => 0 - (intOf i).toNat)
    case atStart => exact ⟨0, rfl, rfl, hP, OnlyIn.refl _ _⟩
    case round =>
      obtain ⟨k, hk0, rfl, hPr, honr⟩ := hrel
      clear c0 c1 c2 c3 c4 c5 c6 c7 c8 c9 hf
      subst hk0
      obtain ⟨es, clock, hb, _, _, _⟩ := id hPr.kept
      have hcl := dclone_any sm es clock wr hb
      have hPs := fun W hW => parts_settled (W := W) hPr hb hW
      have HPS : Hid (∀ W, W = ((wr.setCell ⟨p, 4, none⟩ (.map (some wr.heap.size))).setCell ⟨p, 6, none⟩ (.slice none 0 0)).alloc (.map es clock) → Parts W p (Dk.settled D 0) (Dk.sum D.files) fm wr.heap.size sm (.slice none 0 0) J ∧ OnlyIn (fun k => k = p) wr W) := hPs
      obtain ⟨⟨c0, c1, c2, c3, c4, c5, c6, c7, c8, c9⟩, hf⟩ := hPr.cells
      have hpl := heap_lt hPr.blk
      have hi : ¬ ((0 : Int) < (0 : Int)) := by omega
      have hrz := honr.size
      clear hb hPs
      go_wp2_with (first | (go_at_call 53; go_must (refine hcl.mono ?_; rintro e w1 ⟨rfl, hw⟩; rw [hw]; clear hw w1)) | (go_at_call 54; go_must (obtain ⟨hP5, hon5⟩ := HPS.out _ rfl; refine (drop_any (hO.settled 0) hP5).mono ?_; rintro e w6 ⟨rfl, hP6, hon6⟩)))
      first | go_end0 | refine bodyPost_ret (results_none rfl _ _ _) rfl ?_
      refine ⟨rfl, ⟨hO.settle 0, fm, wr.heap.size, sm, .slice none 0 0, _, hP6, ?_⟩, ?_⟩
      · rintro x (h | h | h | h | h | ⟨y, hy, h⟩)
        · exact .inl (hS x (.inl h))
        · exact .inl (hS x (.inr (.inl h)))
        · exact .inr (by omega)
        · exact .inl (hS x (.inr (.inr (.inr (.inl h)))))
        · simp [Value.ownBlock] at h
        · exact .inl (hS x (.inr (.inr (.inr (.inr (.inr ⟨y, (List.mem_filter.1 hy).1, h⟩))))))
      · refine ((honr.mono fun x _ h => ?_).trans (hon5.mono fun x _ h => ?_)).trans (hon6.mono fun x _ h => ?_)
        · exact hS x (.inr (.inr (.inr (.inl h))))
        · exact .inl (hS x (.inl h))
        · rcases h with h | h
          · exact .inl (hS x (.inl h))
          · exact .inl (hS x (.inr (.inl h)))
end Go.Proofs.YtfogodbbgbnhkaaGreatDoor

/- The disk's SyncNames. -/
namespace Go.Proofs.YtfogodbbgbnhkaaGreatDoor
open Go.RowKit Go.Shelf

set_option maxRecDepth 100000 in
set_option maxHeartbeats 1000000 in
theorem syncnames1_any {w : World} {p fm nm sm : Nat} {D : Dk.D} {tv : Value} {J : List (Nat × FH × Dk.F)} {S : Nat → Prop} (hO : Dk.Ok D) (hP : Parts w p D (Dk.sum D.files) fm nm sm tv J) (hS : ∀ k, foot p fm nm sm tv J k → S k) (htl : D.turns.length ≤ 1000000)
    (b0 : Nat) (k0 : w.cell? ⟨b0, 0, none⟩ = some (.pointer (some ⟨p, 0, none⟩))) :
    Calls Tryz.prog 94 #[.pointer (some ⟨b0, 0, none⟩)] w fun e w' => e = .returned (.tuple #[]) ∧ DK w' p (Dk.settle D D.turns.length) (grow1 S w) ∧ OnlyIn S w w' := by
  have hm : Tryz.prog.follows .mixedOrders = true := by kernel_rfl
  obtain ⟨ta, tc, htv, _, _⟩ := t_shape hP.turns
  have c6 := hP.cells.1.2.2.2.2.2.2.1
  rw [htv] at c6
  have hc := settle_any (w := w.drew) (S := S) hO (hP.keep fun k _ => rfl) hS D.turns.length (Nat.le_refl _) htl
  clear htv
  go_enter Tryz.func94, Tryz.ntmps94
  go_wp2
  go_still_tail 6, hm
  go_wp2_with (go_at_call 25; go_must (refine hc.mono ?_; rintro e w1 ⟨rfl, hDK1, hon1⟩))
  first | go_end0 | refine bodyPost_ret (results_none rfl _ _ _) rfl ?_
  exact ⟨rfl, hDK1, hon1.after (W := w.drew) (bd1 (Below.refl _ _))⟩

/-- what SyncNames does and tells -/
def Dk.syncNames (D : Dk.D) : Dk.D × Int := if D.dead = true then (D, 9) else Dk.acted D (Dk.settle D D.turns.length)

set_option maxHeartbeats 2000000 in
theorem syncNamesD_any {w : World} {p : Nat} {D : Dk.D} {S : Nat → Prop} (h : DK w p D S) (htl : D.turns.length ≤ 1000000) :
    Calls Tryz.prog 43 #[.pointer (some ⟨p, 0, none⟩)] w fun e w' => e = .returned (.int .i64 (Dk.syncNames D).2) ∧ DK w' p (Dk.syncNames D).1 (grow1 S w) ∧ OnlyIn S w w' := by
  have hgr : ∀ {W : World}, Below w.heap.size w W → DK W p D (grow1 S w) ∧ OnlyIn S w W := fun {W} hb => ⟨h.keep (fun k hk _ => hb.block k hk) fun _ _ h => .inl h, OnlyIn.of_below hb⟩
  obtain ⟨hO, fm, nm, sm, tv, J, hP, hS⟩ := h
  have hPW : ∀ {W : World}, Below w.heap.size w W → Parts W p D (Dk.sum D.files) fm nm sm tv J := fun {W} hb => hP.keep fun k hk => hb.block k (hP.lt hk)
  have hdead := dead_any (hPW (bal (Below.refl _ w) (.cells #[.pointer (some ⟨p, 0, none⟩)] 26)))
  have hact := fun (k0 : (w.alloc (.cells #[.pointer (some ⟨p, 0, none⟩)] 26)).cell? ⟨w.heap.size, 0, none⟩ = some (.pointer (some ⟨p, 0, none⟩))) =>
    act_any ⟨hO, fm, nm, sm, tv, J, hPW (bal (Below.refl _ w) (.cells #[.pointer (some ⟨p, 0, none⟩)] 26)), hS⟩ (Dk.settle D D.turns.length) 94 _ rfl rfl (enters_lit Tryz.func94 (by kernel_rfl) rfl) (syncnames1_any hO (hPW (bal (Below.refl _ w) _)) hS htl w.heap.size k0)
  have hc := hact (by simp [go_sem])
  clear hact
  unfold Dk.syncNames
  by_cases hd : D.dead = true
  · rw [hd] at hdead
    rw [if_pos hd]
    clear hd hc
    go_enter Tryz.func43, Tryz.ntmps43
    go_wp2_with (go_at_call 19; go_must (refine hdead.mono ?_; rintro e w1 ⟨rfl, hw⟩; rw [hw]; clear hw w1))
    go_ret
    exact ⟨rfl, hgr (bal (Below.refl _ w) _)⟩
  · rw [if_neg hd]
    rw [Bool.not_eq_true] at hd
    rw [hd] at hdead
    clear hd
    go_enter Tryz.func43, Tryz.ntmps43
    go_wp2_with (first | (go_at_call 19; go_must (refine hdead.mono ?_; rintro e w1 ⟨rfl, hw⟩; rw [hw]; clear hw w1)) | (go_at_call 85; go_must (refine hc.mono ?_; rintro e w2 ⟨rfl, hDK1, hon1⟩)))
    go_ret
    exact ⟨rfl, hDK1.after (bal (Below.refl _ w) _), hon1.after (bal (Below.refl _ w) _)⟩
end Go.Proofs.YtfogodbbgbnhkaaGreatDoor
