/- Maps gone through; the disk's nameless. -/
import Derived.Test.YtnoknmnbfkdccaaGreatDoorDKF
import Derived.Maps.RangeWalk
import Derived.Shelf.SlMaps.Clone
namespace Go.Proofs.YtnoknmnbfkdccaaGreatDoor
open Go.RowKit Go.Shelf
open Go.ChangeMaps (setBlock)

theorem turn1_iter {w w1 : World} {r : Nat} {m : Option Nat} {s : Nat} {seen : Array Nat} {c : Nat} (hr : w.heap[r]? = some (.mapIter m s seen c)) (h1 : w1 = w ∨ w1 = w.drew) (o : Obj) : Turn1 w (setBlock w1 r o) r ∧ (setBlock w1 r o).heap[r]? = some o := by
  have hh : w1.heap = w.heap := by rcases h1 with rfl | rfl <;> rfl
  have hlt := heap_lt hr
  refine ⟨⟨?_, ?_, ?_, ?_, fun k hk => ?_⟩, ?_⟩
  · rcases h1 with rfl | rfl <;> rfl
  · rcases h1 with rfl | rfl <;> rfl
  · rcases h1 with rfl | rfl <;> rfl
  · simp [setBlock, hh]
  · show (w1.heap.setIfInBounds r o)[k]? = _
    rw [hh, Array.getElem?_setIfInBounds_ne (fun e => hk e.symm)]
  · show (w1.heap.setIfInBounds r o)[r]? = _
    rw [hh]
    simp [hlt]

section
variable {α β : Type} {ek : α → Value} {ev : β → Value}
theorem ents_mem {es : List MapEntry} {l : List (α × β)} (h : EntsAre ek ev es l) {e : MapEntry} (he : e ∈ es) : ∃ k v, (k, v) ∈ l ∧ e.key = ek k ∧ e.val = ev v := by
  have : (e.key, e.val) ∈ es.map (fun e => (e.key, e.val)) := List.mem_map.2 ⟨e, he, rfl⟩
  rw [h] at this
  obtain ⟨⟨k, v⟩, hm, hkv⟩ := List.mem_map.1 this
  simp only [Prod.mk.injEq] at hkv
  exact ⟨k, v, hm, hkv.1.symm, hkv.2.symm⟩
/-- the step of a loop over a map -/
theorem next_at (P : Program) (w : World) (r bm since c0 : Nat) (seen : Array Nat) (es : Array MapEntry) (clock : Nat) (l : List (α × β))
    (hr : w.heap[r]? = some (.mapIter (some bm) since seen c0)) (hb : w.heap[bm]? = some (.map es clock)) (he : EntsAre ek ev es.toList l) (hold : ∀ x ∈ es.toList, x.born < since) (hnd : (es.toList.map (·.born)).Nodup) (hsc : since ≤ c0) (hrb : bm ≠ r) :
    ((leftOf es seen).size = 0 ∧ ∀ ty, (Instr.next (.pointer (some ⟨r, 0, none⟩)) false ty).run P w = .ok (.tuple #[.bool false]) w) ∨
    ∃ (e : MapEntry) (k : α) (v : β) (w' : World), e ∈ es.toList ∧ seen.contains e.born = false ∧ (k, v) ∈ l ∧ e.key = ek k ∧ e.val = ev v ∧ Turn1 w w' r ∧ w'.heap[r]? = some (.mapIter (some bm) since (seen.push e.born) clock) ∧ (leftOf es (seen.push e.born)).size < (leftOf es seen).size ∧ (∀ ty, (Instr.next (.pointer (some ⟨r, 0, none⟩)) false ty).run P w = .ok (.tuple #[.bool true, ek k, ev v]) w') ∧ (Instr.entry (.pointer (some ⟨r, 0, none⟩))).run P w' = .ok (.tuple #[ek k, ev v]) w' := by
  rcases run_next_at (P := P) w 0 r bm since c0 seen es clock hr hb hold hsc with ⟨h0, hrun⟩ | ⟨e, hm, w1, hw1, hrun⟩
  · exact .inl ⟨h0, fun _ => hrun⟩
  · obtain ⟨h1, h2⟩ := mem_left hm
    obtain ⟨k, v, hkv, hk, hv⟩ := ents_mem he h1
    obtain ⟨ht, hr'⟩ := turn1_iter hr hw1 (.mapIter (some bm) since (seen.push e.born) clock)
    have hen := run_entry_at (P := P) (setBlock w1 r (.mapIter (some bm) since (seen.push e.born) clock)) r bm since seen es clock e hr' ((ht.block bm hrb).trans hb) h1 hnd
    rw [hk, hv] at hen hrun
    exact .inr ⟨e, k, v, _, h1, h2, hkv, hk, hv, ht, hr', left_shrinks es seen e hm, fun _ => hrun, hen⟩
end

theorem run_makeMap_hint {P : Program} (t k e : TypeId) (n : Int) (w : World) (ht : P.underlying t = some (.map k e)) : (Instr.makeMap t (some (.int .i64 n))).run P w = .ok (.map (some w.heap.size)) (w.alloc (.map #[] 0)) := by
  simp [Instr.makeMap, run_underlying ht, asInt, asIntOf, Result.andThen]

def uv (_ : Unit) : Value := .agg #[]

theorem look_mput {α β : Type} [DecidableEq α] : ∀ (l : List (α × β)) (k n : α) (v : β), (look (mput l k v) n).isSome = ((look l n).isSome || decide (n = k))
  | [], k, n, v => by
    by_cases h : k = n
    · simp [mput, look, h]
    · have h' : ¬ (n = k) := fun e => h e.symm
      simp [mput, look, h, h']
  | (a, x) :: l, k, n, v => by
    by_cases hk : a = k
    · subst hk
      by_cases hn : a = n
      · simp [mput, look, hn]
      · have h' : ¬ (n = a) := fun e => hn e.symm
        simp [mput, look, hn, h']
    · by_cases hn : a = n
      · subst hn
        simp [mput, look, hk]
      · simp only [mput, hk, if_false, look, hn]
        exact look_mput l k n v

set_option maxRecDepth 100000 in
set_option maxHeartbeats 2000000 in
theorem nameless_any {w : World} {p u fm nm sm : Nat} {D : Dk.D} {tv : Value} {J : List (Nat × FH × Dk.F)} (hP : Parts w p D u fm nm sm tv J) :
    Calls Tryz.prog 108 #[.pointer (some ⟨p, 0, none⟩)] w fun e w' => ∃ bx mb l, e = .returned (.func (.func 125) #[] #[.pointer (some ⟨bx, 0, none⟩)]) ∧ w'.cell? ⟨bx, 0, none⟩ = some (.map (some mb)) ∧ MapAt ik uv w' mb l ∧ (∀ n, (look l n).isSome = true ↔ n ∈ D.names.map (·.2)) ∧ w.heap.size ≤ bx ∧ w.heap.size ≤ mb ∧ Below w.heap.size w w' := by
  obtain ⟨⟨c0, c1, c2, c3, c4, c5, c6, c7, c8, c9⟩, hf⟩ := hP.cells
  have hln := run_len_at (P := Tryz.prog) Tryz.underlying73 3 hP.names
  have hmm := fun (n : Int) (w : World) => run_makeMap_hint (P := Tryz.prog) 165 _ _ n w Tryz.underlying165
  have hpl := heap_lt hP.blk
  have hnl := hP.names.lt
  obtain ⟨es, clock, hb, he, hlt, hnd⟩ := hP.names
  have hrg := run_range_map (P := Tryz.prog) ((w.alloc (.map #[] 0)).alloc (.cells #[.map (some w.heap.size)] 165)) 73 9 3 nm es clock Tryz.underlying73 (((heap_alloc_old _ _ (by simp; omega)).trans (heap_alloc_old _ _ hnl)).trans hb)
  have hst : MapAt ik uv (((w.alloc (.map #[] 0)).alloc (.cells #[.map (some w.heap.size)] 165)).alloc (.mapIter (some nm) clock #[] clock)) w.heap.size ([] : List (Nat × Unit)) :=
    ⟨#[], 0, ((heap_alloc_old _ _ (by simp; omega)).trans (heap_alloc_old _ _ (by simp))).trans (heap_alloc_new _ _), rfl, by simp, by simp⟩
  have hsr : (((w.alloc (.map #[] 0)).alloc (.cells #[.map (some w.heap.size)] 165)).alloc (.mapIter (some nm) clock #[] clock)).heap[w.heap.size + 1 + 1]? = some (.mapIter (some nm) clock #[] clock) := by rw [heap_alloc_at, if_pos (by simp)]
  have hsx : (((w.alloc (.map #[] 0)).alloc (.cells #[.map (some w.heap.size)] 165)).alloc (.mapIter (some nm) clock #[] clock)).cell? ⟨w.heap.size + 1, 0, none⟩ = some (.map (some w.heap.size)) := by simp [go_sem]
  have hsb : Below w.heap.size w (((w.alloc (.map #[] 0)).alloc (.cells #[.map (some w.heap.size)] 165)).alloc (.mapIter (some nm) clock #[] clock)) := bal (bal (bal (Below.refl _ w) _) _) _
  have HB : Hid (w.heap[nm]? = some (.map es clock)) := hb
  clear hb
  go_enter Tryz.func108, Tryz.ntmps108
  go_wp2
  go_loopw [] (fun wr => ∃ (seen : Array Nat) (l : List (Nat × Unit)), wr.heap[w.heap.size + 1 + 1]? = some (.mapIter (some nm) clock seen clock) ∧ wr.cell? ⟨w.heap.size + 1, 0, none⟩ = some (.map (some w.heap.size)) ∧ MapAt ik uv wr w.heap.size l ∧ Hid (∀ n, (look l n).isSome = true ↔ ∃ e ∈ es.toList, seen.contains e.born = true ∧ e.val = ik n) ∧ Below w.heap.size w wr) (fun wr => (leftOf es (wr.iterSeen (w.heap.size + 1 + 1))).size)
  case atStart => exact ⟨#[], [], hsr, hsx, hst, (fun n => by simp [look] : ∀ n, (look ([] : List (Nat × Unit)) n).isSome = true ↔ ∃ e ∈ es.toList, (#[] : Array Nat).contains e.born = true ∧ e.val = ik n), hsb⟩
  case round =>
    obtain ⟨seen, l, hr, hx, hM, HI, hbel⟩ := hrel
    have hbr : wr.heap[nm]? = some (.map es clock) := (hbel.block nm hnl).trans HB.out
    have n1 : nm ≠ w.heap.size + 1 + 1 := by omega
    have n2 : w.heap.size ≠ w.heap.size + 1 + 1 := by omega
    have n3 : w.heap.size + 1 ≠ w.heap.size + 1 + 1 := by omega
    have n4 : w.heap.size + 1 ≠ w.heap.size := by omega
    have HR : Hid (wr.heap[w.heap.size + 1 + 1]? = some (.mapIter (some nm) clock seen clock)) := hr
    have HBR : Hid (wr.heap[nm]? = some (.map es clock)) := hbr
    clear hr hbr hst hsr hsx hsb
    rcases next_at Tryz.prog wr (w.heap.size + 1 + 1) nm clock clock seen es clock D.names HR.out HBR.out he hlt hnd (Nat.le_refl _) n1 with ⟨h0, hnx⟩ | ⟨e, k, v, w1, hm, hs, hkv, hk, hv, ht, hr1, hlt1, hnx, hen⟩
    · skip
      have H0 : Hid ((leftOf es seen).size = 0) := h0
      clear h0
      go_wp2
      go_ret
      refine ⟨w.heap.size + 1, w.heap.size, l, rfl, hx, hM, fun n => ?_, by omega, Nat.le_refl _, hbel⟩
      rw [HI.out n]
      have hall := all_seen es seen H0.out
      constructor
      · rintro ⟨e, hm, _, hv⟩
        obtain ⟨k, v, hkv, _, hv'⟩ := ents_mem he hm
        rw [hv] at hv'
        simp only [ik, Value.int.injEq, true_and] at hv'
        have : n = v := by omega
        rw [this]
        exact List.mem_map.2 ⟨(k, v), hkv, rfl⟩
      · intro hn
        obtain ⟨⟨k, v⟩, hkv, rfl⟩ := List.mem_map.1 hn
        have : (sk k, ik v) ∈ es.toList.map (fun e => (e.key, e.val)) := by rw [he]; exact List.mem_map.2 ⟨(k, v), hkv, rfl⟩
        obtain ⟨e, hm, hev⟩ := List.mem_map.1 this
        simp only [Prod.mk.injEq] at hev
        exact ⟨e, hm, hall e hm, hev.2⟩
    · skip
      have H1 : Hid (e ∈ es.toList ∧ seen.contains e.born = false ∧ e.val = ik v ∧ Turn1 wr w1 (w.heap.size + 1 + 1) ∧ w1.heap[w.heap.size + 1 + 1]? = some (.mapIter (some nm) clock (seen.push e.born) clock) ∧ (leftOf es (seen.push e.born)).size < (leftOf es seen).size) := ⟨hm, hs, hv, ht, hr1, hlt1⟩
      have hx1 : w1.cell? ⟨w.heap.size + 1, 0, none⟩ = some (.map (some w.heap.size)) := (ht.cell (p := ⟨w.heap.size + 1, 0, none⟩) n3).trans hx
      have hM1 : MapAt ik uv w1 w.heap.size l := hM.keep (ht.block _ n2)
      have hbel1 : Below w.heap.size w w1 := hbel.trans ⟨ht.os, ht.tape, ht.output, by rw [ht.size]; exact Nat.le_refl _, fun k hk => ht.block k (by omega)⟩
      simp only [sk, ik] at hen hnx
      clear hm hs hkv hk hv ht hr1 hlt1 hx hM hbel
      go_wp2_with (at_mapUpdate; go_must (refine wp_update_at (w := _) rfl _ _ _ _ rfl 166 ikE Tryz.underlying165 w.heap.size l v () rfl rfl rfl hM1 ?_; intro w2 hM2 ht2))
      obtain ⟨hm, hs, hv, ht, hr1, hlt1⟩ := H1.out
      have hr2 : w2.heap[w.heap.size + 1 + 1]? = some (.mapIter (some nm) clock (seen.push e.born) clock) := (ht2.block _ n2.symm).trans hr1
      go_frame
      go_roundw
      case rel =>
        refine ⟨seen.push e.born, _, hr2, (ht2.cell (p := ⟨w.heap.size + 1, 0, none⟩) n4).trans hx1, hM2, ?_, hbel1.trans ⟨ht2.os, ht2.tape, ht2.output, by rw [ht2.size]; exact Nat.le_refl _, fun k hk => ht2.block k (by omega)⟩⟩
        show ∀ n, (look (mput l v ()) n).isSome = true ↔ ∃ e' ∈ es.toList, (seen.push e.born).contains e'.born = true ∧ e'.val = ik n
        intro n
        rw [look_mput, Bool.or_eq_true, HI.out n, decide_eq_true_eq]
        constructor
        · rintro (⟨e', h1, h2, h3⟩ | rfl)
          · exact ⟨e', h1, by rw [contains_push, h2, Bool.true_or], h3⟩
          · exact ⟨e, hm, by rw [contains_push, beq_self_eq_true, Bool.or_true], hv⟩
        · rintro ⟨e', h1, h2, h3⟩
          rw [contains_push, Bool.or_eq_true] at h2
          rcases h2 with h2 | h2
          · exact .inl ⟨e', h1, h2, h3⟩
          · have : e' = e := born_inj hnd h1 hm (beq_iff_eq.1 h2)
            subst this
            rw [hv] at h3
            simp only [ik, Value.int.injEq, true_and] at h3
            exact .inr (by omega)
      case measure =>
        have e1 : w2.iterSeen (w.heap.size + 1 + 1) = seen.push e.born := by unfold World.iterSeen; rw [hr2]
        have e2 : wr.iterSeen (w.heap.size + 1 + 1) = seen := by unfold World.iterSeen; rw [HR.out]
        rw [e1, e2]
        exact hlt1
end Go.Proofs.YtnoknmnbfkdccaaGreatDoor

/- The disk's dropNameless. -/
namespace Go.Proofs.YtnoknmnbfkdccaaGreatDoor
open Go.RowKit Go.Shelf
open Go.ChangeMaps (setBlock)

set_option maxHeartbeats 1000000 in
theorem nameless1_any {w : World} (n bx mb : Nat) (l : List (Nat × Unit)) (hx : w.cell? ⟨bx, 0, none⟩ = some (.map (some mb))) (hM : MapAt ik uv w mb l) :
    Calls Tryz.prog 125 #[.int .i64 (n : Int), .pointer (some ⟨bx, 0, none⟩)] w fun e w' => e = .returned (.bool (!(look l n).isSome)) ∧ Below w.heap.size w w' := by
  have hlk : (Instr.lookup 165 (.map (some mb)) (.int .i64 (n : Int)) true).run Tryz.prog w = .ok (.tuple #[.agg #[], .bool (look l n).isSome]) w := by
    have := run_lookup_ok ikE Tryz.underlying165 hM n (z := .agg #[]) (Tryz.zeroValue166 w)
    cases hl : look l n with
    | none => rw [hl] at this; exact this
    | some v => rw [hl] at this; exact this
  cases hb : (look l n).isSome <;> rw [hb] at hlk
  all_goals
    go_enter Tryz.func125, Tryz.ntmps125
    go_wp2
    go_ret
    exact ⟨rfl, by repeat first | exact Below.refl _ _ | refine bal ?_ _⟩

section
variable {P : Program} {α β : Type} [DecidableEq α] {K : TypeId} {ek : α → Value} {ev : β → Value} {w : World}
theorem run_delete_raw (hK : KeyE P K ek) {T E : TypeId} (ht : P.underlying T = some (.map K E)) (ty : TypeId) {b : Nat} {l : List (α × β)} {es : Array MapEntry} {clock : Nat} (hb : w.heap[b]? = some (.map es clock)) (he : EntsAre ek ev es.toList l) (k : α) (hk : (look l k).isSome = true) :
    ∃ w' es', (Builtin.delete_ #[T, K] ty #[.map (some b), ek k]).run P w = .ok (.tuple #[]) w' ∧ w'.heap[b]? = some (.map es' clock) ∧ EntsAre ek ev es'.toList (mdel l k) ∧ es'.toList.Sublist es.toList ∧ Turn1 w w' b := by
  obtain ⟨d, hu, hs, hc⟩ := hK.und
  cases hv : look l k with
  | none => rw [hv] at hk; cases hk
  | some x =>
    obtain ⟨h1, e0, h2, h3⟩ := findNow_some hs es.toList l k x 0 he hv
    rw [Nat.zero_add] at h1
    have hel : (es.eraseIdxIfInBounds (mat l k)).toList = es.toList.eraseIdx (mat l k) := by simp
    refine ⟨setBlock w b (.map (es.eraseIdxIfInBounds (mat l k)) clock), _, ?_, ChangeMaps.heap_setBlock_same hb _, ?_, ?_, turn1_set hb _⟩
    · simp [Builtin.delete_, run_underlying ht, MapKept.run_getObj_map hb, hc, run_findKey_at hu k es.toList _ w h1, MapKept.run_setObj_map _ hb, Result.andThen, setBlock]
    · rw [hel]
      exact ents_del es.toList l k he (by rw [hv]; rfl)
    · rw [hel]
      exact List.eraseIdx_sublist ..
variable {ops : Array Oper} {rest : List Oper} {o : Oper} {a : Act} {Q : Exit → Act → World → Prop}
theorem wp_delete_raw (hg : o.guard = none) (m x : Operand) (t : TypeId) (hop : o.op = Op.call { callee := Callee.builtin Builtin.delete, args := #[m, x], argTypes := #[t, K] }) (E : TypeId) (hK : KeyE P K ek) (ht : P.underlying t = some (.map K E)) (b : Nat) (l : List (α × β)) (es : Array MapEntry) (clock : Nat) (k : α)
    (hm : a.eval m = .map (some b)) (hx : a.eval x = ek k) (hb : w.heap[b]? = some (.map es clock)) (he : EntsAre ek ev es.toList l) (hk : (look l k).isSome = true)
    (hC : ∀ w' es', w'.heap[b]? = some (.map es' clock) → EntsAre ek ev es'.toList (mdel l k) → es'.toList.Sublist es.toList → Turn1 w w' b → wpList P ops Q rest (a.put o.dst (.tuple #[])) w') : wpList P ops Q (o :: rest) a w := by
  refine wpList_plain hg fun K' hK' => ?_
  obtain ⟨w', es', hrun, r1, r2, r3, r4⟩ := run_delete_raw hK ht o.type hb he k hk
  unfold Oper.wp
  simp [execOp, hop, resolve, invoke, builtin, hm, hx, hrun, Result.andThen]
  exact hK' _ _ (hC w' es' r1 r2 r3 r4)

theorem mdel_filter : ∀ {l : List (α × β)} {k : α}, (l.map (·.1)).Nodup → mdel l k = l.filter (fun x => decide (x.1 ≠ k))
  | [], _, _ => rfl
  | (a, x) :: l, k, h => by
    simp only [List.map_cons, List.nodup_cons] at h
    by_cases hk : a = k
    · subst hk
      simp only [mdel, if_true, List.filter_cons, ne_eq, not_true_eq_false, decide_false, Bool.false_eq_true, if_false]
      symm
      rw [List.filter_eq_self]
      intro y hy
      have : y.1 ≠ a := fun e => h.1 (List.mem_map.2 ⟨y, hy, e⟩)
      simp [this]
    · simp only [mdel, hk, if_false, List.filter_cons, ne_eq, not_false_eq_true, decide_true, if_true]
      rw [mdel_filter h.2]
theorem mdel_map {γ : Type} (f : β → γ) : ∀ (l : List (α × β)) (k : α), (mdel l k).map (fun x => (x.1, f x.2)) = mdel (l.map fun x => (x.1, f x.2)) k
  | [], _ => rfl
  | (a, x) :: l, k => by
    by_cases hk : a = k
    · simp [mdel, hk]
    · simp [mdel, hk, mdel_map f l k]
end

theorem nodup_map {α β : Type} {f : α → β} (hf : ∀ a b, f a = f b → a = b) : ∀ {l : List α}, l.Nodup → (l.map f).Nodup
  | [], _ => by simp
  | a :: l, h => by
    rw [List.nodup_cons] at h
    rw [List.map_cons, List.nodup_cons]
    refine ⟨fun hm => ?_, nodup_map hf h.2⟩
    obtain ⟨b, hb, e⟩ := List.mem_map.1 hm
    exact h.1 (hf b a e ▸ hb)
theorem inj_map {α β : Type} {f : α → β} : ∀ {l : List α}, (l.map f).Nodup → ∀ {a b : α}, a ∈ l → b ∈ l → f a = f b → a = b
  | [], _, _, _, h, _, _ => by cases h
  | x :: l, h, a, b, ha, hb, e => by
    rw [List.map_cons, List.nodup_cons] at h
    rcases List.mem_cons.1 ha with ha1 | ha1
    · rcases List.mem_cons.1 hb with hb1 | hb1
      · rw [ha1, hb1]
      · exact absurd (List.mem_map.2 ⟨b, hb1, by rw [← e, ha1]⟩) h.1
    · rcases List.mem_cons.1 hb with hb1 | hb1
      · exact absurd (List.mem_map.2 ⟨a, ha1, by rw [e, hb1]⟩) h.1
      · exact inj_map h.2 ha1 hb1 e
theorem Dk.sum_mdel : ∀ {l : List (Nat × Dk.F)} {n : Nat} {f : Dk.F}, look l n = some f → Dk.sum (mdel l n) + f.bs.length = Dk.sum l
  | (a, x) :: l, n, f, h => by
    by_cases hk : a = n
    · simp only [look, hk, if_true, Option.some.injEq] at h
      subst h
      simp only [mdel, hk, if_true, Dk.sum, List.map_cons, List.sum_cons]
      omega
    · simp only [look, hk, if_false] at h
      have := Dk.sum_mdel h
      simp only [mdel, hk, if_false, Dk.sum, List.map_cons, List.sum_cons] at this ⊢
      omega

/-- a file less -/
theorem parts_dropped {w w' : World} {p u fm nm sm n : Nat} {D : Dk.D} {tv : Value} {J : List (Nat × FH × Dk.F)} (h : Parts w p D u fm nm sm tv J)
    (hm : MapAt ik fv w' fm (mdel (J.map fun x => (x.1, x.2.1)) n)) (ht : Turn1 w w' fm) : Parts w' p { D with files := mdel D.files n } u fm nm sm tv (mdel J n) := by
  obtain ⟨es, c, he⟩ := h.files.blk
  obtain ⟨a, _, b, d, e, f⟩ := h.maps he (fun k _ hk => ht.block k hk)
  have hs := mdel_sub J n
  refine ⟨a.trans h.blk, ?_, ?_, b h.ne.1.symm, d h.ne.2.1.symm, e, fun x hx => f x (hs.subset hx), h.qs.sublist (hs.map _), h.vs.sublist hs, h.ne⟩
  · rw [← h.jf]; exact mdel_map (fun y : FH × Dk.F => y.2) J n
  · have := mdel_map (fun y : FH × Dk.F => y.1) J n
    rw [this]
    exact hm

def mapEs (w : World) (b : Nat) : Array MapEntry := match w.heap[b]? with | some (.map es _) => es | _ => #[]
/-- which files have a name -/
def Dk.named (D : Dk.D) (n : Nat) : Bool := decide (n ∈ D.names.map (·.2))
/-- the files that are kept, as far as the loop has come -/
def keptF (D : Dk.D) (Ps : List Nat) (x : Nat) : Bool := decide (x ∉ Ps) || Dk.named D x
theorem left_sub {es es' : Array MapEntry} (h : es'.toList.Sublist es.toList) (seen : Array Nat) : (leftOf es' seen).size ≤ (leftOf es seen).size := by
  have e1 : ∀ (es : Array MapEntry) (p : MapEntry → Bool), (es.filter p).size = (es.toList.filter p).length := fun es p => by rw [← Array.toList_filter, Array.length_toList]
  unfold leftOf
  rw [e1, e1]
  exact (h.filter _).length_le

set_option maxRecDepth 100000 in
set_option maxHeartbeats 4000000 in
theorem drop_any {w : World} {p fm nm sm : Nat} {D : Dk.D} {tv : Value} {J : List (Nat × FH × Dk.F)} (hO : Dk.Ok D) (hP : Parts w p D (Dk.sum D.files) fm nm sm tv J) :
    Calls Tryz.prog 79 #[.pointer (some ⟨p, 0, none⟩)] w fun e w' => e = .returned (.tuple #[]) ∧ Parts w' p { D with files := D.files.filter fun x => Dk.named D x.1 } (Dk.sum (D.files.filter fun x => Dk.named D x.1)) fm nm sm tv (J.filter fun x => Dk.named D x.1) ∧ OnlyIn (fun k => k = p ∨ k = fm) w w' := by
  have hnc := nameless_any hP
  have hpl := heap_lt hP.blk
  have hfl := hP.files.lt
  obtain ⟨⟨c0, c1, c2, c3, c4, c5, c6, c7, c8, c9⟩, hf⟩ := hP.cells
  go_enter Tryz.func79, Tryz.ntmps79
  go_wp2_with (go_at_call 108; go_must (refine hnc.mono ?_; rintro e w1 ⟨bx, mb, l, rfl, hx, hM, hl, hbx, hmb, hbel⟩; have hP1 : Parts w1 p D (Dk.sum D.files) fm nm sm tv J := hP.keep (fun k hk => hbel.block k (hP.lt hk)); obtain ⟨es, clock, hb, he, hlt, hnd⟩ := hP1.files; have hrg := run_range_map (P := Tryz.prog) w1 72 3 120 fm es clock Tryz.underlying72 hb; have q1 := hP1.cells.1.2.1; have HB : Hid (w1.heap[fm]? = some (.map es clock)) := hb; clear hb))
  have hxl := cell_lt hx
  have hmbl := hM.lt
  have hsz1 := hbel.size
  have hft : Hid (∀ (Ps : List Nat) k, foot p fm nm sm tv (J.filter fun x => keptF D Ps x.1) k → k < w.heap.size) := by
    refine (fun Ps k hk => hP.lt ?_ : ∀ (Ps : List Nat) k, foot p fm nm sm tv (J.filter fun x => keptF D Ps x.1) k → k < w.heap.size)
    rcases hk with h | h | h | h | h | ⟨x, hx, h⟩
    · exact .inl h
    · exact .inr (.inl h)
    · exact .inr (.inr (.inl h))
    · exact .inr (.inr (.inr (.inl h)))
    · exact .inr (.inr (.inr (.inr (.inl h))))
    · exact .inr (.inr (.inr (.inr (.inr ⟨x, (List.mem_filter.1 hx).1, h⟩))))
  have HL : Hid (∀ n, (look l n).isSome = Dk.named D n) := by
    refine (fun n => ?_ : ∀ n, (look l n).isSome = Dk.named D n)
    unfold Dk.named
    cases hh : (look l n).isSome with
    | true => rw [decide_eq_true ((hl n).1 hh)]
    | false => rw [decide_eq_false fun hm => by rw [(hl n).2 hm] at hh; cases hh]
  have hk0 : ∀ x : Nat, keptF D [] x = true := fun x => by simp [keptF]
  have hjn : (J.map (·.1)).Nodup := by
    have h1 : J.map (·.1) = D.files.map (·.1) := by rw [← hP.jf, List.map_map]; rfl
    rw [h1]; exact hO.fk
  have HJ : Hid (J.map (fun x => (x.1, x.2.2)) = D.files) := hP.jf
  have HE : Hid (EntsAre ik fv es.toList (J.map fun x => (x.1, x.2.1)) ∧ (∀ e ∈ es.toList, e.born < clock) ∧ (es.toList.map (·.born)).Nodup) := ⟨he, hlt, hnd⟩
  have hs0 : (w1.alloc (.mapIter (some fm) clock #[] clock)).heap[w1.heap.size]? = some (.mapIter (some fm) clock #[] clock) := heap_alloc_new w1 _
  have hs1 : ∀ k, k < w1.heap.size → (w1.alloc (.mapIter (some fm) clock #[] clock)).heap[k]? = w1.heap[k]? := fun k hk => heap_alloc_old w1 _ hk
  have hs2 : Below w.heap.size w (w1.alloc (.mapIter (some fm) clock #[] clock)) := hbel.alloc hbel.size _
  clear he hlt hnd hl c0 c1 c2 c3 c4 c5 c6 c7 c8 c9 hf q1 hrg hnc
  have HP : Hid (Parts w p D (Dk.sum D.files) fm nm sm tv J) := hP
  have hq1 : fm ≠ w1.heap.size := by omega
  obtain ⟨R, hR⟩ : ∃ R, R = w1.heap.size := ⟨_, rfl⟩
  rw [← hR] at hxl hmbl hsz1 hs0 hs1 hq1 ⊢
  have HR0 : Hid (R = w1.heap.size) := hR
  clear hR
  go_loopw [] (fun wr => ∃ (seen : Array Nat) (es' : Array MapEntry) (Ps : List Nat), Hid (wr.heap[R]? = some (.mapIter (some fm) clock seen clock) ∧ wr.heap[fm]? = some (.map es' clock) ∧ es'.toList.Sublist es.toList ∧ (∀ e ∈ es'.toList, seen.contains e.born = true ↔ ∃ n ∈ Ps, e.key = ik n)) ∧ Parts wr p { D with files := D.files.filter fun x => keptF D Ps x.1 } (Dk.sum (D.files.filter fun x => keptF D Ps x.1)) fm nm sm tv (J.filter fun x => keptF D Ps x.1) ∧ wr.cell? ⟨bx, 0, none⟩ = some (.map (some mb)) ∧ MapAt ik uv wr mb l ∧ OnlyIn (fun k => k = p ∨ k = fm) w wr) (fun wr => (leftOf (mapEs wr fm) (wr.iterSeen R)).size)
  case atStart =>
    have e1 : (J.filter fun x => keptF D [] x.1) = J := List.filter_eq_self.2 fun x _ => hk0 x.1
    have e2 : (D.files.filter fun x => keptF D [] x.1) = D.files := List.filter_eq_self.2 fun x _ => hk0 x.1
    refine ⟨#[], es, [], ⟨hs0, (hs1 fm (by omega)).trans HB.out, List.Sublist.refl _, fun e _ => by simp⟩, ?_, (World.cell?_of_block (hs1 bx hxl)).trans hx, hM.keep (hs1 mb hmbl), OnlyIn.of_below hs2⟩
    rw [e1, e2]
    exact hP1.keep fun k hk => hs1 k (by have := hP.lt hk; omega)
  case round =>
    obtain ⟨seen, es', Ps, HH, hPr, hxr, hMr, honr⟩ := hrel
    obtain ⟨hr, hbr, hsub, hin⟩ := HH.out
    have her : EntsAre ik fv es'.toList ((J.filter fun x => keptF D Ps x.1).map fun x => (x.1, x.2.1)) := by
      obtain ⟨e2, c2, h1, h2, _⟩ := hPr.files
      rw [hbr] at h1
      simp only [Option.some.injEq, Obj.map.injEq] at h1
      rw [h1.1]; exact h2
    have hlt' : ∀ e ∈ es'.toList, e.born < clock := fun e he => HE.out.2.1 e (hsub.subset he)
    have hnd' : (es'.toList.map (·.born)).Nodup := HE.out.2.2.sublist (hsub.map _)
    have hrs := honr.size
    rcases next_at Tryz.prog wr R fm clock clock seen es' clock _ hr hbr her hlt' hnd' (Nat.le_refl _) hq1 with ⟨h0, hnx⟩ | ⟨e, num, h, w2, hm, hs, hkv, hk, hv, ht, hr1, hlt1, hnx, hen⟩
    · have hnamed : ∀ x ∈ J, keptF D Ps x.1 = Dk.named D x.1 := fun x hxJ => by
        unfold keptF
        by_cases hx1 : x.1 ∈ Ps
        · simp [hx1]
        · exfalso
          have hxf : x ∈ J.filter fun x => keptF D Ps x.1 := List.mem_filter.2 ⟨hxJ, by simp [keptF, hx1]⟩
          have : (ik x.1, fv x.2.1) ∈ es'.toList.map (fun e => (e.key, e.val)) := by rw [her]; exact List.mem_map.2 ⟨(x.1, x.2.1), List.mem_map.2 ⟨x, hxf, rfl⟩, rfl⟩
          obtain ⟨e, hm, hev⟩ := List.mem_map.1 this
          simp only [Prod.mk.injEq] at hev
          obtain ⟨n, hn, hkn⟩ := (hin e hm).1 (all_seen es' seen h0 e hm)
          rw [hev.1] at hkn
          simp only [ik, Value.int.injEq, true_and] at hkn
          exact hx1 (by rw [show x.1 = n by omega]; exact hn)
      have e1 : (J.filter fun x => keptF D Ps x.1) = J.filter fun x => Dk.named D x.1 := List.filter_congr hnamed
      have e2 : (D.files.filter fun x => keptF D Ps x.1) = D.files.filter fun x => Dk.named D x.1 := List.filter_congr fun y hy => by
        rw [← HJ.out] at hy
        obtain ⟨x, hxJ, rfl⟩ := List.mem_map.1 hy
        exact hnamed x hxJ
      have HF : Hid (Parts wr p { D with files := D.files.filter fun x => Dk.named D x.1 } (Dk.sum (D.files.filter fun x => Dk.named D x.1)) fm nm sm tv (J.filter fun x => Dk.named D x.1)) := by
        rw [e1, e2] at hPr; exact hPr
      clear hnamed e1 e2 her hlt' hnd' hr hbr hsub hin h0
      go_wp2
      first | go_end0 | refine bodyPost_ret (results_none rfl _ _ _) rfl ?_
      exact ⟨rfl, HF.out, honr⟩
    · obtain ⟨x, hxf, hxe⟩ := List.mem_map.1 hkv
      obtain ⟨n', h', f⟩ := x
      simp only [Prod.mk.injEq] at hxe
      obtain ⟨rfl, rfl⟩ := hxe
      have hxJ := (List.mem_filter.1 hxf).1
      have hkep := (List.mem_filter.1 hxf).2
      simp only at hkep
      have hnP : n' ∉ Ps := fun hc => by
        have := (hin e hm).2 ⟨n', hc, hk⟩
        rw [hs] at this; cases this
      have hP2 : Parts w2 p { D with files := D.files.filter fun x => keptF D Ps x.1 } (Dk.sum (D.files.filter fun x => keptF D Ps x.1)) fm nm sm tv (J.filter fun x => keptF D Ps x.1) := hPr.keep fun k hk => ht.block k (by have := hft.out Ps k hk; omega)
      have hx2 : w2.cell? ⟨bx, 0, none⟩ = some (.map (some mb)) := (ht.cell (p := ⟨bx, 0, none⟩) (Nat.ne_of_lt hxl)).trans hxr
      have hM2 : MapAt ik uv w2 mb l := hMr.keep (ht.block mb (Nat.ne_of_lt hmbl))
      have hon2 : OnlyIn (fun k => k = p ∨ k = fm) w w2 := honr.trans ⟨ht.os, ht.tape, ht.output, by rw [ht.size]; exact Nat.le_refl _, fun k hk hn => ht.block k fun e => hn (.inr (by omega))⟩
      have hb2 : w2.heap[fm]? = some (.map es' clock) := (ht.block fm hq1).trans hbr
      have hsz2 : R < w2.heap.size := heap_lt hr1
      have hnl1 := nameless1_any n' bx mb l hx2 hM2
      have hex : ∀ e' ∈ es'.toList, (seen.push e.born).contains e'.born = true ↔ ∃ n ∈ n' :: Ps, e'.key = ik n := fun e' he' => by
        rw [contains_push, Bool.or_eq_true, hin e' he']
        constructor
        · rintro (⟨n, hn, hk'⟩ | hb)
          · exact ⟨n, .tail _ hn, hk'⟩
          · have : e' = e := born_inj hnd' he' hm (beq_iff_eq.1 hb)
            subst this
            exact ⟨n', .head _, hk⟩
        · rintro ⟨n, hn, hk'⟩
          rcases List.mem_cons.1 hn with rfl | hn
          · right
            have hkeys : (es'.toList.map (·.key)).Nodup := by
              have h1 : es'.toList.map (·.key) = (((J.filter fun x => keptF D Ps x.1).map fun x => (x.1, x.2.1)).map fun x => ik x.1) := by
                have := congrArg (List.map Prod.fst) her
                simpa [List.map_map, Function.comp_def] using this
              rw [h1, List.map_map]
              have h2 : ((J.filter fun x => keptF D Ps x.1).map (·.1)).Nodup := hjn.sublist (List.filter_sublist.map _)
              have h3 : (List.map ik ((J.filter fun x => keptF D Ps x.1).map (·.1))).Nodup := nodup_map (fun a b hab => by simp only [ik, Value.int.injEq, true_and] at hab; omega) h2
              rw [List.map_map] at h3
              exact h3
            have : e' = e := by
              have hki : e'.key = e.key := hk'.trans hk.symm
              exact inj_map hkeys he' hm hki
            rw [this]; simp
          · exact .inl ⟨n, hn, hk'⟩
      have hmeas : ∀ (W : World), W.heap[R]? = some (.mapIter (some fm) clock (seen.push e.born) clock) → W.iterSeen R = seen.push e.born := fun W h => by unfold World.iterSeen; rw [h]
      have hmeas2 : ∀ (W : World) (E : Array MapEntry), W.heap[fm]? = some (.map E clock) → mapEs W fm = E := fun W E h => by unfold mapEs; rw [h]
      have hmz : mapEs wr fm = es' ∧ wr.iterSeen R = seen := ⟨by unfold mapEs; rw [hbr], by unfold World.iterSeen; rw [hr]⟩
      have HX : Hid ((∀ (W : World), W.heap[R]? = some (.mapIter (some fm) clock (seen.push e.born) clock) → W.iterSeen R = seen.push e.born) ∧ (∀ (W : World) (E : Array MapEntry), W.heap[fm]? = some (.map E clock) → mapEs W fm = E) ∧ (mapEs wr fm = es' ∧ wr.iterSeen R = seen) ∧ (leftOf es' (seen.push e.born)).size < (leftOf es' seen).size ∧ w2.heap[R]? = some (.mapIter (some fm) clock (seen.push e.born) clock) ∧ w2.heap[fm]? = some (.map es' clock) ∧ es'.toList.Sublist es.toList ∧ EntsAre ik fv es'.toList ((J.filter fun x => keptF D Ps x.1).map fun x => (x.1, x.2.1)) ∧ (∀ e' ∈ es'.toList, (seen.push e.born).contains e'.born = true ↔ ∃ n ∈ n' :: Ps, e'.key = ik n)) := ⟨hmeas, hmeas2, hmz, hlt1, hr1, hb2, hsub, her, hex⟩
      have HN : Hid (n' ∉ Ps ∧ ((n', h', f) : Nat × FH × Dk.F) ∈ (J.filter fun x => keptF D Ps x.1)) := ⟨hnP, hxf⟩
      have hLn := HL.out n'
      rw [hLn] at hnl1
      simp only [ik, fv] at hen hnx
      clear hmeas hmeas2 hmz hlt1 hr1 hb2 hsub her hex hin hk hv hs hm hkv hxf hxJ hkep hnP ht hlt' hnd' hr hbr HH hPr hxr hMr honr hLn
      cases hnm : Dk.named D n' with
      | true =>
        have e1 : ∀ x : Nat, keptF D (n' :: Ps) x = keptF D Ps x := fun x => by
          unfold keptF
          by_cases hxn : x = n'
          · subst hxn; rw [hnm]; simp
          · simp [hxn]
        have HK : Hid (∀ x : Nat, keptF D (n' :: Ps) x = keptF D Ps x) := e1
        clear e1
        rw [hnm] at hnl1
        clear hnm
        go_wp2_with (go_at_call 125; go_must (refine hnl1.mono ?_; rintro e9 w3 ⟨rfl, hbel3⟩))
        obtain ⟨hmeas, hmeas2, hmz, hlt1, hr1, hb2, hsub, her, hex⟩ := HX.out
        have hk3 : ∀ k, k < w2.heap.size → w3.heap[k]? = w2.heap[k]? := fun k hk => hbel3.block k hk
        go_roundw
        case rel =>
          refine ⟨seen.push e.born, es', n' :: Ps, ⟨(hk3 R hsz2).trans hr1, (hk3 fm (by omega)).trans hb2, hsub, hex⟩, ?_, (World.cell?_of_block (hk3 bx (Nat.lt_trans hxl hsz2))).trans hx2, hM2.keep (hk3 mb (by omega)), hon2.trans (OnlyIn.of_below hbel3)⟩
          simp only [HK.out]
          exact hP2.keep fun k hk => hk3 k (by have := hft.out Ps k hk; omega)
        case measure =>
          rw [hmeas w3 ((hk3 R hsz2).trans hr1), hmeas2 w3 es' ((hk3 fm (by omega)).trans hb2), hmz.1, hmz.2]
          exact hlt1
      | false =>
        rw [hnm] at hnl1
        have hfx : FileAt w2 h' f := hP2.each (n', h', f) HN.out.2
        have hflk : look (D.files.filter fun x => keptF D Ps x.1) n' = some f ∧ look (J.filter fun x => keptF D Ps x.1) n' = some (h', f) := by
          have h2 : ((J.filter fun x => keptF D Ps x.1).map (·.1)).Nodup := hjn.sublist (List.filter_sublist.map _)
          obtain ⟨y, hy⟩ := look_some_of (l := J.filter fun x => keptF D Ps x.1) (k := n') (List.mem_map.2 ⟨_, HN.out.2, rfl⟩)
          have hy2 := inj_map h2 (look_mem hy) HN.out.2 rfl
          simp only [Prod.mk.injEq, true_and] at hy2
          rw [hy2] at hy
          refine ⟨?_, hy⟩
          have := hP2.look n'
          simp only at this
          rw [this, hy]; rfl
        have hle := Dk.le_sum hflk.1
        have hsml : Dk.sum (D.files.filter fun x => keptF D Ps x.1) ≤ 4194304 := by
          have h1 : ∀ (l : List (Nat × Dk.F)) (g : Nat × Dk.F → Bool), Dk.sum (l.filter g) ≤ Dk.sum l := fun l g => by
            induction l with
            | nil => simp [Dk.sum]
            | cons a l ih =>
              simp only [List.filter_cons]
              split
              · simp only [Dk.sum, List.map_cons, List.sum_cons] at ih ⊢; omega
              · simp only [Dk.sum, List.map_cons, List.sum_cons] at ih ⊢; omega
          have := h1 D.files fun x => keptF D Ps x.1
          have h2 := hO.use
          have h3 := hO.q
          omega
        have HW : Hid (look (D.files.filter fun x => keptF D Ps x.1) n' = some f ∧ look (J.filter fun x => keptF D Ps x.1) n' = some (h', f) ∧ Dk.named D n' = false) := ⟨hflk.1, hflk.2, hnm⟩
        obtain ⟨⟨c0, c1, c2, c3, c4, c5, c6, c7, c8, c9⟩, hfz⟩ := hP2.cells
        obtain ⟨d0, d1, hfx2⟩ := hfx.cells
        obtain ⟨va, vc, hvv, _, _⟩ := t_shape hfx.row
        obtain ⟨U, hU⟩ : ∃ U, U = Dk.sum (D.files.filter fun x => keptF D Ps x.1) := ⟨_, rfl⟩
        obtain ⟨L, hL⟩ : ∃ L, L = f.bs.length := ⟨_, rfl⟩
        rw [hvv, ← hL] at d0
        rw [← hU] at c3 hP2 hle hsml
        rw [← hL] at hle
        have HU : Hid (U = Dk.sum (D.files.filter fun x => keptF D Ps x.1) ∧ L = f.bs.length) := ⟨hU, hL⟩
        have j1 : IntKind.i64.wrap ((U : Int) - (L : Int)) = (U : Int) - (L : Int) := by rw [IntKind.wrap_i64]; omega
        have hcs : Hid (∀ w3, Below w2.heap.size w2 w3 → w3.cell? ⟨p, 1, none⟩ = some (.map (some fm)) ∧ w3.cell? ⟨p, 3, none⟩ = some (.int .i64 (U : Int)) ∧ w3.cell? ⟨h'.q, 0, none⟩ = some (.slice va L vc) ∧ (∀ i, w3.frozen? ⟨p, i, none⟩ = false)) :=
          (fun w3 hb => ⟨(World.cell?_of_block (hb.block p (heap_lt hP2.blk))).trans c1, (World.cell?_of_block (hb.block p (heap_lt hP2.blk))).trans c3, (World.cell?_of_block (hb.block h'.q (heap_lt hfx.blk))).trans d0, fun i => (World.frozen?_of_block (hb.block p (heap_lt hP2.blk))).trans (hfz i)⟩ : ∀ w3, Below w2.heap.size w2 w3 → w3.cell? ⟨p, 1, none⟩ = some (.map (some fm)) ∧ w3.cell? ⟨p, 3, none⟩ = some (.int .i64 (U : Int)) ∧ w3.cell? ⟨h'.q, 0, none⟩ = some (.slice va L vc) ∧ (∀ i, w3.frozen? ⟨p, i, none⟩ = false))
        clear c0 c1 c2 c3 c4 c5 c6 c7 c8 c9 hfz d0 d1 hfx2 hvv hU hL hflk hnm
        go_wp2_with (go_at_call 125; go_must (refine hnl1.mono ?_; rintro e9 w3 ⟨rfl, hbel3⟩; obtain ⟨c1, c3, d0, hfz⟩ := hcs.out w3 hbel3))
        go_region
        have hP3 : Parts (w3.setCell ⟨p, 3, none⟩ (.int .i64 ((U : Int) - (L : Int)))).drew p { D with files := D.files.filter fun x => keptF D Ps x.1 } (U - L) fm nm sm tv (J.filter fun x => keptF D Ps x.1) :=
          ((hP2.keep (w' := w3) fun k hk => hbel3.block k (by have := hft.out Ps k hk; omega)).setUsed (z := (U : Int) - (L : Int)) (n := U - L) (by omega)).keep fun k _ => rfl
        have hset4 : ∀ k, k < w2.heap.size → k ≠ p → (w3.setCell ⟨p, 3, none⟩ (.int .i64 ((U : Int) - (L : Int)))).drew.heap[k]? = w2.heap[k]? := fun k hk hkp => (set_other w3 p 3 _ hkp).trans (hbel3.block k hk)
        have hon4 : OnlyIn (fun k => k = p ∨ k = fm) w (w3.setCell ⟨p, 3, none⟩ (.int .i64 ((U : Int) - (L : Int)))).drew := (hon2.trans (OnlyIn.of_below hbel3)).trans ((only_set w3 p 3 _ (.inl (.inl rfl))).trans ⟨rfl, rfl, rfl, Nat.le_refl _, fun _ _ _ => rfl⟩)
        have hsz4 : w2.heap.size ≤ (w3.setCell ⟨p, 3, none⟩ (.int .i64 ((U : Int) - (L : Int)))).drew.heap.size := by have := hbel3.size; show _ ≤ (w3.setCell ⟨p, 3, none⟩ (.int .i64 ((U : Int) - (L : Int)))).heap.size; simp; exact this
        generalize (w3.setCell ⟨p, 3, none⟩ (.int .i64 ((U : Int) - (L : Int)))).drew = W4 at hP3 hset4 hon4 hsz4 ⊢
        have hfp : fm ≠ p := by obtain ⟨ee, cc, hee⟩ := hP3.files.blk; exact (cells_map hP3.blk hee).symm
        have hb4 : W4.heap[fm]? = some (.map es' clock) := (hset4 fm (by omega) hfp).trans HX.out.2.2.2.2.2.1
        have HB4 : Hid (W4.heap[fm]? = some (.map es' clock)) := hb4
        have hlk4 : (look ((J.filter fun x => keptF D Ps x.1).map fun x => (x.1, x.2.1)) n').isSome = true := by rw [look_j, HW.out.2.1]; rfl
        have HK4 : Hid ((look ((J.filter fun x => keptF D Ps x.1).map fun x => (x.1, x.2.1)) n').isSome = true) := hlk4
        have q1 := hP3.cells.1.2.1
        clear hb4 hlk4 c1 c3 d0 hfz hcs
        go_wp2_with (at_delete; go_must (refine wp_delete_raw (w := _) rfl _ _ _ rfl 120 ikE Tryz.underlying72 fm ((J.filter fun x => keptF D Ps x.1).map fun x => (x.1, x.2.1)) es' clock n' rfl rfl HB4.out HX.out.2.2.2.2.2.2.2.1 HK4.out ?_; intro w5 es5 hb5 he5 hs5 ht5))
        obtain ⟨hmeas, hmeas2, hmz, hlt1, hr1, hb2, hsub, her, hex⟩ := HX.out
        have hRf : R ≠ fm := fun e => hq1 e.symm
        have hRp : R ≠ p := by omega
        have hr5 : w5.heap[R]? = some (.mapIter (some fm) clock (seen.push e.born) clock) := (ht5.block R hRf).trans ((hset4 R hsz2 hRp).trans hr1)
        have hpred : ∀ x : Nat, (decide (x ≠ n') && keptF D Ps x) = keptF D (n' :: Ps) x := fun x => by
          unfold keptF
          by_cases hxn : x = n'
          · subst hxn; rw [HW.out.2.2]; simp
          · simp [hxn]
        have e1 : mdel (J.filter fun x => keptF D Ps x.1) n' = J.filter fun x => keptF D (n' :: Ps) x.1 := by
          rw [mdel_filter (hjn.sublist (List.filter_sublist.map _)), List.filter_filter]
          exact List.filter_congr fun x _ => hpred x.1
        have e2 : mdel (D.files.filter fun x => keptF D Ps x.1) n' = D.files.filter fun x => keptF D (n' :: Ps) x.1 := by
          rw [mdel_filter (hO.fk.sublist (List.filter_sublist.map _)), List.filter_filter]
          exact List.filter_congr fun x _ => hpred x.1
        have hsm := Dk.sum_mdel HW.out.1
        rw [e2, ← HU.out.2, ← HU.out.1] at hsm
        have hP5 := parts_dropped (n := n') hP3 ⟨es5, clock, hb5, he5, fun e' he' => HE.out.2.1 e' (hsub.subset (hs5.subset he')), HE.out.2.2.sublist ((hs5.trans hsub).map _)⟩ ht5
        rw [e1] at hP5
        simp only [e2] at hP5
        rw [show U - L = Dk.sum (D.files.filter fun x => keptF D (n' :: Ps) x.1) by omega] at hP5
        go_frame
        go_roundw
        case rel =>
          refine ⟨seen.push e.born, es5, n' :: Ps, ⟨hr5, hb5, hs5.trans hsub, fun e' he' => hex e' (hs5.subset he')⟩, hP5, ?_, ?_, ?_⟩
          · exact (ht5.cell (p := ⟨bx, 0, none⟩) (by show bx ≠ fm; omega)).trans ((World.cell?_of_block (hset4 bx (Nat.lt_trans hxl hsz2) (by omega))).trans hx2)
          · exact hM2.keep ((ht5.block mb (by omega)).trans (hset4 mb (by omega) (by omega)))
          · exact hon4.trans ⟨ht5.os, ht5.tape, ht5.output, by rw [ht5.size]; exact Nat.le_refl _, fun k _ hn => ht5.block k fun e => hn (.inl (.inr e))⟩
        case measure =>
          rw [hmeas w5 hr5, hmeas2 w5 es5 hb5, hmz.1, hmz.2]
          exact Nat.lt_of_le_of_lt (left_sub hs5 _) hlt1
end Go.Proofs.YtnoknmnbfkdccaaGreatDoor

/- The disk's settle. -/
namespace Go.Proofs.YtnoknmnbfkdccaaGreatDoor
open Go.RowKit Go.Shelf

set_option maxRecDepth 100000 in
set_option maxHeartbeats 2000000 in
theorem dclone_any (b : Nat) (es : Array MapEntry) (clock : Nat) (w : World) (hb : w.heap[b]? = some (.map es clock)) :
    Calls Tryz.prog 78 #[.map (some b)] w fun e w' => e = .returned (.map (some w.heap.size)) ∧ w' = w.alloc (.map es clock) := by
  have hq := fun w => run_eql_map_nil_sl (P := Tryz.prog) w 73 _ _ (some b) Tryz.underlying73
  go_enter Tryz.func78, Tryz.ntmps78
  go_wp2
  rw [run_callFunc_extern Tryz.func107 (by kernel_rfl) (by kernel_rfl) (by kernel_rfl) (e := Extern.MapsClone.clone) (by kernel_rfl), run_maps_clone_sl w 73 hb]
  simp only [Result.andThen]
  rw [Oper.upon_value]
  go_wp2
  rw [run_typeAssert_map_sl _ 73 20 _ _ _ Tryz.underlying73]
  simp only [Result.andThen]
  rw [Oper.upon_value]
  go_wp2
  go_ret
  exact ⟨rfl, rfl⟩

/-- names behind some turns -/
def Dk.turns (l : List Dk.T) (K : List (ByteArray × Nat)) : List (ByteArray × Nat) := l.foldl (fun K t => Dk.turn t K) K
theorem Dk.turns_take {l : List Dk.T} {K : List (ByteArray × Nat)} {k : Nat} {t : Dk.T} (h : l[k]? = some t) : Dk.turns (l.take (k + 1)) K = Dk.turn t (Dk.turns (l.take k) K) := by
  unfold Dk.turns
  rw [List.take_add_one, h]
  simp
theorem Dk.turns_nodup : ∀ (l : List Dk.T) (K : List (ByteArray × Nat)), (K.map (·.1)).Nodup → ((Dk.turns l K).map (·.1)).Nodup
  | [], _, h => h
  | _ :: l, _, h => Dk.turns_nodup l _ (Dk.turn_nodup h)
theorem Dk.turns_mem : ∀ (l : List Dk.T) (K : List (ByteArray × Nat)) (Q : ByteArray × Nat → Prop), (∀ x ∈ K, Q x) → (∀ t ∈ l, t.given ≠ ⟨#[]⟩ → Q (t.given, t.file)) → ∀ x ∈ Dk.turns l K, Q x
  | [], _, _, h, _ => h
  | t :: l, K, Q, h, ht => Dk.turns_mem l (Dk.turn t K) Q (fun x hx => by
      rcases Dk.turn_mem hx with h1 | ⟨h1, rfl⟩
      · exact h x h1
      · exact ht t (.head _) h1) fun t' h' => ht t' (.tail _ h')
/-- the first turns are safe, the others never were -/
def Dk.settled (D : Dk.D) (n : Nat) : Dk.D := { D with kept := Dk.turns (D.turns.take n) D.kept, names := Dk.turns (D.turns.take n) D.kept, turns := [] }
def Dk.settle (D : Dk.D) (n : Nat) : Dk.D := { Dk.settled D n with files := D.files.filter fun x => Dk.named (Dk.settled D n) x.1 }
theorem Dk.Ok.settled {D : Dk.D} (h : Dk.Ok D) (n : Nat) : Dk.Ok (Dk.settled D n) := by
  have h1 : ∀ x ∈ Dk.turns (D.turns.take n) D.kept, x.2 ∈ D.files.map (·.1) := Dk.turns_mem _ _ (fun x => x.2 ∈ D.files.map (·.1)) h.kf fun t ht hg => h.tf t (List.mem_of_mem_take ht) hg
  have h3 : ∀ x ∈ Dk.turns (D.turns.take n) D.kept, x.1.size ≤ 16 := Dk.turns_mem _ _ (fun x => x.1.size ≤ 16) h.ks fun t ht _ => h.ts t (List.mem_of_mem_take ht)
  have h2 := Dk.turns_nodup (D.turns.take n) D.kept h.kk
  exact ⟨h.q, h.use, h.fk, h.pos, h2, h2, h1, h1, fun t ht => (by cases ht), h.stop, h.fault, h3, h3, fun t ht => (by cases ht)⟩
theorem Dk.sum_filter (l : List (Nat × Dk.F)) (g : Nat × Dk.F → Bool) : Dk.sum (l.filter g) ≤ Dk.sum l := by
  induction l with
  | nil => simp [Dk.sum]
  | cons a l ih =>
    simp only [List.filter_cons]
    split
    · simp only [Dk.sum, List.map_cons, List.sum_cons] at ih ⊢; omega
    · simp only [Dk.sum, List.map_cons, List.sum_cons] at ih ⊢; omega
theorem Dk.Ok.settle {D : Dk.D} (h : Dk.Ok D) (n : Nat) : Dk.Ok (Dk.settle D n) := by
  have hS := h.settled n
  have hn : ∀ x ∈ (Dk.settled D n).names, x.2 ∈ (D.files.filter fun x => Dk.named (Dk.settled D n) x.1).map (·.1) := fun x hx => by
    obtain ⟨y, hy, e⟩ := List.mem_map.1 (hS.nf x hx)
    refine List.mem_map.2 ⟨y, List.mem_filter.2 ⟨hy, ?_⟩, e⟩
    unfold Dk.named
    rw [decide_eq_true_eq, e]
    exact List.mem_map.2 ⟨x, hx, rfl⟩
  exact ⟨hS.q, Nat.le_trans (Dk.sum_filter _ _) hS.use, hS.fk.sublist (List.filter_sublist.map _), fun x hx => hS.pos x (List.mem_filter.1 hx).1, hS.nk, hS.kk, hn, hn, fun t ht => (by cases ht), hS.stop, hS.fault, hS.ns, hS.ks, fun t ht => (by cases ht)⟩

/-- the names are cloned, the turns are gone -/
theorem parts_settled {w W : World} {p u fm nm sm : Nat} {D : Dk.D} {tv : Value} {J : List (Nat × FH × Dk.F)} (h : Parts w p D u fm nm sm tv J) {es : Array MapEntry} {clock : Nat} (hs : w.heap[sm]? = some (.map es clock))
    (hW : W = ((w.setCell ⟨p, 4, none⟩ (.map (some w.heap.size))).setCell ⟨p, 6, none⟩ (.slice none 0 0)).alloc (.map es clock)) : Parts W p { D with names := D.kept, turns := [] } u fm w.heap.size sm (.slice none 0 0) J ∧ OnlyIn (fun k => k = p) w W := by
  have hpl := heap_lt h.blk
  have hsz : ((w.setCell ⟨p, 4, none⟩ (.map (some w.heap.size))).setCell ⟨p, 6, none⟩ (.slice none 0 0)).heap.size = w.heap.size := by simp
  have hko : ∀ k, k ≠ p → k < w.heap.size → W.heap[k]? = w.heap[k]? := fun k hk1 hk2 => by rw [hW, heap_alloc_old _ _ (by rw [hsz]; exact hk2), set_other _ p 6 _ hk1, set_other _ p 4 _ hk1]
  have hnew : W.heap[w.heap.size]? = some (.map es clock) := by rw [hW, heap_alloc_at, if_pos hsz.symm]
  have hmp : ∀ {b : Nat} {e : Array MapEntry} {c : Nat}, w.heap[b]? = some (.map e c) → W.heap[b]? = w.heap[b]? := fun he => hko _ (cells_map h.blk he).symm (heap_lt he)
  have hcell : ∀ {k : Nat} {c : Array Value} {T : TypeId} {r : Nat × Nat}, w.heap[k]? = some (.cells c T r) → T ≠ 76 → W.heap[k]? = w.heap[k]? := fun hc hT => hko _ (cells_ne hc h.blk hT) (heap_lt hc)
  have hsl := h.kept.lt
  have hfl := h.files.lt
  refine ⟨⟨?_, h.jf, ?_, ?_, ?_, ⟨rfl, .inl ⟨rfl, rfl⟩⟩, ?_, h.qs, h.vs, ?_⟩, ?_⟩
  · rw [hW, heap_alloc_old _ _ (by rw [hsz]; exact hpl)]
    exact Go.Joins.block_setCell (Go.Joins.block_setCell h.blk _) _
  · obtain ⟨e, c, he⟩ := h.files.blk; exact h.files.keep (hmp he)
  · obtain ⟨e, c, h1, h2, h3⟩ := h.kept
    rw [hs] at h1
    simp only [Option.some.injEq, Obj.map.injEq] at h1
    obtain ⟨rfl, rfl⟩ := h1
    exact ⟨_, _, hnew, h2, h3⟩
  · obtain ⟨e, c, he⟩ := h.kept.blk; exact h.kept.keep (hmp he)
  · intro x hx
    refine (h.each x hx).keep (hcell (h.each x hx).blk (by decide)) fun g hg => ?_
    obtain ⟨c, hc⟩ := own_blk (h.each x hx).row hg
    exact hcell hc (by decide)
  · exact ⟨by omega, h.ne.2.1, by omega⟩
  · rw [hW]
    refine ⟨rfl, rfl, rfl, by simp, fun k hk1 hk2 => ?_⟩
    rw [← hW]
    exact hko k hk2 hk1

set_option maxRecDepth 100000 in
set_option maxHeartbeats 4000000 in
theorem settle_any {w : World} {p fm nm sm : Nat} {D : Dk.D} {tv : Value} {J : List (Nat × FH × Dk.F)} {S : Nat → Prop} (hO : Dk.Ok D) (hP : Parts w p D (Dk.sum D.files) fm nm sm tv J) (hS : ∀ k, foot p fm nm sm tv J k → S k) (n : Nat) (hn : n ≤ D.turns.length) (htl : D.turns.length ≤ 1000000) :
    Calls Tryz.prog 45 #[.pointer (some ⟨p, 0, none⟩), .int .i64 (n : Int)] w fun e w' => e = .returned (.tuple #[]) ∧ DK w' p (Dk.settle D n) (grow1 S w) ∧ OnlyIn S w w' := by
  have hm : Tryz.prog.follows .mixedOrders = true := by kernel_rfl
  obtain ⟨⟨c0, c1, c2, c3, c4, c5, c6, c7, c8, c9⟩, hf⟩ := hP.cells
  obtain ⟨ta, tc, htv, hta, htc⟩ := t_shape hP.turns
  have hrow : TRow 3 tenc (⟨⟨#[]⟩, ⟨#[]⟩, 0⟩ : Dk.T) w ta D.turns.length D.turns := trow_of_owns tencE (by rw [← htv]; exact hP.turns) (by decide) (by omega)
  rw [htv] at c6
  have i1 : (0 : Int) ≤ (n : Int) := by omega
  have i2 : (n : Int) ≤ (tc : Int) := by omega
  have Htv : Hid (tv = .slice ta D.turns.length tc) := htv
  have hng : ∃ g, ta = some ⟨g, 0, none⟩ ∨ (ta = none ∧ n = 0) := by
    rcases hP.turns.2 with ⟨h1, h2⟩ | ⟨g, cap, cur, h1, _⟩
    · rw [htv] at h1
      simp only [Value.slice.injEq] at h1
      exact ⟨0, .inr ⟨h1.1, by omega⟩⟩
    · rw [htv] at h1
      simp only [Value.slice.injEq] at h1
      exact ⟨g, .inl h1.1⟩
  obtain ⟨g, hg⟩ := hng
  rcases hg with rfl | ⟨rfl, rfl⟩
  · clear hta htv
    obtain ⟨L, hL⟩ : ∃ L, L = D.turns.length := ⟨_, rfl⟩
    have HL : Hid (L = D.turns.length) := hL
    rw [← hL] at c6
    clear hL
    go_enter Tryz.func45, Tryz.ntmps45
    go_wp2
    go_loopw [13] (fun i wr => ∃ k : Nat, k ≤ n ∧ i = .int .i64 k ∧ Parts wr p { D with kept := Dk.turns (D.turns.take k) D.kept } (Dk.sum D.files) fm nm sm tv J ∧ OnlyIn (fun x => x = sm) w wr) (fun i _ => n - (intOf i).toNat)
    case atStart => exact ⟨0, by omega, rfl, hP, OnlyIn.refl _ _⟩
    case round =>
      obtain ⟨k, hk, rfl, hPr, honr⟩ := hrel
      clear c0 c1 c2 c3 c4 c5 c6 c7 c8 c9 hf
      by_cases hlt : k < n
      · have hkl : k < D.turns.length := by omega
        obtain ⟨t, ht⟩ : ∃ t, D.turns[k]? = some t := ⟨D.turns[k], List.getElem?_eq_getElem hkl⟩
        have hrowr : TRow 3 tenc (⟨⟨#[]⟩, ⟨#[]⟩, 0⟩ : Dk.T) wr (some ⟨g, 0, none⟩) D.turns.length D.turns := trow_of_owns tencE (by rw [← Htv.out]; exact hPr.turns) (by decide) (by omega)
        obtain ⟨b, off, eb, hat⟩ := hrowr.at (by omega)
        simp only [Option.some.injEq, Addr.mk.injEq] at eb
        obtain ⟨rfl, rfl, _⟩ := eb
        have hatk := hat k hkl
        rw [show D.turns.getD k ⟨⟨#[]⟩, ⟨#[]⟩, 0⟩ = t by rw [List.getD_eq_getElem?_getD, ht]; rfl] at hatk
        have y0 : wr.cell? ⟨g, k * 3, none⟩ = some (.string t.taken) := by have := hatk 0 _ rfl; simpa using this
        have y1 : wr.cell? ⟨g, k * 3 + 1, none⟩ = some (.string t.given) := by have := hatk 1 _ rfl; simpa using this
        have y2 : wr.cell? ⟨g, k * 3 + 2, none⟩ = some (.int .i64 (t.file : Int)) := by have := hatk 2 _ rfl; simpa using this
        have i3 : (0 : Int) ≤ (k : Int) := by omega
        have i4 : (k : Int) < (n : Int) := by omega
        have i5 : IntKind.i64.wrap ((k : Int) + 1) = ((k + 1 : Nat) : Int) := by rw [IntKind.wrap_i64]; omega
        obtain ⟨⟨c0, c1, c2, c3, c4, c5, c6, c7, c8, c9⟩, hf⟩ := hPr.cells
        have HT : Hid (D.turns[k]? = some t) := ht
        clear ht hat hatk hrowr hrow
        go_wp2
        have hPW : Parts (wr.alloc (.cells #[.string t.taken, .string t.given, .int .i64 (t.file : Int)] 129)) p { D with kept := Dk.turns (D.turns.take k) D.kept } (Dk.sum D.files) fm nm sm tv J := hPr.keep fun x hx => heap_alloc_old wr _ (hPr.lt hx)
        have hbW : (wr.alloc (.cells #[.string t.taken, .string t.given, .int .i64 (t.file : Int)] 129)).heap[wr.heap.size]? = some (.cells #[.string t.taken, .string t.given, .int .i64 (t.file : Int)] 129 (0, 0)) := heap_alloc_new wr _
        have honW : OnlyIn (fun x => x = sm) w (wr.alloc (.cells #[.string t.taken, .string t.given, .int .i64 (t.file : Int)] 129)) := honr.trans (OnlyIn.of_below (below_alloc wr _))
        generalize wr.alloc (.cells #[.string t.taken, .string t.given, .int .i64 (t.file : Int)] 129) = W at hPW hbW honW ⊢
        have k0 : W.cell? ⟨wr.heap.size, 0, none⟩ = some (.string t.taken) := (Go.Joins.cell_of_block hbW _).trans rfl
        have k1 : W.cell? ⟨wr.heap.size, 1, none⟩ = some (.string t.given) := (Go.Joins.cell_of_block hbW _).trans rfl
        have k2 : W.cell? ⟨wr.heap.size, 2, none⟩ = some (.int .i64 (t.file : Int)) := (Go.Joins.cell_of_block hbW _).trans rfl
        have q5 := hPW.cells.1.2.2.2.2.2.1
        have hdo := do_any t sm (Dk.turns (D.turns.take k) D.kept) W.drew (hPW.kept.keep rfl)
        simp only [tval] at hdo
        go_still_tail 5, hm
        go_wp2_with (go_at_call 77; go_must (refine hdo.mono ?_; rintro e w1 ⟨rfl, hm1, hon1⟩))
        have hP1 := hPW.keeps (fun x hx hn => hon1.block x hx hn) hm1
        go_roundw
        case rel =>
          refine ⟨k + 1, by omega, rfl, ?_, honW.trans (OnlyIn.trans (b := W.drew) ⟨rfl, rfl, rfl, Nat.le_refl _, fun _ _ _ => rfl⟩ (hon1.mono fun x _ h => .inl (.inl h)))⟩
          rw [Dk.turns_take HT.out]
          exact hP1
        case measure => simp [intOf]; omega
      · skip
        have hkn : k = n := by omega
        subst hkn
        obtain ⟨es, clock, hb, _, _, _⟩ := id hPr.kept
        have hcl := dclone_any sm es clock wr hb
        have hPs := fun W hW => parts_settled (W := W) hPr hb hW
        have HPS : Hid (∀ W, W = ((wr.setCell ⟨p, 4, none⟩ (.map (some wr.heap.size))).setCell ⟨p, 6, none⟩ (.slice none 0 0)).alloc (.map es clock) → Parts W p (Dk.settled D k) (Dk.sum D.files) fm wr.heap.size sm (.slice none 0 0) J ∧ OnlyIn (fun k => k = p) wr W) := hPs
        obtain ⟨⟨c0, c1, c2, c3, c4, c5, c6, c7, c8, c9⟩, hf⟩ := hPr.cells
        have hpl := heap_lt hPr.blk
        have hi : ¬ ((k : Int) < (k : Int)) := by omega
        have hrz := honr.size
        clear hb hPs
        go_wp2_with (first | (go_at_call 78; go_must (refine hcl.mono ?_; rintro e w1 ⟨rfl, hw⟩; rw [hw]; clear hw w1)) | (go_at_call 79; go_must (obtain ⟨hP5, hon5⟩ := HPS.out _ rfl; refine (drop_any (hO.settled k) hP5).mono ?_; rintro e w6 ⟨rfl, hP6, hon6⟩)))
        first | go_end0 | refine bodyPost_ret (results_none rfl _ _ _) rfl ?_
        refine ⟨rfl, ⟨hO.settle k, fm, wr.heap.size, sm, .slice none 0 0, _, hP6, ?_⟩, ?_⟩
        · rintro x (h | h | h | h | h | ⟨y, hy, h⟩)
          · exact .inl (hS x (.inl h))
          · exact .inl (hS x (.inr (.inl h)))
          · exact .inr (by omega)
          · exact .inl (hS x (.inr (.inr (.inr (.inl h)))))
          · simp [Value.ownBlock] at h
          · exact .inl (hS x (.inr (.inr (.inr (.inr (.inr ⟨y, (List.mem_filter.1 hy).1, h⟩))))))
        · refine ((honr.mono fun x _ h => ?_).trans (hon5.mono fun x _ h => ?_)).trans (hon6.mono fun x _ h => ?_)
          · exact hS x (.inr (.inr (.inr (.inl h))))
          · exact .inl (hS x (.inl h))
          · rcases h with h | h
            · exact .inl (hS x (.inl h))
            · exact .inl (hS x (.inr (.inl h)))
  · have hL0 : D.turns.length = 0 := (hta rfl).1
    obtain rfl : tc = 0 := (hta rfl).2
    rw [hL0] at c6
    go_enter Tryz.func45, Tryz.ntmps45
    go_wp2
    go_loopw [13] (fun i wr => ∃ k : Nat, k = 0 ∧ i = .int .i64 k ∧ Parts wr p { D with kept := Dk.turns (D.turns.take k) D.kept } (Dk.sum D.files) fm nm sm tv J ∧ OnlyIn (fun x => x = sm) w wr) (fun i _ => 0 - (intOf i).toNat)
    case atStart => exact ⟨0, rfl, rfl, hP, OnlyIn.refl _ _⟩
    case round =>
      obtain ⟨k, hk0, rfl, hPr, honr⟩ := hrel
      clear c0 c1 c2 c3 c4 c5 c6 c7 c8 c9 hf
      subst hk0
      obtain ⟨es, clock, hb, _, _, _⟩ := id hPr.kept
      have hcl := dclone_any sm es clock wr hb
      have hPs := fun W hW => parts_settled (W := W) hPr hb hW
      have HPS : Hid (∀ W, W = ((wr.setCell ⟨p, 4, none⟩ (.map (some wr.heap.size))).setCell ⟨p, 6, none⟩ (.slice none 0 0)).alloc (.map es clock) → Parts W p (Dk.settled D 0) (Dk.sum D.files) fm wr.heap.size sm (.slice none 0 0) J ∧ OnlyIn (fun k => k = p) wr W) := hPs
      obtain ⟨⟨c0, c1, c2, c3, c4, c5, c6, c7, c8, c9⟩, hf⟩ := hPr.cells
      have hpl := heap_lt hPr.blk
      have hi : ¬ ((0 : Int) < (0 : Int)) := by omega
      have hrz := honr.size
      clear hb hPs
      go_wp2_with (first | (go_at_call 78; go_must (refine hcl.mono ?_; rintro e w1 ⟨rfl, hw⟩; rw [hw]; clear hw w1)) | (go_at_call 79; go_must (obtain ⟨hP5, hon5⟩ := HPS.out _ rfl; refine (drop_any (hO.settled 0) hP5).mono ?_; rintro e w6 ⟨rfl, hP6, hon6⟩)))
      first | go_end0 | refine bodyPost_ret (results_none rfl _ _ _) rfl ?_
      refine ⟨rfl, ⟨hO.settle 0, fm, wr.heap.size, sm, .slice none 0 0, _, hP6, ?_⟩, ?_⟩
      · rintro x (h | h | h | h | h | ⟨y, hy, h⟩)
        · exact .inl (hS x (.inl h))
        · exact .inl (hS x (.inr (.inl h)))
        · exact .inr (by omega)
        · exact .inl (hS x (.inr (.inr (.inr (.inl h)))))
        · simp [Value.ownBlock] at h
        · exact .inl (hS x (.inr (.inr (.inr (.inr (.inr ⟨y, (List.mem_filter.1 hy).1, h⟩))))))
      · refine ((honr.mono fun x _ h => ?_).trans (hon5.mono fun x _ h => ?_)).trans (hon6.mono fun x _ h => ?_)
        · exact hS x (.inr (.inr (.inr (.inl h))))
        · exact .inl (hS x (.inl h))
        · rcases h with h | h
          · exact .inl (hS x (.inl h))
          · exact .inl (hS x (.inr (.inl h)))
end Go.Proofs.YtnoknmnbfkdccaaGreatDoor

/- The disk's SyncNames. -/
namespace Go.Proofs.YtnoknmnbfkdccaaGreatDoor
open Go.RowKit Go.Shelf

set_option maxRecDepth 100000 in
set_option maxHeartbeats 1000000 in
theorem syncnames1_any {w : World} {p fm nm sm : Nat} {D : Dk.D} {tv : Value} {J : List (Nat × FH × Dk.F)} {S : Nat → Prop} (hO : Dk.Ok D) (hP : Parts w p D (Dk.sum D.files) fm nm sm tv J) (hS : ∀ k, foot p fm nm sm tv J k → S k) (htl : D.turns.length ≤ 1000000)
    (b0 : Nat) (k0 : w.cell? ⟨b0, 0, none⟩ = some (.pointer (some ⟨p, 0, none⟩))) :
    Calls Tryz.prog 44 #[.pointer (some ⟨b0, 0, none⟩)] w fun e w' => e = .returned (.tuple #[]) ∧ DK w' p (Dk.settle D D.turns.length) (grow1 S w) ∧ OnlyIn S w w' := by
  have hm : Tryz.prog.follows .mixedOrders = true := by kernel_rfl
  obtain ⟨ta, tc, htv, _, _⟩ := t_shape hP.turns
  have c6 := hP.cells.1.2.2.2.2.2.2.1
  rw [htv] at c6
  have hc := settle_any (w := w.drew) (S := S) hO (hP.keep fun k _ => rfl) hS D.turns.length (Nat.le_refl _) htl
  clear htv
  go_enter Tryz.func44, Tryz.ntmps44
  go_wp2
  go_still_tail 6, hm
  go_wp2_with (go_at_call 45; go_must (refine hc.mono ?_; rintro e w1 ⟨rfl, hDK1, hon1⟩))
  first | go_end0 | refine bodyPost_ret (results_none rfl _ _ _) rfl ?_
  exact ⟨rfl, hDK1, hon1.after (W := w.drew) (bd1 (Below.refl _ _))⟩

/-- what SyncNames does and tells -/
def Dk.syncNames (D : Dk.D) : Dk.D × Int := if D.dead = true then (D, 9) else Dk.acted D (Dk.settle D D.turns.length)

set_option maxHeartbeats 2000000 in
theorem syncNamesD_any {w : World} {p : Nat} {D : Dk.D} {S : Nat → Prop} (h : DK w p D S) (htl : D.turns.length ≤ 1000000) :
    Calls Tryz.prog 16 #[.pointer (some ⟨p, 0, none⟩)] w fun e w' => e = .returned (.int .i64 (Dk.syncNames D).2) ∧ DK w' p (Dk.syncNames D).1 (grow1 S w) ∧ OnlyIn S w w' := by
  have hgr : ∀ {W : World}, Below w.heap.size w W → DK W p D (grow1 S w) ∧ OnlyIn S w W := fun {W} hb => ⟨h.keep (fun k hk _ => hb.block k hk) fun _ _ h => .inl h, OnlyIn.of_below hb⟩
  obtain ⟨hO, fm, nm, sm, tv, J, hP, hS⟩ := h
  have hPW : ∀ {W : World}, Below w.heap.size w W → Parts W p D (Dk.sum D.files) fm nm sm tv J := fun {W} hb => hP.keep fun k hk => hb.block k (hP.lt hk)
  have hdead := dead_any (hPW (bal (Below.refl _ w) (.cells #[.pointer (some ⟨p, 0, none⟩)] 30)))
  have hact := fun (k0 : (w.alloc (.cells #[.pointer (some ⟨p, 0, none⟩)] 30)).cell? ⟨w.heap.size, 0, none⟩ = some (.pointer (some ⟨p, 0, none⟩))) =>
    act_any ⟨hO, fm, nm, sm, tv, J, hPW (bal (Below.refl _ w) (.cells #[.pointer (some ⟨p, 0, none⟩)] 30)), hS⟩ (Dk.settle D D.turns.length) 44 _ rfl rfl (enters_lit Tryz.func44 (by kernel_rfl) rfl) (syncnames1_any hO (hPW (bal (Below.refl _ w) _)) hS htl w.heap.size k0)
  have hc := hact (by simp [go_sem])
  clear hact
  unfold Dk.syncNames
  by_cases hd : D.dead = true
  · rw [hd] at hdead
    rw [if_pos hd]
    clear hd hc
    go_enter Tryz.func16, Tryz.ntmps16
    go_wp2_with (go_at_call 42; go_must (refine hdead.mono ?_; rintro e w1 ⟨rfl, hw⟩; rw [hw]; clear hw w1))
    go_ret
    exact ⟨rfl, hgr (bal (Below.refl _ w) _)⟩
  · rw [if_neg hd]
    rw [Bool.not_eq_true] at hd
    rw [hd] at hdead
    clear hd
    go_enter Tryz.func16, Tryz.ntmps16
    go_wp2_with (first | (go_at_call 42; go_must (refine hdead.mono ?_; rintro e w1 ⟨rfl, hw⟩; rw [hw]; clear hw w1)) | (go_at_call 43; go_must (refine hc.mono ?_; rintro e w2 ⟨rfl, hDK1, hon1⟩)))
    go_ret
    exact ⟨rfl, hDK1.after (bal (Below.refl _ w) _), hon1.after (bal (Below.refl _ w) _)⟩
end Go.Proofs.YtnoknmnbfkdccaaGreatDoor
