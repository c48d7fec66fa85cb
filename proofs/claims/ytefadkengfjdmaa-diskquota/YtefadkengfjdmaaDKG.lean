/- Maps gone through; the disk's nameless. -/
import Derived.Test.YtefadkengfjdmaaDKF
import Derived.Maps.RangeWalk
namespace Go.Proofs.Ytefadkengfjdmaa
open Go.RowKit Go.Shelf
open Go.ChangeMaps (setBlock)

theorem turn1_iter {w w1 : World} {r : Nat} {m : Option Nat} {s : Nat} {seen : Array Nat} {c : Nat} (hr : w.heap[r]? = some (.mapIter m s seen c)) (h1 : w1 = w ∨ w1 = w.drew) (o : Obj) : Turn1 w (setBlock w1 r o) r ∧ (setBlock w1 r o).heap[r]? = some o := by
  have hh : w1.heap = w.heap := by rcases h1 with rfl | rfl <;> rfl
  have hlt := heap_lt hr
  refine ⟨⟨?_, ?_, ?_, ?_, fun k hk => ?_⟩, ?_⟩
  · rcases h1 with rfl | rfl <;> rfl
  · rcases h1 with rfl | rfl <;> rfl
  · rcases h1 with rfl | rfl <;> rfl
  · simp [setBlock, hh]
  · show (w1.heap.setIfInBounds r o)[k]? = _
    rw [hh, Array.getElem?_setIfInBounds_ne (fun e => hk e.symm)]
  · show (w1.heap.setIfInBounds r o)[r]? = _
    rw [hh]
    simp [hlt]

section
variable {α β : Type} {ek : α → Value} {ev : β → Value}
theorem ents_mem {es : List MapEntry} {l : List (α × β)} (h : EntsAre ek ev es l) {e : MapEntry} (he : e ∈ es) : ∃ k v, (k, v) ∈ l ∧ e.key = ek k ∧ e.val = ev v := by
  have : (e.key, e.val) ∈ es.map (fun e => (e.key, e.val)) := List.mem_map.2 ⟨e, he, rfl⟩
  rw [h] at this
  obtain ⟨⟨k, v⟩, hm, hkv⟩ := List.mem_map.1 this
  simp only [Prod.mk.injEq] at hkv
  exact ⟨k, v, hm, hkv.1.symm, hkv.2.symm⟩
/-- the step of a loop over a map -/
theorem next_at (P : Program) (w : World) (r bm since c0 : Nat) (seen : Array Nat) (es : Array MapEntry) (clock : Nat) (l : List (α × β))
    (hr : w.heap[r]? = some (.mapIter (some bm) since seen c0)) (hb : w.heap[bm]? = some (.map es clock)) (he : EntsAre ek ev es.toList l) (hold : ∀ x ∈ es.toList, x.born < since) (hnd : (es.toList.map (·.born)).Nodup) (hsc : since ≤ c0) (hrb : bm ≠ r) :
    ((leftOf es seen).size = 0 ∧ ∀ ty, (Instr.next (.pointer (some ⟨r, 0, none⟩)) false ty).run P w = .ok (.tuple #[.bool false]) w) ∨
    ∃ (e : MapEntry) (k : α) (v : β) (w' : World), e ∈ es.toList ∧ seen.contains e.born = false ∧ (k, v) ∈ l ∧ e.key = ek k ∧ e.val = ev v ∧ Turn1 w w' r ∧ w'.heap[r]? = some (.mapIter (some bm) since (seen.push e.born) clock) ∧ (leftOf es (seen.push e.born)).size < (leftOf es seen).size ∧ (∀ ty, (Instr.next (.pointer (some ⟨r, 0, none⟩)) false ty).run P w = .ok (.tuple #[.bool true, ek k, ev v]) w') ∧ (Instr.entry (.pointer (some ⟨r, 0, none⟩))).run P w' = .ok (.tuple #[ek k, ev v]) w' := by
  rcases run_next_at (P := P) w 0 r bm since c0 seen es clock hr hb hold hsc with ⟨h0, hrun⟩ | ⟨e, hm, w1, hw1, hrun⟩
  · exact .inl ⟨h0, fun _ => hrun⟩
  · obtain ⟨h1, h2⟩ := mem_left hm
    obtain ⟨k, v, hkv, hk, hv⟩ := ents_mem he h1
    obtain ⟨ht, hr'⟩ := turn1_iter hr hw1 (.mapIter (some bm) since (seen.push e.born) clock)
    have hen := run_entry_at (P := P) (setBlock w1 r (.mapIter (some bm) since (seen.push e.born) clock)) r bm since seen es clock e hr' ((ht.block bm hrb).trans hb) h1 hnd
    rw [hk, hv] at hen hrun
    exact .inr ⟨e, k, v, _, h1, h2, hkv, hk, hv, ht, hr', left_shrinks es seen e hm, fun _ => hrun, hen⟩
end

theorem run_makeMap_hint {P : Program} (t k e : TypeId) (n : Int) (w : World) (ht : P.underlying t = some (.map k e)) : (Instr.makeMap t (some (.int .i64 n))).run P w = .ok (.map (some w.heap.size)) (w.alloc (.map #[] 0)) := by
  simp [Instr.makeMap, run_underlying ht, asInt, asIntOf, Result.andThen]

def uv (_ : Unit) : Value := .agg #[]

theorem look_mput {α β : Type} [DecidableEq α] : ∀ (l : List (α × β)) (k n : α) (v : β), (look (mput l k v) n).isSome = ((look l n).isSome || decide (n = k))
  | [], k, n, v => by
    by_cases h : k = n
    · simp [mput, look, h]
    · have h' : ¬ (n = k) := fun e => h e.symm
      simp [mput, look, h, h']
  | (a, x) :: l, k, n, v => by
    by_cases hk : a = k
    · subst hk
      by_cases hn : a = n
      · simp [mput, look, hn]
      · have h' : ¬ (n = a) := fun e => hn e.symm
        simp [mput, look, hn, h']
    · by_cases hn : a = n
      · subst hn
        simp [mput, look, hk]
      · simp only [mput, hk, if_false, look, hn]
        exact look_mput l k n v

set_option maxRecDepth 100000 in
set_option maxHeartbeats 2000000 in
theorem nameless_any {w : World} {p u fm nm sm : Nat} {D : Dk.D} {tv : Value} {J : List (Nat × FH × Dk.F)} (hP : Parts w p D u fm nm sm tv J) :
    Calls Try.prog 42 #[.pointer (some ⟨p, 0, none⟩)] w fun e w' => ∃ bx mb l, e = .returned (.func (.func 45) #[] #[.pointer (some ⟨bx, 0, none⟩)]) ∧ w'.cell? ⟨bx, 0, none⟩ = some (.map (some mb)) ∧ MapAt ik uv w' mb l ∧ (∀ n, (look l n).isSome = true ↔ n ∈ D.names.map (·.2)) ∧ w.heap.size ≤ bx ∧ w.heap.size ≤ mb ∧ Below w.heap.size w w' := by
  obtain ⟨⟨c0, c1, c2, c3, c4, c5, c6, c7, c8, c9⟩, hf⟩ := hP.cells
  have hln := run_len_at (P := Try.prog) Try.underlying46 3 hP.names
  have hmm := fun (n : Int) (w : World) => run_makeMap_hint (P := Try.prog) 76 _ _ n w Try.underlying76
  have hpl := heap_lt hP.blk
  have hnl := hP.names.lt
  obtain ⟨es, clock, hb, he, hlt, hnd⟩ := hP.names
  have hrg := run_range_map (P := Try.prog) ((w.alloc (.map #[] 0)).alloc (.cells #[.map (some w.heap.size)] 76)) 46 9 3 nm es clock Try.underlying46 (((heap_alloc_old _ _ (by simp; omega)).trans (heap_alloc_old _ _ hnl)).trans hb)
  have hst : MapAt ik uv (((w.alloc (.map #[] 0)).alloc (.cells #[.map (some w.heap.size)] 76)).alloc (.mapIter (some nm) clock #[] clock)) w.heap.size ([] : List (Nat × Unit)) :=
    ⟨#[], 0, ((heap_alloc_old _ _ (by simp; omega)).trans (heap_alloc_old _ _ (by simp))).trans (heap_alloc_new _ _), rfl, by simp, by simp⟩
  have hsr : (((w.alloc (.map #[] 0)).alloc (.cells #[.map (some w.heap.size)] 76)).alloc (.mapIter (some nm) clock #[] clock)).heap[w.heap.size + 1 + 1]? = some (.mapIter (some nm) clock #[] clock) := by rw [heap_alloc_at, if_pos (by simp)]
  have hsx : (((w.alloc (.map #[] 0)).alloc (.cells #[.map (some w.heap.size)] 76)).alloc (.mapIter (some nm) clock #[] clock)).cell? ⟨w.heap.size + 1, 0, none⟩ = some (.map (some w.heap.size)) := by simp [go_sem]
  have hsb : Below w.heap.size w (((w.alloc (.map #[] 0)).alloc (.cells #[.map (some w.heap.size)] 76)).alloc (.mapIter (some nm) clock #[] clock)) := bal (bal (bal (Below.refl _ w) _) _) _
  have HB : Hid (w.heap[nm]? = some (.map es clock)) := hb
  clear hb
  go_enter Try.func42, Try.ntmps42
  go_wp2
  go_loopw [] (fun wr => ∃ (seen : Array Nat) (l : List (Nat × Unit)), wr.heap[w.heap.size + 1 + 1]? = some (.mapIter (some nm) clock seen clock) ∧ wr.cell? ⟨w.heap.size + 1, 0, none⟩ = some (.map (some w.heap.size)) ∧ MapAt ik uv wr w.heap.size l ∧ Hid (∀ n, (look l n).isSome = true ↔ ∃ e ∈ es.toList, seen.contains e.born = true ∧ e.val = ik n) ∧ Below w.heap.size w wr) (fun wr => (leftOf es (wr.iterSeen (w.heap.size + 1 + 1))).size)
  case atStart => exact ⟨#[], [], hsr, hsx, hst, (fun n => by simp [look] : ∀ n, (look ([] : List (Nat × Unit)) n).isSome = true ↔ ∃ e ∈ es.toList, (#[] : Array Nat).contains e.born = true ∧ e.val = ik n), hsb⟩
  case round =>
    obtain ⟨seen, l, hr, hx, hM, HI, hbel⟩ := hrel
    have hbr : wr.heap[nm]? = some (.map es clock) := (hbel.block nm hnl).trans HB.out
    have n1 : nm ≠ w.heap.size + 1 + 1 := by omega
    have n2 : w.heap.size ≠ w.heap.size + 1 + 1 := by omega
    have n3 : w.heap.size + 1 ≠ w.heap.size + 1 + 1 := by omega
    have n4 : w.heap.size + 1 ≠ w.heap.size := by omega
    have HR : Hid (wr.heap[w.heap.size + 1 + 1]? = some (.mapIter (some nm) clock seen clock)) := hr
    have HBR : Hid (wr.heap[nm]? = some (.map es clock)) := hbr
    clear hr hbr hst hsr hsx hsb
    rcases next_at Try.prog wr (w.heap.size + 1 + 1) nm clock clock seen es clock D.names HR.out HBR.out he hlt hnd (Nat.le_refl _) n1 with ⟨h0, hnx⟩ | ⟨e, k, v, w1, hm, hs, hkv, hk, hv, ht, hr1, hlt1, hnx, hen⟩
    · skip
      have H0 : Hid ((leftOf es seen).size = 0) := h0
      clear h0
      go_wp2
      go_ret
      refine ⟨w.heap.size + 1, w.heap.size, l, rfl, hx, hM, fun n => ?_, by omega, Nat.le_refl _, hbel⟩
      rw [HI.out n]
      have hall := all_seen es seen H0.out
      constructor
      · rintro ⟨e, hm, _, hv⟩
        obtain ⟨k, v, hkv, _, hv'⟩ := ents_mem he hm
        rw [hv] at hv'
        simp only [ik, Value.int.injEq, true_and] at hv'
        have : n = v := by omega
        rw [this]
        exact List.mem_map.2 ⟨(k, v), hkv, rfl⟩
      · intro hn
        obtain ⟨⟨k, v⟩, hkv, rfl⟩ := List.mem_map.1 hn
        have : (sk k, ik v) ∈ es.toList.map (fun e => (e.key, e.val)) := by rw [he]; exact List.mem_map.2 ⟨(k, v), hkv, rfl⟩
        obtain ⟨e, hm, hev⟩ := List.mem_map.1 this
        simp only [Prod.mk.injEq] at hev
        exact ⟨e, hm, hall e hm, hev.2⟩
    · skip
      have H1 : Hid (e ∈ es.toList ∧ seen.contains e.born = false ∧ e.val = ik v ∧ Turn1 wr w1 (w.heap.size + 1 + 1) ∧ w1.heap[w.heap.size + 1 + 1]? = some (.mapIter (some nm) clock (seen.push e.born) clock) ∧ (leftOf es (seen.push e.born)).size < (leftOf es seen).size) := ⟨hm, hs, hv, ht, hr1, hlt1⟩
      have hx1 : w1.cell? ⟨w.heap.size + 1, 0, none⟩ = some (.map (some w.heap.size)) := (ht.cell (p := ⟨w.heap.size + 1, 0, none⟩) n3).trans hx
      have hM1 : MapAt ik uv w1 w.heap.size l := hM.keep (ht.block _ n2)
      have hbel1 : Below w.heap.size w w1 := hbel.trans ⟨ht.os, ht.tape, ht.output, by rw [ht.size]; exact Nat.le_refl _, fun k hk => ht.block k (by omega)⟩
      simp only [sk, ik] at hen hnx
      clear hm hs hkv hk hv ht hr1 hlt1 hx hM hbel
      go_wp2_with (at_mapUpdate; go_must (refine wp_update_at (w := _) rfl _ _ _ _ rfl 77 ikE Try.underlying76 w.heap.size l v () rfl rfl rfl hM1 ?_; intro w2 hM2 ht2))
      obtain ⟨hm, hs, hv, ht, hr1, hlt1⟩ := H1.out
      have hr2 : w2.heap[w.heap.size + 1 + 1]? = some (.mapIter (some nm) clock (seen.push e.born) clock) := (ht2.block _ n2.symm).trans hr1
      go_frame
      go_roundw
      case rel =>
        refine ⟨seen.push e.born, _, hr2, (ht2.cell (p := ⟨w.heap.size + 1, 0, none⟩) n4).trans hx1, hM2, ?_, hbel1.trans ⟨ht2.os, ht2.tape, ht2.output, by rw [ht2.size]; exact Nat.le_refl _, fun k hk => ht2.block k (by omega)⟩⟩
        show ∀ n, (look (mput l v ()) n).isSome = true ↔ ∃ e' ∈ es.toList, (seen.push e.born).contains e'.born = true ∧ e'.val = ik n
        intro n
        rw [look_mput, Bool.or_eq_true, HI.out n, decide_eq_true_eq]
        constructor
        · rintro (⟨e', h1, h2, h3⟩ | rfl)
          · exact ⟨e', h1, by rw [contains_push, h2, Bool.true_or], h3⟩
          · exact ⟨e, hm, by rw [contains_push, beq_self_eq_true, Bool.or_true], hv⟩
        · rintro ⟨e', h1, h2, h3⟩
          rw [contains_push, Bool.or_eq_true] at h2
          rcases h2 with h2 | h2
          · exact .inl ⟨e', h1, h2, h3⟩
          · have : e' = e := born_inj hnd h1 hm (beq_iff_eq.1 h2)
            subst this
            rw [hv] at h3
            simp only [ik, Value.int.injEq, true_and] at h3
            exact .inr (by omega)
      case measure =>
        have e1 : w2.iterSeen (w.heap.size + 1 + 1) = seen.push e.born := by unfold World.iterSeen; rw [hr2]
        have e2 : wr.iterSeen (w.heap.size + 1 + 1) = seen := by unfold World.iterSeen; rw [HR.out]
        rw [e1, e2]
        exact hlt1
end Go.Proofs.Ytefadkengfjdmaa
