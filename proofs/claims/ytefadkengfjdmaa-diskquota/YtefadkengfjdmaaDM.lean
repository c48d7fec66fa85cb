/- Maps told by their entries, in the order in which they were laid: looked up, written, taken out of, gone through. -/
import Derived.Test.YtefadkengfjdmaaU2
import Derived.Maps.RangeRun
namespace Go.Proofs.Ytefadkengfjdmaa
open Go.RowKit
open Go.ChangeMaps (setBlock)

/-- lists of keys and values -/
def look {α β : Type} [DecidableEq α] : List (α × β) → α → Option β
  | [], _ => none
  | (a, x) :: t, k => if a = k then some x else look t k
def mput {α β : Type} [DecidableEq α] : List (α × β) → α → β → List (α × β)
  | [], k, v => [(k, v)]
  | (a, x) :: t, k, v => if a = k then (k, v) :: t else (a, x) :: mput t k v
def mdel {α β : Type} [DecidableEq α] : List (α × β) → α → List (α × β)
  | [], _ => []
  | (a, x) :: t, k => if a = k then t else (a, x) :: mdel t k

/-- how keys are told apart by the machine -/
structure KeyE (P : Program) (K : TypeId) {α : Type} [DecidableEq α] (ek : α → Value) : Prop where
  und : ∃ d, P.underlying K = some d ∧ (∀ a b : α, Instr.sameNow d (ek a) (ek b) = some (decide (a = b))) ∧ (∀ (e : Bool) (a : α) (w : World), (Instr.checkKey e 10000 K (ek a)).run P w = .ok () w)
  bits : ∀ a : α, Instr.sameBits 10000 (ek a) (ek a) = true

section
variable {P : Program} {α β : Type} {K : TypeId} {ek : α → Value} {ev : β → Value}

/-- an entry is a key and a value -/
def EntsAre (ek : α → Value) (ev : β → Value) (es : List MapEntry) (l : List (α × β)) : Prop := es.map (fun e => (e.key, e.val)) = l.map (fun x => (ek x.1, ev x.2))

/-- block b is a map of the keys and values l -/
def MapAt (ek : α → Value) (ev : β → Value) (w : World) (b : Nat) (l : List (α × β)) : Prop :=
  ∃ es clock, w.heap[b]? = some (.map es clock) ∧ EntsAre ek ev es.toList l ∧ (∀ e ∈ es.toList, e.born < clock) ∧ (es.toList.map (·.born)).Nodup

theorem run_findKey_at {d : TypeDesc} (hu : P.underlying K = some d) (k : α) (es : List MapEntry) (r : Option (Nat × Value)) (w : World) (h : Instr.findNow d (ek k) es 0 = some r) : (Instr.findKey K (ek k) es).run P w = .ok r w := by
  simp [Instr.findKey, run_underlying hu, h]

theorem MapAt.keep {w w' : World} {b : Nat} {l : List (α × β)} (h : MapAt ek ev w b l) (hb : w'.heap[b]? = w.heap[b]?) : MapAt ek ev w' b l := by
  obtain ⟨es, c, h1, h2⟩ := h
  exact ⟨es, c, hb.trans h1, h2⟩
theorem MapAt.lt {w : World} {b : Nat} {l : List (α × β)} (h : MapAt ek ev w b l) : b < w.heap.size := by
  obtain ⟨es, c, h1, _⟩ := h
  rcases Nat.lt_or_ge b w.heap.size with h | h
  · exact h
  · simp [Array.getElem?_eq_none h] at h1
/-- len(m) -/
theorem run_len_at {T K E : TypeId} (ht : P.underlying T = some (.map K E)) (ty : TypeId) {w : World} {b : Nat} {l : List (α × β)} (h : MapAt ek ev w b l) : (Builtin.len_ #[T] ty #[.map (some b)]).run P w = .ok (.int .i64 (l.length : Nat)) w := by
  obtain ⟨es, clock, hb, he, _, _⟩ := h
  have : es.size = l.length := by
    have := congrArg List.length he
    simpa [EntsAre] using this
  simp [Builtin.len_, run_underlying ht, MapKept.run_getObj_map hb, Result.andThen, this, goInt]
end

section
variable {P : Program} {α β : Type} [DecidableEq α] {K : TypeId} {ek : α → Value} {ev : β → Value}

theorem findNow_none {d : TypeDesc} (hs : ∀ a b : α, Instr.sameNow d (ek a) (ek b) = some (decide (a = b))) : ∀ (es : List MapEntry) (l : List (α × β)) (k : α) (i : Nat), EntsAre ek ev es l → look l k = none → Instr.findNow d (ek k) es i = some none
  | [], [], _, _, _, _ => rfl
  | [], _ :: _, _, _, h, _ => by simp [EntsAre] at h
  | _ :: _, [], _, _, h, _ => by simp [EntsAre] at h
  | e :: es, (a, x) :: l, k, i, h, hl => by
    simp only [EntsAre, List.map_cons, List.cons.injEq, Prod.mk.injEq] at h
    by_cases hk : a = k
    · simp [look, hk] at hl
    · have hne : ¬ (k = a) := fun e => hk e.symm
      simp only [look, hk, if_false] at hl
      simp only [Instr.findNow, h.1.1, hs, hne, decide_false]
      exact findNow_none hs es l k (i + 1) h.2 hl

/-- the place of a key -/
def mat {α β : Type} [DecidableEq α] : List (α × β) → α → Nat
  | [], _ => 0
  | (a, _) :: t, k => if a = k then 0 else mat t k + 1

theorem findNow_some {d : TypeDesc} (hs : ∀ a b : α, Instr.sameNow d (ek a) (ek b) = some (decide (a = b))) : ∀ (es : List MapEntry) (l : List (α × β)) (k : α) (v : β) (i : Nat), EntsAre ek ev es l → look l k = some v → Instr.findNow d (ek k) es i = some (some (i + mat l k, ev v)) ∧ ∃ e, es[mat l k]? = some e ∧ e.key = ek k
  | [], [], _, _, _, _, hl => by simp [look] at hl
  | [], _ :: _, _, _, _, h, _ => by simp [EntsAre] at h
  | _ :: _, [], _, _, _, h, _ => by simp [EntsAre] at h
  | e :: es, (a, x) :: l, k, v, i, h, hl => by
    simp only [EntsAre, List.map_cons, List.cons.injEq, Prod.mk.injEq] at h
    by_cases hk : a = k
    · subst hk
      simp only [look, if_true, Option.some.injEq] at hl
      subst hl
      exact ⟨by simp [Instr.findNow, h.1.1, hs, mat, h.1.2], e, by simp [mat], h.1.1⟩
    · have hne : ¬ (k = a) := fun e => hk e.symm
      simp only [look, hk, if_false] at hl
      have ih := findNow_some hs es l k v (i + 1) h.2 hl
      refine ⟨?_, ?_⟩
      · simp only [Instr.findNow, h.1.1, hs, hne, decide_false, ih.1, mat, hk, if_false]
        simp; omega
      · simp only [mat, hk, if_false, List.getElem?_cons_succ]
        exact ih.2

/-- m[k] -/
theorem run_lookup_at (hK : KeyE P K ek) {T E : TypeId} (ht : P.underlying T = some (.map K E)) {w : World} {b : Nat} {l : List (α × β)} (h : MapAt ek ev w b l) (k : α) :
    (∀ v, look l k = some v → (Instr.lookup T (.map (some b)) (ek k) false).run P w = .ok (ev v) w) ∧ (∀ z, look l k = none → (zeroValue E).run P w = .ok z w → (Instr.lookup T (.map (some b)) (ek k) false).run P w = .ok z w) := by
  obtain ⟨es, clock, hb, he, _, _⟩ := h
  obtain ⟨d, hu, hs, hc⟩ := hK.und
  refine ⟨fun v hv => ?_, fun z hv hz => ?_⟩
  · have h1 := (findNow_some hs es.toList l k v 0 he hv).1
    simp [Instr.lookup, run_underlying ht, MapKept.run_getObj_map hb, hc, run_findKey_at hu k es.toList _ w h1, Result.andThen]
  · have h1 := findNow_none hs es.toList l k 0 he hv
    simp [Instr.lookup, run_underlying ht, MapKept.run_getObj_map hb, hc, run_findKey_at hu k es.toList _ w h1, hz, Result.andThen]
/-- v, ok := m[k] -/
theorem run_lookup_ok (hK : KeyE P K ek) {T E : TypeId} (ht : P.underlying T = some (.map K E)) {w : World} {b : Nat} {l : List (α × β)} (h : MapAt ek ev w b l) (k : α) {z : Value} (hz : (zeroValue E).run P w = .ok z w) :
    (Instr.lookup T (.map (some b)) (ek k) true).run P w = .ok (.tuple #[(match look l k with | some v => ev v | none => z), .bool (look l k).isSome]) w := by
  obtain ⟨es, clock, hb, he, _, _⟩ := h
  obtain ⟨d, hu, hs, hc⟩ := hK.und
  cases hv : look l k with
  | some v =>
    have h1 := (findNow_some hs es.toList l k v 0 he hv).1
    simp [Instr.lookup, run_underlying ht, MapKept.run_getObj_map hb, hc, run_findKey_at hu k es.toList _ w h1, Result.andThen]
  | none =>
    have h1 := findNow_none hs es.toList l k 0 he hv
    simp [Instr.lookup, run_underlying ht, MapKept.run_getObj_map hb, hc, run_findKey_at hu k es.toList _ w h1, hz, Result.andThen]

/-- one block has turned, and nothing else -/
structure Turn1 (w w' : World) (b : Nat) : Prop where
  os : w'.os = w.os
  tape : w'.tape = w.tape
  output : w'.output = w.output
  size : w'.heap.size = w.heap.size
  block : ∀ k, k ≠ b → w'.heap[k]? = w.heap[k]?

theorem turn1_set {w : World} {b : Nat} {es : Array MapEntry} {clock : Nat} (hb : w.heap[b]? = some (.map es clock)) (o : Obj) : Turn1 w (setBlock w b o) b :=
  ⟨rfl, rfl, rfl, by simp [setBlock], fun _ hk => ChangeMaps.heap_setBlock_other hb o hk⟩

theorem ents_put_some (es : List MapEntry) : ∀ (l : List (α × β)) (k : α) (v : β), EntsAre ek ev es l → (look l k).isSome = true → EntsAre ek ev (es.modify (mat l k) fun e => { e with key := ek k, val := ev v }) (mput l k v) := by
  induction es with
  | nil => intro l k v h hl; cases l with | nil => simp [look] at hl | cons _ _ => simp [EntsAre] at h
  | cons e es ih =>
    intro l k v h hl
    cases l with
    | nil => simp [EntsAre] at h
    | cons p l =>
      obtain ⟨a, x⟩ := p
      simp only [EntsAre, List.map_cons, List.cons.injEq, Prod.mk.injEq] at h
      by_cases hk : a = k
      · subst hk
        simp [EntsAre, mat, mput, h.2]
      · simp only [look, hk, if_false] at hl
        have := ih l k v h.2 hl
        simp only [EntsAre, mat, hk, if_false, mput, List.modify_succ_cons, List.map_cons, h.1.1, h.1.2] at this ⊢
        rw [this]
theorem mput_none : ∀ (l : List (α × β)) (k : α) (v : β), look l k = none → mput l k v = l ++ [(k, v)]
  | [], _, _, _ => rfl
  | (a, x) :: l, k, v, h => by
    by_cases hk : a = k
    · simp [look, hk] at h
    · simp only [look, hk, if_false] at h
      simp [mput, hk, mput_none l k v h]
theorem modify_born (es : List MapEntry) (i : Nat) (k v : Value) : (es.modify i fun e => { e with key := k, val := v }).map (·.born) = es.map (·.born) := by
  induction es generalizing i with
  | nil => simp
  | cons e es ih => cases i with
    | zero => simp
    | succ i => simp [ih]

/-- m[k] = v -/
theorem run_update_at (hK : KeyE P K ek) {T E : TypeId} (ht : P.underlying T = some (.map K E)) {w : World} {b : Nat} {l : List (α × β)} (h : MapAt ek ev w b l) (k : α) (v : β) :
    ∃ w', (Instr.mapUpdate T (.map (some b)) (ek k) (ev v)).run P w = .ok () w' ∧ MapAt ek ev w' b (mput l k v) ∧ Turn1 w w' b := by
  obtain ⟨es, clock, hb, he, hlt, hnd⟩ := h
  obtain ⟨d, hu, hs, hc⟩ := hK.und
  cases hv : look l k with
  | some x =>
    obtain ⟨h1, e0, h2, h3⟩ := findNow_some hs es.toList l k x 0 he hv
    rw [Nat.zero_add] at h1
    have h2' : es[mat l k]? = some e0 := by rw [← Array.getElem?_toList]; exact h2
    refine ⟨setBlock w b (.map (es.modify (mat l k) fun e => { e with key := ek k, val := ev v }) clock), ?_, ⟨_, _, ChangeMaps.heap_setBlock_same hb _, ?_, ?_, ?_⟩, turn1_set hb _⟩
    · simp [Instr.mapUpdate, run_underlying ht, MapKept.run_getObj_map hb, hc, run_findKey_at hu k es.toList _ w h1, h2', h3, Instr.keyThatStays, hK.bits, MapKept.run_setObj_map _ hb, Result.andThen, setBlock]
    · rw [Array.toList_modify]
      exact ents_put_some es.toList l k v he (by rw [hv]; rfl)
    · intro e hm
      rw [Array.toList_modify] at hm
      have : e.born ∈ es.toList.map (·.born) := by rw [← modify_born es.toList (mat l k) (ek k) (ev v)]; exact List.mem_map.2 ⟨e, hm, rfl⟩
      obtain ⟨e', he', hbe⟩ := List.mem_map.1 this
      rw [← hbe]
      exact hlt e' he'
    · rw [Array.toList_modify, modify_born]
      exact hnd
  | none =>
    have h1 := findNow_none hs es.toList l k 0 he hv
    refine ⟨setBlock w b (.map (es.push { key := ek k, val := ev v, born := clock }) (clock + 1)), ?_, ⟨_, _, ChangeMaps.heap_setBlock_same hb _, ?_, ?_, ?_⟩, turn1_set hb _⟩
    · simp [Instr.mapUpdate, run_underlying ht, MapKept.run_getObj_map hb, hc, run_findKey_at hu k es.toList _ w h1, MapKept.run_setObj_map _ hb, Result.andThen, setBlock]
    · rw [mput_none l k v hv]
      simp only [EntsAre, Array.toList_push, List.map_append, List.map_cons, List.map_nil] at he ⊢
      rw [he]
    · intro e hm
      rw [Array.toList_push] at hm
      rcases List.mem_append.1 hm with h | h
      · have := hlt e h; omega
      · simp at h; subst h; simp
    · rw [Array.toList_push, List.map_append, List.nodup_append]
      refine ⟨hnd, by simp, ?_⟩
      intro a ha c hc'
      simp at hc'
      obtain ⟨e', he', rfl⟩ := List.mem_map.1 ha
      have := hlt e' he'
      omega

theorem ents_del (es : List MapEntry) : ∀ (l : List (α × β)) (k : α), EntsAre ek ev es l → (look l k).isSome = true → EntsAre ek ev (es.eraseIdx (mat l k)) (mdel l k) := by
  induction es with
  | nil => intro l k h hl; cases l with | nil => simp [look] at hl | cons _ _ => simp [EntsAre] at h
  | cons e es ih =>
    intro l k h hl
    cases l with
    | nil => simp [EntsAre] at h
    | cons p l =>
      obtain ⟨a, x⟩ := p
      simp only [EntsAre, List.map_cons, List.cons.injEq, Prod.mk.injEq] at h
      by_cases hk : a = k
      · subst hk
        simp [EntsAre, mat, mdel, h.2]
      · simp only [look, hk, if_false] at hl
        have := ih l k h.2 hl
        simp only [EntsAre, mat, hk, if_false, mdel, List.eraseIdx_cons_succ, List.map_cons, h.1.1, h.1.2] at this ⊢
        rw [this]
theorem mdel_none : ∀ (l : List (α × β)) (k : α), look l k = none → mdel l k = l
  | [], _, _ => rfl
  | (a, x) :: l, k, h => by
    by_cases hk : a = k
    · simp [look, hk] at h
    · simp only [look, hk, if_false] at h
      simp [mdel, hk, mdel_none l k h]

/-- delete(m, k) -/
theorem run_delete_at (hK : KeyE P K ek) {T E : TypeId} (ht : P.underlying T = some (.map K E)) (ty : TypeId) {w : World} {b : Nat} {l : List (α × β)} (h : MapAt ek ev w b l) (k : α) :
    ∃ w', (Builtin.delete_ #[T, K] ty #[.map (some b), ek k]).run P w = .ok (.tuple #[]) w' ∧ MapAt ek ev w' b (mdel l k) ∧ Turn1 w w' b := by
  obtain ⟨es, clock, hb, he, hlt, hnd⟩ := h
  obtain ⟨d, hu, hs, hc⟩ := hK.und
  cases hv : look l k with
  | some x =>
    obtain ⟨h1, e0, h2, h3⟩ := findNow_some hs es.toList l k x 0 he hv
    rw [Nat.zero_add] at h1
    have hel : (es.eraseIdxIfInBounds (mat l k)).toList = es.toList.eraseIdx (mat l k) := by simp
    refine ⟨setBlock w b (.map (es.eraseIdxIfInBounds (mat l k)) clock), ?_, ⟨_, _, ChangeMaps.heap_setBlock_same hb _, ?_, ?_, ?_⟩, turn1_set hb _⟩
    · simp [Builtin.delete_, run_underlying ht, MapKept.run_getObj_map hb, hc, run_findKey_at hu k es.toList _ w h1, MapKept.run_setObj_map _ hb, Result.andThen, setBlock]
    · rw [hel]
      exact ents_del es.toList l k he (by rw [hv]; rfl)
    · intro e hm
      rw [hel] at hm
      exact hlt e (List.mem_of_mem_eraseIdx hm)
    · rw [hel]
      exact hnd.sublist ((List.eraseIdx_sublist ..).map _)
  | none =>
    have h1 := findNow_none hs es.toList l k 0 he hv
    refine ⟨setBlock w b (.map es clock), ?_, ⟨_, _, ChangeMaps.heap_setBlock_same hb _, ?_, hlt, hnd⟩, turn1_set hb _⟩
    · simp [Builtin.delete_, run_underlying ht, MapKept.run_getObj_map hb, hc, run_findKey_at hu k es.toList _ w h1, MapKept.run_setObj_map _ hb, Result.andThen, setBlock]
    · rw [mdel_none l k hv]; exact he

end
end Go.Proofs.Ytefadkengfjdmaa
