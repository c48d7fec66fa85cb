/- Maps told by their entries, in the order in which they were laid: looked up, written, taken out of, gone through. -/
import Derived.Test.YtnoknmnbfkdccaaGreatDoorGa
import Derived.Maps.RangeRun
import Derived.BigQuiet
import Derived.Carry
namespace Go.Proofs.YtnoknmnbfkdccaaGreatDoor
open Go.RowKit
open Go.ChangeMaps (setBlock)

/-- lists of keys and values -/
def look {α β : Type} [DecidableEq α] : List (α × β) → α → Option β
  | [], _ => none
  | (a, x) :: t, k => if a = k then some x else look t k
def mput {α β : Type} [DecidableEq α] : List (α × β) → α → β → List (α × β)
  | [], k, v => [(k, v)]
  | (a, x) :: t, k, v => if a = k then (k, v) :: t else (a, x) :: mput t k v
def mdel {α β : Type} [DecidableEq α] : List (α × β) → α → List (α × β)
  | [], _ => []
  | (a, x) :: t, k => if a = k then t else (a, x) :: mdel t k

/-- how keys are told apart by the machine -/
structure KeyE (P : Program) (K : TypeId) {α : Type} [DecidableEq α] (ek : α → Value) : Prop where
  und : ∃ d, P.underlying K = some d ∧ (∀ a b : α, Instr.sameNow d (ek a) (ek b) = some (decide (a = b))) ∧ (∀ (e : Bool) (a : α) (w : World), (Instr.checkKey e 10000 K (ek a)).run P w = .ok () w)
  bits : ∀ a : α, Instr.sameBits 10000 (ek a) (ek a) = true

section
variable {P : Program} {α β : Type} {K : TypeId} {ek : α → Value} {ev : β → Value}

/-- an entry is a key and a value -/
def EntsAre (ek : α → Value) (ev : β → Value) (es : List MapEntry) (l : List (α × β)) : Prop := es.map (fun e => (e.key, e.val)) = l.map (fun x => (ek x.1, ev x.2))

/-- block b is a map of the keys and values l -/
def MapAt (ek : α → Value) (ev : β → Value) (w : World) (b : Nat) (l : List (α × β)) : Prop :=
  ∃ es clock, w.heap[b]? = some (.map es clock) ∧ EntsAre ek ev es.toList l ∧ (∀ e ∈ es.toList, e.born < clock) ∧ (es.toList.map (·.born)).Nodup

theorem run_findKey_at {d : TypeDesc} (hu : P.underlying K = some d) (k : α) (es : List MapEntry) (r : Option (Nat × Value)) (w : World) (h : Instr.findNow d (ek k) es 0 = some r) : (Instr.findKey K (ek k) es).run P w = .ok r w := by
  simp [Instr.findKey, run_underlying hu, h]

theorem MapAt.keep {w w' : World} {b : Nat} {l : List (α × β)} (h : MapAt ek ev w b l) (hb : w'.heap[b]? = w.heap[b]?) : MapAt ek ev w' b l := by
  obtain ⟨es, c, h1, h2⟩ := h
  exact ⟨es, c, hb.trans h1, h2⟩
theorem MapAt.lt {w : World} {b : Nat} {l : List (α × β)} (h : MapAt ek ev w b l) : b < w.heap.size := by
  obtain ⟨es, c, h1, _⟩ := h
  rcases Nat.lt_or_ge b w.heap.size with h | h
  · exact h
  · simp [Array.getElem?_eq_none h] at h1
/-- len(m) -/
theorem run_len_at {T K E : TypeId} (ht : P.underlying T = some (.map K E)) (ty : TypeId) {w : World} {b : Nat} {l : List (α × β)} (h : MapAt ek ev w b l) : (Builtin.len_ #[T] ty #[.map (some b)]).run P w = .ok (.int .i64 (l.length : Nat)) w := by
  obtain ⟨es, clock, hb, he, _, _⟩ := h
  have : es.size = l.length := by
    have := congrArg List.length he
    simpa [EntsAre] using this
  simp [Builtin.len_, run_underlying ht, MapKept.run_getObj_map hb, Result.andThen, this, goInt]
end

section
variable {P : Program} {α β : Type} [DecidableEq α] {K : TypeId} {ek : α → Value} {ev : β → Value}

theorem findNow_none {d : TypeDesc} (hs : ∀ a b : α, Instr.sameNow d (ek a) (ek b) = some (decide (a = b))) : ∀ (es : List MapEntry) (l : List (α × β)) (k : α) (i : Nat), EntsAre ek ev es l → look l k = none → Instr.findNow d (ek k) es i = some none
  | [], [], _, _, _, _ => rfl
  | [], _ :: _, _, _, h, _ => by simp [EntsAre] at h
  | _ :: _, [], _, _, h, _ => by simp [EntsAre] at h
  | e :: es, (a, x) :: l, k, i, h, hl => by
    simp only [EntsAre, List.map_cons, List.cons.injEq, Prod.mk.injEq] at h
    by_cases hk : a = k
    · simp [look, hk] at hl
    · have hne : ¬ (k = a) := fun e => hk e.symm
      simp only [look, hk, if_false] at hl
      simp only [Instr.findNow, h.1.1, hs, hne, decide_false]
      exact findNow_none hs es l k (i + 1) h.2 hl

/-- the place of a key -/
def mat {α β : Type} [DecidableEq α] : List (α × β) → α → Nat
  | [], _ => 0
  | (a, _) :: t, k => if a = k then 0 else mat t k + 1

theorem findNow_some {d : TypeDesc} (hs : ∀ a b : α, Instr.sameNow d (ek a) (ek b) = some (decide (a = b))) : ∀ (es : List MapEntry) (l : List (α × β)) (k : α) (v : β) (i : Nat), EntsAre ek ev es l → look l k = some v → Instr.findNow d (ek k) es i = some (some (i + mat l k, ev v)) ∧ ∃ e, es[mat l k]? = some e ∧ e.key = ek k
  | [], [], _, _, _, _, hl => by simp [look] at hl
  | [], _ :: _, _, _, _, h, _ => by simp [EntsAre] at h
  | _ :: _, [], _, _, _, h, _ => by simp [EntsAre] at h
  | e :: es, (a, x) :: l, k, v, i, h, hl => by
    simp only [EntsAre, List.map_cons, List.cons.injEq, Prod.mk.injEq] at h
    by_cases hk : a = k
    · subst hk
      simp only [look, if_true, Option.some.injEq] at hl
      subst hl
      exact ⟨by simp [Instr.findNow, h.1.1, hs, mat, h.1.2], e, by simp [mat], h.1.1⟩
    · have hne : ¬ (k = a) := fun e => hk e.symm
      simp only [look, hk, if_false] at hl
      have ih := findNow_some hs es l k v (i + 1) h.2 hl
      refine ⟨?_, ?_⟩
      · simp only [Instr.findNow, h.1.1, hs, hne, decide_false, ih.1, mat, hk, if_false]
        simp; omega
      · simp only [mat, hk, if_false, List.getElem?_cons_succ]
        exact ih.2

/-- m[k] -/
theorem run_lookup_at (hK : KeyE P K ek) {T E : TypeId} (ht : P.underlying T = some (.map K E)) {w : World} {b : Nat} {l : List (α × β)} (h : MapAt ek ev w b l) (k : α) :
    (∀ v, look l k = some v → (Instr.lookup T (.map (some b)) (ek k) false).run P w = .ok (ev v) w) ∧ (∀ z, look l k = none → (zeroValue E).run P w = .ok z w → (Instr.lookup T (.map (some b)) (ek k) false).run P w = .ok z w) := by
  obtain ⟨es, clock, hb, he, _, _⟩ := h
  obtain ⟨d, hu, hs, hc⟩ := hK.und
  refine ⟨fun v hv => ?_, fun z hv hz => ?_⟩
  · have h1 := (findNow_some hs es.toList l k v 0 he hv).1
    simp [Instr.lookup, run_underlying ht, MapKept.run_getObj_map hb, hc, run_findKey_at hu k es.toList _ w h1, Result.andThen]
  · have h1 := findNow_none hs es.toList l k 0 he hv
    simp [Instr.lookup, run_underlying ht, MapKept.run_getObj_map hb, hc, run_findKey_at hu k es.toList _ w h1, hz, Result.andThen]
/-- one block has turned, and nothing else -/
structure Turn1 (w w' : World) (b : Nat) : Prop where
  os : w'.os = w.os
  tape : w'.tape = w.tape
  output : w'.output = w.output
  size : w'.heap.size = w.heap.size
  block : ∀ k, k ≠ b → w'.heap[k]? = w.heap[k]?

theorem turn1_set {w : World} {b : Nat} {es : Array MapEntry} {clock : Nat} (hb : w.heap[b]? = some (.map es clock)) (o : Obj) : Turn1 w (setBlock w b o) b :=
  ⟨rfl, rfl, rfl, by simp [setBlock], fun _ hk => ChangeMaps.heap_setBlock_other hb o hk⟩

theorem ents_put_some (es : List MapEntry) : ∀ (l : List (α × β)) (k : α) (v : β), EntsAre ek ev es l → (look l k).isSome = true → EntsAre ek ev (es.modify (mat l k) fun e => { e with key := ek k, val := ev v }) (mput l k v) := by
  induction es with
  | nil => intro l k v h hl; cases l with | nil => simp [look] at hl | cons _ _ => simp [EntsAre] at h
  | cons e es ih =>
    intro l k v h hl
    cases l with
    | nil => simp [EntsAre] at h
    | cons p l =>
      obtain ⟨a, x⟩ := p
      simp only [EntsAre, List.map_cons, List.cons.injEq, Prod.mk.injEq] at h
      by_cases hk : a = k
      · subst hk
        simp [EntsAre, mat, mput, h.2]
      · simp only [look, hk, if_false] at hl
        have := ih l k v h.2 hl
        simp only [EntsAre, mat, hk, if_false, mput, List.modify_succ_cons, List.map_cons, h.1.1, h.1.2] at this ⊢
        rw [this]
theorem mput_none : ∀ (l : List (α × β)) (k : α) (v : β), look l k = none → mput l k v = l ++ [(k, v)]
  | [], _, _, _ => rfl
  | (a, x) :: l, k, v, h => by
    by_cases hk : a = k
    · simp [look, hk] at h
    · simp only [look, hk, if_false] at h
      simp [mput, hk, mput_none l k v h]
theorem modify_born (es : List MapEntry) (i : Nat) (k v : Value) : (es.modify i fun e => { e with key := k, val := v }).map (·.born) = es.map (·.born) := by
  induction es generalizing i with
  | nil => simp
  | cons e es ih => cases i with
    | zero => simp
    | succ i => simp [ih]

/-- m[k] = v -/
theorem run_update_at (hK : KeyE P K ek) {T E : TypeId} (ht : P.underlying T = some (.map K E)) {w : World} {b : Nat} {l : List (α × β)} (h : MapAt ek ev w b l) (k : α) (v : β) :
    ∃ w', (Instr.mapUpdate T (.map (some b)) (ek k) (ev v)).run P w = .ok () w' ∧ MapAt ek ev w' b (mput l k v) ∧ Turn1 w w' b := by
  obtain ⟨es, clock, hb, he, hlt, hnd⟩ := h
  obtain ⟨d, hu, hs, hc⟩ := hK.und
  cases hv : look l k with
  | some x =>
    obtain ⟨h1, e0, h2, h3⟩ := findNow_some hs es.toList l k x 0 he hv
    rw [Nat.zero_add] at h1
    have h2' : es[mat l k]? = some e0 := by rw [← Array.getElem?_toList]; exact h2
    refine ⟨setBlock w b (.map (es.modify (mat l k) fun e => { e with key := ek k, val := ev v }) clock), ?_, ⟨_, _, ChangeMaps.heap_setBlock_same hb _, ?_, ?_, ?_⟩, turn1_set hb _⟩
    · simp [Instr.mapUpdate, run_underlying ht, MapKept.run_getObj_map hb, hc, run_findKey_at hu k es.toList _ w h1, h2', h3, Instr.keyThatStays, hK.bits, MapKept.run_setObj_map _ hb, Result.andThen, setBlock]
    · rw [Array.toList_modify]
      exact ents_put_some es.toList l k v he (by rw [hv]; rfl)
    · intro e hm
      rw [Array.toList_modify] at hm
      have : e.born ∈ es.toList.map (·.born) := by rw [← modify_born es.toList (mat l k) (ek k) (ev v)]; exact List.mem_map.2 ⟨e, hm, rfl⟩
      obtain ⟨e', he', hbe⟩ := List.mem_map.1 this
      rw [← hbe]
      exact hlt e' he'
    · rw [Array.toList_modify, modify_born]
      exact hnd
  | none =>
    have h1 := findNow_none hs es.toList l k 0 he hv
    refine ⟨setBlock w b (.map (es.push { key := ek k, val := ev v, born := clock }) (clock + 1)), ?_, ⟨_, _, ChangeMaps.heap_setBlock_same hb _, ?_, ?_, ?_⟩, turn1_set hb _⟩
    · simp [Instr.mapUpdate, run_underlying ht, MapKept.run_getObj_map hb, hc, run_findKey_at hu k es.toList _ w h1, MapKept.run_setObj_map _ hb, Result.andThen, setBlock]
    · rw [mput_none l k v hv]
      simp only [EntsAre, Array.toList_push, List.map_append, List.map_cons, List.map_nil] at he ⊢
      rw [he]
    · intro e hm
      rw [Array.toList_push] at hm
      rcases List.mem_append.1 hm with h | h
      · have := hlt e h; omega
      · simp at h; subst h; simp
    · rw [Array.toList_push, List.map_append, List.nodup_append]
      refine ⟨hnd, by simp, ?_⟩
      intro a ha c hc'
      simp at hc'
      obtain ⟨e', he', rfl⟩ := List.mem_map.1 ha
      have := hlt e' he'
      omega

theorem ents_del (es : List MapEntry) : ∀ (l : List (α × β)) (k : α), EntsAre ek ev es l → (look l k).isSome = true → EntsAre ek ev (es.eraseIdx (mat l k)) (mdel l k) := by
  induction es with
  | nil => intro l k h hl; cases l with | nil => simp [look] at hl | cons _ _ => simp [EntsAre] at h
  | cons e es ih =>
    intro l k h hl
    cases l with
    | nil => simp [EntsAre] at h
    | cons p l =>
      obtain ⟨a, x⟩ := p
      simp only [EntsAre, List.map_cons, List.cons.injEq, Prod.mk.injEq] at h
      by_cases hk : a = k
      · subst hk
        simp [EntsAre, mat, mdel, h.2]
      · simp only [look, hk, if_false] at hl
        have := ih l k h.2 hl
        simp only [EntsAre, mat, hk, if_false, mdel, List.eraseIdx_cons_succ, List.map_cons, h.1.1, h.1.2] at this ⊢
        rw [this]
theorem mdel_none : ∀ (l : List (α × β)) (k : α), look l k = none → mdel l k = l
  | [], _, _ => rfl
  | (a, x) :: l, k, h => by
    by_cases hk : a = k
    · simp [look, hk] at h
    · simp only [look, hk, if_false] at h
      simp [mdel, hk, mdel_none l k h]

/-- delete(m, k) -/
theorem run_delete_at (hK : KeyE P K ek) {T E : TypeId} (ht : P.underlying T = some (.map K E)) (ty : TypeId) {w : World} {b : Nat} {l : List (α × β)} (h : MapAt ek ev w b l) (k : α) :
    ∃ w', (Builtin.delete_ #[T, K] ty #[.map (some b), ek k]).run P w = .ok (.tuple #[]) w' ∧ MapAt ek ev w' b (mdel l k) ∧ Turn1 w w' b := by
  obtain ⟨es, clock, hb, he, hlt, hnd⟩ := h
  obtain ⟨d, hu, hs, hc⟩ := hK.und
  cases hv : look l k with
  | some x =>
    obtain ⟨h1, e0, h2, h3⟩ := findNow_some hs es.toList l k x 0 he hv
    rw [Nat.zero_add] at h1
    have hel : (es.eraseIdxIfInBounds (mat l k)).toList = es.toList.eraseIdx (mat l k) := by simp
    refine ⟨setBlock w b (.map (es.eraseIdxIfInBounds (mat l k)) clock), ?_, ⟨_, _, ChangeMaps.heap_setBlock_same hb _, ?_, ?_, ?_⟩, turn1_set hb _⟩
    · simp [Builtin.delete_, run_underlying ht, MapKept.run_getObj_map hb, hc, run_findKey_at hu k es.toList _ w h1, MapKept.run_setObj_map _ hb, Result.andThen, setBlock]
    · rw [hel]
      exact ents_del es.toList l k he (by rw [hv]; rfl)
    · intro e hm
      rw [hel] at hm
      exact hlt e (List.mem_of_mem_eraseIdx hm)
    · rw [hel]
      exact hnd.sublist ((List.eraseIdx_sublist ..).map _)
  | none =>
    have h1 := findNow_none hs es.toList l k 0 he hv
    refine ⟨setBlock w b (.map es clock), ?_, ⟨_, _, ChangeMaps.heap_setBlock_same hb _, ?_, hlt, hnd⟩, turn1_set hb _⟩
    · simp [Builtin.delete_, run_underlying ht, MapKept.run_getObj_map hb, hc, run_findKey_at hu k es.toList _ w h1, MapKept.run_setObj_map _ hb, Result.andThen, setBlock]
    · rw [mdel_none l k hv]; exact he

end
end Go.Proofs.YtnoknmnbfkdccaaGreatDoor

/- A disk as it lies in memory: what it is, and what stays of it when one of its blocks turns. -/
namespace Go.Proofs.YtnoknmnbfkdccaaGreatDoor
open Go.RowKit

namespace Dk
/-- a file: its bytes, how many of them are safe -/
structure F where
  bs : List Nat
  safe : Nat
/-- a turn of names -/
structure T where
  taken : ByteArray
  given : ByteArray
  file : Nat
/-- a disk -/
structure D where
  quota : Nat
  files : List (Nat × F)
  last : Nat
  names : List (ByteArray × Nat)
  kept : List (ByteArray × Nat)
  turns : List T
  stop : Int
  fault : Int
  dead : Bool
/-- what is used -/
def sum (l : List (Nat × F)) : Nat := (l.map fun x => x.2.bs.length).sum
end Dk

/-- where a file lies: its block, and its slice of bytes -/
structure FH where
  q : Nat
  v : Value
def ik (n : Nat) : Value := .int .i64 (n : Int)
def sk (s : ByteArray) : Value := .string s
def fv (h : FH) : Value := .pointer (some ⟨h.q, 0, none⟩)
theorem beq_bytes (a b : ByteArray) : (a == b) = decide (a = b) := by
  by_cases h : a = b
  · rw [(MapKept.bytes_beq a b).2 h, decide_eq_true h]
  · rw [decide_eq_false h]
    cases hc : a == b with
    | false => rfl
    | true => exact absurd ((MapKept.bytes_beq a b).1 hc) h
theorem skE : KeyE Tryz.prog 9 sk where
  und := ⟨.string, Tryz.underlying9, fun a b => by simp only [sk, Instr.sameNow, beq_bytes], fun e a w => MapKept.run_checkKey Tryz.underlying9 (by simp [sk, MapKept.IsKey]) e 9999⟩
  bits := fun a => by simp [sk, Instr.sameBits, beq_bytes]
theorem ikE : KeyE Tryz.prog 3 ik where
  und := ⟨.int .i64, Tryz.underlying3, fun a b => by simp only [ik, Instr.sameNow, if_true]; congr 1; by_cases h : a = b <;> simp [h]; omega, fun e a w => MapKept.run_checkKey Tryz.underlying3 (by simp [ik, MapKept.IsKey]) e 9999⟩
  bits := fun a => by simp [ik, Instr.sameBits]

def tenc (t : Dk.T) : List Value := [.string t.taken, .string t.given, .int .i64 (t.file : Int)]
theorem tencE : Enc 3 tenc := ⟨fun _ => rfl, fun x u hu => by simp only [tenc, List.mem_cons, List.not_mem_nil, or_false] at hu; rcases hu with rfl | rfl | rfl <;> rfl⟩

/-- a file lies there -/
structure FileAt (w : World) (h : FH) (f : Dk.F) : Prop where
  blk : w.heap[h.q]? = some (.cells #[h.v, .int .i64 (f.safe : Int)] 123 (0, 0))
  row : w.ownsRow 0 5 1 h.v f.bs.length (kcells .u8 f.bs)
  small : ∀ x ∈ f.bs, x < 256
  safe : f.safe ≤ f.bs.length

/-- a disk lies at p, its cell 'used' is u, its maps are fm, nm and sm, its turns tv, its files J -/
structure Parts (w : World) (p : Nat) (D : Dk.D) (u : Nat) (fm nm sm : Nat) (tv : Value) (J : List (Nat × FH × Dk.F)) : Prop where
  blk : w.heap[p]? = some (.cells #[.int .i64 (D.quota : Int), .map (some fm), .int .i64 (D.last : Int), .int .i64 (u : Int), .map (some nm), .map (some sm), tv, .int .i64 D.stop, .int .i64 D.fault, .bool D.dead] 76 (0, 0))
  jf : J.map (fun x => (x.1, x.2.2)) = D.files
  files : MapAt ik fv w fm (J.map fun x => (x.1, x.2.1))
  names : MapAt sk ik w nm D.names
  kept : MapAt sk ik w sm D.kept
  turns : w.ownsRow 0 129 3 tv D.turns.length (tcells tenc D.turns)
  each : ∀ x ∈ J, FileAt w x.2.1 x.2.2
  qs : (J.map (·.2.1.q)).Nodup
  vs : J.Pairwise fun x y => x.2.1.v.ownBlock = none ∨ x.2.1.v.ownBlock ≠ y.2.1.v.ownBlock
  ne : fm ≠ nm ∧ fm ≠ sm ∧ nm ≠ sm

theorem own_blk {w : World} {B e s n : Nat} {v : Value} {xs : List Value} (h : w.ownsRow B e s v n xs) {g : Nat} (hg : v.ownBlock = some g) : ∃ cur, w.heap[g]? = some (.cells cur e (0, 0)) := by
  rcases h.2 with ⟨rfl, _⟩ | ⟨g', cap, cur, rfl, _, hc, _⟩
  · simp [Value.ownBlock] at hg
  · simp [Value.ownBlock] at hg
    subst hg
    exact ⟨cur, hc⟩
theorem own_keep {w w' : World} {B e s n : Nat} {v : Value} {xs : List Value} (h : w.ownsRow B e s v n xs) (hk : ∀ g, v.ownBlock = some g → w'.heap[g]? = w.heap[g]?) : w'.ownsRow B e s v n xs := by
  refine ⟨h.1, ?_⟩
  rcases h.2 with h0 | ⟨g', cap, cur, rfl, h1, hc, h2⟩
  · exact .inl h0
  · exact .inr ⟨g', cap, cur, rfl, h1, (hk g' rfl).trans hc, h2⟩
theorem cells_ne {w : World} {a b : Nat} {c c' : Array Value} {T T' : TypeId} {r r' : Nat × Nat} (h : w.heap[a]? = some (.cells c T r)) (h' : w.heap[b]? = some (.cells c' T' r')) (hne : T ≠ T') : a ≠ b := by
  rintro rfl
  rw [h] at h'
  simp only [Option.some.injEq, Obj.cells.injEq] at h'
  exact hne h'.2.1
theorem cells_map {w : World} {a b : Nat} {c : Array Value} {T : TypeId} {r : Nat × Nat} {es : Array MapEntry} {cl : Nat} (h : w.heap[a]? = some (.cells c T r)) (h' : w.heap[b]? = some (.map es cl)) : a ≠ b := by
  rintro rfl
  rw [h] at h'
  simp at h'
theorem heap_lt {w : World} {a : Nat} {o : Obj} (h : w.heap[a]? = some o) : a < w.heap.size := by
  rcases Nat.lt_or_ge a w.heap.size with h1 | h1
  · exact h1
  · simp [Array.getElem?_eq_none h1] at h

theorem MapAt.blk {α β : Type} {ek : α → Value} {ev : β → Value} {w : World} {b : Nat} {l : List (α × β)} (h : MapAt ek ev w b l) : ∃ es c, w.heap[b]? = some (.map es c) := by
  obtain ⟨es, c, h1, _⟩ := h
  exact ⟨es, c, h1⟩
theorem FileAt.keep {w w' : World} {h : FH} {f : Dk.F} (x : FileAt w h f) (hq : w'.heap[h.q]? = w.heap[h.q]?) (hv : ∀ g, h.v.ownBlock = some g → w'.heap[g]? = w.heap[g]?) : FileAt w' h f :=
  ⟨hq.trans x.blk, own_keep x.row hv, x.small, x.safe⟩

/-- the disk's blocks -/
def foot (p fm nm sm : Nat) (tv : Value) (J : List (Nat × FH × Dk.F)) (k : Nat) : Prop :=
  k = p ∨ k = fm ∨ k = nm ∨ k = sm ∨ tv.ownBlock = some k ∨ ∃ x ∈ J, k = x.2.1.q ∨ x.2.1.v.ownBlock = some k

theorem Parts.lt {w : World} {p u fm nm sm : Nat} {D : Dk.D} {tv : Value} {J : List (Nat × FH × Dk.F)} (h : Parts w p D u fm nm sm tv J) {k : Nat} (hk : foot p fm nm sm tv J k) : k < w.heap.size := by
  rcases hk with rfl | rfl | rfl | rfl | hk | ⟨x, hx, rfl | hk⟩
  · exact heap_lt h.blk
  · exact h.files.lt
  · exact h.names.lt
  · exact h.kept.lt
  · obtain ⟨_, hc⟩ := own_blk h.turns hk; exact heap_lt hc
  · exact heap_lt (h.each x hx).blk
  · obtain ⟨_, hc⟩ := own_blk (h.each x hx).row hk; exact heap_lt hc

/-- nothing of the disk has turned -/
theorem Parts.keep {w w' : World} {p u fm nm sm : Nat} {D : Dk.D} {tv : Value} {J : List (Nat × FH × Dk.F)} (h : Parts w p D u fm nm sm tv J) (hk : ∀ k, foot p fm nm sm tv J k → w'.heap[k]? = w.heap[k]?) : Parts w' p D u fm nm sm tv J where
  blk := (hk p (.inl rfl)).trans h.blk
  jf := h.jf
  files := h.files.keep (hk fm (.inr (.inl rfl)))
  names := h.names.keep (hk nm (.inr (.inr (.inl rfl))))
  kept := h.kept.keep (hk sm (.inr (.inr (.inr (.inl rfl)))))
  turns := own_keep h.turns fun g hg => hk g (.inr (.inr (.inr (.inr (.inl hg)))))
  each := fun x hx => (h.each x hx).keep (hk _ (.inr (.inr (.inr (.inr (.inr ⟨x, hx, .inl rfl⟩)))))) fun g hg => hk g (.inr (.inr (.inr (.inr (.inr ⟨x, hx, .inr hg⟩)))))
  qs := h.qs
  vs := h.vs
  ne := h.ne

/-- the disk's own cells have turned -/
theorem Parts.self {w w' : World} {p u fm nm sm : Nat} {D : Dk.D} {tv : Value} {J : List (Nat × FH × Dk.F)} (h : Parts w p D u fm nm sm tv J) (hk : ∀ k, k < w.heap.size → k ≠ p → w'.heap[k]? = w.heap[k]?) (D' : Dk.D) (u' : Nat)
    (hb : w'.heap[p]? = some (.cells #[.int .i64 (D'.quota : Int), .map (some fm), .int .i64 (D'.last : Int), .int .i64 (u' : Int), .map (some nm), .map (some sm), tv, .int .i64 D'.stop, .int .i64 D'.fault, .bool D'.dead] 76 (0, 0)))
    (h1 : D'.files = D.files) (h2 : D'.names = D.names) (h3 : D'.kept = D.kept) (h4 : D'.turns = D.turns) : Parts w' p D' u' fm nm sm tv J where
  blk := hb
  jf := h1 ▸ h.jf
  files := h.files.keep (hk fm h.files.lt (by obtain ⟨es, c, he⟩ := h.files.blk; exact (cells_map h.blk he).symm))
  names := h2 ▸ h.names.keep (hk nm h.names.lt (by obtain ⟨es, c, he⟩ := h.names.blk; exact (cells_map h.blk he).symm))
  kept := h3 ▸ h.kept.keep (hk sm h.kept.lt (by obtain ⟨es, c, he⟩ := h.kept.blk; exact (cells_map h.blk he).symm))
  turns := h4 ▸ own_keep h.turns fun g hg => by obtain ⟨c, hc⟩ := own_blk h.turns hg; exact hk g (heap_lt hc) (cells_ne hc h.blk (by decide))
  each := fun x hx => (h.each x hx).keep (hk _ (heap_lt (h.each x hx).blk) (cells_ne (h.each x hx).blk h.blk (by decide))) fun g hg => by obtain ⟨c, hc⟩ := own_blk (h.each x hx).row hg; exact hk g (heap_lt hc) (cells_ne hc h.blk (by decide))
  qs := h.qs
  vs := h.vs
  ne := h.ne

/-- of the maps one has turned -/
theorem Parts.maps {w w' : World} {p u fm nm sm : Nat} {D : Dk.D} {tv : Value} {J : List (Nat × FH × Dk.F)} (h : Parts w p D u fm nm sm tv J) {b : Nat} {es : Array MapEntry} {cl : Nat} (hb : w.heap[b]? = some (.map es cl)) (hk : ∀ k, k < w.heap.size → k ≠ b → w'.heap[k]? = w.heap[k]?) :
    (w'.heap[p]? = w.heap[p]?) ∧ (fm ≠ b → MapAt ik fv w' fm (J.map fun x => (x.1, x.2.1))) ∧ (nm ≠ b → MapAt sk ik w' nm D.names) ∧ (sm ≠ b → MapAt sk ik w' sm D.kept) ∧ w'.ownsRow 0 129 3 tv D.turns.length (tcells tenc D.turns) ∧ (∀ x ∈ J, FileAt w' x.2.1 x.2.2) :=
  ⟨hk p (heap_lt h.blk) (cells_map h.blk hb), fun e => h.files.keep (hk fm h.files.lt e), fun e => h.names.keep (hk nm h.names.lt e), fun e => h.kept.keep (hk sm h.kept.lt e),
   own_keep h.turns fun g hg => by obtain ⟨c, hc⟩ := own_blk h.turns hg; exact hk g (heap_lt hc) (cells_map hc hb),
   fun x hx => (h.each x hx).keep (hk _ (heap_lt (h.each x hx).blk) (cells_map (h.each x hx).blk hb)) fun g hg => by obtain ⟨c, hc⟩ := own_blk (h.each x hx).row hg; exact hk g (heap_lt hc) (cells_map hc hb)⟩
theorem Parts.named {w w' : World} {p u fm nm sm : Nat} {D : Dk.D} {tv : Value} {J : List (Nat × FH × Dk.F)} (h : Parts w p D u fm nm sm tv J) (hk : ∀ k, k < w.heap.size → k ≠ nm → w'.heap[k]? = w.heap[k]?) {l : List (ByteArray × Nat)} (hm : MapAt sk ik w' nm l) : Parts w' p { D with names := l } u fm nm sm tv J := by
  obtain ⟨es, c, he⟩ := h.names.blk
  obtain ⟨a, b, _, d, e, f⟩ := h.maps he hk
  exact ⟨a.trans h.blk, h.jf, b h.ne.1, hm, d h.ne.2.2.symm, e, f, h.qs, h.vs, h.ne⟩
end Go.Proofs.YtnoknmnbfkdccaaGreatDoor

/- A disk as it lies in memory: one file turns; what a disk must be. -/
namespace Go.Proofs.YtnoknmnbfkdccaaGreatDoor
open Go.RowKit

theorem MapAt.congr {α β γ : Type} {ek : α → Value} {ev : β → Value} {ev' : γ → Value} {w : World} {b : Nat} {l : List (α × β)} {l' : List (α × γ)} (h : MapAt ek ev w b l) (he : l.map (fun x => (ek x.1, ev x.2)) = l'.map (fun x => (ek x.1, ev' x.2))) : MapAt ek ev' w b l' := by
  obtain ⟨es, c, h1, h2, h3⟩ := h
  exact ⟨es, c, h1, by simp only [EntsAre] at h2 ⊢; rw [h2, he], h3⟩

section
variable {α β γ : Type} [DecidableEq α]
theorem look_mem : ∀ {l : List (α × β)} {k : α} {v : β}, look l k = some v → (k, v) ∈ l
  | (a, x) :: l, k, v, h => by
    by_cases hk : a = k
    · simp only [look, hk, if_true, Option.some.injEq] at h
      rw [hk, h]; exact .head _
    · simp only [look, hk, if_false] at h
      exact .tail _ (look_mem h)
theorem look_part : ∀ {l : List (α × β)} {k : α} {v : β}, look l k = some v → ∃ A B, l = A ++ (k, v) :: B ∧ ∀ x ∈ A, x.1 ≠ k
  | (a, x) :: l, k, v, h => by
    by_cases hk : a = k
    · simp only [look, hk, if_true, Option.some.injEq] at h
      exact ⟨[], l, by rw [hk, h]; rfl, by simp⟩
    · simp only [look, hk, if_false] at h
      obtain ⟨A, B, rfl, hA⟩ := look_part h
      exact ⟨(a, x) :: A, B, rfl, fun y hy => by rcases List.mem_cons.1 hy with rfl | hy <;> first | exact hk | exact hA y hy⟩
theorem mput_part : ∀ {A : List (α × β)} {B : List (α × β)} {k : α} {v v' : β}, (∀ x ∈ A, x.1 ≠ k) → mput (A ++ (k, v) :: B) k v' = A ++ (k, v') :: B
  | [], B, k, v, v', _ => by simp [mput]
  | (a, x) :: A, B, k, v, v', h => by
    have hk : ¬ (a = k) := h (a, x) (.head _)
    simp only [List.cons_append, mput, hk, if_false]
    rw [mput_part fun y hy => h y (.tail _ hy)]
theorem look_none : ∀ {l : List (α × β)} {k : α}, look l k = none ↔ k ∉ l.map (·.1)
  | [], k => by simp [look]
  | (a, x) :: l, k => by
    by_cases hk : a = k
    · simp [look, hk]
    · have hk' : ¬ (k = a) := fun e => hk e.symm
      have := look_none (l := l) (k := k)
      simp only [look, hk, if_false, this, List.map_cons, List.mem_cons, hk', false_or]
theorem look_some_of {l : List (α × β)} {k : α} (h : k ∈ l.map (·.1)) : ∃ v, look l k = some v := by
  cases hl : look l k with
  | some v => exact ⟨v, rfl⟩
  | none => exact absurd h (look_none.1 hl)
theorem look_map (f : β → γ) : ∀ (l : List (α × β)) (k : α), look (l.map fun x => (x.1, f x.2)) k = (look l k).map f
  | [], _ => rfl
  | (a, x) :: l, k => by
    by_cases hk : a = k
    · simp [look, hk]
    · simp only [List.map_cons, look, hk, if_false]
      exact look_map f l k
theorem mput_keys : ∀ (l : List (α × β)) (k : α) (v : β), (mput l k v).map (·.1) = if k ∈ l.map (·.1) then l.map (·.1) else l.map (·.1) ++ [k]
  | [], k, v => rfl
  | (a, x) :: l, k, v => by
    by_cases hk : a = k
    · simp [mput, hk]
    · have hk' : ¬ (k = a) := fun e => hk e.symm
      simp only [mput, hk, if_false, List.map_cons, mput_keys l k v, List.mem_cons, hk', false_or]
      split <;> rfl
theorem mput_nodup {l : List (α × β)} {k : α} {v : β} (h : (l.map (·.1)).Nodup) : ((mput l k v).map (·.1)).Nodup := by
  rw [mput_keys]
  split
  · exact h
  · rename_i hk
    rw [List.nodup_append]
    exact ⟨h, by simp, fun a ha b hb => by simp at hb; subst hb; rintro rfl; exact hk ha⟩
theorem mdel_sub : ∀ (l : List (α × β)) (k : α), (mdel l k).Sublist l
  | [], _ => List.Sublist.refl _
  | (a, x) :: l, k => by
    by_cases hk : a = k
    · simp only [mdel, hk, if_true]; exact List.sublist_cons_self _ _
    · simp only [mdel, hk, if_false]; exact (mdel_sub l k).cons_cons _
theorem mput_mem : ∀ {l : List (α × β)} {k : α} {v : β} {x : α × β}, x ∈ mput l k v → x ∈ l ∨ x = (k, v)
  | [], _, _, _, h => by simp [mput] at h; exact .inr h
  | (a, y) :: l, k, v, x, h => by
    by_cases hk : a = k
    · simp only [mput, hk, if_true] at h
      rcases List.mem_cons.1 h with rfl | h
      · exact .inr rfl
      · exact .inl (.tail _ h)
    · simp only [mput, hk, if_false] at h
      rcases List.mem_cons.1 h with rfl | h
      · exact .inl (.head _)
      · rcases mput_mem h with h | h
        · exact .inl (.tail _ h)
        · exact .inr h
end

/-- one file of the disk has turned -/
theorem Parts.file {w w' : World} {p u fm nm sm n : Nat} {D : Dk.D} {tv : Value} {A B : List (Nat × FH × Dk.F)} {h h' : FH} {f f' : Dk.F} (hP : Parts w p D u fm nm sm tv (A ++ (n, h, f) :: B))
    (hk : ∀ k, k < w.heap.size → k ≠ h.q → h.v.ownBlock ≠ some k → w'.heap[k]? = w.heap[k]?) (hA : ∀ x ∈ A, x.1 ≠ n)
    (hF : FileAt w' h' f') (hq : h'.q = h.q) (hv : ∀ g, h'.v.ownBlock = some g → h.v.ownBlock = some g ∨ w.heap.size ≤ g) :
    Parts w' p { D with files := mput D.files n f' } u fm nm sm tv (A ++ (n, h', f') :: B) := by
  have hx := hP.each (n, h, f) (by simp)
  have hq0 := hx.blk
  have hcell : ∀ {k : Nat} {c : Array Value} {T : TypeId} {r : Nat × Nat}, w.heap[k]? = some (.cells c T r) → T ≠ 123 → T ≠ 5 → w'.heap[k]? = w.heap[k]? := fun {k c T r} hc h1 h2 =>
    hk k (heap_lt hc) (cells_ne hc hq0 h1) fun hg => by
      obtain ⟨c', hc'⟩ := own_blk hx.row hg
      exact (cells_ne hc hc' h2) rfl
  have hmap : ∀ {k : Nat} {es : Array MapEntry} {cl : Nat}, w.heap[k]? = some (.map es cl) → w'.heap[k]? = w.heap[k]? := fun {k es cl} hc =>
    hk k (heap_lt hc) (cells_map hq0 hc).symm fun hg => by
      obtain ⟨c', hc'⟩ := own_blk hx.row hg
      exact (cells_map hc' hc) rfl
  have hqs := hP.qs
  simp only [List.map_append, List.map_cons, List.nodup_append, List.nodup_cons] at hqs
  have hvs := List.pairwise_append.1 hP.vs
  have hvs2 := List.pairwise_cons.1 hvs.2.1
  have hother : ∀ x, (x ∈ A ∨ x ∈ B) → FileAt w' x.2.1 x.2.2 := fun x hx' => by
    have hm : x ∈ A ++ (n, h, f) :: B := by rcases hx' with h | h <;> simp [h]
    have hfx := hP.each x hm
    refine hfx.keep (hk _ (heap_lt hfx.blk) ?_ fun hg => ?_) fun g hg => ?_
    · rcases hx' with hx' | hx'
      · exact hqs.2.2 _ (List.mem_map.2 ⟨x, hx', rfl⟩) _ (.head _)
      · exact fun e => hqs.2.1.1 (by rw [← e]; exact List.mem_map.2 ⟨x, hx', rfl⟩)
    · obtain ⟨c', hc'⟩ := own_blk hx.row hg
      exact (cells_ne hfx.blk hc' (by decide)) rfl
    · obtain ⟨c', hc'⟩ := own_blk hfx.row hg
      refine hk g (heap_lt hc') (cells_ne hc' hq0 (by decide)) fun hg' => ?_
      rcases hx' with hx' | hx'
      · rcases hvs.2.2 x hx' (n, h, f) (.head _) with h0 | h0
        · rw [h0] at hg; cases hg
        · exact h0 (by rw [hg, hg'])
      · rcases hvs2.1 x hx' with h0 | h0
        · simp only at h0; rw [h0] at hg'; cases hg'
        · exact h0 (by rw [hg, hg'])
  have hjf := hP.jf
  refine ⟨?_, ?_, ?_, ?_, ?_, ?_, ?_, ?_, ?_, hP.ne⟩
  · exact (hcell hP.blk (by decide) (by decide)).trans hP.blk
  · rw [← hjf]
    simp only [List.map_append, List.map_cons]
    rw [mput_part]
    intro x hx'
    obtain ⟨y, hy, rfl⟩ := List.mem_map.1 hx'
    exact hA y hy
  · obtain ⟨es, c, he⟩ := hP.files.blk
    refine (hP.files.keep (hmap he)).congr ?_
    simp [fv, hq]
  · obtain ⟨es, c, he⟩ := hP.names.blk
    exact hP.names.keep (hmap he)
  · obtain ⟨es, c, he⟩ := hP.kept.blk
    exact hP.kept.keep (hmap he)
  · refine own_keep hP.turns fun g hg => ?_
    obtain ⟨c, hc⟩ := own_blk hP.turns hg
    exact hcell hc (by decide) (by decide)
  · intro x hx'
    rcases List.mem_append.1 hx' with h1 | h1
    · exact hother x (.inl h1)
    · rcases List.mem_cons.1 h1 with rfl | h1
      · exact hF
      · exact hother x (.inr h1)
  · have := hP.qs
    simp only [List.map_append, List.map_cons] at this ⊢
    rw [hq]
    exact this
  · have hfar : ∀ x, (x ∈ A ∨ x ∈ B) → ∀ g, h'.v.ownBlock = some g → x.2.1.v.ownBlock ≠ some g := fun x hx' g hg hxg => by
      have hm : x ∈ A ++ (n, h, f) :: B := by rcases hx' with h | h <;> simp [h]
      obtain ⟨c', hc'⟩ := own_blk (hP.each x hm).row hxg
      rcases hv g hg with h1 | h1
      · rcases hx' with hx' | hx'
        · rcases hvs.2.2 x hx' (n, h, f) (.head _) with h0 | h0
          · rw [h0] at hxg; cases hxg
          · exact h0 (by rw [hxg, h1])
        · rcases hvs2.1 x hx' with h0 | h0
          · simp only at h0; rw [h0] at h1; cases h1
          · exact h0 (by rw [hxg, h1])
      · have := heap_lt hc'; omega
    refine List.pairwise_append.2 ⟨hvs.1, List.pairwise_cons.2 ⟨fun x hx' => ?_, hvs2.2⟩, fun x hx' y hy => ?_⟩
    · cases hg : h'.v.ownBlock with
      | none => exact .inl rfl
      | some g => exact .inr fun e => hfar x (.inr hx') g hg e.symm
    · rcases List.mem_cons.1 hy with rfl | hy
      · cases hg : x.2.1.v.ownBlock with
        | none => exact .inl rfl
        | some g => exact .inr fun e => hfar x (.inl hx') g e.symm hg
      · exact hvs.2.2 x hx' y (.tail _ hy)

/-- what a disk must be -/
structure Dk.Ok (D : Dk.D) : Prop where
  q : D.quota ≤ 4194304
  use : Dk.sum D.files ≤ D.quota
  fk : (D.files.map (·.1)).Nodup
  pos : ∀ x ∈ D.files, 1 ≤ x.1 ∧ x.1 ≤ D.last
  nk : (D.names.map (·.1)).Nodup
  kk : (D.kept.map (·.1)).Nodup
  nf : ∀ x ∈ D.names, x.2 ∈ D.files.map (·.1)
  kf : ∀ x ∈ D.kept, x.2 ∈ D.files.map (·.1)
  tf : ∀ t ∈ D.turns, t.given ≠ ⟨#[]⟩ → t.file ∈ D.files.map (·.1)
  stop : -9223372036854775808 ≤ D.stop ∧ D.stop ≤ 9223372036854775807
  fault : -9223372036854775808 ≤ D.fault ∧ D.fault ≤ 9223372036854775807
  ns : ∀ x ∈ D.names, x.1.size ≤ 16
  ks : ∀ x ∈ D.kept, x.1.size ≤ 16
  ts : ∀ t ∈ D.turns, t.given.size ≤ 16

/-- of what was there nothing has turned but the blocks of a set -/
structure OnlyIn (S : Nat → Prop) (w w' : World) : Prop where
  os : w'.os = w.os
  tape : w'.tape = w.tape
  output : w'.output = w.output
  size : w.heap.size ≤ w'.heap.size
  block : ∀ k, k < w.heap.size → ¬ S k → w'.heap[k]? = w.heap[k]?
theorem OnlyIn.refl (S : Nat → Prop) (w : World) : OnlyIn S w w := ⟨rfl, rfl, rfl, Nat.le_refl _, fun _ _ _ => rfl⟩
theorem OnlyIn.trans {S : Nat → Prop} {a b c : World} (h : OnlyIn S a b) (k : OnlyIn (fun x => S x ∨ a.heap.size ≤ x) b c) : OnlyIn S a c :=
  ⟨k.os.trans h.os, k.tape.trans h.tape, k.output.trans h.output, Nat.le_trans h.size k.size, fun i hi hn => (k.block i (Nat.lt_of_lt_of_le hi h.size) (fun hs => hs.elim hn fun h1 => absurd hi (Nat.not_lt.2 h1))).trans (h.block i hi hn)⟩
theorem OnlyIn.mono {S S' : Nat → Prop} {a b : World} (h : OnlyIn S a b) (hs : ∀ k, k < a.heap.size → S k → S' k) : OnlyIn S' a b :=
  ⟨h.os, h.tape, h.output, h.size, fun i hi hn => h.block i hi fun hS => hn (hs i hi hS)⟩
theorem OnlyIn.of_below {S : Nat → Prop} {a b : World} (h : Below a.heap.size a b) : OnlyIn S a b := ⟨h.os, h.tape, h.output, h.size, fun i hi _ => h.block i hi⟩
theorem OnlyIn.below {S : Nat → Prop} {a b : World} {B : Nat} (h : OnlyIn S a b) (hB : B ≤ a.heap.size) (hS : ∀ k, S k → B ≤ k) : Below B a b := ⟨h.os, h.tape, h.output, h.size, fun k hk => h.block k (by omega) fun hs => by have := hS k hs; omega⟩

/-- a disk lies at p, within the blocks S -/
def DK (w : World) (p : Nat) (D : Dk.D) (S : Nat → Prop) : Prop :=
  Dk.Ok D ∧ ∃ fm nm sm tv J, Parts w p D (Dk.sum D.files) fm nm sm tv J ∧ ∀ k, foot p fm nm sm tv J k → S k
theorem DK.keep {w w' : World} {p : Nat} {D : Dk.D} {S S' : Nat → Prop} (h : DK w p D S) (hk : ∀ k, k < w.heap.size → S k → w'.heap[k]? = w.heap[k]?) (hs : ∀ k, k < w.heap.size → S k → S' k) : DK w' p D S' := by
  obtain ⟨hO, fm, nm, sm, tv, J, hP, hS⟩ := h
  exact ⟨hO, fm, nm, sm, tv, J, hP.keep fun k hf => hk k (hP.lt hf) (hS k hf), fun k hf => hs k (hP.lt hf) (hS k hf)⟩
end Go.Proofs.YtnoknmnbfkdccaaGreatDoor

/- The disk's small functions: made, Dead, Used, Room, isName, clamp. -/
namespace Go.Proofs.YtnoknmnbfkdccaaGreatDoor
open Go.RowKit

theorem run_equalIn_map_nil {P : Program} (w : World) (d : Nat) (t k e : TypeId) (b : Nat) (h : P.underlying t = some (.map k e)) : (Op.equalIn (d + 1) t (.map (some b)) (.map none)).run P w = .ok false w := by
  simp [Op.equalIn, run_underlying h]
theorem run_neq_map_nil {P : Program} (w : World) (t k e : TypeId) (b : Nat) (h : P.underlying t = some (.map k e)) : (binOp .neq t (.map (some b)) (.map none)).run P w = .ok (.bool true) w := by
  simp only [binOp]
  simp [show Op.equal t (.map (some b)) (.map none) = Op.equalIn (9999 + 1) t (.map (some b)) (.map none) from rfl, run_equalIn_map_nil w 9999 t k e b h]

/-- the disk's cells -/
theorem Parts.cells {w : World} {p u fm nm sm : Nat} {D : Dk.D} {tv : Value} {J : List (Nat × FH × Dk.F)} (h : Parts w p D u fm nm sm tv J) :
    (w.cell? ⟨p, 0, none⟩ = some (.int .i64 (D.quota : Int)) ∧ w.cell? ⟨p, 1, none⟩ = some (.map (some fm)) ∧ w.cell? ⟨p, 2, none⟩ = some (.int .i64 (D.last : Int)) ∧ w.cell? ⟨p, 3, none⟩ = some (.int .i64 (u : Int)) ∧ w.cell? ⟨p, 4, none⟩ = some (.map (some nm)) ∧ w.cell? ⟨p, 5, none⟩ = some (.map (some sm)) ∧ w.cell? ⟨p, 6, none⟩ = some tv ∧ w.cell? ⟨p, 7, none⟩ = some (.int .i64 D.stop) ∧ w.cell? ⟨p, 8, none⟩ = some (.int .i64 D.fault) ∧ w.cell? ⟨p, 9, none⟩ = some (.bool D.dead)) ∧
    (∀ i, w.frozen? ⟨p, i, none⟩ = false) := by
  have hb := h.blk
  refine ⟨⟨?_, ?_, ?_, ?_, ?_, ?_, ?_, ?_, ?_, ?_⟩, fun i => ?_⟩
  all_goals first | exact (Go.Joins.cell_of_block hb _).trans rfl | exact Go.Joins.unfrozen_of_block hb _

theorem made_any {w : World} {p u fm nm sm : Nat} {D : Dk.D} {tv : Value} {J : List (Nat × FH × Dk.F)} (h : Parts w p D u fm nm sm tv J) :
    Calls Tryz.prog 46 #[.pointer (some ⟨p, 0, none⟩)] w fun e w' => e = .returned (.bool true) ∧ w' = w := by
  obtain ⟨⟨c0, c1, c2, c3, c4, c5, c6, c7, c8, c9⟩, hf⟩ := h.cells
  have hq := fun w => run_neq_map_nil (P := Tryz.prog) w 72 _ _ fm Tryz.underlying72
  go_enter Tryz.func46, Tryz.ntmps46
  go_wp2
  all_goals go_ret
  all_goals exact ⟨rfl, rfl⟩

theorem dead_any {w : World} {p u fm nm sm : Nat} {D : Dk.D} {tv : Value} {J : List (Nat × FH × Dk.F)} (h : Parts w p D u fm nm sm tv J) :
    Calls Tryz.prog 42 #[.pointer (some ⟨p, 0, none⟩)] w fun e w' => e = .returned (.bool D.dead) ∧ w' = w := by
  obtain ⟨⟨c0, c1, c2, c3, c4, c5, c6, c7, c8, c9⟩, hf⟩ := h.cells
  have hm := made_any h
  go_enter Tryz.func42, Tryz.ntmps42
  go_wp2_with (go_at_call 46; go_must (refine hm.mono ?_; rintro e w1 ⟨rfl, hw⟩; subst hw))
  all_goals go_ret
  all_goals exact ⟨rfl, rfl⟩

theorem room_any {w : World} {p u fm nm sm : Nat} {D : Dk.D} {tv : Value} {J : List (Nat × FH × Dk.F)} (h : Parts w p D u fm nm sm tv J) (hu : u ≤ D.quota) (hq : D.quota ≤ 4194304) :
    Calls Tryz.prog 72 #[.pointer (some ⟨p, 0, none⟩)] w fun e w' => e = .returned (.int .i64 ((D.quota : Int) - (u : Int))) ∧ ∃ n, w' = w.drewN n := by
  obtain ⟨⟨c0, c1, c2, c3, c4, c5, c6, c7, c8, c9⟩, hf⟩ := h.cells
  have hm := made_any h
  have hwr : IntKind.i64.wrap ((D.quota : Int) - (u : Int)) = (D.quota : Int) - (u : Int) := by rw [IntKind.wrap_i64]; omega
  go_enter Tryz.func72, Tryz.ntmps72
  go_wp2_with (go_at_call 46; go_must (refine hm.mono ?_; rintro e w1 ⟨rfl, hw⟩; subst hw))
  go_quiet (fail)
  go_wp2
  go_ret
  exact ⟨rfl, _, rfl⟩

theorem isname_any (s : ByteArray) (w : World) :
    Calls Tryz.prog 70 #[.string s] w fun e w' => e = .returned (.bool (decide (1 ≤ s.size ∧ s.size ≤ 16))) ∧ w' = w := by
  go_enter Tryz.func70, Tryz.ntmps70
  go_wp2
  all_goals go_ret
  all_goals refine ⟨ret_bool ?_, rfl⟩
  · rw [decide_eq_decide]; omega
  · symm; rw [Bool.and_eq_false_iff, decide_eq_false_iff_not]; omega

end Go.Proofs.YtnoknmnbfkdccaaGreatDoor

/- The disk's find, Size, Stop, Fault, New. -/
namespace Go.Proofs.YtnoknmnbfkdccaaGreatDoor
open Go.RowKit

theorem below_drew (w : World) (n : Nat) : Below w.heap.size w (w.drewN n) := below_drewN _ w n
theorem MapAt.drewN {α β : Type} {ek : α → Value} {ev : β → Value} {w : World} {b : Nat} {l : List (α × β)} (h : MapAt ek ev w b l) (n : Nat) : MapAt ek ev (w.drewN n) b l := h.keep rfl
theorem look_j {J : List (Nat × FH × Dk.F)} {n : Nat} : look (J.map fun x => (x.1, x.2.1)) n = (look J n).map (·.1) := look_map (fun y : FH × Dk.F => y.1) J n

set_option maxHeartbeats 1000000 in
theorem find_some {w : World} {p u fm nm sm : Nat} {D : Dk.D} {tv : Value} {J : List (Nat × FH × Dk.F)} (h : Parts w p D u fm nm sm tv J) (s : ByteArray) {n : Nat} {x : FH} {f : Dk.F} (h1 : look D.names s = some n) (h2 : look J n = some (x, f)) :
    Calls Tryz.prog 71 #[.pointer (some ⟨p, 0, none⟩), .string s] w fun e w' => e = .returned (.pointer (some ⟨x.q, 0, none⟩)) ∧ ∃ n, w' = w.drewN n := by
  obtain ⟨⟨c0, c1, c2, c3, c4, c5, c6, c7, c8, c9⟩, hf⟩ := h.cells
  have hm := made_any h
  have l1 : ∀ m, (Instr.lookup 73 (.map (some nm)) (.string s) false).run Tryz.prog (w.drewN m) = .ok (.int .i64 (n : Int)) (w.drewN m) := fun m => (run_lookup_at skE Tryz.underlying73 (h.names.drewN m) s).1 n h1
  have l2 : ∀ m, (Instr.lookup 72 (.map (some fm)) (.int .i64 (n : Int)) false).run Tryz.prog (w.drewN m) = .ok (.pointer (some ⟨x.q, 0, none⟩)) (w.drewN m) := fun m => (run_lookup_at ikE Tryz.underlying72 (h.files.drewN m) n).1 x (by rw [look_j, h2]; rfl)
  clear h h1 h2
  go_enter Tryz.func71, Tryz.ntmps71
  go_wp2_with (go_at_call 46; go_must (refine hm.mono ?_; rintro e w1 ⟨rfl, hw⟩; subst hw))
  go_quiet (fail)
  go_wp2
  go_ret
  exact ⟨rfl, _, rfl⟩

set_option maxHeartbeats 1000000 in
theorem find_none {w : World} {p u fm nm sm : Nat} {D : Dk.D} {tv : Value} {J : List (Nat × FH × Dk.F)} (h : Parts w p D u fm nm sm tv J) (s : ByteArray) (h1 : look D.names s = none) (h2 : look J 0 = none) :
    Calls Tryz.prog 71 #[.pointer (some ⟨p, 0, none⟩), .string s] w fun e w' => e = .returned (.pointer none) ∧ ∃ n, w' = w.drewN n := by
  obtain ⟨⟨c0, c1, c2, c3, c4, c5, c6, c7, c8, c9⟩, hf⟩ := h.cells
  have hm := made_any h
  have z1 : ∀ w : World, (zeroValue 3).run Tryz.prog w = .ok (.int .i64 0) w := fun w => Tryz.zeroValue3 w
  have z2 : ∀ w : World, (zeroValue 120).run Tryz.prog w = .ok (.pointer none) w := fun w => Tryz.zeroValue120 w
  have l1 : ∀ m, (Instr.lookup 73 (.map (some nm)) (.string s) false).run Tryz.prog (w.drewN m) = .ok (.int .i64 0) (w.drewN m) := fun m => (run_lookup_at skE Tryz.underlying73 (h.names.drewN m) s).2 _ h1 (z1 _)
  have l2 : ∀ m, (Instr.lookup 72 (.map (some fm)) (.int .i64 0) false).run Tryz.prog (w.drewN m) = .ok (.pointer none) (w.drewN m) := fun m => (run_lookup_at ikE Tryz.underlying72 (h.files.drewN m) 0).2 _ (by rw [look_j, h2]; rfl) (z2 _)
  clear h h1 h2 z1 z2
  go_enter Tryz.func71, Tryz.ntmps71
  go_wp2_with (go_at_call 46; go_must (refine hm.mono ?_; rintro e w1 ⟨rfl, hw⟩; subst hw))
  go_quiet (fail)
  go_wp2
  go_ret
  exact ⟨rfl, _, rfl⟩
end Go.Proofs.YtnoknmnbfkdccaaGreatDoor

/- The disk's Size, Stop, Fault, New. -/
namespace Go.Proofs.YtnoknmnbfkdccaaGreatDoor
open Go.RowKit

theorem only_set {S : Nat → Prop} (w : World) (p i : Nat) (v : Value) (hS : S p) : OnlyIn S w (w.setCell ⟨p, i, none⟩ v) :=
  ⟨rfl, rfl, rfl, by simp, fun k _ hn => Below.heap_setCell w ⟨p, i, none⟩ v k (fun e => hn (by rw [e]; exact hS))⟩
theorem set_other (w : World) (p i : Nat) (v : Value) {k : Nat} (h : k ≠ p) : (w.setCell ⟨p, i, none⟩ v).heap[k]? = w.heap[k]? := Below.heap_setCell w ⟨p, i, none⟩ v k h

section
variable {w : World} {p u fm nm sm : Nat} {D : Dk.D} {tv : Value} {J : List (Nat × FH × Dk.F)} (h : Parts w p D u fm nm sm tv J)
include h
theorem Parts.setStop (n : Int) : Parts (w.setCell ⟨p, 7, none⟩ (.int .i64 n)) p { D with stop := n } u fm nm sm tv J :=
  h.self (fun _ _ hk => set_other w p 7 _ hk) _ _ (Go.Joins.block_setCell h.blk _) rfl rfl rfl rfl
theorem Parts.setFault (n : Int) : Parts (w.setCell ⟨p, 8, none⟩ (.int .i64 n)) p { D with fault := n } u fm nm sm tv J :=
  h.self (fun _ _ hk => set_other w p 8 _ hk) _ _ (Go.Joins.block_setCell h.blk _) rfl rfl rfl rfl
theorem Parts.setDead (b : Bool) : Parts (w.setCell ⟨p, 9, none⟩ (.bool b)) p { D with dead := b } u fm nm sm tv J :=
  h.self (fun _ _ hk => set_other w p 9 _ hk) _ _ (Go.Joins.block_setCell h.blk _) rfl rfl rfl rfl
theorem Parts.setUsed {z : Int} {n : Nat} (hz : z = (n : Int)) : Parts (w.setCell ⟨p, 3, none⟩ (.int .i64 z)) p D n fm nm sm tv J :=
  hz ▸ h.self (fun _ _ hk => set_other w p 3 _ hk) _ _ (Go.Joins.block_setCell h.blk _) rfl rfl rfl rfl
theorem Parts.setLast {z : Int} {n : Nat} (hz : z = (n : Int)) : Parts (w.setCell ⟨p, 2, none⟩ (.int .i64 z)) p { D with last := n } u fm nm sm tv J :=
  hz ▸ h.self (fun _ _ hk => set_other w p 2 _ hk) _ _ (Go.Joins.block_setCell h.blk _) rfl rfl rfl rfl
end

theorem FileAt.cells {w : World} {h : FH} {f : Dk.F} (x : FileAt w h f) : w.cell? ⟨h.q, 0, none⟩ = some h.v ∧ w.cell? ⟨h.q, 1, none⟩ = some (.int .i64 (f.safe : Int)) ∧ (∀ i, w.frozen? ⟨h.q, i, none⟩ = false) :=
  ⟨(Go.Joins.cell_of_block x.blk _).trans rfl, (Go.Joins.cell_of_block x.blk _).trans rfl, fun i => Go.Joins.unfrozen_of_block x.blk i⟩

/-- which file a name has -/
def Dk.find (D : Dk.D) (s : ByteArray) : Option (Nat × Dk.F) := match look D.names s with | none => none | some n => (look D.files n).map fun f => (n, f)

theorem Parts.look {w : World} {p u fm nm sm : Nat} {D : Dk.D} {tv : Value} {J : List (Nat × FH × Dk.F)} (h : Parts w p D u fm nm sm tv J) (n : Nat) : look D.files n = (look J n).map (·.2) := by
  rw [← h.jf]
  exact look_map (fun y : FH × Dk.F => y.2) J n
theorem Parts.look0 {w : World} {p u fm nm sm : Nat} {D : Dk.D} {tv : Value} {J : List (Nat × FH × Dk.F)} (h : Parts w p D u fm nm sm tv J) (hO : Dk.Ok D) : Go.Proofs.YtnoknmnbfkdccaaGreatDoor.look J 0 = none := by
  cases hl : Go.Proofs.YtnoknmnbfkdccaaGreatDoor.look J 0 with
  | none => rfl
  | some y =>
    have h1 := h.look 0
    rw [hl] at h1
    have := (hO.pos _ (look_mem h1)).1
    simp at this
/-- a name is there, or it is not -/
theorem Parts.findJ {w : World} {p u fm nm sm : Nat} {D : Dk.D} {tv : Value} {J : List (Nat × FH × Dk.F)} (h : Parts w p D u fm nm sm tv J) (hO : Dk.Ok D) (s : ByteArray) :
    (Dk.find D s = none ∧ Go.Proofs.YtnoknmnbfkdccaaGreatDoor.look D.names s = none) ∨ ∃ n x f, Dk.find D s = some (n, f) ∧ Go.Proofs.YtnoknmnbfkdccaaGreatDoor.look D.names s = some n ∧ Go.Proofs.YtnoknmnbfkdccaaGreatDoor.look J n = some (x, f) ∧ Go.Proofs.YtnoknmnbfkdccaaGreatDoor.look D.files n = some f := by
  cases hn : Go.Proofs.YtnoknmnbfkdccaaGreatDoor.look D.names s with
  | none => exact .inl ⟨by simp [Dk.find, hn], rfl⟩
  | some n =>
    obtain ⟨f, hf⟩ := look_some_of (hO.nf _ (look_mem hn))
    have h1 := h.look n
    rw [hf] at h1
    cases hj : Go.Proofs.YtnoknmnbfkdccaaGreatDoor.look J n with
    | none => rw [hj] at h1; cases h1
    | some y =>
      rw [hj] at h1
      obtain ⟨x, f'⟩ := y
      simp only [Option.map_some, Option.some.injEq] at h1
      subst h1
      exact .inr ⟨n, x, f, by simp [Dk.find, hn, hf], rfl, hj, hf⟩

set_option maxHeartbeats 1000000 in
theorem dsize_any {w : World} {p : Nat} {D : Dk.D} {S : Nat → Prop} (h : DK w p D S) (s : ByteArray) :
    Calls Tryz.prog 60 #[.pointer (some ⟨p, 0, none⟩), .string s] w fun e w' => e = .returned (.tuple #[.int .i64 (match Dk.find D s with | some x => (x.2.bs.length : Int) | none => 0), .bool (Dk.find D s).isSome]) ∧ Below w.heap.size w w' := by
  obtain ⟨hO, fm, nm, sm, tv, J, hP, hS⟩ := h
  rcases hP.findJ hO s with ⟨e1, e2⟩ | ⟨n, x, f, e1, e2, e3, e4⟩
  · have hfd := find_none hP s e2 (hP.look0 hO)
    simp only [e1]
    go_enter Tryz.func60, Tryz.ntmps60
    go_wp2_with (go_at_call 71; go_must (refine hfd.mono ?_; rintro e w1 ⟨rfl, m, hw⟩; subst hw))
    go_ret2
    exact ⟨rfl, below_drew _ _⟩
  · have hfd := find_some hP s e2 e3
    have hx := hP.each _ (look_mem e3)
    obtain ⟨a, c, hv, _⟩ := t_shape hx.row
    obtain ⟨c0, c1, _⟩ := hx.cells
    simp only at c0 c1 hv
    rw [hv] at c0
    simp only [e1]
    go_enter Tryz.func60, Tryz.ntmps60
    go_wp2_with (go_at_call 71; go_must (refine hfd.mono ?_; rintro e w1 ⟨rfl, m, hw⟩; subst hw))
    go_ret2
    exact ⟨rfl, below_drew _ _⟩

theorem Dk.Ok.with {D D' : Dk.D} (h : Dk.Ok D) (h0 : D'.quota = D.quota) (h1 : D'.files = D.files) (h2 : D'.names = D.names) (h3 : D'.kept = D.kept) (h4 : D'.turns = D.turns) (h5 : D'.last = D.last) (h6 : -9223372036854775808 ≤ D'.stop ∧ D'.stop ≤ 9223372036854775807) (h7 : -9223372036854775808 ≤ D'.fault ∧ D'.fault ≤ 9223372036854775807) : Dk.Ok D' where
  q := h0 ▸ h.q
  use := by rw [h0, h1]; exact h.use
  fk := h1 ▸ h.fk
  pos := by rw [h1, h5]; exact h.pos
  nk := h2 ▸ h.nk
  kk := h3 ▸ h.kk
  nf := by rw [h1, h2]; exact h.nf
  kf := by rw [h1, h3]; exact h.kf
  tf := by rw [h1, h4]; exact h.tf
  stop := h6
  fault := h7
  ns := h2 ▸ h.ns
  ks := h3 ▸ h.ks
  ts := h4 ▸ h.ts

theorem heap_alloc_at (W : World) (o : Obj) (k : Nat) : (W.alloc o).heap[k]? = if k = W.heap.size then some o else W.heap[k]? := by
  show (W.heap.push o)[k]? = _
  rw [Array.getElem?_push]
def Dk.new (q : Nat) : Dk.D := ⟨q, [], 0, [], [], [], 0, 0, false⟩
set_option maxHeartbeats 1000000 in
theorem new_any (q : Nat) (w : World) (hq : q ≤ 4194304) :
    Calls Tryz.prog 26 #[.int .i64 (q : Int)] w fun e w' => ∃ p, e = .returned (.tuple #[.pointer (some ⟨p, 0, none⟩), .int .i64 0]) ∧ DK w' p (Dk.new q) (fun k => w.heap.size ≤ k) ∧ Below w.heap.size w w' := by
  have hO : Dk.Ok (Dk.new q) := ⟨hq, by simp [Dk.new, Dk.sum], by simp [Dk.new], by simp [Dk.new], by simp [Dk.new], by simp [Dk.new], by simp [Dk.new], by simp [Dk.new], by simp [Dk.new], by simp [Dk.new], by simp [Dk.new], by simp [Dk.new], by simp [Dk.new], by simp [Dk.new]⟩
  have hmm := @run_makeMap Tryz.prog
  go_enter Tryz.func26, Tryz.ntmps26
  go_wp2
  go_ret2
  have empty : ∀ {α β : Type} {ek : α → Value} {ev : β → Value} {W : World} {b : Nat}, W.heap[b]? = some (.map #[] 0) → MapAt ek ev W b ([] : List (α × β)) := fun h => ⟨#[], 0, h, rfl, by simp, by simp⟩
  refine ⟨w.heap.size + 3, ?_, ⟨hO, w.heap.size, w.heap.size + 1, w.heap.size + 2, .slice none 0 0, [], ⟨?_, rfl, empty ?_, empty ?_, empty ?_, ⟨rfl, .inl ⟨rfl, rfl⟩⟩, by simp, by simp, by simp, by omega⟩, ?_⟩, ?_⟩
  · rfl
  · rw [heap_alloc_at, if_pos (by simp)]; rfl
  · rw [heap_alloc_at, if_neg (by simp <;> omega), heap_alloc_at, if_neg (by simp <;> omega), heap_alloc_at, if_neg (by simp <;> omega), heap_alloc_at, if_pos rfl]
  · rw [heap_alloc_at, if_neg (by simp <;> omega), heap_alloc_at, if_neg (by simp <;> omega), heap_alloc_at, if_pos (by simp)]
  · rw [heap_alloc_at, if_neg (by simp <;> omega), heap_alloc_at, if_pos (by simp)]
  · rintro k (rfl | rfl | rfl | rfl | hk | ⟨x, hx, _⟩)
    · omega
    · exact Nat.le_refl _
    · omega
    · omega
    · simp [Value.ownBlock] at hk
    · simp at hx
  · refine (Below.refl _ _).trans ?_
    exact ((((below_alloc w _).trans ((below_alloc _ _).mono (by simp))).trans ((below_alloc _ _).mono (by simp; omega))).trans ((below_alloc _ _).mono (by simp; omega)))
end Go.Proofs.YtnoknmnbfkdccaaGreatDoor
