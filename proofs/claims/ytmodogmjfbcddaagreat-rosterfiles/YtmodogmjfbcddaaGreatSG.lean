/- Rows of whatever there is, turned in place: copy, clear, one more, one set. -/
import Derived.Test.YtmodogmjfbcddaaGreatLCk
namespace Go.Proofs.YtmodogmjfbcddaaGreat
open Go.RowKit

/-- copy of elements of s cells -/
theorem run_copy_s {P : Program} (w : World) (dT sT ty elem : TypeId) (s b o dLen dCap : Nat) (a : Addr) (sLen sCap : Nat) (cs : List Value)
    (hu : P.underlying dT = some (.slice elem)) (hs : (P.info? elem).map (·.size) = some s) (hn : cs.length = Nat.min sLen dLen * s)
    (hsrc : ∀ j v, cs[j]? = some v → w.cell? (a.add j) = some v) (hc : ∀ j, j < cs.length → (w.cell? ⟨b, o + j, none⟩).isSome = true) (hf : ∀ j, j < cs.length → w.frozen? ⟨b, o + j, none⟩ = false) (h1 : ∀ v ∈ cs, v.oneCell' = true) :
    (Builtin.copy_ #[dT, sT] ty #[.slice (some ⟨b, o, none⟩) dLen dCap, .slice (some a) sLen sCap]).run P w = .ok (goInt (Nat.min sLen dLen)) (w.setCells b o cs) := by
  have hl := run_loadCells_list (P := P) w a cs hsrc
  have hst := run_storeCells_cells (P := P) b o cs 0 w (by simpa using hc) (by simpa using hf) h1
  cases hq : P.info? elem with
  | none => simp [hq] at hs
  | some i =>
    have hi : i.size = s := by simpa [hq] using hs
    simp [Builtin.copy_, run_underlying hu, Builtin.lenOf, Builtin.firstCells, sizeOf, typeInfo, hq, hi, ← hn, hl, hst]

/-- values laid into a list -/
def setL : List Value → Nat → List Value → List Value
  | xs, _, [] => xs
  | xs, o, v :: r => setL (xs.set o v) (o + 1) r
theorem setL_len : ∀ (vs xs : List Value) (o : Nat), (setL xs o vs).length = xs.length
  | [], _, _ => rfl
  | v :: r, xs, o => by rw [setL, setL_len r]; simp
theorem setL_eq : ∀ (vs xs : List Value) (o : Nat), o + vs.length ≤ xs.length → setL xs o vs = xs.take o ++ vs ++ xs.drop (o + vs.length)
  | [], xs, o, _ => by simp [setL]
  | v :: r, xs, o, h => by
    simp only [List.length_cons] at h
    rw [setL, setL_eq r (xs.set o v) (o + 1) (by simp; omega)]
    have e1 : (xs.set o v).take (o + 1) = xs.take o ++ [v] := by
      rw [List.take_succ_eq_append_getElem (by simp; omega), List.take_set_of_le (Nat.le_refl _)]; simp
    have e2 : (xs.set o v).drop (o + 1 + r.length) = xs.drop (o + (v :: r).length) := by
      rw [List.drop_set_of_lt (by omega)]; simp only [List.length_cons]; congr 1; omega
    rw [e1, e2]; simp
theorem setL_out : ∀ (vs xs : List Value) (o : Nat), xs.length ≤ o → setL xs o vs = xs
  | [], _, _, _ => rfl
  | v :: r, xs, o, h => by rw [setL, List.set_eq_of_length_le h]; exact setL_out r xs (o + 1) (by omega)
theorem own_setL {B E s g n c : Nat} : ∀ (vs : List Value) (o : Nat) {w : World} {xs : List Value}, w.ownsRow B E s (.slice (some ⟨g, 0, none⟩) n c) n xs → (w.setCells g o vs).ownsRow B E s (.slice (some ⟨g, 0, none⟩) n c) n (setL xs o vs)
  | [], _, _, _, h => h
  | v :: r, o, _, _, h => own_setL r (o + 1) (own_store h o v)
theorem turned_setL (g : Nat) : ∀ (vs : List Value) (o : Nat) (w : World), w.grownBy (w.setCells g o vs) (some g)
  | [], _, _ => ⟨rfl, rfl, rfl, Nat.le_refl _, fun _ _ _ => rfl⟩
  | v :: vs, o, w => (turned_set w g o v).trans (turned_setL g vs (o + 1) _)
theorem below_setL {B g : Nat} (hg : B ≤ g) {a : World} : ∀ (vs : List Value) (o : Nat) {w : World}, Below B a w → Below B a (w.setCells g o vs)
  | [], _, _, h => h
  | v :: r, o, _, h => below_setL hg r (o + 1) (h.setCell (p := ⟨g, o, none⟩) hg v)
theorem grown_any {w w' : World} (h : Below w.heap.size w w') (row : Option Nat) : w.grownBy w' row := ⟨h.os, h.tape, h.output, h.size, fun k hk _ => h.block k hk⟩
/-- one element more of the spare room -/
theorem own_more {w : World} {B E s g n c : Nat} {xs : List Value} (h : w.ownsRow B E s (.slice (some ⟨g, 0, none⟩) n c) n xs) (hn : n + 1 ≤ c) : ∃ js, js.length = s ∧ w.ownsRow B E s (.slice (some ⟨g, 0, none⟩) (n + 1) c) (n + 1) (xs ++ js) := by
  obtain ⟨h1, h2⟩ := h
  rcases h2 with ⟨e, _⟩ | ⟨g', cap, cur, e, hB, hg, hnc, hmx, hs, ht⟩
  · cases e
  · simp only [Value.slice.injEq, Option.some.injEq, Addr.mk.injEq] at e
    obtain ⟨⟨rfl, _⟩, _, rfl⟩ := e
    have hle : (n + 1) * s ≤ c * s := Nat.mul_le_mul_right s hn
    have e1 : (n + 1) * s = n * s + s := Nat.succ_mul n s
    have hlen : cur.toList.length = c * s := by simpa using hs
    refine ⟨(cur.toList.drop (n * s)).take s, by rw [List.length_take, List.length_drop, hlen]; omega, ?_, .inr ⟨g, c, cur, rfl, hB, hg, hn, hmx, hs, ?_⟩⟩
    · rw [List.length_append, h1, List.length_take, List.length_drop, hlen]; omega
    · rw [← ht, e1, List.take_add]
theorem own_take {w : World} {B E s g n c m : Nat} {xs : List Value} (h : w.ownsRow B E s (.slice (some ⟨g, 0, none⟩) n c) n xs) (hm : m ≤ n) : w.ownsRow B E s (.slice (some ⟨g, 0, none⟩) m c) m (xs.take (m * s)) := by
  have hms : m * s ≤ n * s := Nat.mul_le_mul_right s hm
  obtain ⟨h1, h2⟩ := h
  refine ⟨by rw [List.length_take, h1]; omega, ?_⟩
  rcases h2 with ⟨e, _⟩ | ⟨g', cap, cur, e, hB, hg, hn, hmx, hs, ht⟩
  · cases e
  · simp only [Value.slice.injEq, Option.some.injEq, Addr.mk.injEq] at e
    obtain ⟨⟨rfl, _⟩, _, rfl⟩ := e
    refine .inr ⟨g, c, cur, rfl, hB, hg, by omega, hmx, hs, ?_⟩
    rw [← ht, List.take_take, Nat.min_eq_left hms]
theorem own_sets {B E s g n c : Nat} (vs : List Value) (o : Nat) {w : World} {xs : List Value} (ho : n * s ≤ o) (h : w.ownsRow B E s (.slice (some ⟨g, 0, none⟩) n c) n xs) : (w.setCells g o vs).ownsRow B E s (.slice (some ⟨g, 0, none⟩) n c) n xs := by
  have h2 := own_setL vs o h
  rwa [setL_out vs xs o (by rw [h.1]; exact ho)] at h2
theorem town_blk {w : World} {B n c : Nat} {a : Option Addr} {xs : List Value} {E s : Nat} (h : w.ownsRow B E s (.slice a n c) n xs) (hn : 0 < n) : ∃ g, a = some ⟨g, 0, none⟩ := by
  rcases h.2 with ⟨_, h⟩ | ⟨g', cap, cur, e, _⟩
  · omega
  · simp only [Value.slice.injEq] at e
    exact ⟨g', e.1⟩

theorem grown_noneB {w w' : World} (h : Below w.heap.size w w') : w.grownBy w' none := ⟨h.os, h.tape, h.output, h.size, fun k hk _ => h.block k hk⟩
theorem own_keptB {w w' : World} {B E s n : Nat} {v : Value} {xs : List Value} (h : w.ownsRow B E s v n xs) (hb : Below w.heap.size w w') : w'.ownsRow B E s v n xs := h.kept (grown_noneB hb) (by cases hv : v.ownBlock <;> simp)
theorem below_putB {w W : World} {B g : Nat} (h : Below B w W) (hg : B ≤ g) (i : Nat) (v : Value) : Below B w (W.setCell ⟨g, i, none⟩ v) :=
  ⟨h.os, h.tape, h.output, by simpa using h.size, fun k hk => (Below.heap_setCell W ⟨g, i, none⟩ v k (fun e => by have : k = g := e; omega)).trans (h.block k hk)⟩
theorem obr_apart {W : World} {g B n s e e' : Nat} {v : Value} {cs : Array Value} {xs : List Value} {fz : Nat × Nat} (h : W.heap[g]? = some (.cells cs e' fz)) (hown : W.ownsRow B e s v n xs) (hne : e' ≠ e) : some g ≠ v.ownBlock := by
  intro hk
  rcases hown.2 with ⟨rfl, _⟩ | ⟨g', cap, cur, rfl, _, hg, _⟩
  · cases hk
  · have : g = g' := by simpa [Value.ownBlock] using hk
    subst this
    rw [h] at hg
    exact hne (Obj.cells.inj (Option.some.inj hg)).2.1
theorem blkc {W : World} {g : Nat} {cs : Array Value} {e : TypeId} (h : W.heap[g]? = some (.cells cs e (0, 0))) : (∀ i, W.cell? ⟨g, i, none⟩ = cs[i]?) ∧ ∀ i, W.frozen? ⟨g, i, none⟩ = false :=
  ⟨fun i => by simp [World.cell?, h], fun i => by simp [World.frozen?, h]⟩
theorem ob_ltB {W : World} {g : Nat} {x : Obj} (h : W.heap[g]? = some x) : g < W.heap.size := (Array.getElem?_eq_some_iff.1 h).1

section
variable {α : Type} {s : Nat} {enc : α → List Value} {d : α}
theorem tcells_take_s (hE : Enc s enc) (l : List α) (m : Nat) : (tcells enc l).take (m * s) = tcells enc (l.take m) := by
  rcases Nat.lt_or_ge m l.length with h | h
  · have e : tcells enc l = tcells enc (l.take m) ++ tcells enc (l.drop m) := by rw [← tcells_append, List.take_append_drop]
    have hl : (tcells enc (l.take m)).length = m * s := by rw [tcells_length hE, List.length_take, Nat.min_eq_left (by omega)]
    rw [e, List.take_append_of_le_length (by omega), List.take_of_length_le (by omega)]
  · rw [List.take_of_length_le h, List.take_of_length_le (by rw [tcells_length hE]; exact Nat.mul_le_mul_right s h)]
theorem tcells_setL (hE : Enc s enc) (l : List α) (j : Nat) (x : α) (hj : j < l.length) : setL (tcells enc l) (j * s) (enc x) = tcells enc (l.set j x) := by
  have hle : (j + 1) * s ≤ l.length * s := Nat.mul_le_mul_right s hj
  have e1 : (j + 1) * s = j * s + s := Nat.succ_mul j s
  rw [setL_eq _ _ _ (by rw [hE.len, tcells_length hE]; omega), hE.len, ← e1, tcells_take_s hE]
  have hd : (tcells enc l).drop ((j + 1) * s) = tcells enc (l.drop (j + 1)) := by
    have e : tcells enc l = tcells enc (l.take (j + 1)) ++ tcells enc (l.drop (j + 1)) := by rw [← tcells_append, List.take_append_drop]
    have hl : (tcells enc (l.take (j + 1))).length = (j + 1) * s := by rw [tcells_length hE, List.length_take, Nat.min_eq_left (by omega)]
    rw [e, List.drop_append_of_le_length (by omega), List.drop_of_length_le (by omega), List.nil_append]
  rw [hd, List.set_eq_take_append_cons_drop, if_pos hj, tcells_append, List.append_assoc]
  rfl
theorem ihs_split (hs : List α) (i : Nat) : tcells enc hs = tcells enc (hs.take i) ++ tcells enc (hs.drop i) := by rw [← tcells_append, List.take_append_drop]
def insAt (hs : List α) (i : Nat) (h : α) : List α := hs.take i ++ h :: hs.drop i
theorem tcells_ins (hs : List α) (i : Nat) (h : α) : tcells enc (insAt hs i h) = tcells enc (hs.take i) ++ (enc h ++ tcells enc (hs.drop i)) := by
  unfold insAt
  rw [tcells_append]; rfl
theorem take_cells (hE : Enc s enc) (hs : List α) {i : Nat} (hi : i ≤ hs.length) : (tcells enc (hs.take i)).length = i * s ∧ (tcells enc (hs.drop i)).length = (hs.length - i) * s := by
  rw [tcells_length hE, tcells_length hE, List.length_take, List.length_drop, Nat.min_eq_left hi]
  exact ⟨rfl, rfl⟩
/-- what stood from a place on is laid one element further, the new one ahead of it -/
theorem set_ins (hE : Enc s enc) (hs : List α) (h : α) (xs : List Value) {i : Nat} (hi : i ≤ hs.length) (hl : xs.length = (hs.length + 1) * s) (ht : xs.take (i * s) = tcells enc (hs.take i)) :
    setL (setL xs ((i + 1) * s) (tcells enc (hs.drop i))) (i * s) (enc h) = tcells enc (insAt hs i h) ∧ setL (setL xs (i * s) (enc h)) ((i + 1) * s) (tcells enc (hs.drop i)) = tcells enc (insAt hs i h) := by
  obtain ⟨l1, l2⟩ := take_cells hE hs hi
  have l3 : (enc h).length = s := hE.len h
  have e8 : (i + 1) * s = i * s + s := Nat.succ_mul i s
  have e9 : (hs.length + 1) * s = i * s + s + (hs.length - i) * s := by
    rw [← e8, ← Nat.add_mul]; congr 1; omega
  rw [tcells_ins]
  constructor
  · rw [setL_eq _ xs _ (by omega)]
    have d1 : xs.drop ((i + 1) * s + (tcells enc (hs.drop i)).length) = [] := List.drop_of_length_le (by omega)
    rw [d1, List.append_nil, setL_eq _ _ _ (by simp only [List.length_append, List.length_take]; omega)]
    have t1 : (xs.take ((i + 1) * s) ++ tcells enc (hs.drop i)).take (i * s) = tcells enc (hs.take i) := by
      rw [List.take_append_of_le_length (by rw [List.length_take]; omega), List.take_take, Nat.min_eq_left (by omega), ht]
    have t2 : (xs.take ((i + 1) * s) ++ tcells enc (hs.drop i)).drop (i * s + (enc h).length) = tcells enc (hs.drop i) := by
      rw [l3, ← e8, List.drop_append_of_le_length (by rw [List.length_take]; omega), List.drop_of_length_le (by rw [List.length_take]; omega), List.nil_append]
    rw [t1, t2, List.append_assoc]
  · rw [setL_eq _ xs _ (by omega)]
    rw [setL_eq _ _ _ (by simp only [List.length_append, List.length_take, List.length_drop]; omega)]
    have t1 : (xs.take (i * s) ++ enc h ++ xs.drop (i * s + (enc h).length)).take ((i + 1) * s) = tcells enc (hs.take i) ++ enc h := by
      rw [List.take_append_of_le_length (by simp only [List.length_append, List.length_take]; omega), List.take_of_length_le (by simp only [List.length_append, List.length_take]; omega), ht]
    have d1 : (xs.take (i * s) ++ enc h ++ xs.drop (i * s + (enc h).length)).drop ((i + 1) * s + (tcells enc (hs.drop i)).length) = [] := List.drop_of_length_le (by simp only [List.length_append, List.length_take, List.length_drop]; omega)
    rw [t1, d1, List.append_nil, List.append_assoc]
end

/-- clear of a slice of whatever there is -/
theorem run_clear_s {T E : TypeId} {s bytes : Nat} {z : Value} (he : Elem T E s bytes z) (hz1 : ∀ v ∈ z.cells, v.oneCell' = true) (w : World) (ty : TypeId) (b o n c : Nat) (hn : 0 < n) (hc : ∀ j, j < n * s → (w.cell? ⟨b, o + j, none⟩).isSome = true) (hf : ∀ j, j < n * s → w.frozen? ⟨b, o + j, none⟩ = false) :
    (Builtin.clear_ #[T] ty #[.slice (some ⟨b, o, none⟩) n c]).run Tryz.prog w = .ok (.tuple #[]) (w.setCells b o (Builtin.zeroCells z.cells n).toList) := by
  have hpos := he.pos
  have hlen : (Builtin.zeroCells z.cells n).toList.length = n * s := by simp [Builtin.zeroCells, he.zero]
  have hone : ∀ v ∈ (Builtin.zeroCells z.cells n).toList, v.oneCell' = true := by
    intro v hv
    simp only [Builtin.zeroCells, Array.toList_map, List.mem_map] at hv
    obtain ⟨t, _, rfl⟩ := hv
    have ht : t % z.cells.size < z.cells.size := Nat.mod_lt _ (by rw [he.zero]; exact hpos)
    rw [getElem!_pos z.cells _ ht]
    exact hz1 _ (Array.getElem_mem ht)
  have hst := run_storeCells_cells (P := Tryz.prog) b o _ 0 w (by rw [hlen]; simpa using hc) (by rw [hlen]; simpa using hf) hone
  simp only [Nat.add_zero] at hst
  obtain ⟨m, rfl⟩ : ∃ m, n = m + 1 := ⟨n - 1, by omega⟩
  obtain ⟨i0, hi0, hz0, _, _⟩ := info_parts he.info
  have hv : ∀ w, (zeroValue E).run Tryz.prog w = .ok z w := fun w => by simp [zeroValue, typeInfo, hi0, hz0]
  simp [Builtin.clear_, run_underlying he.und, hv, hst]
end Go.Proofs.YtmodogmjfbcddaaGreat
