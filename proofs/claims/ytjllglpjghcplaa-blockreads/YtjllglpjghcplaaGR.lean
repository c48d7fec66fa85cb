/- Rows of structs of whatever kind: read, made, appended to. -/
import Derived.Test.YtjllglpjghcplaaU2
import Derived.Laws.AppendOwnNone
import Derived.Deep.RegionLawGrows
namespace Go.Proofs.Ytjllglpjghcplaa
open Go.RowKit

/-- a slice type and its elements' type: cells, bytes, the zero value -/
structure Elem (T E : TypeId) (s bytes : Nat) (z : Value) : Prop where
  und : Try.prog.underlying T = some (.slice E)
  info : (Try.prog.info? E).map (fun i => (i.zero, i.size, i.bytes)) = some (some z, s, bytes)
  zero : z.cells.size = s
  pos : 0 < s
  small : bytes ≤ 1000
/-- how a thing lies in cells -/
structure Enc {α : Type} (s : Nat) (enc : α → List Value) : Prop where
  len : ∀ x, (enc x).length = s
  one : ∀ x, ∀ u ∈ enc x, u.oneCell' = true

def TAt {α : Type} (enc : α → List Value) (w : World) (b o : Nat) (x : α) : Prop := ∀ j v, (enc x)[j]? = some v → w.cell? ⟨b, o + j, none⟩ = some v
/-- a slice that reads as things -/
def TRow {α : Type} (s : Nat) (enc : α → List Value) (d : α) (w : World) (a : Option Addr) (n : Nat) (l : List α) : Prop :=
  l.length = n ∧ n ≤ 1000000000000000 ∧ (n = 0 ∨ ∃ b off, a = some ⟨b, off, none⟩ ∧ ∀ i, i < n → TAt enc w b (off + i * s) (l.getD i d))
def tcells {α : Type} (enc : α → List Value) (l : List α) : List Value := l.flatMap enc

section
variable {α : Type} {s : Nat} {enc : α → List Value} {d : α}
theorem TAt.below {w w' : World} {B b o : Nat} {x : α} (h : TAt enc w b o x) (hb : Below B w w') (hB : w.heap.size ≤ B) : TAt enc w' b o x := fun j v hj =>
  (hb.cell (p := ⟨b, o + j, none⟩) (Nat.lt_of_lt_of_le (cell_lt (h j v hj)) hB)).trans (h j v hj)
theorem TRow.below {w w' : World} {B : Nat} {a : Option Addr} {n : Nat} {l : List α} (h : TRow s enc d w a n l) (hb : Below B w w') (hB : w.heap.size ≤ B) : TRow s enc d w' a n l := by
  obtain ⟨h1, h2, h3⟩ := h
  refine ⟨h1, h2, ?_⟩
  rcases h3 with h0 | ⟨b, off, e, hc⟩
  · exact .inl h0
  · exact .inr ⟨b, off, e, fun i hi => (hc i hi).below hb hB⟩
theorem TRow.at {w : World} {a : Option Addr} {n : Nat} {l : List α} (h : TRow s enc d w a n l) (hn : 0 < n) : ∃ b off, a = some ⟨b, off, none⟩ ∧ ∀ i, i < n → TAt enc w b (off + i * s) (l.getD i d) := by
  obtain ⟨_, _, h0 | h0⟩ := h
  · omega
  · exact h0
theorem TRow.nil (w : World) (a : Option Addr) : TRow s enc d w a 0 [] := ⟨rfl, by omega, .inl rfl⟩
theorem tcells_append (a b : List α) : tcells enc (a ++ b) = tcells enc a ++ tcells enc b := by simp [tcells]
theorem tcells_length (hE : Enc s enc) : ∀ (a : List α), (tcells enc a).length = a.length * s
  | [] => by simp [tcells]
  | x :: a => by
    have : tcells enc (x :: a) = enc x ++ tcells enc a := rfl
    rw [this, List.length_append, tcells_length hE a, hE.len, List.length_cons, Nat.succ_mul]; omega
theorem tcells_one (hE : Enc s enc) (a : List α) : ∀ u ∈ tcells enc a, u.oneCell' = true := by
  intro u hu
  simp only [tcells, List.mem_flatMap] at hu
  obtain ⟨x, _, hx⟩ := hu
  exact hE.one x u hx
theorem tcells_get (hE : Enc s enc) : ∀ (l : List α) (i j : Nat), i < l.length → j < s → (tcells enc l)[i * s + j]? = (enc (l.getD i d))[j]?
  | [], i, j, hi, _ => by simp at hi
  | x :: l, 0, j, _, hj => by
    have : tcells enc (x :: l) = enc x ++ tcells enc l := rfl
    rw [this, Nat.zero_mul, Nat.zero_add, List.getElem?_append_left (by rw [hE.len]; exact hj)]
    rfl
  | x :: l, i + 1, j, hi, hj => by
    have : tcells enc (x :: l) = enc x ++ tcells enc l := rfl
    rw [this, Nat.succ_mul, List.getElem?_append_right (by rw [hE.len]; omega), hE.len, show i * s + s + j - s = i * s + j by omega, tcells_get hE l i j (by simpa using hi) hj]
    rfl
theorem tcells_at (hE : Enc s enc) (hs : 0 < s) {l : List α} {k : Nat} {u : Value} (h : (tcells enc l)[k]? = some u) : k / s < l.length ∧ k = k / s * s + k % s ∧ k % s < s ∧ (enc (l.getD (k / s) d))[k % s]? = some u := by
  have hk : k < (tcells enc l).length := by
    rcases Nat.lt_or_ge k (tcells enc l).length with h' | h'
    · exact h'
    · rw [List.getElem?_eq_none h'] at h; cases h
  rw [tcells_length hE] at hk
  have h1 : k / s < l.length := (Nat.div_lt_iff_lt_mul hs).mpr hk
  have h2 : k = k / s * s + k % s := by rw [Nat.mul_comm]; exact (Nat.div_add_mod k s).symm
  have h3 := Nat.mod_lt k hs
  refine ⟨h1, h2, h3, ?_⟩
  rw [← tcells_get hE l (k / s) (k % s) h1 h3, ← h2]
  exact h
/-- a row's cells, one behind the other -/
theorem TRow.cells (hE : Enc s enc) (hs : 0 < s) {w : World} {ad : Addr} {n : Nat} {l : List α} (h : TRow s enc d w (some ad) n l) (k : Nat) (u : Value) (hk : (tcells enc l)[k]? = some u) : w.cell? (ad.add k) = some u := by
  obtain ⟨h1, h2, h3, h4⟩ := tcells_at (d := d) hE hs hk
  have hl := h.1
  obtain ⟨b, off, e, hc⟩ := h.at (by rw [← hl]; exact Nat.lt_of_le_of_lt (Nat.zero_le _) h1)
  cases e
  have := hc (k / s) (by rw [← hl]; exact h1) (k % s) u h4
  rw [add_at, h2]
  rw [Nat.add_assoc] at this
  exact this
theorem t_shape {w : World} {B n : Nat} {e : TypeId} {v : Value} {xs : List Value} (h : w.ownsRow B e s v n xs) : ∃ a c, v = .slice a n c ∧ (a = none → n = 0 ∧ c = 0) ∧ n ≤ c := by
  rcases h.2 with ⟨e, h0⟩ | ⟨g, cap, cur, e, _, _, hn, _⟩
  · exact ⟨none, 0, by rw [e, h0], fun _ => ⟨h0, rfl⟩, by omega⟩
  · exact ⟨_, _, e, (fun h => by cases h), hn⟩
theorem trow_of_owns (hE : Enc s enc) {w : World} {B n c : Nat} {e : TypeId} {a : Option Addr} {l : List α} (h : w.ownsRow B e s (.slice a n c) n (tcells enc l)) (hs : 0 < s) (hn : n ≤ 1000000000) : TRow s enc d w a n l := by
  have hl := h.1
  rw [tcells_length hE] at hl
  have hl' : l.length = n := Nat.eq_of_mul_eq_mul_right hs hl
  have h0 := h
  rcases h.2 with ⟨e, rfl⟩ | ⟨g, cap, cur, e, _, _, hnc, _⟩
  · exact ⟨hl', by omega, .inl rfl⟩
  · simp only [Value.slice.injEq] at e
    obtain ⟨rfl, _, rfl⟩ := e
    refine ⟨hl', by omega, .inr ⟨g, 0, rfl, fun i hi j v hj => ?_⟩⟩
    have hjs : j < s := by
      rcases Nat.lt_or_ge j s with h' | h'
      · exact h'
      · rw [List.getElem?_eq_none (by rw [hE.len]; exact h')] at hj; cases hj
    rw [Nat.zero_add]
    exact (own_cells h0 (by rw [tcells_get (d := d) hE l i j (by omega) hjs]; exact hj)).1
/-- a row of one thing, just laid -/
theorem trow_lit (w : World) (C : Array Value) (e : TypeId) (x : α) {g : Nat} (hg : w.heap.size = g) (h : ∀ (j : Nat) (v : Value), (enc x)[j]? = some v → C[j]? = some v) : TRow s enc d (w.alloc (.cells C e)) (some ⟨g, 0, none⟩) 1 [x] := by
  subst hg
  refine ⟨rfl, by omega, .inr ⟨_, 0, rfl, fun i hi j v hj => ?_⟩⟩
  obtain rfl : i = 0 := by omega
  simp only [Nat.zero_mul, Nat.zero_add]
  rw [cell_new]
  exact h j v hj

theorem wp_append_t {T E : TypeId} {bytes : Nat} {z : Value} (he : Elem T E s bytes z) (hE : Enc s enc) {w0 w : World} {B : Nat} {o : Oper} {a : Act} {K : Act → World → Prop} {Q : Exit → Act → World → Prop} (sl x : Operand)
    (ho : o.op = .call { callee := .builtin .append, args := #[sl, x], argTypes := #[T, T] })
    (v : Value) (n : Nat) (xs : List α) (hs : a.eval sl = v) (hown : w.ownsRow B E s v n (tcells enc xs))
    (ax : Option Addr) (m c : Nat) (ys : List α) (hx : a.eval x = .slice ax m c) (hr : TRow s enc d w ax m ys) (hnil : ax = none → m = 0 ∧ c = 0)
    (hnm : n + m ≤ 1000000000) (hbel : Below B w0 w) (hB : B ≤ w.heap.size)
    (h : ∀ a' c' w', n + m ≤ c' → (a' = none → n + m = 0 ∧ c' = 0) → (a' = none ↔ v = .slice none 0 0 ∧ m = 0) → w'.ownsRow B E s (.slice a' (n + m) c') (n + m) (tcells enc (xs ++ ys)) → Below B w0 w' → B ≤ w'.heap.size → K (a.put o.dst (.slice a' (n + m) c')) w') : o.wp Try.prog a w K Q := by
  obtain ⟨i0, hi, hz0, hz1, hz2⟩ := info_parts he.info
  cases ax with
  | none =>
    obtain ⟨rfl, rfl⟩ := hnil rfl
    have hys : ys = [] := List.length_eq_zero_iff.mp hr.1
    subst hys
    obtain ⟨a', c', rfl, h1, h2⟩ := t_shape hown
    have hrun := run_append_owned_none (P := Try.prog) (w := w) B T o.type E i0 s he.und hi (.slice a' n c') n (tcells enc xs) hown
    unfold Oper.wp
    simp [execOp, ho, resolve, invoke, builtin, hs, hx, hrun, Result.andThen]
    refine h a' c' w h2 h1 ?_ (by simpa using hown) hbel hB
    constructor
    · intro e
      obtain ⟨rfl, rfl⟩ := h1 e
      exact ⟨by rw [e], rfl⟩
    · rintro ⟨e, _⟩
      simp only [Value.slice.injEq] at e
      exact e.1
  | some ad =>
    refine wp_append_own w sl x T ho B E i0 _ s bytes he.und hi hz0 hz1 hz2 he.zero he.pos v n (tcells enc xs) hs hown ad m c (tcells enc ys) hx (by rw [tcells_length hE, hr.1]) (hr.cells hE he.pos) (tcells_one hE ys) (by unfold maxLen; omega) ?_ hB ?_
    · have h1 := he.small
      have h2 : (n + m) * bytes ≤ 1000000000 * 1000 := Nat.mul_le_mul hnm h1
      omega
    · intro v' w' hown' hg hn
      obtain ⟨a', c', rfl, h1, h2⟩ := t_shape hown'
      refine h a' c' w' h2 h1 ?_ (by rw [tcells_append]; exact hown') (hbel.grown hg hB (fun k hk => (hown.lt k hk).1)) (Nat.le_trans hB hg.size)
      rw [← hn]
      constructor
      · intro e
        obtain ⟨e1, rfl⟩ := h1 e
        rw [e, e1]
      · intro e
        simp only [Value.slice.injEq] at e
        exact e.1
theorem append_t {T E : TypeId} {bytes : Nat} {z : Value} (he : Elem T E s bytes z) (hE : Enc s enc) {w0 w : World} {B : Nat} {ops : Array Oper} {rest : List Oper} {o : Oper} {a : Act} {Q : Exit → Act → World → Prop} (hgd : o.guard = none) (sl x : Operand)
    (ho : o.op = .call { callee := .builtin .append, args := #[sl, x], argTypes := #[T, T] })
    (v : Value) (n : Nat) (xs : List α) (hs : a.eval sl = v) (hown : w.ownsRow B E s v n (tcells enc xs))
    (ax : Option Addr) (m c : Nat) (ys : List α) (hx : a.eval x = .slice ax m c) (hr : TRow s enc d w ax m ys) (hnil : ax = none → m = 0 ∧ c = 0)
    (hnm : n + m ≤ 1000000000) (hbel : Below B w0 w) (hB : B ≤ w.heap.size)
    (h : ∀ a' c' w', n + m ≤ c' → (a' = none → n + m = 0 ∧ c' = 0) → (a' = none ↔ v = .slice none 0 0 ∧ m = 0) → w'.ownsRow B E s (.slice a' (n + m) c') (n + m) (tcells enc (xs ++ ys)) → Below B w0 w' → B ≤ w'.heap.size → wpList Try.prog ops Q rest (a.put o.dst (.slice a' (n + m) c')) w') : wpList Try.prog ops Q (o :: rest) a w :=
  wpList_plain hgd fun _ hK => wp_append_t he hE sl x ho v n xs hs hown ax m c ys hx hr hnil hnm hbel hB fun a' c' w' h1 h2 h3 h4 h5 h6 => hK _ _ (h a' c' w' h1 h2 h3 h4 h5 h6)
/-- the same at a step of a region that draws -/
theorem step_t {T E : TypeId} {bytes : Nat} {z : Value} (he : Elem T E s bytes z) (hE : Enc s enc) {w0 w : World} {B : Nat} {ops : Array Oper} {o : Oper} {a : Act} {K : Act → World → Prop} {Q : Exit → Act → World → Prop} {F : Prop} (hgd : o.guard = none) (sl x : Operand)
    (ho : o.op = .call { callee := .builtin .append, args := #[sl, x], argTypes := #[T, T] })
    (v : Value) (n : Nat) (xs : List α) (hs : a.eval sl = v) (hown : w.ownsRow B E s v n (tcells enc xs))
    (ax : Option Addr) (m c : Nat) (ys : List α) (hx : a.eval x = .slice ax m c) (hr : TRow s enc d w ax m ys) (hnil : ax = none → m = 0 ∧ c = 0)
    (hnm : n + m ≤ 1000000000) (hbel : Below B w0 w) (hB : B ≤ w.heap.size)
    (h : ∀ a' c' w', n + m ≤ c' → (a' = none → n + m = 0 ∧ c' = 0) → (a' = none ↔ v = .slice none 0 0 ∧ m = 0) → w'.ownsRow B E s (.slice a' (n + m) c') (n + m) (tcells enc (xs ++ ys)) → Below B w0 w' → B ≤ w'.heap.size → K (a.put o.dst (.slice a' (n + m) c')) w') :
    if Region.wanted o (yielded ops a.tmps) = true then Oper.wp Try.prog o a w K Q else F := by
  have hw : Region.wanted o (yielded ops a.tmps) = true := by simp [Region.wanted, hgd]
  rw [if_pos hw]
  exact wp_append_t he hE sl x ho v n xs hs hown ax m c ys hx hr hnil hnm hbel hB h
/-- a row made by '[]T{}' -/
theorem made_t (w : World) {B E : Nat} (hB : B ≤ w.heap.size) {g : Nat} (hg : w.heap.size = g) : (w.alloc (.cells #[] E)).ownsRow B E s (.slice (some ⟨g, 0, none⟩) 0 0) 0 (tcells enc ([] : List α)) := made_b w E s B hg (by omega)
end
end Go.Proofs.Ytjllglpjghcplaa
