/- Append, with what has turned; which world a step meets. -/
import Derived.Test.YtnoknmnbfkdccaaGreatDoorGa
namespace Go.Proofs.YtnoknmnbfkdccaaGreatDoor
open Go.RowKit

section
variable {α : Type} {s : Nat} {enc : α → List Value} {d : α}
theorem wp_append_tg {T E : TypeId} {bytes : Nat} {z : Value} (he : Elem T E s bytes z) (hE : Enc s enc) {w0 w : World} {B : Nat} {o : Oper} {a : Act} {K : Act → World → Prop} {Q : Exit → Act → World → Prop} (sl x : Operand)
    (ho : o.op = .call { callee := .builtin .append, args := #[sl, x], argTypes := #[T, T] })
    (v : Value) (n : Nat) (xs : List α) (hs : a.eval sl = v) (hown : w.ownsRow B E s v n (tcells enc xs))
    (ax : Option Addr) (m c : Nat) (ys : List α) (hx : a.eval x = .slice ax m c) (hr : TRow s enc d w ax m ys) (hnil : ax = none → m = 0 ∧ c = 0)
    (hnm : n + m ≤ 1000000000) (hbel : Below B w0 w) (hB : B ≤ w.heap.size)
    (h : ∀ a' c' w', w.grownBy w' v.ownBlock → n + m ≤ c' → (a' = none → n + m = 0 ∧ c' = 0) → (a' = none ↔ v = .slice none 0 0 ∧ m = 0) → w'.ownsRow B E s (.slice a' (n + m) c') (n + m) (tcells enc (xs ++ ys)) → Below B w0 w' → B ≤ w'.heap.size → K (a.put o.dst (.slice a' (n + m) c')) w') : o.wp Tryz.prog a w K Q := by
  obtain ⟨i0, hi, hz0, hz1, hz2⟩ := info_parts he.info
  cases ax with
  | none =>
    obtain ⟨rfl, rfl⟩ := hnil rfl
    have hys : ys = [] := List.length_eq_zero_iff.mp hr.1
    subst hys
    obtain ⟨a', c', rfl, h1, h2⟩ := t_shape hown
    have hrun := run_append_owned_none (P := Tryz.prog) (w := w) B T o.type E i0 s he.und hi (.slice a' n c') n (tcells enc xs) hown
    unfold Oper.wp
    simp [execOp, ho, resolve, invoke, builtin, hs, hx, hrun, Result.andThen]
    refine h a' c' w ⟨rfl, rfl, rfl, Nat.le_refl _, fun _ _ _ => rfl⟩ h2 h1 ?_ (by simpa using hown) hbel hB
    constructor
    · intro e
      obtain ⟨rfl, rfl⟩ := h1 e
      exact ⟨by rw [e], rfl⟩
    · rintro ⟨e, _⟩
      simp only [Value.slice.injEq] at e
      exact e.1
  | some ad =>
    refine wp_append_own w sl x T ho B E i0 _ s bytes he.und hi hz0 hz1 hz2 he.zero he.pos v n (tcells enc xs) hs hown ad m c (tcells enc ys) hx (by rw [tcells_length hE, hr.1]) (hr.cells hE he.pos) (tcells_one hE ys) (by unfold maxLen; omega) ?_ hB ?_
    · have h1 := he.small
      have h2 : (n + m) * bytes ≤ 1000000000 * 1000 := Nat.mul_le_mul hnm h1
      omega
    · intro v' w' hown' hg hn
      obtain ⟨a', c', rfl, h1, h2⟩ := t_shape hown'
      refine h a' c' w' hg h2 h1 ?_ (by rw [tcells_append]; exact hown') (hbel.grown hg hB (fun k hk => (hown.lt k hk).1)) (Nat.le_trans hB hg.size)
      rw [← hn]
      constructor
      · intro e
        obtain ⟨e1, rfl⟩ := h1 e
        rw [e, e1]
      · intro e
        simp only [Value.slice.injEq] at e
        exact e.1
theorem append_tg {T E : TypeId} {bytes : Nat} {z : Value} (he : Elem T E s bytes z) (hE : Enc s enc) {w0 w : World} {B : Nat} {ops : Array Oper} {rest : List Oper} {o : Oper} {a : Act} {Q : Exit → Act → World → Prop} (hgd : o.guard = none) (sl x : Operand)
    (ho : o.op = .call { callee := .builtin .append, args := #[sl, x], argTypes := #[T, T] })
    (v : Value) (n : Nat) (xs : List α) (hs : a.eval sl = v) (hown : w.ownsRow B E s v n (tcells enc xs))
    (ax : Option Addr) (m c : Nat) (ys : List α) (hx : a.eval x = .slice ax m c) (hr : TRow s enc d w ax m ys) (hnil : ax = none → m = 0 ∧ c = 0)
    (hnm : n + m ≤ 1000000000) (hbel : Below B w0 w) (hB : B ≤ w.heap.size)
    (h : ∀ a' c' w', w.grownBy w' v.ownBlock → n + m ≤ c' → (a' = none → n + m = 0 ∧ c' = 0) → (a' = none ↔ v = .slice none 0 0 ∧ m = 0) → w'.ownsRow B E s (.slice a' (n + m) c') (n + m) (tcells enc (xs ++ ys)) → Below B w0 w' → B ≤ w'.heap.size → wpList Tryz.prog ops Q rest (a.put o.dst (.slice a' (n + m) c')) w') : wpList Tryz.prog ops Q (o :: rest) a w :=
  wpList_plain hgd fun _ hK => wp_append_tg he hE sl x ho v n xs hs hown ax m c ys hx hr hnil hnm hbel hB fun a' c' w' h0 h1 h2 h3 h4 h5 h6 => hK _ _ (h a' c' w' h0 h1 h2 h3 h4 h5 h6)
end

/-- append at a step of a region that draws, with what has turned -/
theorem step_tg {α : Type} {s : Nat} {enc : α → List Value} {d : α} {T E : TypeId} {bytes : Nat} {z : Value} (he : Elem T E s bytes z) (hE : Enc s enc) {w0 w : World} {B : Nat} {ops : Array Oper} {o : Oper} {a : Act} {K : Act → World → Prop} {Q : Exit → Act → World → Prop} {F : Prop} (hgd : o.guard = none) (sl x : Operand)
    (ho : o.op = .call { callee := .builtin .append, args := #[sl, x], argTypes := #[T, T] })
    (v : Value) (n : Nat) (xs : List α) (hs : a.eval sl = v) (hown : w.ownsRow B E s v n (tcells enc xs))
    (ax : Option Addr) (m c : Nat) (ys : List α) (hx : a.eval x = .slice ax m c) (hr : TRow s enc d w ax m ys) (hnil : ax = none → m = 0 ∧ c = 0)
    (hnm : n + m ≤ 1000000000) (hbel : Below B w0 w) (hB : B ≤ w.heap.size)
    (h : ∀ a' c' w', w.grownBy w' v.ownBlock → n + m ≤ c' → (a' = none → n + m = 0 ∧ c' = 0) → w'.ownsRow B E s (.slice a' (n + m) c') (n + m) (tcells enc (xs ++ ys)) → Below B w0 w' → K (a.put o.dst (.slice a' (n + m) c')) w') :
    if Region.wanted o (yielded ops a.tmps) = true then Oper.wp Tryz.prog o a w K Q else F := by
  have hw : Region.wanted o (yielded ops a.tmps) = true := by simp [Region.wanted, hgd]
  rw [if_pos hw]
  exact wp_append_tg he hE sl x ho v n xs hs hown ax m c ys hx hr hnil hnm hbel hB (fun a' c' w' h0 h1 h2 _ h4 h5 _ => h a' c' w' h0 h1 h2 h4 h5)
theorem trow_grown {α : Type} {s : Nat} {enc : α → List Value} {d : α} {w w' : World} {row : Option Nat} {b off n : Nat} {l : List α} (h : TRow s enc d w (some ⟨b, off, none⟩) n l) (hg : w.grownBy w' row) (hne : some b ≠ row) : TRow s enc d w' (some ⟨b, off, none⟩) n l := by
  obtain ⟨h1, h2, h3⟩ := h
  refine ⟨h1, h2, ?_⟩
  rcases h3 with h0 | ⟨b', off', e, hc⟩
  · exact .inl h0
  · simp only [Option.some.injEq, Addr.mk.injEq, and_true] at e
    obtain ⟨rfl, rfl⟩ := e
    exact .inr ⟨b, off, rfl, fun i hi j v hj => (grown_cell hg (p := ⟨b, off + i * s + j, none⟩) (cell_lt (hc i hi j v hj)) hne).trans (hc i hi j v hj)⟩
end Go.Proofs.YtnoknmnbfkdccaaGreatDoor
