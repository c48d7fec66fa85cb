/- Rows of parts: slices whose elements are slices of items. -/
import Derived.Test.YtchiilhdkbpboaaIT1
import Derived.Test.YtchiilhdkbpboaaMa
namespace Go.Proofs.Ytchiilhdkbpboaa
open Go.RowKit

/-- a part as it lies: where its items are -/
structure PH where
  a : Option Addr
  n : Nat
  c : Nat
def phz : PH := ⟨none, 0, 0⟩
def phe (h : PH) : List Value := [.slice h.a h.n h.c]
theorem phE : Enc 1 phe := ⟨fun _ => rfl, fun x u hu => by simp only [phe, List.mem_cons, List.not_mem_nil, or_false] at hu; subst hu; rfl⟩
theorem partE : Elem 22 25 1 24 (.slice none 0 0) := ⟨Try.underlying22, by kernel_rfl, rfl, by decide, by decide⟩
/-- parts, read -/
def PartsAt (w : World) (ps : List PH) (gss : List (List IH)) (xss : List (List It.I)) : Prop :=
  ps.length = xss.length ∧ gss.length = xss.length ∧ ∀ i, i < xss.length → InI w (ps.getD i phz).a (ps.getD i phz).n (ps.getD i phz).c (gss.getD i []) (xss.getD i [])
theorem PartsAt.below {w w' : World} {B : Nat} {ps : List PH} {gss : List (List IH)} {xss : List (List It.I)} (h : PartsAt w ps gss xss) (hb : Below B w w') (hB : w.heap.size ≤ B) : PartsAt w' ps gss xss := ⟨h.1, h.2.1, fun i hi => (h.2.2 i hi).below hb hB⟩
def InP (w : World) (a : Option Addr) (n : Nat) (ps : List PH) (gss : List (List IH)) (xss : List (List It.I)) : Prop := TRow 1 phe phz w a n ps ∧ PartsAt w ps gss xss
theorem InP.below {w w' : World} {B : Nat} {a : Option Addr} {n : Nat} {ps : List PH} {gss : List (List IH)} {xss : List (List It.I)} (h : InP w a n ps gss xss) (hb : Below B w w') (hB : w.heap.size ≤ B) : InP w' a n ps gss xss := ⟨h.1.below hb hB, h.2.below hb hB⟩
theorem InP.len {w : World} {a : Option Addr} {n : Nat} {ps : List PH} {gss : List (List IH)} {xss : List (List It.I)} (h : InP w a n ps gss xss) : xss.length = n := h.2.1.symm.trans h.1.1
theorem TRow.part {w : World} {a : Option Addr} {n : Nat} {ps : List PH} (h : TRow 1 phe phz w a n ps) (hn : 0 < n) : ∃ b off, a = some ⟨b, off, none⟩ ∧ ∀ i, i < n → w.cell? ⟨b, off + i, none⟩ = some (.slice (ps.getD i phz).a (ps.getD i phz).n (ps.getD i phz).c) := by
  obtain ⟨b, off, e, hc⟩ := h.at hn
  refine ⟨b, off, e, fun i hi => ?_⟩
  have := hc i hi 0 _ rfl
  rw [Nat.mul_one, Nat.add_zero] at this
  exact this
/-- parts of the call's own; Q: how their items lie -/
def POwn (Q : World → List IH → List It.I → Prop) (w : World) (B : Nat) (ps : List PH) (gss : List (List IH)) (xss : List (List It.I)) : Prop :=
  ps.length = xss.length ∧ gss.length = xss.length ∧ ∀ i, i < xss.length → w.ownsRow B 37 8 (.slice (ps.getD i phz).a (ps.getD i phz).n (ps.getD i phz).c) (ps.getD i phz).n (tcells ih (gss.getD i [])) ∧ (ps.getD i phz).n ≤ 1000000 ∧ Q w (gss.getD i []) (xss.getD i [])
section
variable {Q : World → List IH → List It.I → Prop} {w w' : World} {B : Nat} {ps : List PH} {gss : List (List IH)} {xss : List (List It.I)}
theorem POwn.nil (Q : World → List IH → List It.I → Prop) (w : World) (B : Nat) : POwn Q w B [] [] [] := ⟨rfl, rfl, fun i hi => by simp at hi⟩
theorem POwn.below (h : POwn Q w B ps gss xss) (hb : Below w.heap.size w w') (hQ : ∀ g x, Q w g x → Q w' g x) : POwn Q w' B ps gss xss := ⟨h.1, h.2.1, fun i hi => ⟨owns_below (h.2.2 i hi).1 hb, (h.2.2 i hi).2.1, hQ _ _ (h.2.2 i hi).2.2⟩⟩
theorem POwn.grown (h : POwn Q w B ps gss xss) {B' : Nat} {t : TypeId} {z : Nat} {v : Value} {n : Nat} {vs : List Value} (hv : w.ownsRow B' t z v n vs) (he : (37 : Nat) ≠ t) (hg : w.grownBy w' v.ownBlock) (hQ : ∀ g x, Q w g x → Q w' g x) : POwn Q w' B ps gss xss :=
  ⟨h.1, h.2.1, fun i hi => ⟨(h.2.2 i hi).1.kept hg (own_apart (h.2.2 i hi).1 hv he), (h.2.2 i hi).2.1, hQ _ _ (h.2.2 i hi).2.2⟩⟩
theorem POwn.snoc (h : POwn Q w B ps gss xss) {a : Option Addr} {n c : Nat} {gs : List IH} {xs : List It.I} (hown : w.ownsRow B 37 8 (.slice a n c) n (tcells ih gs)) (hn : n ≤ 1000000) (hq : Q w gs xs) : POwn Q w B (ps ++ [⟨a, n, c⟩]) (gss ++ [gs]) (xss ++ [xs]) := by
  obtain ⟨h1, h2, h3⟩ := h
  refine ⟨by simp [h1], by simp [h2], fun i hi => ?_⟩
  rw [List.length_append, List.length_singleton] at hi
  rcases Nat.lt_or_ge i xss.length with h' | h'
  · have e1 : (ps ++ [(⟨a, n, c⟩ : PH)]).getD i phz = ps.getD i phz := by rw [List.getD_eq_getElem?_getD, List.getElem?_append_left (by omega), ← List.getD_eq_getElem?_getD]
    have e2 : (gss ++ [gs]).getD i [] = gss.getD i [] := by rw [List.getD_eq_getElem?_getD, List.getElem?_append_left (by omega), ← List.getD_eq_getElem?_getD]
    have e3 : (xss ++ [xs]).getD i [] = xss.getD i [] := by rw [List.getD_eq_getElem?_getD, List.getElem?_append_left (by omega), ← List.getD_eq_getElem?_getD]
    rw [e1, e2, e3]
    exact h3 i h'
  · obtain rfl : i = xss.length := by omega
    have e1 : (ps ++ [(⟨a, n, c⟩ : PH)]).getD xss.length phz = ⟨a, n, c⟩ := by rw [← h1]; simp
    have e2 : (gss ++ [gs]).getD xss.length [] = gs := by rw [← h2]; simp
    have e3 : (xss ++ [xs]).getD xss.length [] = xs := by simp
    rw [e1, e2, e3]
    exact ⟨hown, hn, hq⟩
theorem POwn.parts (h : POwn Q w B ps gss xss) (hQ : ∀ g x, Q w g x → ItAll w g x) : PartsAt w ps gss xss := by
  refine ⟨h.1, h.2.1, fun i hi => ?_⟩
  obtain ⟨h1, h2, h3⟩ := h.2.2 i hi
  obtain ⟨a', c', e, g1, g2⟩ := t_shape h1
  simp only [Value.slice.injEq, true_and] at e
  obtain ⟨e1, e2⟩ := e
  rw [← e1, ← e2] at g1
  rw [← e2] at g2
  exact ⟨⟨trow_of_owns ihE h1 (by omega) (by omega), hQ _ _ h3⟩, g1, g2⟩
end
theorem lit_part (w : World) (h : PH) {g : Nat} (hg : w.heap.size = g) : TRow 1 phe phz (w.alloc (.cells #[.slice h.a h.n h.c] 25)) (some ⟨g, 0, none⟩) 1 [h] := trow_lit w _ _ h hg (fun j v hj => by
  match j, hj with
  | 0, hj => exact hj
  | j + 1, hj => simp [phe] at hj)
end Go.Proofs.Ytchiilhdkbpboaa
