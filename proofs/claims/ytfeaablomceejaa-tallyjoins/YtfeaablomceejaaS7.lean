/- Rows of points that a call makes of its own: what append does to them. -/
import Derived.Test.YtfeaablomceejaaS4
import Derived.Deep.RegionLawGrows
namespace Go.Proofs.Ytfeaablomceejaa
open Go.RowKit

def POrdRes (w : World) (qs : List Po.P) (e : Ending) (w' : World) : Prop :=
  ∃ a' c', e = .returned (.slice a' qs.length c') ∧ w'.ownsRow w.heap.size 41 4 (.slice a' qs.length c') qs.length (pcells qs) ∧ Below w.heap.size w w'
theorem own_some {w : World} {B n s : Nat} {e : TypeId} {v : Value} {xs : List Value} (h : w.ownsRow B e s v n xs) (hv : v ≠ .slice none 0 0) : ∃ g c, v = .slice (some ⟨g, 0, none⟩) n c ∧ n ≤ c := by
  rcases h.2 with ⟨e, _⟩ | ⟨g, cap, cur, e, _, _, hnc, _⟩
  · exact absurd e hv
  · exact ⟨g, cap, e, hnc⟩
theorem own_pos {w : World} {B n s : Nat} {e : TypeId} {v : Value} {xs : List Value} (h : w.ownsRow B e s v n xs) (hn : 0 < n) : ∃ g c, v = .slice (some ⟨g, 0, none⟩) n c ∧ n ≤ c := by
  refine own_some h ?_
  rintro rfl
  rcases h.2 with ⟨_, h0⟩ | ⟨g, cap, cur, e, _⟩
  · omega
  · cases e
theorem below_grown {w w' : World} (h : w.grownBy w' none) : Below w.heap.size w w' := (Below.refl _ _).grown h (Nat.le_refl _) (fun k h => by cases h)

/-- append: points behind an own row of points that is not nil -/
theorem append_pts {w0 w : World} {B : Nat} {ops : Array Oper} {rest : List Oper} {o : Oper} {a : Act} {Q : Exit → Act → World → Prop} (hgd : o.guard = none) (s x : Operand)
    (ho : o.op = .call { callee := .builtin .append, args := #[s, x], argTypes := #[23, 23] })
    (g0 : Addr) (n c0 : Nat) (xs : List Po.P) (hs : a.eval s = .slice (some g0) n c0) (hown : w.ownsRow B 41 4 (.slice (some g0) n c0) n (pcells xs))
    (ad : Addr) (m c : Nat) (qs : List Po.P) (hx : a.eval x = .slice (some ad) m c) (hq : qs.length = m) (hnews : ∀ j u, (pcells qs)[j]? = some u → w.cell? (ad.add j) = some u)
    (hnm : n + m ≤ 1000000000) (hbel : Below B w0 w) (hB : B ≤ w.heap.size)
    (h : ∀ g' c' w', n + m ≤ c' → w'.ownsRow B 41 4 (.slice (some ⟨g', 0, none⟩) (n + m) c') (n + m) (pcells (xs ++ qs)) → Below B w0 w' → B ≤ w'.heap.size → wpList Try.prog ops Q rest (a.put o.dst (.slice (some ⟨g', 0, none⟩) (n + m) c')) w') : wpList Try.prog ops Q (o :: rest) a w := by
  obtain ⟨i0, hi, hz0, hz1, hz2⟩ := info_parts Try.info41
  refine wpList_append_own w hgd s x 23 ho B 41 i0 _ 4 32 Try.underlying23 hi hz0 hz1 hz2 rfl (by decide) _ n (pcells xs) hs hown ad m c (pcells qs) hx (by rw [pcells_length, hq]) hnews (pcells_one qs) (by unfold maxLen; omega) (by omega) hB ?_
  intro v' w' hown' hg hnil
  obtain ⟨g', c', rfl, hc'⟩ := own_some hown' (fun e => by have := (hnil.mp e).1; cases this)
  exact h g' c' w' hc' (by rw [pcells_append]; exact hown') (hbel.grown hg hB (fun k hk => (hown.lt k hk).1)) (Nat.le_trans hB hg.size)
/-- the same at a step of a region that draws -/
theorem step_pts {w0 w : World} {B : Nat} {ops : Array Oper} {o : Oper} {a : Act} {K : Act → World → Prop} {Q : Exit → Act → World → Prop} {E : Prop} (hgd : o.guard = none) (s x : Operand)
    (ho : o.op = .call { callee := .builtin .append, args := #[s, x], argTypes := #[23, 23] })
    (g0 : Addr) (n c0 : Nat) (xs : List Po.P) (hs : a.eval s = .slice (some g0) n c0) (hown : w.ownsRow B 41 4 (.slice (some g0) n c0) n (pcells xs))
    (ad : Addr) (m c : Nat) (qs : List Po.P) (hx : a.eval x = .slice (some ad) m c) (hq : qs.length = m) (hnews : ∀ j u, (pcells qs)[j]? = some u → w.cell? (ad.add j) = some u)
    (hnm : n + m ≤ 1000000000) (hbel : Below B w0 w) (hB : B ≤ w.heap.size)
    (h : ∀ g' c' w', n + m ≤ c' → w'.ownsRow B 41 4 (.slice (some ⟨g', 0, none⟩) (n + m) c') (n + m) (pcells (xs ++ qs)) → Below B w0 w' → B ≤ w'.heap.size → K (a.put o.dst (.slice (some ⟨g', 0, none⟩) (n + m) c')) w') :
    if Region.wanted o (yielded ops a.tmps) = true then Oper.wp Try.prog o a w K Q else E := by
  have hw : Region.wanted o (yielded ops a.tmps) = true := by simp [Region.wanted, hgd]
  rw [if_pos hw]
  obtain ⟨i0, hi, hz0, hz1, hz2⟩ := info_parts Try.info41
  refine wp_append_own w s x 23 ho B 41 i0 _ 4 32 Try.underlying23 hi hz0 hz1 hz2 rfl (by decide) _ n (pcells xs) hs hown ad m c (pcells qs) hx (by rw [pcells_length, hq]) hnews (pcells_one qs) (by unfold maxLen; omega) (by omega) hB ?_
  intro v' w' hown' hg hnil
  obtain ⟨g', c', rfl, hc'⟩ := own_some hown' (fun e => by have := (hnil.mp e).1; cases this)
  exact h g' c' w' hc' (by rw [pcells_append]; exact hown') (hbel.grown hg hB (fun k hk => (hown.lt k hk).1)) (Nat.le_trans hB hg.size)
/-- append onto a slice without room, at a step of a region that draws: a new row -/
theorem step_ptfull {w : World} {ops : Array Oper} {o : Oper} {a : Act} {K : Act → World → Prop} {Q : Exit → Act → World → Prop} {E : Prop} (hgd : o.guard = none) (s x : Operand)
    (ho : o.op = .call { callee := .builtin .append, args := #[s, x], argTypes := #[23, 23] })
    (g0 : Addr) (n : Nat) (xs : List Po.P) (hs : a.eval s = .slice (some g0) n n) (hl : xs.length = n) (holds : ∀ j u, (pcells xs)[j]? = some u → w.cell? (g0.add j) = some u)
    (ad : Addr) (c : Nat) (p : Po.P) (hx : a.eval x = .slice (some ad) 1 c) (hnews : ∀ j u, (pcells [p])[j]? = some u → w.cell? (ad.add j) = some u) (hn : n ≤ 1000000000)
    (h : ∀ g' c' w', n + 1 ≤ c' → w'.ownsRow w.heap.size 41 4 (.slice (some ⟨g', 0, none⟩) (n + 1) c') (n + 1) (pcells (xs ++ [p])) → Below w.heap.size w w' → K (a.put o.dst (.slice (some ⟨g', 0, none⟩) (n + 1) c')) w') :
    if Region.wanted o (yielded ops a.tmps) = true then Oper.wp Try.prog o a w K Q else E := by
  obtain ⟨i0, hi, hz0, hz1, hz2⟩ := info_parts Try.info41
  refine step_append_grows hgd s x 23 ho 41 i0 _ 4 32 Try.underlying23 hi hz0 hz1 hz2 rfl (by decide) (some g0) n n (pcells xs) hs (fun h => by cases h) (by rw [pcells_length, hl]) (fun b hb j u hj => by cases hb; exact holds j u hj) ad 1 c (pcells [p]) hx rfl hnews (pcells_one [p]) (by omega) (by unfold maxLen; omega) (by omega) ?_
  intro v' w' hown' hg
  obtain ⟨g', c', rfl, hc'⟩ := own_pos hown' (by omega)
  exact h g' c' w' hc' (by rw [pcells_append]; exact hown') (below_grown hg)
end Go.Proofs.Ytfeaablomceejaa
