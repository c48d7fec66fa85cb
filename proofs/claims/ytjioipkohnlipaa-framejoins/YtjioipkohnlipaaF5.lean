/- Frames that a call makes of its own: a row of frames, their bodies rows of their own. -/
import Derived.Test.YtjioipkohnlipaaF4
namespace Go.Proofs.Ytjioipkohnlipaa
open Go.RowKit

theorem Try.info31 : (Try.prog.info? 31).map (fun i => (i.zero, i.size, i.bytes)) = some (some (.agg #[.int .i64 0, .slice none 0 0]), 2, 32) := by kernel_rfl
theorem Try.info3 : (Try.prog.info? 3).map (fun i => (i.zero, i.size, i.bytes)) = some (some (.int .i64 0), 1, 8) := by kernel_rfl

/-- rows of different elements lie in different blocks -/
theorem own_apart {w : World} {B B' : Nat} {e e' : TypeId} {s s' : Nat} {v v' : Value} {n n' : Nat} {xs xs' : List Value} (h : w.ownsRow B e s v n xs) (h' : w.ownsRow B' e' s' v' n' xs') (hne : e ≠ e') : v.ownBlock = none ∨ v.ownBlock ≠ v'.ownBlock := by
  rcases h.2 with ⟨rfl, _⟩ | ⟨g, cap, cur, rfl, _, hg, _⟩
  · exact .inl rfl
  · rcases h'.2 with ⟨rfl, _⟩ | ⟨g', cap', cur', rfl, _, hg', _⟩
    · right; simp [Value.ownBlock]
    · right
      simp only [Value.ownBlock, ne_eq, Option.some.injEq]
      rintro rfl
      rw [hg] at hg'
      simp at hg'
      exact hne hg'.2
/-- the cells of frames, each body a row of its own -/
def Held (w : World) (B : Nat) : List Fr.F → List Value → Prop
  | [], cs => cs = []
  | f :: fs, cs => ∃ A C rest, cs = .int .i64 f.1 :: .slice A f.2.length C :: rest ∧ w.ownsRow B 5 1 (.slice A f.2.length C) f.2.length (kcells .u8 f.2) ∧ (∀ x ∈ f.2, x < 256) ∧ f.2.length ≤ 1000000000 ∧ (-9223372036854775808 ≤ f.1 ∧ f.1 ≤ 9223372036854775807) ∧ Held w B fs rest
theorem Held.length {w : World} {B : Nat} : ∀ {fs : List Fr.F} {cs : List Value}, Held w B fs cs → cs.length = fs.length * 2 := by
  intro fs
  induction fs with
  | nil => intro cs h; rw [show cs = [] from h]; rfl
  | cons f fs ih => rintro cs ⟨A, C, rest, rfl, _, _, _, _, h⟩; simp [ih h]; omega
theorem Held.snoc {w : World} {B : Nat} {f : Fr.F} {A : Option Addr} {C : Nat} (hf : w.ownsRow B 5 1 (.slice A f.2.length C) f.2.length (kcells .u8 f.2)) (hs : ∀ x ∈ f.2, x < 256) (hl : f.2.length ≤ 1000000000) (hk : -9223372036854775808 ≤ f.1 ∧ f.1 ≤ 9223372036854775807) :
    ∀ {fs : List Fr.F} {cs : List Value}, Held w B fs cs → Held w B (fs ++ [f]) (cs ++ [.int .i64 f.1, .slice A f.2.length C]) := by
  intro fs
  induction fs with
  | nil => intro cs h; rw [show cs = [] from h]; exact ⟨A, C, [], rfl, hf, hs, hl, hk, rfl⟩
  | cons g fs ih => rintro cs ⟨A', C', rest, rfl, h1, h2, h3, h4, h5⟩; exact ⟨A', C', _, rfl, h1, h2, h3, h4, ih h5⟩
theorem Held.below {w w' : World} {B : Nat} (hb : Below w.heap.size w w') : ∀ {fs : List Fr.F} {cs : List Value}, Held w B fs cs → Held w' B fs cs := by
  intro fs
  induction fs with
  | nil => intro cs h; exact h
  | cons f fs ih => rintro cs ⟨A, C, rest, rfl, h1, h2, h3, h4, h5⟩; exact ⟨A, C, rest, rfl, owns_below h1 hb, h2, h3, h4, ih h5⟩
theorem Held.grown {w w' : World} {B B' : Nat} {e : TypeId} {s : Nat} {v : Value} {n : Nat} {xs : List Value} (hv : w.ownsRow B' e s v n xs) (he : (5 : Nat) ≠ e) (hg : w.grownBy w' v.ownBlock) : ∀ {fs : List Fr.F} {cs : List Value}, Held w B fs cs → Held w' B fs cs := by
  intro fs
  induction fs with
  | nil => intro cs h; exact h
  | cons f fs ih => rintro cs ⟨A, C, rest, rfl, h1, h2, h3, h4, h5⟩; exact ⟨A, C, rest, rfl, h1.kept hg (own_apart h1 hv he), h2, h3, h4, ih h5⟩
theorem Held.get {w : World} {B : Nat} : ∀ {fs : List Fr.F} {cs : List Value}, Held w B fs cs → ∀ i, i < fs.length → ∃ A C, cs[i * 2]? = some (.int .i64 (fs.getD i (0, [])).1) ∧ cs[i * 2 + 1]? = some (.slice A (fs.getD i (0, [])).2.length C) ∧
    w.ownsRow B 5 1 (.slice A (fs.getD i (0, [])).2.length C) (fs.getD i (0, [])).2.length (kcells .u8 (fs.getD i (0, [])).2) ∧ (∀ x ∈ (fs.getD i (0, [])).2, x < 256) ∧ (fs.getD i (0, [])).2.length ≤ 1000000000 ∧ (-9223372036854775808 ≤ (fs.getD i (0, [])).1 ∧ (fs.getD i (0, [])).1 ≤ 9223372036854775807) := by
  intro fs
  induction fs with
  | nil => intro cs h i hi; simp at hi
  | cons f fs ih =>
    rintro cs ⟨A, C, rest, rfl, h1, h2, h3, h4, h5⟩ i hi
    cases i with
    | zero => exact ⟨A, C, rfl, rfl, h1, h2, h3, h4⟩
    | succ i =>
      obtain ⟨A', C', q1, q2, q3⟩ := ih h5 i (by simpa using hi)
      refine ⟨A', C', ?_, ?_, q3⟩
      · rw [show (i + 1) * 2 = i * 2 + 1 + 1 by omega]; simpa using q1
      · rw [show (i + 1) * 2 + 1 = i * 2 + 1 + 1 + 1 by omega]; simpa using q2
theorem frow_of_owns {w : World} {B B' : Nat} {a : Option Addr} {n cap : Nat} {fs : List Fr.F} {cs : List Value} (h : w.ownsRow B 31 2 (.slice a n cap) n cs) (hh : Held w B' fs cs) (hn : n ≤ 1000000000) : FRow w a n fs ∧ fs.length = n ∧ Shape a n cap := by
  have hl := h.1
  rw [hh.length] at hl
  have hfn : fs.length = n := by omega
  rcases h.2 with ⟨e, rfl⟩ | ⟨g, cap', cur, e, _, hg, hnc, hm, hsz, htk⟩
  · simp only [Value.slice.injEq] at e
    obtain ⟨rfl, _, rfl⟩ := e
    exact ⟨⟨hfn, by omega, .inl rfl⟩, hfn, .inl ⟨rfl, rfl⟩⟩
  · simp only [Value.slice.injEq] at e
    obtain ⟨rfl, _, rfl⟩ := e
    refine ⟨⟨hfn, by omega, .inr ⟨g, 0, rfl, fun i hi => ?_⟩⟩, hfn, .inr ⟨g, 0, rfl, hnc⟩⟩
    obtain ⟨A, C, q1, q2, q3, q4, q5, q6⟩ := hh.get i (by omega)
    have hc : ∀ j, j < n * 2 → w.cell? ⟨g, j, none⟩ = cs[j]? := by
      intro j hj
      simp only [World.cell?, hg]
      show (if (none : Option _).isSome then none else cur[j]?) = _
      rw [if_neg (by simp), ← htk, List.getElem?_take, if_pos hj]; simp
    obtain ⟨r1, r2, r3⟩ := row_of_owns q3 q4 (by omega)
    refine ⟨A, _, C, ?_, ?_, r1, ?_, r2, q6⟩
    · rw [Nat.zero_add, hc _ (by omega)]; exact q1
    · rw [Nat.zero_add, hc _ (by omega)]; exact q2
    · rcases q3.2 with ⟨e, h0⟩ | ⟨g', cap'', cur', e, _, _, hnc', _⟩
      · simp only [Value.slice.injEq] at e
        exact .inl ⟨h0, e.2.2⟩
      · simp only [Value.slice.injEq] at e
        obtain ⟨rfl, _, rfl⟩ := e
        exact .inr ⟨g', 0, rfl, hnc'⟩
end Go.Proofs.Ytjioipkohnlipaa
