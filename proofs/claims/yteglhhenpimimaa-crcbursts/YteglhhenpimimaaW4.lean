/- Rows of bytes that the law itself makes by append, and that a row reads as before where nothing below is written. -/
import Derived.Test.YteglhhenpimimaaW2
import Derived.Laws.AppendOwnNone
namespace Go.Proofs.Yteglhhenpimimaa
open Go.RowKit

/-- bytes as cells -/
def bcells (bs : List Nat) : List Value := bs.map fun n => Value.int .u8 (n : Nat)
theorem bcells_append (a b : List Nat) : bcells (a ++ b) = bcells a ++ bcells b := by simp [bcells]
theorem bcells_length (a : List Nat) : (bcells a).length = a.length := by simp [bcells]
theorem bcells_get (a : List Nat) (j : Nat) (u : Value) (h : (bcells a)[j]? = some u) : j < a.length ∧ u = .int .u8 (a.getD j 0 : Nat) := by
  simp only [bcells, List.getElem?_map] at h
  cases e : a[j]? with
  | none => rw [e] at h; simp at h
  | some x =>
    rw [e] at h; simp at h
    refine ⟨(List.getElem?_eq_some_iff.mp e).1, ?_⟩
    rw [List.getD_eq_getElem?_getD, e]; simp [← h]
theorem add_at (b off i : Nat) : Addr.add ⟨b, off, none⟩ i = ⟨b, off + i, none⟩ := by
  unfold Addr.add; split
  · simp_all
  · rfl

theorem cell_lt {w : World} {p : Addr} {v : Value} (h : w.cell? p = some v) : p.block < w.heap.size := by
  rcases Nat.lt_or_ge p.block w.heap.size with h' | h'
  · exact h'
  · simp [World.cell?, Array.getElem?_eq_none h'] at h
theorem Row.below {w w' : World} {B : Nat} {a : Option Addr} {l : Nat} {bs : List Nat} (h : Row w a l bs) (hb : Below B w w') (hB : w.heap.size ≤ B) : Row w' a l bs := by
  obtain ⟨h1, h2, h3, h4⟩ := h
  refine ⟨h1, h2, h3, ?_⟩
  rcases h4 with h0 | ⟨b, off, e, hc⟩
  · exact .inl h0
  · refine .inr ⟨b, off, e, fun i hi => ?_⟩
    have hlt := cell_lt (hc i hi)
    rw [hb.cell (p := ⟨b, off + i, none⟩) (Nat.lt_of_lt_of_le hlt hB)]
    exact hc i hi

theorem row_of_owns {w : World} {base : Nat} {v : Value} {n : Nat} {bs : List Nat} (h : w.ownsRow base 5 1 v n (bcells bs)) (hsm : ∀ x ∈ bs, x < 256) (hn : n ≤ 1000000000000000000) :
    ∃ a cap, v = .slice a n cap ∧ Row w a n bs := by
  have hl := h.1
  rw [bcells_length] at hl
  rcases h.2 with ⟨rfl, rfl⟩ | ⟨g, cap, cur, rfl, _, hh, hnc, hm, hsz, htk⟩
  · exact ⟨none, 0, rfl, by omega, hn, hsm, .inl rfl⟩
  · refine ⟨_, cap, rfl, by omega, hn, hsm, .inr ⟨g, 0, rfl, fun i hi => ?_⟩⟩
    simp only [World.cell?, hh]
    have e : cur[0 + i]? = (cur.toList.take (n * 1))[i]? := by
      rw [List.getElem?_take, if_pos (by omega)]; simp
    show (if (none : Option _).isSome then none else cur[0 + i]?) = _
    rw [if_neg (by simp), e, htk]
    simp only [bcells, List.getElem?_map, List.getD_eq_getElem?_getD]
    rw [List.getElem?_eq_getElem (by omega)]; simp

theorem Try.info5 : (Try.prog.info? 5).map (fun i => (i.zero, i.size, i.bytes)) = some (some (.int .u8 0), 1, 1) := by kernel_rfl

theorem wpList_append_row {w0 w : World} {B : Nat} {ops : Array Oper} {rest : List Oper} {o : Oper} {a : Act} {Q : Exit → Act → World → Prop} (hgd : o.guard = none) (s x : Operand)
    (ho : o.op = .call { callee := .builtin .append, args := #[s, x], argTypes := #[23, 23] })
    (v : Value) (n : Nat) (xs : List Nat) (hs : a.eval s = v) (hown : w.ownsRow B 5 1 v n (bcells xs))
    (ad : Option Addr) (m c : Nat) (bs : List Nat) (hx : a.eval x = .slice ad m c) (hrow : Row w ad m bs) (hnil : ad = none → m = 0 ∧ c = 0)
    (hnm : n + m ≤ 100000000000000) (hbel : Below B w0 w) (hB : B ≤ w.heap.size)
    (h : ∀ v' w', w'.ownsRow B 5 1 v' (n + m) (bcells (xs ++ bs)) → Below B w0 w' → B ≤ w'.heap.size → wpList Try.prog ops Q rest (a.put o.dst v') w') : wpList Try.prog ops Q (o :: rest) a w := by
  obtain ⟨i0, hi, hz0, hz1, hz2⟩ := info_parts Try.info5
  obtain ⟨h1, h2, h3, h4⟩ := hrow
  cases ad with
  | none =>
    obtain ⟨rfl, rfl⟩ := hnil rfl
    obtain rfl : bs = [] := List.length_eq_zero_iff.mp h1
    refine wpList_append_own_none hgd s x 23 ho B 5 i0 1 Try.underlying23 hi v n (bcells xs) hs hown hx ?_
    exact h v w (by simpa using hown) hbel hB
  | some ad =>
    refine wpList_append_own w hgd s x 23 ho B 5 i0 (.int .u8 0) 1 1 Try.underlying23 hi hz0 hz1 hz2 rfl (by decide) v n (bcells xs) hs hown ad m c (bcells bs) hx (by rw [bcells_length]; omega) ?_ ?_ (by unfold maxLen; omega) (by omega) hB ?_
    · intro j u hj
      obtain ⟨hlt, rfl⟩ := bcells_get bs j u hj
      rcases h4 with h0 | ⟨b, off, e, hc⟩
      · omega
      · obtain rfl : ad = ⟨b, off, none⟩ := by simpa using e
        rw [add_at]; exact hc j (by omega)
    · intro u hu
      simp only [bcells, List.mem_map] at hu
      obtain ⟨n, _, rfl⟩ := hu
      rfl
    · intro v' w' hown' hg _
      refine h v' w' (by rw [bcells_append]; exact hown') (hbel.grown hg hB (fun k hk => (hown.lt k hk).1)) (Nat.le_trans hB hg.size)
end Go.Proofs.Yteglhhenpimimaa
