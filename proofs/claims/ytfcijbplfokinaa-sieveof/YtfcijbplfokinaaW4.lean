/- Rows that a call makes of its own; what append does to them; what the reference's One does. -/
import Derived.Test.YtfcijbplfokinaaW3
import Derived.Laws.AppendOwnNone
import Derived.Deep.AppendLies
import Derived.Deep.Onto
namespace Go.Proofs.Ytfcijbplfokinaa
open Go.RowKit

/-- numbers as cells -/
def kcells (k : IntKind) (bs : List Nat) : List Value := bs.map fun n => Value.int k (n : Nat)
theorem kcells_append (k : IntKind) (a b : List Nat) : kcells k (a ++ b) = kcells k a ++ kcells k b := by simp [kcells]
theorem kcells_length (k : IntKind) (a : List Nat) : (kcells k a).length = a.length := by simp [kcells]
theorem kcells_get (k : IntKind) (a : List Nat) (j : Nat) (u : Value) (h : (kcells k a)[j]? = some u) : j < a.length ∧ u = .int k (a.getD j 0 : Nat) := by
  simp only [kcells, List.getElem?_map] at h
  cases e : a[j]? with
  | none => rw [e] at h; simp at h
  | some x =>
    rw [e] at h; simp at h
    refine ⟨(List.getElem?_eq_some_iff.mp e).1, ?_⟩
    rw [List.getD_eq_getElem?_getD, e]; simp [← h]
theorem add_at (b off i : Nat) : Addr.add ⟨b, off, none⟩ i = ⟨b, off + i, none⟩ := by
  unfold Addr.add; split
  · simp_all
  · rfl
theorem cell_lt {w : World} {p : Addr} {v : Value} (h : w.cell? p = some v) : p.block < w.heap.size := by
  rcases Nat.lt_or_ge p.block w.heap.size with h' | h'
  · exact h'
  · simp [World.cell?, Array.getElem?_eq_none h'] at h
theorem Row.below {k : IntKind} {w w' : World} {B : Nat} {a : Option Addr} {l : Nat} {bs : List Nat} (h : Row k w a l bs) (hb : Below B w w') (hB : w.heap.size ≤ B) : Row k w' a l bs := by
  obtain ⟨h1, h2, h3, h4⟩ := h
  refine ⟨h1, h2, h3, ?_⟩
  rcases h4 with h0 | ⟨b, off, e, hc⟩
  · exact .inl h0
  · refine .inr ⟨b, off, e, fun i hi => ?_⟩
    have hlt := cell_lt (hc i hi)
    rw [hb.cell (p := ⟨b, off + i, none⟩) (Nat.lt_of_lt_of_le hlt hB)]
    exact hc i hi
theorem below_drewN (B : Nat) (w : World) (n : Nat) : Below B w (w.drewN n) := ⟨rfl, rfl, rfl, Nat.le_refl _, fun _ _ => rfl⟩
theorem owns_below {w w' : World} {B e size n : Nat} {v : Value} {xs : List Value} (h : w.ownsRow B e size v n xs) (hb : Below w.heap.size w w') : w'.ownsRow B e size v n xs := by
  refine ⟨h.1, ?_⟩
  rcases h.2 with hn | ⟨g, cap, cur, rfl, hg, hgg, rest⟩
  · exact .inl hn
  · exact .inr ⟨g, cap, cur, rfl, hg, by rw [hb.block g (Array.getElem?_eq_some_iff.1 hgg).1]; exact hgg, rest⟩
theorem owns_lit (w : World) (base : Nat) (e : TypeId) (cs : List Value) (n : Nat) (hn : n = cs.length) (hb : base ≤ w.heap.size) (hm : n ≤ 1000) :
    (w.alloc (.cells cs.toArray e)).ownsRow base e 1 (.slice (some ⟨w.heap.size, 0, none⟩) n n) n cs :=
  ⟨by omega, .inr ⟨w.heap.size, n, cs.toArray, rfl, hb, heap_alloc_new w _, Nat.le_refl _, by unfold maxLen; omega, by simp; omega, by simp [hn]⟩⟩

theorem row_of_owns {k : IntKind} {w : World} {base : Nat} {e : TypeId} {a : Option Addr} {n cap : Nat} {bs : List Nat} (h : w.ownsRow base e 1 (.slice a n cap) n (kcells k bs)) (hsm : ∀ x ∈ bs, x < lim k) (hn : n ≤ 1000000000000000000) :
    Row k w a n bs ∧ (a = none → n = 0 ∧ cap = 0) ∧ n ≤ cap := by
  have hl := h.1
  rw [kcells_length] at hl
  rcases h.2 with ⟨e, rfl⟩ | ⟨g, cap, cur, e, _, hh, hnc, hm, hsz, htk⟩
  · simp only [Value.slice.injEq] at e
    obtain ⟨rfl, _, rfl⟩ := e
    exact ⟨⟨by omega, hn, hsm, .inl rfl⟩, fun _ => ⟨rfl, rfl⟩, by omega⟩
  · simp only [Value.slice.injEq] at e
    obtain ⟨rfl, _, rfl⟩ := e
    refine ⟨⟨by omega, hn, hsm, .inr ⟨g, 0, rfl, fun i hi => ?_⟩⟩, (fun h => by cases h), hnc⟩
    simp only [World.cell?, hh]
    have e : cur[0 + i]? = (cur.toList.take (n * 1))[i]? := by
      rw [List.getElem?_take, if_pos (by omega)]; simp
    show (if (none : Option _).isSome then none else cur[0 + i]?) = _
    rw [if_neg (by simp), e, htk]
    simp only [kcells, List.getElem?_map, List.getD_eq_getElem?_getD]
    rw [List.getElem?_eq_getElem (by omega)]; simp
theorem slice_of_owns {w : World} {base : Nat} {e : TypeId} {v : Value} {n : Nat} {xs : List Value} (h : w.ownsRow base e 1 v n xs) : ∃ a cap, v = .slice a n cap := by
  rcases h.2 with ⟨rfl, rfl⟩ | ⟨g, cap, cur, rfl, _⟩
  · exact ⟨_, _, rfl⟩
  · exact ⟨_, _, rfl⟩
theorem row_new (k : IntKind) (w : World) (e : TypeId) (x : Nat) (hx : x < lim k) : Row k (w.alloc (.cells #[.int k (x : Nat)] e)) (some ⟨w.heap.size, 0, none⟩) 1 [x] := by
  refine ⟨rfl, by omega, by simpa using hx, .inr ⟨_, _, rfl, fun i hi => ?_⟩⟩
  obtain rfl : i = 0 := by omega
  have : (w.alloc (.cells #[.int k (x : Nat)] e)).heap[w.heap.size]? = some (.cells #[.int k (x : Nat)] e) := heap_alloc_new w _
  simp only [World.cell?, this]
  rfl

theorem Try.info5 : (Try.prog.info? 5).map (fun i => (i.zero, i.size, i.bytes)) = some (some (.int .u8 0), 1, 1) := by kernel_rfl

theorem Try.info35 : (Try.prog.info? 35).map (fun i => (i.zero, i.size, i.bytes)) = some (some (.int .u64 0), 1, 8) := by kernel_rfl

theorem append_u8 {w0 w : World} {B : Nat} {ops : Array Oper} {rest : List Oper} {o : Oper} {a : Act} {Q : Exit → Act → World → Prop} (hgd : o.guard = none) (s x : Operand)
    (ho : o.op = .call { callee := .builtin .append, args := #[s, x], argTypes := #[29, 29] })
    (v : Value) (n : Nat) (xs : List Nat) (hs : a.eval s = v) (hown : w.ownsRow B 5 1 v n (kcells .u8 xs))
    (ad : Option Addr) (m c : Nat) (bs : List Nat) (hx : a.eval x = .slice ad m c) (hrow : Row .u8 w ad m bs) (hnil : ad = none → m = 0 ∧ c = 0)
    (hnm : n + m ≤ 1000000000000) (hbel : Below B w0 w) (hB : B ≤ w.heap.size)
    (h : ∀ a' c' w', w'.ownsRow B 5 1 (.slice a' (n + m) c') (n + m) (kcells .u8 (xs ++ bs)) → Below B w0 w' → B ≤ w'.heap.size → wpList Try.prog ops Q rest (a.put o.dst (.slice a' (n + m) c')) w') : wpList Try.prog ops Q (o :: rest) a w := by
  obtain ⟨i0, hi, hz0, hz1, hz2⟩ := info_parts Try.info5
  obtain ⟨h1, h2, h3, h4⟩ := hrow
  cases ad with
  | none =>
    obtain ⟨rfl, rfl⟩ := hnil rfl
    obtain rfl : bs = [] := List.length_eq_zero_iff.mp h1
    refine wpList_append_own_none hgd s x 29 ho B 5 i0 1 Try.underlying29 hi v n (kcells .u8 xs) hs hown hx ?_
    obtain ⟨a', c', rfl⟩ := slice_of_owns hown
    exact h a' c' w (by simpa using hown) hbel hB
  | some ad =>
    refine wpList_append_own w hgd s x 29 ho B 5 i0 (.int .u8 0) 1 1 Try.underlying29 hi hz0 hz1 hz2 rfl (by decide) v n (kcells .u8 xs) hs hown ad m c (kcells .u8 bs) hx (by rw [kcells_length]; omega) ?_ ?_ (by unfold maxLen; omega) (by omega) hB ?_
    · intro j u hj
      obtain ⟨hlt, rfl⟩ := kcells_get .u8 bs j u hj
      rcases h4 with h0 | ⟨b, off, e, hc⟩
      · omega
      · obtain rfl : ad = ⟨b, off, none⟩ := by simpa using e
        rw [add_at]; exact hc j (by omega)
    · intro u hu
      simp only [kcells, List.mem_map] at hu
      obtain ⟨n, _, rfl⟩ := hu
      rfl
    · intro v' w' hown' hg _
      obtain ⟨a', c', rfl⟩ := slice_of_owns hown'
      refine h a' c' w' (by rw [kcells_append]; exact hown') (hbel.grown hg hB (fun k hk => (hown.lt k hk).1)) (Nat.le_trans hB hg.size)

/-- what a call that makes a row tells: the row is its own, what was there is as it was -/
def Made (k : IntKind) (e : TypeId) (w : World) (bs : List Nat) (en : Ending) (w' : World) : Prop :=
  ∃ a c, en = .returned (.slice a bs.length c) ∧ w'.ownsRow w.heap.size e 1 (.slice a bs.length c) bs.length (kcells k bs) ∧ Below w.heap.size w w'

end Go.Proofs.Ytfcijbplfokinaa
