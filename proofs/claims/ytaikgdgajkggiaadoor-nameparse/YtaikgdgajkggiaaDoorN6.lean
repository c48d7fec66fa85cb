/- Rows of texts; the numbers of all names of a kind; appends onto rows of ints. -/
import Derived.Test.YtaikgdgajkggiaaDoorN5
import Derived.Test.YtaikgdgajkggiaaDoorU2
import Derived.Deep.RegionLawGrows
import Derived.Deep.QuietTactic
import Derived.BigQuiet
namespace Go.Proofs.YtaikgdgajkggiaaDoor
open Go.RowKit

namespace Na
/-- how many of the first k of l stay ahead of x -/
def cut (l : List Nat) (x : Nat) : Nat → Nat
  | 0 => 0
  | k + 1 => if x < l.getD k 0 then cut l x k else k + 1
def ins (l : List Nat) (x : Nat) : List Nat := l.take (cut l x l.length) ++ [x] ++ l.drop (cut l x l.length)
/-- the number of a name of a kind -/
def pick1 (kind : Int) (t : List Nat) : Option Nat := if (parse t).1 = 0 ∨ (parse t).1 ≠ kind then none else some (parse t).2.toNat
def all (ts : List (List Nat)) (kind : Int) : List Nat := (ts.filterMap (pick1 kind)).foldl ins []
theorem cut_le (l : List Nat) (x : Nat) : ∀ k, cut l x k ≤ k
  | 0 => Nat.le_refl _
  | k + 1 => by
    unfold cut
    split
    · exact Nat.le_succ_of_le (cut_le l x k)
    · exact Nat.le_refl _
theorem ins_len (l : List Nat) (x : Nat) : (ins l x).length = l.length + 1 := by
  have := cut_le l x l.length
  unfold ins
  simp only [List.length_append, List.length_take, List.length_drop, List.length_singleton]
  omega
theorem ins_mem {l : List Nat} {x y : Nat} (h : y ∈ ins l x) : y = x ∨ y ∈ l := by
  unfold ins at h
  simp only [List.mem_append, List.mem_singleton] at h
  rcases h with (h | h) | h
  · exact .inr (List.mem_of_mem_take h)
  · exact .inl h
  · exact .inr (List.mem_of_mem_drop h)
theorem all_snoc (ts : List (List Nat)) (t : List Nat) (kind : Int) : all (ts ++ [t]) kind = match pick1 kind t with | none => all ts kind | some x => ins (all ts kind) x := by
  unfold all
  rw [List.filterMap_append, List.foldl_append]
  cases h : pick1 kind t with
  | none => simp [h]
  | some x => simp [h]
theorem fold_len : ∀ (l acc : List Nat), (l.foldl ins acc).length = acc.length + l.length
  | [], acc => by simp
  | x :: l, acc => by rw [List.foldl_cons, fold_len l, ins_len, List.length_cons]; omega
theorem fold_mem : ∀ (l acc : List Nat) (y : Nat), y ∈ l.foldl ins acc → y ∈ acc ∨ y ∈ l
  | [], acc, y, h => .inl h
  | x :: l, acc, y, h => by
    rw [List.foldl_cons] at h
    rcases fold_mem l _ y h with h | h
    · rcases ins_mem h with h | h
      · exact .inr (by rw [h]; exact List.mem_cons_self)
      · exact .inl h
    · exact .inr (List.mem_cons_of_mem _ h)
theorem all_len (kind : Int) (ts : List (List Nat)) : (all ts kind).length ≤ ts.length := by
  unfold all
  rw [fold_len]
  have := List.length_filterMap_le (pick1 kind) ts
  simp only [List.length_nil]
  omega
theorem parse_num (t : List Nat) : 0 ≤ (parse t).2 ∧ (parse t).2 ≤ 2147483647 := by
  by_cases h : parse t = (0, 0)
  · rw [h]; decide
  · have := (of_parse h).1
    simp only [may, decide_eq_true_eq] at this
    rcases this with e | e | e
    · rw [e]; decide
    · rw [e]; decide
    · omega
theorem all_small (kind : Int) (ts : List (List Nat)) : ∀ x ∈ all ts kind, x ≤ 2147483647 := by
  intro x hx
  unfold all at hx
  rcases fold_mem _ _ x hx with h | h
  · cases h
  · obtain ⟨t, _, ht⟩ := List.mem_filterMap.mp h
    unfold pick1 at ht
    split at ht
    · cases ht
    · have := parse_num t
      have : (parse t).2.toNat = x := by simpa using ht
      omega
end Na

/-- a slice that reads as texts -/
def SRow (w : World) (a : Option Addr) (len : Nat) (ss : List ByteArray) : Prop :=
  ss.length = len ∧ len ≤ 1000000000000000 ∧ (len = 0 ∨ ∃ b off, a = some ⟨b, off, none⟩ ∧ ∀ i, i < len → w.cell? ⟨b, off + i, none⟩ = some (.string (ss.getD i ⟨#[]⟩)))
theorem SRow.at {w : World} {a : Option Addr} {n : Nat} {ss : List ByteArray} (h : SRow w a n ss) (hn : 0 < n) : ∃ b off, a = some ⟨b, off, none⟩ ∧ ∀ i, i < n → w.cell? ⟨b, off + i, none⟩ = some (.string (ss.getD i ⟨#[]⟩)) := by
  obtain ⟨_, _, h0 | h0⟩ := h
  · omega
  · exact h0
theorem SRow.below {w w' : World} {B : Nat} {a : Option Addr} {l : Nat} {ss : List ByteArray} (h : SRow w a l ss) (hb : Below B w w') (hB : w.heap.size ≤ B) : SRow w' a l ss := by
  obtain ⟨h1, h2, h3⟩ := h
  refine ⟨h1, h2, ?_⟩
  rcases h3 with h0 | ⟨b, off, e, hc⟩
  · exact .inl h0
  · exact .inr ⟨b, off, e, fun i hi => (hb.cell (p := ⟨b, off + i, none⟩) (Nat.lt_of_lt_of_le (cell_lt (hc i hi)) hB)).trans (hc i hi)⟩

theorem Tryd.info3 : (Tryd.prog.info? 3).map (fun i => (i.zero, i.size, i.bytes)) = some (some (.int .i64 0), 1, 8) := by kernel_rfl
theorem kcells_one (k : IntKind) (bs : List Nat) : ∀ u ∈ kcells k bs, u.oneCell' = true := by
  intro u hu
  simp only [kcells, List.mem_map] at hu
  obtain ⟨n, _, rfl⟩ := hu
  rfl
theorem own_form {w : World} {B n s : Nat} {e : TypeId} {v : Value} {xs : List Value} (h : w.ownsRow B e s v n xs) (hv : v ≠ .slice none 0 0) : ∃ g c, v = .slice (some ⟨g, 0, none⟩) n c ∧ n ≤ c := by
  rcases h.2 with ⟨e, _⟩ | ⟨g, cap, cur, e, _, _, hn, _⟩
  · exact absurd e hv
  · exact ⟨g, cap, e, hn⟩

/-- append of a row of ints onto an own one that is not nil -/
theorem append_ints {w0 w : World} {B : Nat} {ops : Array Oper} {rest : List Oper} {o : Oper} {a : Act} {Q : Exit → Act → World → Prop} (hgd : o.guard = none) (s x : Operand)
    (ho : o.op = .call { callee := .builtin .append, args := #[s, x], argTypes := #[36, 36] })
    (g0 : Addr) (n c0 : Nat) (xs : List Nat) (hs : a.eval s = .slice (some g0) n c0) (hown : w.ownsRow B 3 1 (.slice (some g0) n c0) n (kcells .i64 xs))
    (ad : Addr) (m c : Nat) (qs : List Nat) (hx : a.eval x = .slice (some ad) m c) (hq : qs.length = m) (hnews : ∀ j u, (kcells .i64 qs)[j]? = some u → w.cell? (ad.add j) = some u)
    (hnm : n + m ≤ 1000000000) (hbel : Below B w0 w) (hB : B ≤ w.heap.size)
    (h : ∀ g' c' w', n + m ≤ c' → w'.ownsRow B 3 1 (.slice (some ⟨g', 0, none⟩) (n + m) c') (n + m) (kcells .i64 (xs ++ qs)) → Below B w0 w' → B ≤ w'.heap.size → wpList Tryd.prog ops Q rest (a.put o.dst (.slice (some ⟨g', 0, none⟩) (n + m) c')) w') : wpList Tryd.prog ops Q (o :: rest) a w := by
  obtain ⟨i0, hi, hz0, hz1, hz2⟩ := info_parts Tryd.info3
  refine wpList_append_own w hgd s x 36 ho B 3 i0 _ 1 8 Tryd.underlying36 hi hz0 hz1 hz2 rfl (by decide) _ n (kcells .i64 xs) hs hown ad m c (kcells .i64 qs) hx (by rw [kcells_length]; omega) hnews (kcells_one _ qs) (by unfold maxLen; omega) (by omega) hB ?_
  intro v' w' hown' hg hnil
  obtain ⟨g', c', rfl, hc'⟩ := own_form hown' (fun e => by have := (hnil.mp e).1; cases this)
  exact h g' c' w' hc' (by rw [kcells_append]; exact hown') (hbel.grown hg hB (fun k hk => (hown.lt k hk).1)) (Nat.le_trans hB hg.size)
/-- the same at a step of a region that draws -/
theorem step_ints {w0 w : World} {B : Nat} {ops : Array Oper} {o : Oper} {a : Act} {K : Act → World → Prop} {Q : Exit → Act → World → Prop} {E : Prop} (hgd : o.guard = none) (s x : Operand)
    (ho : o.op = .call { callee := .builtin .append, args := #[s, x], argTypes := #[36, 36] })
    (g0 : Addr) (n c0 : Nat) (xs : List Nat) (hs : a.eval s = .slice (some g0) n c0) (hown : w.ownsRow B 3 1 (.slice (some g0) n c0) n (kcells .i64 xs))
    (ad : Addr) (m c : Nat) (qs : List Nat) (hx : a.eval x = .slice (some ad) m c) (hq : qs.length = m) (hnews : ∀ j u, (kcells .i64 qs)[j]? = some u → w.cell? (ad.add j) = some u)
    (hnm : n + m ≤ 1000000000) (hbel : Below B w0 w) (hB : B ≤ w.heap.size)
    (h : ∀ g' c' w', n + m ≤ c' → w'.ownsRow B 3 1 (.slice (some ⟨g', 0, none⟩) (n + m) c') (n + m) (kcells .i64 (xs ++ qs)) → Below B w0 w' → B ≤ w'.heap.size → K (a.put o.dst (.slice (some ⟨g', 0, none⟩) (n + m) c')) w') :
    if Region.wanted o (yielded ops a.tmps) = true then Oper.wp Tryd.prog o a w K Q else E := by
  have hw : Region.wanted o (yielded ops a.tmps) = true := by simp [Region.wanted, hgd]
  rw [if_pos hw]
  obtain ⟨i0, hi, hz0, hz1, hz2⟩ := info_parts Tryd.info3
  refine wp_append_own w s x 36 ho B 3 i0 _ 1 8 Tryd.underlying36 hi hz0 hz1 hz2 rfl (by decide) _ n (kcells .i64 xs) hs hown ad m c (kcells .i64 qs) hx (by rw [kcells_length]; omega) hnews (kcells_one _ qs) (by unfold maxLen; omega) (by omega) hB ?_
  intro v' w' hown' hg hnil
  obtain ⟨g', c', rfl, hc'⟩ := own_form hown' (fun e => by have := (hnil.mp e).1; cases this)
  exact h g' c' w' hc' (by rw [kcells_append]; exact hown') (hbel.grown hg hB (fun k hk => (hown.lt k hk).1)) (Nat.le_trans hB hg.size)
/-- append onto a slice of ints without room, at a step of a region that draws: a new row -/
theorem step_ifull {w : World} {ops : Array Oper} {o : Oper} {a : Act} {K : Act → World → Prop} {Q : Exit → Act → World → Prop} {E : Prop} (hgd : o.guard = none) (s x : Operand)
    (ho : o.op = .call { callee := .builtin .append, args := #[s, x], argTypes := #[36, 36] })
    (g0 : Addr) (n : Nat) (xs : List Nat) (hs : a.eval s = .slice (some g0) n n) (hl : xs.length = n) (holds : ∀ j u, (kcells .i64 xs)[j]? = some u → w.cell? (g0.add j) = some u)
    (ad : Addr) (c : Nat) (p : Nat) (hx : a.eval x = .slice (some ad) 1 c) (hnews : ∀ j u, (kcells .i64 [p])[j]? = some u → w.cell? (ad.add j) = some u) (hn : n ≤ 1000000000)
    (h : ∀ g' c' w', n + 1 ≤ c' → w'.ownsRow w.heap.size 3 1 (.slice (some ⟨g', 0, none⟩) (n + 1) c') (n + 1) (kcells .i64 (xs ++ [p])) → Below w.heap.size w w' → K (a.put o.dst (.slice (some ⟨g', 0, none⟩) (n + 1) c')) w') :
    if Region.wanted o (yielded ops a.tmps) = true then Oper.wp Tryd.prog o a w K Q else E := by
  obtain ⟨i0, hi, hz0, hz1, hz2⟩ := info_parts Tryd.info3
  refine step_append_grows hgd s x 36 ho 3 i0 _ 1 8 Tryd.underlying36 hi hz0 hz1 hz2 rfl (by decide) (some g0) n n (kcells .i64 xs) hs (fun h => by cases h) (by rw [kcells_length]; omega) (fun b hb j u hj => by cases hb; exact holds j u hj) ad 1 c (kcells .i64 [p]) hx rfl hnews (kcells_one _ [p]) (by omega) (by unfold maxLen; omega) (by omega) ?_
  intro v' w' hown' hg
  obtain ⟨g', c', rfl, hc'⟩ := own_form hown' (fun e => by subst e; have := hown'.1; rcases hown'.2 with ⟨_, h0⟩ | ⟨_, _, _, e, _⟩ <;> first | omega | cases e)
  exact h g' c' w' hc' (by rw [kcells_append]; exact hown') ((Below.refl _ _).grown hg (Nat.le_refl _) (fun k h => by cases h))
end Go.Proofs.YtaikgdgajkggiaaDoor
