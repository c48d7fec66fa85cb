/- Worlds, blocks and rows: what every layer's walks want. -/
import Derived.Test.YtgdefibgifcbaaaWa
import Derived.Test.YtgdefibgifcbaaaMa
import Derived.Deep.AppendLies
import Derived.Deep.Onto
import Derived.Deep.RegionHeld3
import Derived.Lib.SmallJoins
import Derived.Maps.AppendAt
import Derived.Laws.AppendOwnNone
import Derived.Deep.RegionLawGrows
import Derived.WalkKit
import Derived.Laws.Closers25
import Derived.Laws.BytesArg
import Derived.Lib.Strings
import Derived.Laws.IdiomStrings
namespace Go.Proofs.Ytgdefibgifcbaaa
open Go.RowKit

theorem row_newz (k : IntKind) (w : World) (e : TypeId) (z : Int) (x : Nat) (hz : z = (x : Nat)) (hx : x < lim k) : Row k (w.alloc (.cells #[.int k z] e)) (some ⟨w.heap.size, 0, none⟩) 1 [x] := hz ▸ row_new k w e x hx

theorem cell_new (w : World) (cs : Array Value) (e : TypeId) (i : Nat) : (w.alloc (.cells cs e)).cell? ⟨w.heap.size, i, none⟩ = cs[i]? := by
  have : (w.alloc (.cells cs e)).heap[w.heap.size]? = some (.cells cs e) := heap_alloc_new w _
  simp only [World.cell?, this]
  rfl

theorem own_ne {w : World} {base : Nat} {e : TypeId} {size : Nat} {v : Value} {n : Nat} {xs : List Value} (h : w.ownsRow base e size v n xs) {k : Nat} (hk : k < base) : some k ≠ v.ownBlock := by
  intro e
  have := (h.lt k e.symm).1
  omega

theorem grown_cell {w w' : World} {row : Option Nat} (hg : w.grownBy w' row) {p : Addr} (hp : p.block < w.heap.size) (hne : some p.block ≠ row) : w'.cell? p = w.cell? p := World.cell?_of_block (w := w) (hg.block p.block hp hne)

theorem cell_past (w : World) (o : Obj) (p : Addr) (h : p.block < w.heap.size) : (w.alloc o).cell? p = w.cell? p := World.cell?_of_block (w := w) (Below.heap_alloc w o p.block h)

theorem row_inz {k : IntKind} {w : World} {e : TypeId} {b : Nat} (z : Int) (x : Nat) (hz : z = (x : Nat)) (hx : x < lim k) (h : w.heap[b]? = some (.cells #[.int k z] e (0, 0))) : Row k w (some ⟨b, 0, none⟩) 1 [x] := by
  subst hz
  refine ⟨rfl, by omega, by simpa using hx, .inr ⟨_, _, rfl, fun i hi => ?_⟩⟩
  obtain rfl : i = 0 := by omega
  simp only [World.cell?, h]
  rfl

theorem le4_take (s j : Nat) (hj : j < 4) : (Fr.le4 s).take (j + 1) = (Fr.le4 s).take j ++ [s / 256 ^ j % 256] := by
  match j, hj with
  | 0, _ | 1, _ | 2, _ | 3, _ => simp [Fr.le4]

theorem div_step (s j : Nat) : s / 256 ^ j / 256 = s / 256 ^ (j + 1) := by rw [Nat.div_div_eq_div_mul, ← Nat.pow_succ]

theorem append_u8g {w0 w : World} {B : Nat} {ops : Array Oper} {rest : List Oper} {o : Oper} {a : Act} {Q : Exit → Act → World → Prop} (hgd : o.guard = none) (s x : Operand)
    (ho : o.op = .call { callee := .builtin .append, args := #[s, x], argTypes := #[23, 23] })
    (v : Value) (n : Nat) (xs : List Nat) (hs : a.eval s = v) (hown : w.ownsRow B 5 1 v n (kcells .u8 xs))
    (ad : Option Addr) (m c : Nat) (bs : List Nat) (hx : a.eval x = .slice ad m c) (hrow : Row .u8 w ad m bs) (hnil : ad = none → m = 0 ∧ c = 0)
    (hnm : n + m ≤ 1000000000000) (hbel : Below B w0 w) (hB : B ≤ w.heap.size)
    (h : ∀ a' c' w', w'.ownsRow B 5 1 (.slice a' (n + m) c') (n + m) (kcells .u8 (xs ++ bs)) → Below B w0 w' → B ≤ w'.heap.size → w.grownBy w' v.ownBlock → wpList Try.prog ops Q rest (a.put o.dst (.slice a' (n + m) c')) w') : wpList Try.prog ops Q (o :: rest) a w := by
  obtain ⟨i0, hi, hz0, hz1, hz2⟩ := info_parts Try.info5
  obtain ⟨h1, h2, h3, h4⟩ := hrow
  cases ad with
  | none =>
    obtain ⟨rfl, rfl⟩ := hnil rfl
    obtain rfl : bs = [] := List.length_eq_zero_iff.mp h1
    refine wpList_append_own_none hgd s x 23 ho B 5 i0 1 Try.underlying23 hi v n (kcells .u8 xs) hs hown hx ?_
    obtain ⟨a', c', rfl⟩ := slice_of_owns hown
    exact h a' c' w (by simpa using hown) hbel hB ⟨rfl, rfl, rfl, Nat.le_refl _, fun _ _ _ => rfl⟩
  | some ad =>
    refine wpList_append_own w hgd s x 23 ho B 5 i0 (.int .u8 0) 1 1 Try.underlying23 hi hz0 hz1 hz2 rfl (by decide) v n (kcells .u8 xs) hs hown ad m c (kcells .u8 bs) hx (by rw [kcells_length]; omega) ?_ ?_ (by unfold maxLen; omega) (by omega) hB ?_
    · intro j u hj
      obtain ⟨hlt, rfl⟩ := kcells_get .u8 bs j u hj
      rcases h4 with h0 | ⟨b, off, e, hc⟩
      · omega
      · obtain rfl : ad = ⟨b, off, none⟩ := by simpa using e
        rw [add_at]; exact hc j (by omega)
    · intro u hu
      simp only [kcells, List.mem_map] at hu
      obtain ⟨n, _, rfl⟩ := hu
      rfl
    · intro v' w' hown' hg _
      obtain ⟨a', c', rfl⟩ := slice_of_owns hown'
      refine h a' c' w' (by rw [kcells_append]; exact hown') (hbel.grown hg hB (fun k hk => (hown.lt k hk).1)) (Nat.le_trans hB hg.size) hg

/-- append at a step of a region that draws: a row of bytes behind an own one -/
theorem step_u8 {w0 w : World} {B : Nat} {ops : Array Oper} {o : Oper} {a : Act} {K : Act → World → Prop} {Q : Exit → Act → World → Prop} {E : Prop} (hgd : o.guard = none) (s x : Operand)
    (ho : o.op = .call { callee := .builtin .append, args := #[s, x], argTypes := #[23, 23] })
    (v : Value) (n : Nat) (xs : List Nat) (hs : a.eval s = v) (hown : w.ownsRow B 5 1 v n (kcells .u8 xs))
    (ad : Addr) (m c : Nat) (bs : List Nat) (hx : a.eval x = .slice (some ad) m c) (hrow : Row .u8 w (some ad) m bs) (hm : 0 < m)
    (hnm : n + m ≤ 1000000000000) (hbel : Below B w0 w) (hB : B ≤ w.heap.size)
    (h : ∀ a' c' w', w'.ownsRow B 5 1 (.slice a' (n + m) c') (n + m) (kcells .u8 (xs ++ bs)) → Below B w0 w' → B ≤ w'.heap.size → w.grownBy w' v.ownBlock → K (a.put o.dst (.slice a' (n + m) c')) w') :
    if Region.wanted o (yielded ops a.tmps) = true then Oper.wp Try.prog o a w K Q else E := by
  obtain ⟨i0, hi, hz0, hz1, hz2⟩ := info_parts Try.info5
  obtain ⟨h1, h2, h3, h4⟩ := hrow
  refine step_append_lies w hgd s x 23 ho B 5 i0 (.int .u8 0) 1 1 Try.underlying23 hi hz0 hz1 hz2 rfl (by decide) v n (kcells .u8 xs) hs hown ad m c (kcells .u8 bs) hx (by rw [kcells_length]; omega) ?_ ?_ hm (by unfold maxLen; omega) (by omega) hB w.heap.size rfl ?_
  · intro j u hj
    obtain ⟨hlt, rfl⟩ := kcells_get .u8 bs j u hj
    rcases h4 with h0 | ⟨b, off, e, hc⟩
    · omega
    · obtain rfl : ad = ⟨b, off, none⟩ := by simpa using e
      rw [add_at]; exact hc j (by omega)
  · intro u hu
    simp only [kcells, List.mem_map] at hu
    obtain ⟨n, _, rfl⟩ := hu
    rfl
  · intro g cap w' hown' hg _ _
    exact h _ _ w' (by rw [kcells_append]; exact hown') (hbel.grown hg hB (fun k hk => (hown.lt k hk).1)) (Nat.le_trans hB hg.size) hg

theorem ret_bool {a b : Bool} (h : a = b) : Ending.returned (.bool a) = .returned (.bool b) := by rw [h]

theorem bcell {W w1 : World} (hb : Below W.heap.size W w1) : (∀ b o, b < W.heap.size → w1.cell? ⟨b, o, none⟩ = W.cell? ⟨b, o, none⟩) ∧ (∀ b o, b < W.heap.size → w1.frozen? ⟨b, o, none⟩ = W.frozen? ⟨b, o, none⟩) :=
  ⟨fun b o h => hb.cell (p := ⟨b, o, none⟩) h, fun b o h => hb.frozen (p := ⟨b, o, none⟩) h⟩

theorem made_at (w : World) (e : TypeId) (base : Nat) {b : Nat} (hb : w.heap.size = b) (hB : base ≤ b) : (w.alloc (.cells #[] e)).ownsRow base e 1 (.slice (some ⟨b, 0, none⟩) 0 0) 0 (kcells .u8 []) := by
  subst hb
  exact World.ownsRow_made (base := base) (e := e) (size := 1) w #[] 0 hB (by decide) (by simp)

theorem Row.cell {k : IntKind} {w : World} {b off n : Nat} {bs : List Nat} (h : Row k w (some ⟨b, off, none⟩) n bs) (i : Nat) (hi : i < n) : w.cell? ⟨b, off + i, none⟩ = some (.int k (bs.getD i 0 : Nat)) := by
  obtain ⟨b', off', e, hc⟩ := h.at (by omega)
  simp only [Option.some.injEq, Addr.mk.injEq] at e
  obtain ⟨rfl, rfl, _⟩ := e
  exact hc i hi

/-- rows of different elements lie in different blocks -/
theorem own_apart {w : World} {B B' : Nat} {e e' : TypeId} {s s' : Nat} {v v' : Value} {n n' : Nat} {xs xs' : List Value} (h : w.ownsRow B e s v n xs) (h' : w.ownsRow B' e' s' v' n' xs') (hne : e ≠ e') : v.ownBlock = none ∨ v.ownBlock ≠ v'.ownBlock := by
  rcases h.2 with ⟨rfl, _⟩ | ⟨g, cap, cur, rfl, _, hg, _⟩
  · exact .inl rfl
  · rcases h'.2 with ⟨rfl, _⟩ | ⟨g', cap', cur', rfl, _, hg', _⟩
    · right; simp [Value.ownBlock]
    · right
      simp only [Value.ownBlock, ne_eq, Option.some.injEq]
      rintro rfl
      rw [hg] at hg'
      simp at hg'
      exact hne hg'.2

theorem cell_newb (w : World) (cs : Array Value) (e : TypeId) (i : Nat) {b : Nat} (hb : w.heap.size = b) : (w.alloc (.cells cs e)).cell? ⟨b, i, none⟩ = cs[i]? := hb ▸ cell_new w cs e i

theorem cell_two (w : World) (c0 c1 : Value) (e : TypeId) {b : Nat} (hb : w.heap.size = b) : (w.alloc (.cells #[c0, c1] e)).cell? ⟨b, 0, none⟩ = some c0 ∧ (w.alloc (.cells #[c0, c1] e)).cell? ⟨b, 1, none⟩ = some c1 := by
  subst hb
  exact ⟨by rw [cell_new]; rfl, by rw [cell_new]; rfl⟩

theorem own_lt_ne {w w1 : World} {B : Nat} {e : TypeId} {s : Nat} {v : Value} {n : Nat} {xs : List Value} (h : w.ownsRow B e s v n xs) (hs : w.heap.size ≤ w1.heap.size) : some w1.heap.size ≠ v.ownBlock := by
  intro e
  have := (h.lt _ e.symm).2
  omega

theorem below_alloc (w : World) (o : Obj) : Below w.heap.size w (w.alloc o) := (Below.refl _ _).alloc (Nat.le_refl _) _

theorem made_b (w : World) (e : TypeId) (size base : Nat) {b : Nat} (hb : w.heap.size = b) (hB : base ≤ b) : (w.alloc (.cells #[] e)).ownsRow base e size (.slice (some ⟨b, 0, none⟩) 0 0) 0 [] := by
  subst hb
  exact World.ownsRow_made (base := base) (e := e) (size := size) w #[] 0 hB (by decide) (by simp)

theorem frozen_new (w : World) (cs : Array Value) (e : TypeId) (i : Nat) : (w.alloc (.cells cs e)).frozen? ⟨w.heap.size, i, none⟩ = false := by
  have : (w.alloc (.cells cs e)).heap[w.heap.size]? = some (.cells cs e) := heap_alloc_new w _
  simp only [World.frozen?, this]
  simp

theorem own_at {w : World} {B n c : Nat} {a : Option Addr} {xs : List Value} (h : w.ownsRow B 5 1 (.slice a n c) n xs) (hn : 0 < n) : ∃ g, a = some ⟨g, 0, none⟩ ∧ n ≤ c := by
  rcases h.2 with ⟨e, h0⟩ | ⟨g, cap, cur, e, _, _, hnc, _⟩
  · omega
  · simp only [Value.slice.injEq] at e
    obtain ⟨rfl, _, rfl⟩ := e
    exact ⟨g, rfl, hnc⟩
end Go.Proofs.Ytgdefibgifcbaaa

/- Rows of the call's own: made whole, written in place. -/
namespace Go.Proofs.Ytgdefibgifcbaaa
open Go.RowKit

theorem turned_set (w : World) (g o : Nat) (v : Value) : w.grownBy (w.setCell ⟨g, o, none⟩ v) (some g) :=
  ⟨rfl, rfl, rfl, by simp, fun k _ hne => Below.heap_setCell w ⟨g, o, none⟩ v k (fun e => hne (by rw [e]))⟩
/-- make of a whole row -/
theorem make_full {P : Program} (w : World) {ops : Array Oper} {rest : List Oper} {o : Oper} {a : Act} {Q : Exit → Act → World → Prop}
    (hg : o.guard = none) (l c : Operand) (t : TypeId) (hop : o.op = Op.makeSlice t l c)
    (base : Nat) (e : TypeId) (i : TypeInfo) (z : Value) (size : Nat) (h1 : P.underlying t = some (.slice e)) (h2 : P.info? e = some i) (h3 : i.zero = some z) (h4 : i.size = size)
    (kl kc : IntKind) (n : Nat) (hl : a.eval l = .int kl (n : Int)) (hc : a.eval c = .int kc (n : Int)) (b2 : i.bytes * n ≤ 281474976710656) (b3 : n ≤ maxLen) (b4 : base ≤ w.heap.size)
    (hK : ∀ w', w'.ownsRow base e size (.slice (some ⟨w.heap.size, 0, none⟩) n n) n (madeCells z.cells (n * size)).toList → Below w.heap.size w w' → wpList P ops Q rest (a.put o.dst (.slice (some ⟨w.heap.size, 0, none⟩) n n)) w') :
    wpList P ops Q (o :: rest) a w := by
  subst h4
  refine wpList_plain hg fun K hK' => ?_
  have h63 : (n : Int) ≤ 9223372036854775807 := by simp [maxLen] at b3; omega
  have hb' : (i.bytes : Int) * (n : Int) ≤ 281474976710656 := by
    have h : ((i.bytes * n : Nat) : Int) ≤ 281474976710656 := by omega
    rwa [Int.natCast_mul] at h
  have hrun := run_make (P := P) w t e i z h1 h2 h3 kl kc n n (by omega) (Int.le_refl _) hb' h63
  simp only [Int.toNat_natCast] at hrun
  unfold Oper.wp
  simp [execOp, hop, hl, hc, hrun, Result.andThen]
  refine hK' _ _ (hK _ ?_ (below_alloc _ _))
  refine ⟨by simp [size_madeCells], .inr ⟨w.heap.size, n, madeCells z.cells (n * i.size), rfl, b4, heap_alloc_new _ _, Nat.le_refl _, b3, size_madeCells _ _, ?_⟩⟩
  rw [List.take_of_length_le (by simp [size_madeCells])]

/-- a store into a row of the call's own -/
theorem own_store {w : World} {B e s g n c : Nat} {xs : List Value} (h : w.ownsRow B e s (.slice (some ⟨g, 0, none⟩) n c) n xs) (j : Nat) (v : Value) : (w.setCell ⟨g, j, none⟩ v).ownsRow B e s (.slice (some ⟨g, 0, none⟩) n c) n (xs.set j v) := by
  obtain ⟨h1, h2⟩ := h
  refine ⟨by rw [List.length_set]; exact h1, ?_⟩
  rcases h2 with ⟨e, _⟩ | ⟨g', cap, cur, e, hB, hg, hn, hm, hs, ht⟩
  · cases e
  · simp only [Value.slice.injEq, Option.some.injEq, Addr.mk.injEq] at e
    obtain ⟨⟨rfl, _⟩, _, rfl⟩ := e
    refine .inr ⟨g, c, _, rfl, hB, Go.Joins.block_setCell (i := j) hg v, hn, hm, by simpa using hs, ?_⟩
    rw [← ht]
    simp only [Array.toList_setIfInBounds, List.take_set]
theorem own_cells {w : World} {B e s g n c : Nat} {xs : List Value} (h : w.ownsRow B e s (.slice (some ⟨g, 0, none⟩) n c) n xs) {j : Nat} {v : Value} (hj : xs[j]? = some v) : w.cell? ⟨g, j, none⟩ = some v ∧ w.frozen? ⟨g, j, none⟩ = false := by
  rcases h.2 with ⟨e, _⟩ | ⟨g', cap, cur, e, hB, hg, hn, hm, hs, ht⟩
  · cases e
  · simp only [Value.slice.injEq, Option.some.injEq, Addr.mk.injEq] at e
    obtain ⟨⟨rfl, _⟩, _, rfl⟩ := e
    refine ⟨?_, Go.Joins.unfrozen_of_block hg _⟩
    rw [Go.Joins.cell_of_block hg]
    rw [← ht, List.getElem?_take] at hj
    split at hj
    · simpa using hj
    · cases hj
theorem own_lt {w : World} {B e s g n c : Nat} {xs : List Value} (h : w.ownsRow B e s (.slice (some ⟨g, 0, none⟩) n c) n xs) : g < w.heap.size ∧ B ≤ g := by
  rcases h.2 with ⟨e, _⟩ | ⟨g', cap, cur, e, hB, hg, hn, hm, hs, ht⟩
  · cases e
  · simp only [Value.slice.injEq, Option.some.injEq, Addr.mk.injEq] at e
    obtain ⟨⟨rfl, _⟩, _, rfl⟩ := e
    exact ⟨(Array.getElem?_eq_some_iff.1 hg).1, hB⟩
end Go.Proofs.Ytgdefibgifcbaaa

/- Rows of structs of whatever kind: read, made, appended to. -/
namespace Go.Proofs.Ytgdefibgifcbaaa
open Go.RowKit

/-- a slice type and its elements' type: cells, bytes, the zero value -/
structure Elem (T E : TypeId) (s bytes : Nat) (z : Value) : Prop where
  und : Try.prog.underlying T = some (.slice E)
  info : (Try.prog.info? E).map (fun i => (i.zero, i.size, i.bytes)) = some (some z, s, bytes)
  zero : z.cells.size = s
  pos : 0 < s
  small : bytes ≤ 1000
/-- how a thing lies in cells -/
structure Enc {α : Type} (s : Nat) (enc : α → List Value) : Prop where
  len : ∀ x, (enc x).length = s
  one : ∀ x, ∀ u ∈ enc x, u.oneCell' = true

def TAt {α : Type} (enc : α → List Value) (w : World) (b o : Nat) (x : α) : Prop := ∀ j v, (enc x)[j]? = some v → w.cell? ⟨b, o + j, none⟩ = some v
/-- a slice that reads as things -/
def TRow {α : Type} (s : Nat) (enc : α → List Value) (d : α) (w : World) (a : Option Addr) (n : Nat) (l : List α) : Prop :=
  l.length = n ∧ n ≤ 1000000000000000 ∧ (n = 0 ∨ ∃ b off, a = some ⟨b, off, none⟩ ∧ ∀ i, i < n → TAt enc w b (off + i * s) (l.getD i d))
def tcells {α : Type} (enc : α → List Value) (l : List α) : List Value := l.flatMap enc

section
variable {α : Type} {s : Nat} {enc : α → List Value} {d : α}
theorem TAt.below {w w' : World} {B b o : Nat} {x : α} (h : TAt enc w b o x) (hb : Below B w w') (hB : w.heap.size ≤ B) : TAt enc w' b o x := fun j v hj =>
  (hb.cell (p := ⟨b, o + j, none⟩) (Nat.lt_of_lt_of_le (cell_lt (h j v hj)) hB)).trans (h j v hj)
theorem TRow.below {w w' : World} {B : Nat} {a : Option Addr} {n : Nat} {l : List α} (h : TRow s enc d w a n l) (hb : Below B w w') (hB : w.heap.size ≤ B) : TRow s enc d w' a n l := by
  obtain ⟨h1, h2, h3⟩ := h
  refine ⟨h1, h2, ?_⟩
  rcases h3 with h0 | ⟨b, off, e, hc⟩
  · exact .inl h0
  · exact .inr ⟨b, off, e, fun i hi => (hc i hi).below hb hB⟩
theorem TRow.at {w : World} {a : Option Addr} {n : Nat} {l : List α} (h : TRow s enc d w a n l) (hn : 0 < n) : ∃ b off, a = some ⟨b, off, none⟩ ∧ ∀ i, i < n → TAt enc w b (off + i * s) (l.getD i d) := by
  obtain ⟨_, _, h0 | h0⟩ := h
  · omega
  · exact h0
theorem TRow.nil (w : World) (a : Option Addr) : TRow s enc d w a 0 [] := ⟨rfl, by omega, .inl rfl⟩
theorem tcells_append (a b : List α) : tcells enc (a ++ b) = tcells enc a ++ tcells enc b := by simp [tcells]
theorem tcells_length (hE : Enc s enc) : ∀ (a : List α), (tcells enc a).length = a.length * s
  | [] => by simp [tcells]
  | x :: a => by
    have : tcells enc (x :: a) = enc x ++ tcells enc a := rfl
    rw [this, List.length_append, tcells_length hE a, hE.len, List.length_cons, Nat.succ_mul]; omega
theorem tcells_one (hE : Enc s enc) (a : List α) : ∀ u ∈ tcells enc a, u.oneCell' = true := by
  intro u hu
  simp only [tcells, List.mem_flatMap] at hu
  obtain ⟨x, _, hx⟩ := hu
  exact hE.one x u hx
theorem tcells_get (hE : Enc s enc) : ∀ (l : List α) (i j : Nat), i < l.length → j < s → (tcells enc l)[i * s + j]? = (enc (l.getD i d))[j]?
  | [], i, j, hi, _ => by simp at hi
  | x :: l, 0, j, _, hj => by
    have : tcells enc (x :: l) = enc x ++ tcells enc l := rfl
    rw [this, Nat.zero_mul, Nat.zero_add, List.getElem?_append_left (by rw [hE.len]; exact hj)]
    rfl
  | x :: l, i + 1, j, hi, hj => by
    have : tcells enc (x :: l) = enc x ++ tcells enc l := rfl
    rw [this, Nat.succ_mul, List.getElem?_append_right (by rw [hE.len]; omega), hE.len, show i * s + s + j - s = i * s + j by omega, tcells_get hE l i j (by simpa using hi) hj]
    rfl
theorem tcells_at (hE : Enc s enc) (hs : 0 < s) {l : List α} {k : Nat} {u : Value} (h : (tcells enc l)[k]? = some u) : k / s < l.length ∧ k = k / s * s + k % s ∧ k % s < s ∧ (enc (l.getD (k / s) d))[k % s]? = some u := by
  have hk : k < (tcells enc l).length := by
    rcases Nat.lt_or_ge k (tcells enc l).length with h' | h'
    · exact h'
    · rw [List.getElem?_eq_none h'] at h; cases h
  rw [tcells_length hE] at hk
  have h1 : k / s < l.length := (Nat.div_lt_iff_lt_mul hs).mpr hk
  have h2 : k = k / s * s + k % s := by rw [Nat.mul_comm]; exact (Nat.div_add_mod k s).symm
  have h3 := Nat.mod_lt k hs
  refine ⟨h1, h2, h3, ?_⟩
  rw [← tcells_get hE l (k / s) (k % s) h1 h3, ← h2]
  exact h
/-- a row's cells, one behind the other -/
theorem TRow.cells (hE : Enc s enc) (hs : 0 < s) {w : World} {ad : Addr} {n : Nat} {l : List α} (h : TRow s enc d w (some ad) n l) (k : Nat) (u : Value) (hk : (tcells enc l)[k]? = some u) : w.cell? (ad.add k) = some u := by
  obtain ⟨h1, h2, h3, h4⟩ := tcells_at (d := d) hE hs hk
  have hl := h.1
  obtain ⟨b, off, e, hc⟩ := h.at (by rw [← hl]; exact Nat.lt_of_le_of_lt (Nat.zero_le _) h1)
  cases e
  have := hc (k / s) (by rw [← hl]; exact h1) (k % s) u h4
  rw [add_at, h2]
  rw [Nat.add_assoc] at this
  exact this
theorem t_shape {w : World} {B n : Nat} {e : TypeId} {v : Value} {xs : List Value} (h : w.ownsRow B e s v n xs) : ∃ a c, v = .slice a n c ∧ (a = none → n = 0 ∧ c = 0) ∧ n ≤ c := by
  rcases h.2 with ⟨e, h0⟩ | ⟨g, cap, cur, e, _, _, hn, _⟩
  · exact ⟨none, 0, by rw [e, h0], fun _ => ⟨h0, rfl⟩, by omega⟩
  · exact ⟨_, _, e, (fun h => by cases h), hn⟩
theorem trow_of_owns (hE : Enc s enc) {w : World} {B n c : Nat} {e : TypeId} {a : Option Addr} {l : List α} (h : w.ownsRow B e s (.slice a n c) n (tcells enc l)) (hs : 0 < s) (hn : n ≤ 1000000000) : TRow s enc d w a n l := by
  have hl := h.1
  rw [tcells_length hE] at hl
  have hl' : l.length = n := Nat.eq_of_mul_eq_mul_right hs hl
  have h0 := h
  rcases h.2 with ⟨e, rfl⟩ | ⟨g, cap, cur, e, _, _, hnc, _⟩
  · exact ⟨hl', by omega, .inl rfl⟩
  · simp only [Value.slice.injEq] at e
    obtain ⟨rfl, _, rfl⟩ := e
    refine ⟨hl', by omega, .inr ⟨g, 0, rfl, fun i hi j v hj => ?_⟩⟩
    have hjs : j < s := by
      rcases Nat.lt_or_ge j s with h' | h'
      · exact h'
      · rw [List.getElem?_eq_none (by rw [hE.len]; exact h')] at hj; cases hj
    rw [Nat.zero_add]
    exact (own_cells h0 (by rw [tcells_get (d := d) hE l i j (by omega) hjs]; exact hj)).1
/-- a row of one thing, just laid -/
theorem trow_lit (w : World) (C : Array Value) (e : TypeId) (x : α) {g : Nat} (hg : w.heap.size = g) (h : ∀ (j : Nat) (v : Value), (enc x)[j]? = some v → C[j]? = some v) : TRow s enc d (w.alloc (.cells C e)) (some ⟨g, 0, none⟩) 1 [x] := by
  subst hg
  refine ⟨rfl, by omega, .inr ⟨_, 0, rfl, fun i hi j v hj => ?_⟩⟩
  obtain rfl : i = 0 := by omega
  simp only [Nat.zero_mul, Nat.zero_add]
  rw [cell_new]
  exact h j v hj

theorem wp_append_t {T E : TypeId} {bytes : Nat} {z : Value} (he : Elem T E s bytes z) (hE : Enc s enc) {w0 w : World} {B : Nat} {o : Oper} {a : Act} {K : Act → World → Prop} {Q : Exit → Act → World → Prop} (sl x : Operand)
    (ho : o.op = .call { callee := .builtin .append, args := #[sl, x], argTypes := #[T, T] })
    (v : Value) (n : Nat) (xs : List α) (hs : a.eval sl = v) (hown : w.ownsRow B E s v n (tcells enc xs))
    (ax : Option Addr) (m c : Nat) (ys : List α) (hx : a.eval x = .slice ax m c) (hr : TRow s enc d w ax m ys) (hnil : ax = none → m = 0 ∧ c = 0)
    (hnm : n + m ≤ 1000000000) (hbel : Below B w0 w) (hB : B ≤ w.heap.size)
    (h : ∀ a' c' w', n + m ≤ c' → (a' = none → n + m = 0 ∧ c' = 0) → (a' = none ↔ v = .slice none 0 0 ∧ m = 0) → w'.ownsRow B E s (.slice a' (n + m) c') (n + m) (tcells enc (xs ++ ys)) → Below B w0 w' → B ≤ w'.heap.size → K (a.put o.dst (.slice a' (n + m) c')) w') : o.wp Try.prog a w K Q := by
  obtain ⟨i0, hi, hz0, hz1, hz2⟩ := info_parts he.info
  cases ax with
  | none =>
    obtain ⟨rfl, rfl⟩ := hnil rfl
    have hys : ys = [] := List.length_eq_zero_iff.mp hr.1
    subst hys
    obtain ⟨a', c', rfl, h1, h2⟩ := t_shape hown
    have hrun := run_append_owned_none (P := Try.prog) (w := w) B T o.type E i0 s he.und hi (.slice a' n c') n (tcells enc xs) hown
    unfold Oper.wp
    simp [execOp, ho, resolve, invoke, builtin, hs, hx, hrun, Result.andThen]
    refine h a' c' w h2 h1 ?_ (by simpa using hown) hbel hB
    constructor
    · intro e
      obtain ⟨rfl, rfl⟩ := h1 e
      exact ⟨by rw [e], rfl⟩
    · rintro ⟨e, _⟩
      simp only [Value.slice.injEq] at e
      exact e.1
  | some ad =>
    refine wp_append_own w sl x T ho B E i0 _ s bytes he.und hi hz0 hz1 hz2 he.zero he.pos v n (tcells enc xs) hs hown ad m c (tcells enc ys) hx (by rw [tcells_length hE, hr.1]) (hr.cells hE he.pos) (tcells_one hE ys) (by unfold maxLen; omega) ?_ hB ?_
    · have h1 := he.small
      have h2 : (n + m) * bytes ≤ 1000000000 * 1000 := Nat.mul_le_mul hnm h1
      omega
    · intro v' w' hown' hg hn
      obtain ⟨a', c', rfl, h1, h2⟩ := t_shape hown'
      refine h a' c' w' h2 h1 ?_ (by rw [tcells_append]; exact hown') (hbel.grown hg hB (fun k hk => (hown.lt k hk).1)) (Nat.le_trans hB hg.size)
      rw [← hn]
      constructor
      · intro e
        obtain ⟨e1, rfl⟩ := h1 e
        rw [e, e1]
      · intro e
        simp only [Value.slice.injEq] at e
        exact e.1
theorem append_t {T E : TypeId} {bytes : Nat} {z : Value} (he : Elem T E s bytes z) (hE : Enc s enc) {w0 w : World} {B : Nat} {ops : Array Oper} {rest : List Oper} {o : Oper} {a : Act} {Q : Exit → Act → World → Prop} (hgd : o.guard = none) (sl x : Operand)
    (ho : o.op = .call { callee := .builtin .append, args := #[sl, x], argTypes := #[T, T] })
    (v : Value) (n : Nat) (xs : List α) (hs : a.eval sl = v) (hown : w.ownsRow B E s v n (tcells enc xs))
    (ax : Option Addr) (m c : Nat) (ys : List α) (hx : a.eval x = .slice ax m c) (hr : TRow s enc d w ax m ys) (hnil : ax = none → m = 0 ∧ c = 0)
    (hnm : n + m ≤ 1000000000) (hbel : Below B w0 w) (hB : B ≤ w.heap.size)
    (h : ∀ a' c' w', n + m ≤ c' → (a' = none → n + m = 0 ∧ c' = 0) → (a' = none ↔ v = .slice none 0 0 ∧ m = 0) → w'.ownsRow B E s (.slice a' (n + m) c') (n + m) (tcells enc (xs ++ ys)) → Below B w0 w' → B ≤ w'.heap.size → wpList Try.prog ops Q rest (a.put o.dst (.slice a' (n + m) c')) w') : wpList Try.prog ops Q (o :: rest) a w :=
  wpList_plain hgd fun _ hK => wp_append_t he hE sl x ho v n xs hs hown ax m c ys hx hr hnil hnm hbel hB fun a' c' w' h1 h2 h3 h4 h5 h6 => hK _ _ (h a' c' w' h1 h2 h3 h4 h5 h6)
/-- the same at a step of a region that draws -/
theorem step_t {T E : TypeId} {bytes : Nat} {z : Value} (he : Elem T E s bytes z) (hE : Enc s enc) {w0 w : World} {B : Nat} {ops : Array Oper} {o : Oper} {a : Act} {K : Act → World → Prop} {Q : Exit → Act → World → Prop} {F : Prop} (hgd : o.guard = none) (sl x : Operand)
    (ho : o.op = .call { callee := .builtin .append, args := #[sl, x], argTypes := #[T, T] })
    (v : Value) (n : Nat) (xs : List α) (hs : a.eval sl = v) (hown : w.ownsRow B E s v n (tcells enc xs))
    (ax : Option Addr) (m c : Nat) (ys : List α) (hx : a.eval x = .slice ax m c) (hr : TRow s enc d w ax m ys) (hnil : ax = none → m = 0 ∧ c = 0)
    (hnm : n + m ≤ 1000000000) (hbel : Below B w0 w) (hB : B ≤ w.heap.size)
    (h : ∀ a' c' w', n + m ≤ c' → (a' = none → n + m = 0 ∧ c' = 0) → (a' = none ↔ v = .slice none 0 0 ∧ m = 0) → w'.ownsRow B E s (.slice a' (n + m) c') (n + m) (tcells enc (xs ++ ys)) → Below B w0 w' → B ≤ w'.heap.size → K (a.put o.dst (.slice a' (n + m) c')) w') :
    if Region.wanted o (yielded ops a.tmps) = true then Oper.wp Try.prog o a w K Q else F := by
  have hw : Region.wanted o (yielded ops a.tmps) = true := by simp [Region.wanted, hgd]
  rw [if_pos hw]
  exact wp_append_t he hE sl x ho v n xs hs hown ax m c ys hx hr hnil hnm hbel hB h
/-- a row made by '[]T{}' -/
theorem made_t (w : World) {B E : Nat} (hB : B ≤ w.heap.size) {g : Nat} (hg : w.heap.size = g) : (w.alloc (.cells #[] E)).ownsRow B E s (.slice (some ⟨g, 0, none⟩) 0 0) 0 (tcells enc ([] : List α)) := made_b w E s B hg (by omega)
end
end Go.Proofs.Ytgdefibgifcbaaa

/- Texts and their bytes. -/
namespace Go.Proofs.Ytgdefibgifcbaaa
open Go.RowKit

/-- a text's bytes -/
def kb (s : ByteArray) : List Nat := s.data.toList.map (·.toNat)
theorem kb_len (s : ByteArray) : (kb s).length = s.size := by unfold kb; rw [List.length_map, Array.length_toList]; rfl
theorem kb_nil (s : ByteArray) : kb s = [] ↔ s = ⟨#[]⟩ := by
  constructor
  · intro h
    have : s.data.toList = [] := by simpa [kb] using h
    cases s with | mk d => simp_all
  · rintro rfl; rfl
theorem isEmpty_kb (s : ByteArray) : s.toList.isEmpty = decide (s = ⟨#[]⟩) := (decide_eq_emptyBytes s).symm
theorem kb_small (s : ByteArray) : ∀ x ∈ kb s, x < 256 := by
  intro x hx
  simp only [kb, List.mem_map] at hx
  obtain ⟨y, _, rfl⟩ := hx
  exact y.toNat_lt
/-- the text of bytes -/
def bstr (bs : List Nat) : ByteArray := strOfNums (bs.map fun n : Nat => (n : Int))
theorem kb_bstr {bs : List Nat} (h : ∀ x ∈ bs, x < 256) : kb (bstr bs) = bs := by
  have e : kb (bstr bs) = bs.map fun n => n % 256 := by simp [kb, bstr, strOfNums]
  rw [e]
  apply List.ext_getElem (by simp)
  intro i h1 h2
  rw [List.getElem_map]
  exact Nat.mod_eq_of_lt (h _ (List.getElem_mem h2))
theorem kb_inj {s t : ByteArray} (h : kb s = kb t) : s = t := by
  have e : s.data.toList = t.data.toList := by
    unfold kb at h
    exact (List.map_inj_right (fun a b e => UInt8.toNat_inj.mp e)).mp h
  exact ByteArray.ext (Array.toList_inj.mp e)
theorem str_ne {s t : ByteArray} (h : ¬ (kb s = kb t)) : (s.toList == t.toList) = false := by
  rw [beq_eq_false_iff_ne]
  intro e
  rw [Lib.toList_data, Lib.toList_data] at e
  apply h
  rw [show s = t from ByteArray.ext (Array.toList_inj.mp e)]
theorem str_eq {s t : ByteArray} (r : Bool) (h : r = true ↔ kb s = kb t) : (s.toList == t.toList) = r := by
  cases r with
  | true => rw [kb_inj (h.mp rfl)]; simp
  | false => exact str_ne (fun e => by have := h.mpr e; cases this)
theorem kb_app (s t : ByteArray) : kb (s ++ t) = kb s ++ kb t := by
  simp [kb]
end Go.Proofs.Ytgdefibgifcbaaa

/- Rows of ints and of texts, by the general rows; a text's bytes as a new row. -/
namespace Go.Proofs.Ytgdefibgifcbaaa
open Go.RowKit

/-- an int's cell, a number that is not below nought -/
def ie (n : Nat) : List Value := [.int .i64 (n : Int)]
theorem ieE : Enc 1 ie := ⟨fun _ => rfl, fun x u hu => by simp only [ie, List.mem_cons, List.not_mem_nil, or_false] at hu; rw [hu]; rfl⟩
theorem intE : Elem 68 3 1 8 (.int .i64 0) := ⟨Try.underlying68, by kernel_rfl, rfl, by decide, by decide⟩
abbrev IRow (w : World) (a : Option Addr) (n : Nat) (l : List Nat) : Prop := TRow 1 ie 0 w a n l
theorem lit_int (w : World) (x : Nat) {g : Nat} (hg : w.heap.size = g) : IRow (w.alloc (.cells #[.int .i64 (x : Int)] 3)) (some ⟨g, 0, none⟩) 1 [x] :=
  trow_lit w _ _ _ hg (fun j v hj => by
    match j, hj with
    | 0, hj => exact hj
    | j + 1, hj => simp [ie] at hj)
theorem IRow.cell {w : World} {a : Option Addr} {n : Nat} {l : List Nat} (h : IRow w a n l) (hn : 0 < n) : ∃ b off, a = some ⟨b, off, none⟩ ∧ ∀ i, i < n → w.cell? ⟨b, off + i, none⟩ = some (.int .i64 ((l.getD i 0 : Nat) : Int)) := by
  obtain ⟨b, off, e, hc⟩ := h.at hn
  refine ⟨b, off, e, fun i hi => ?_⟩
  have := hc i hi 0 _ rfl
  rw [Nat.mul_one, Nat.add_zero] at this
  exact this
theorem IRow.row {w : World} {a : Option Addr} {n : Nat} {l : List Nat} (h : IRow w a n l) (hs : ∀ x ∈ l, x < lim .i64) : Row .i64 w a n l := by
  refine ⟨h.1, by have := h.2.1; omega, hs, ?_⟩
  rcases Nat.eq_zero_or_pos n with h0 | h0
  · exact .inl h0
  · obtain ⟨b, off, e, hc⟩ := h.cell h0
    exact .inr ⟨b, off, e, hc⟩

/-- a byte's cell -/
def be (n : Nat) : List Value := [.int .u8 (n : Int)]
theorem beE : Enc 1 be := ⟨fun _ => rfl, fun x u hu => by simp only [be, List.mem_cons, List.not_mem_nil, or_false] at hu; rw [hu]; rfl⟩
theorem byteE : Elem 23 5 1 1 (.int .u8 0) := ⟨Try.underlying23, by kernel_rfl, rfl, by decide, by decide⟩
abbrev BRow (w : World) (a : Option Addr) (n : Nat) (l : List Nat) : Prop := TRow 1 be 0 w a n l
theorem lit_byte (w : World) (x : Nat) {g : Nat} (hg : w.heap.size = g) : BRow (w.alloc (.cells #[.int .u8 (x : Int)] 5)) (some ⟨g, 0, none⟩) 1 [x] :=
  trow_lit w _ _ _ hg (fun j v hj => by
    match j, hj with
    | 0, hj => exact hj
    | j + 1, hj => simp [be] at hj)
theorem BRow.row {w : World} {a : Option Addr} {n : Nat} {l : List Nat} (h : BRow w a n l) (hs : ∀ x ∈ l, x < 256) : Row .u8 w a n l := by
  refine ⟨h.1, by have := h.2.1; omega, hs, ?_⟩
  rcases Nat.eq_zero_or_pos n with h0 | h0
  · exact .inl h0
  · obtain ⟨b, off, e, hc⟩ := h.at h0
    refine .inr ⟨b, off, e, fun i hi => ?_⟩
    have := hc i hi 0 _ rfl
    rw [Nat.mul_one, Nat.add_zero] at this
    exact this

/-- a text's cell -/
def ste (s : ByteArray) : List Value := [.string s]
abbrev StRow (w : World) (a : Option Addr) (n : Nat) (l : List ByteArray) : Prop := TRow 1 ste ⟨#[]⟩ w a n l
theorem StRow.cell {w : World} {a : Option Addr} {n : Nat} {l : List ByteArray} (h : StRow w a n l) (hn : 0 < n) : ∃ b off, a = some ⟨b, off, none⟩ ∧ ∀ i, i < n → w.cell? ⟨b, off + i, none⟩ = some (.string (l.getD i ⟨#[]⟩)) := by
  obtain ⟨b, off, e, hc⟩ := h.at hn
  refine ⟨b, off, e, fun i hi => ?_⟩
  have := hc i hi 0 _ rfl
  rw [Nat.mul_one, Nat.add_zero] at this
  exact this
def InT (w : World) (a : Option Addr) (n c : Nat) (ks : List ByteArray) : Prop := StRow w a n ks ∧ (a = none → n = 0 ∧ c = 0) ∧ n ≤ c
theorem InT.below {w w' : World} {B : Nat} {a : Option Addr} {n c : Nat} {l : List ByteArray} (h : InT w a n c l) (hb : Below B w w') (hB : w.heap.size ≤ B) : InT w' a n c l := ⟨h.1.below hb hB, h.2⟩

/-- the bytes of a text, as a new row -/
theorem conv_row8 (s : ByteArray) (w : World) (hs : s.size ≤ 1000000) : ∃ (C : Array Value) (cap : Nat), (convert 9 23 (.string s)).run Try.prog w = .ok (.slice (some ⟨w.heap.size, 0, none⟩) s.size cap) (w.drew.alloc (.cells C 5 (C.size, C.size + 1))) ∧ Row .u8 (w.alloc (.cells C 5 (C.size, C.size + 1))) (some ⟨w.heap.size, 0, none⟩) s.size (kb s) := by
  refine ⟨_, _, run_bytes_of_string w 9 23 5 s Try.underlying9 Try.underlying23 Try.underlying5, ?_⟩
  refine ⟨kb_len s, by omega, fun x hx => kb_small s x hx, .inr ⟨_, 0, rfl, fun j hj => ?_⟩⟩
  have hj' : j < s.data.size := hj
  generalize hC : bytesRow s (grownCap w s.size 0 5) = C
  have hcs : C[j]? = some (.int .u8 (((kb s).getD j 0 : Nat) : Int)) := by
    rw [← hC]
    unfold bytesRow
    rw [Array.getElem?_append_left (by simpa using hj')]
    have e : s.data.toList[j]? = some (s.data[j]) := by simp
    simp only [kb, List.getD_eq_getElem?_getD, List.getElem?_map, e, Option.map_some, Option.getD_some, Array.getElem?_map]
    rw [Array.getElem?_eq_getElem hj']
    rfl
  rw [← hcs, Nat.zero_add]
  have : (w.alloc (.cells C 5 (C.size, C.size + 1))).heap[w.heap.size]? = some (.cells C 5 (C.size, C.size + 1)) := heap_alloc_new w _
  simp only [World.cell?, this]
  rfl
end Go.Proofs.Ytgdefibgifcbaaa

/- The order of texts is the order of their bytes. -/
namespace Go.Proofs.Ytgdefibgifcbaaa
open Go.RowKit

theorem less_list : ∀ l m : List UInt8, Op.bytesLess l m = Na.lt (l.map (·.toNat)) (m.map (·.toNat))
  | [], [] => rfl
  | _ :: _, [] => rfl
  | [], _ :: _ => by simp [Op.bytesLess, Na.lt]
  | a :: x, b :: y => by
    simp only [Op.bytesLess, List.map_cons, Na.lt, less_list x y]
    by_cases h1 : a < b
    · have : a.toNat < b.toNat := h1
      simp [h1, this]
    · have h1' : ¬ a.toNat < b.toNat := h1
      by_cases h2 : a = b
      · subst h2; simp [h1]
      · have h2' : ¬ a.toNat = b.toNat := fun e => h2 (UInt8.toNat_inj.mp e)
        simp [h1, h2, h1', h2']
theorem less_kb (s t : ByteArray) : Op.bytesLess s.toList t.toList = Na.lt (kb s) (kb t) := by
  rw [less_list, Lib.toList_data, Lib.toList_data]; rfl
end Go.Proofs.Ytgdefibgifcbaaa
