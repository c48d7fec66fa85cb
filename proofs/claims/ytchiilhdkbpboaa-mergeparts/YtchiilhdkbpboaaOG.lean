/- Origins (an item, and from which list it is) as they lie: rows of them, nine cells each. -/
import Derived.Test.YtchiilhdkbpboaaPR
import Derived.Test.YtchiilhdkbpboaaSB
import Derived.Test.YtchiilhdkbpboaaMgMath
namespace Go.Proofs.Ytchiilhdkbpboaa
open Go.RowKit

/-- an origin as it lies -/
structure OH where
  h : IH
  f : Nat
def ohz : OH := ⟨ihz, 0⟩
def oe (o : OH) : List Value := [.string o.h.key, .bool o.h.dead, .bool o.h.far, .slice o.h.a o.h.n o.h.c, .int .i64 o.h.p.1, .int .i64 o.h.p.2.1, .int .i64 o.h.p.2.2.1, .int .u32 (o.h.p.2.2.2 : Nat), .int .i64 (o.f : Nat)]
theorem oeE : Enc 9 oe := ⟨fun _ => rfl, fun x u hu => by simp only [oe, List.mem_cons, List.not_mem_nil, or_false] at hu; rcases hu with rfl | rfl | rfl | rfl | rfl | rfl | rfl | rfl | rfl <;> rfl⟩
theorem orgE : Elem 55 68 9 96 (.agg #[.string ⟨#[]⟩, .bool false, .bool false, .slice none 0 0, .int .i64 0, .int .i64 0, .int .i64 0, .int .u32 0, .int .i64 0]) := ⟨Try.underlying55, by kernel_rfl, rfl, by decide, by decide⟩
/-- an origin's reading -/
def IsO (w : World) (o : OH) (y : Mg.Y) : Prop := IsItem w o.h y.1 ∧ o.f = y.2
theorem IsO.below {w w' : World} {B : Nat} {o : OH} {y : Mg.Y} (h : IsO w o y) (hb : Below B w w') (hB : w.heap.size ≤ B) : IsO w' o y := ⟨h.1.below hb hB, h.2⟩
def OAll (w : World) (os : List OH) (ys : List Mg.Y) : Prop := os.length = ys.length ∧ ∀ i, i < ys.length → IsO w (os.getD i ohz) (ys.getD i Mg.yz)
theorem OAll.below {w w' : World} {B : Nat} {os : List OH} {ys : List Mg.Y} (h : OAll w os ys) (hb : Below B w w') (hB : w.heap.size ≤ B) : OAll w' os ys := ⟨h.1, fun i hi => (h.2 i hi).below hb hB⟩
theorem OAll.nil (w : World) : OAll w [] [] := ⟨rfl, fun i hi => by simp at hi⟩
theorem OAll.append {w : World} {os os' : List OH} {ys ys' : List Mg.Y} (h : OAll w os ys) (h' : OAll w os' ys') : OAll w (os ++ os') (ys ++ ys') := by
  refine ⟨by simp [h.1, h'.1], fun i hi => ?_⟩
  have hl := h.1
  rw [List.length_append] at hi
  rcases Nat.lt_or_ge i ys.length with h1 | h1
  · rw [List.getD_eq_getElem?_getD, List.getElem?_append_left (by omega), ← List.getD_eq_getElem?_getD, List.getD_eq_getElem?_getD (l := ys ++ ys'), List.getElem?_append_left h1, ← List.getD_eq_getElem?_getD]
    exact h.2 i h1
  · rw [List.getD_eq_getElem?_getD, List.getElem?_append_right (by omega), ← List.getD_eq_getElem?_getD, List.getD_eq_getElem?_getD (l := ys ++ ys'), List.getElem?_append_right h1, ← List.getD_eq_getElem?_getD, hl]
    exact h'.2 _ (by omega)
theorem OAll.one {w : World} {o : OH} {y : Mg.Y} (h : IsO w o y) : OAll w [o] [y] := ⟨rfl, fun i hi => by
  obtain rfl : i = 0 := by simpa using hi
  exact h⟩
theorem OAll.snoc {w : World} {os : List OH} {ys : List Mg.Y} {o : OH} {y : Mg.Y} (h : OAll w os ys) (h' : IsO w o y) : OAll w (os ++ [o]) (ys ++ [y]) := h.append (.one h')
theorem OAll.drop {w : World} {os : List OH} {ys : List Mg.Y} (h : OAll w os ys) (k : Nat) : OAll w (os.drop k) (ys.drop k) := by
  refine ⟨by rw [List.length_drop, List.length_drop, h.1], fun i hi => ?_⟩
  rw [getD_drop', getD_drop']
  rw [List.length_drop] at hi
  exact h.2 _ (by omega)
/-- an origin's cells at a place -/
def OCells (w : World) (b o : Nat) (h : OH) : Prop := w.cell? ⟨b, o, none⟩ = some (.string h.h.key) ∧ w.cell? ⟨b, o + 1, none⟩ = some (.bool h.h.dead) ∧ w.cell? ⟨b, o + 2, none⟩ = some (.bool h.h.far) ∧ w.cell? ⟨b, o + 3, none⟩ = some (.slice h.h.a h.h.n h.h.c) ∧ w.cell? ⟨b, o + 4, none⟩ = some (.int .i64 h.h.p.1) ∧ w.cell? ⟨b, o + 5, none⟩ = some (.int .i64 h.h.p.2.1) ∧ w.cell? ⟨b, o + 6, none⟩ = some (.int .i64 h.h.p.2.2.1) ∧ w.cell? ⟨b, o + 7, none⟩ = some (.int .u32 (h.h.p.2.2.2 : Nat)) ∧ w.cell? ⟨b, o + 8, none⟩ = some (.int .i64 (h.f : Nat))
theorem OCells.below {w w' : World} {B b o : Nat} {h : OH} (hc : OCells w b o h) (hb : Below B w w') (hB : w.heap.size ≤ B) : OCells w' b o h := by
  obtain ⟨h0, h1, h2, h3, h4, h5, h6, h7, h8⟩ := hc
  have k : ∀ {i : Nat} {v : Value}, w.cell? ⟨b, i, none⟩ = some v → w'.cell? ⟨b, i, none⟩ = some v := fun {i v} hi => (hb.cell (p := ⟨b, i, none⟩) (Nat.lt_of_lt_of_le (cell_lt hi) hB)).trans hi
  exact ⟨k h0, k h1, k h2, k h3, k h4, k h5, k h6, k h7, k h8⟩
theorem TRow.origins {w : World} {a : Option Addr} {n : Nat} {os : List OH} (h : TRow 9 oe ohz w a n os) (hn : 0 < n) : ∃ b off, a = some ⟨b, off, none⟩ ∧ ∀ i, i < n → OCells w b (off + i * 9) (os.getD i ohz) := by
  obtain ⟨b, off, e, hc⟩ := h.at hn
  exact ⟨b, off, e, fun i hi => ⟨hc i hi 0 _ rfl, hc i hi 1 _ rfl, hc i hi 2 _ rfl, hc i hi 3 _ rfl, hc i hi 4 _ rfl, hc i hi 5 _ rfl, hc i hi 6 _ rfl, hc i hi 7 _ rfl, hc i hi 8 _ rfl⟩⟩
theorem lit_origin (w : World) (o : OH) {g : Nat} (hg : w.heap.size = g) : TRow 9 oe ohz (w.alloc (.cells #[.string o.h.key, .bool o.h.dead, .bool o.h.far, .slice o.h.a o.h.n o.h.c, .int .i64 o.h.p.1, .int .i64 o.h.p.2.1, .int .i64 o.h.p.2.2.1, .int .u32 (o.h.p.2.2.2 : Nat), .int .i64 (o.f : Nat)] 68)) (some ⟨g, 0, none⟩) 1 [o] :=
  trow_lit w _ _ _ hg (fun j v hj => by
    match j, hj with
    | 0, hj => exact hj
    | 1, hj => exact hj
    | 2, hj => exact hj
    | 3, hj => exact hj
    | 4, hj => exact hj
    | 5, hj => exact hj
    | 6, hj => exact hj
    | 7, hj => exact hj
    | 8, hj => exact hj
    | j + 9, hj => simp [oe] at hj)
/-- origins of the call's own are told; their items' bytes lie in an elder world -/
def ORes (w w0 : World) (L : List Mg.Y) (e : Ending) (w' : World) : Prop :=
  ∃ a c os, e = .returned (.slice a L.length c) ∧ w'.ownsRow w.heap.size 68 9 (.slice a L.length c) L.length (tcells oe os) ∧ OAll w0 os L ∧ Below w.heap.size w w'
theorem ores_nil {w w0 W : World} {L : List Mg.Y} (h : L = []) (hb : Below w.heap.size w W) : ORes w w0 L (.returned (.slice none 0 0)) W := by
  subst h
  exact ⟨none, 0, [], rfl, ⟨rfl, .inl ⟨rfl, rfl⟩⟩, OAll.nil _, hb⟩
theorem ores_some {w w0 W : World} {L l : List Mg.Y} {a : Option Addr} {n c : Nat} {os : List OH} (h : L = l) (hl : l.length = n) (hown : W.ownsRow w.heap.size 68 9 (.slice a n c) n (tcells oe os)) (hh : OAll w0 os l) (hb : Below w.heap.size w W) : ORes w w0 L (.returned (.slice a n c)) W := by
  subst h; subst hl
  exact ⟨a, c, os, rfl, hown, hh, hb⟩
/-- nine cells at the front of what is left are written -/
theorem set_nine (cs rest : List Value) (j : Nat) (hcs : cs.length = j * 9) (hr : 9 ≤ rest.length) (v0 v1 v2 v3 v4 v5 v6 v7 v8 : Value) :
    ((((((((((cs ++ rest).set (j * 9) v0).set (j * 9 + 1) v1).set (j * 9 + 2) v2).set (j * 9 + 3) v3).set (j * 9 + 4) v4).set (j * 9 + 5) v5).set (j * 9 + 6) v6).set (j * 9 + 7) v7).set (j * 9 + 8) v8) = (cs ++ [v0, v1, v2, v3, v4, v5, v6, v7, v8]) ++ rest.drop 9 := by
  rw [← hcs]
  obtain ⟨r0, r1, r2, r3, r4, r5, r6, r7, r8, t, rfl⟩ : ∃ r0 r1 r2 r3 r4 r5 r6 r7 r8 t, rest = r0 :: r1 :: r2 :: r3 :: r4 :: r5 :: r6 :: r7 :: r8 :: t := by
    match rest, hr with
    | r0 :: r1 :: r2 :: r3 :: r4 :: r5 :: r6 :: r7 :: r8 :: t, _ => exact ⟨r0, r1, r2, r3, r4, r5, r6, r7, r8, t, rfl⟩
  simp [List.set_append_right]
theorem nine_left {cs rest : List Value} {j : Nat} (hcs : cs.length = j * 9) (hr : 9 ≤ rest.length) : ∃ c0 c1 c2 c3 c4 c5 c6 c7 c8, (cs ++ rest)[j * 9]? = some c0 ∧ (cs ++ rest)[j * 9 + 1]? = some c1 ∧ (cs ++ rest)[j * 9 + 2]? = some c2 ∧ (cs ++ rest)[j * 9 + 3]? = some c3 ∧ (cs ++ rest)[j * 9 + 4]? = some c4 ∧ (cs ++ rest)[j * 9 + 5]? = some c5 ∧ (cs ++ rest)[j * 9 + 6]? = some c6 ∧ (cs ++ rest)[j * 9 + 7]? = some c7 ∧ (cs ++ rest)[j * 9 + 8]? = some c8 := by
  rw [← hcs]
  match rest, hr with
  | r0 :: r1 :: r2 :: r3 :: r4 :: r5 :: r6 :: r7 :: r8 :: t, _ => exact ⟨r0, r1, r2, r3, r4, r5, r6, r7, r8, by simp, by simp, by simp, by simp, by simp, by simp, by simp, by simp, by simp⟩
end Go.Proofs.Ytchiilhdkbpboaa
