/- Reading a row of tables. -/
import Derived.Test.YtmodogmjfbcddaaGreatLA
namespace Go.Proofs.YtmodogmjfbcddaaGreat
open Go.RowKit

theorem lget {w wr : World} {a : Option Addr} {n k : Nat} {l : List Lv.T} (h : LRow w a n l) (hb : Below w.heap.size w wr) (hk : k < n) :
    ∃ b off x1 x2 x3 x4 x5, a = some ⟨b, off, none⟩ ∧ Hid (l.getD k Lv.zero = ⟨x1, x2, x3, x4, x5⟩) ∧ wr.cell? ⟨b, off + k * 5, none⟩ = some (.int .i64 x1) ∧ wr.cell? ⟨b, off + k * 5 + 1, none⟩ = some (.int .i64 x2) ∧ wr.cell? ⟨b, off + k * 5 + 2, none⟩ = some (.int .i64 x3) ∧ wr.cell? ⟨b, off + k * 5 + 3, none⟩ = some (.string x4) ∧ wr.cell? ⟨b, off + k * 5 + 4, none⟩ = some (.string x5) := by
  obtain ⟨b, off, rfl, hc⟩ := h.at (by omega)
  have hr := hc k hk
  generalize hx : l.getD k Lv.zero = x at hr
  obtain ⟨x1, x2, x3, x4, x5⟩ := x
  refine ⟨b, off, x1, x2, x3, x4, x5, rfl, (rfl : _ = _), ?_, ?_, ?_, ?_, ?_⟩
  · have := hr 0 _ rfl; exact (hb.cell (p := ⟨b, off + k * 5, none⟩) (cell_lt this)).trans this
  · have := hr 1 _ rfl; exact (hb.cell (p := ⟨b, off + k * 5 + 1, none⟩) (cell_lt this)).trans this
  · have := hr 2 _ rfl; exact (hb.cell (p := ⟨b, off + k * 5 + 2, none⟩) (cell_lt this)).trans this
  · have := hr 3 _ rfl; exact (hb.cell (p := ⟨b, off + k * 5 + 3, none⟩) (cell_lt this)).trans this
  · have := hr 4 _ rfl; exact (hb.cell (p := ⟨b, off + k * 5 + 4, none⟩) (cell_lt this)).trans this
theorem ldrop {l : List Lv.T} {k : Nat} (hk : k < l.length) : l.drop k = l.getD k Lv.zero :: l.drop (k + 1) := by
  rw [List.drop_eq_getElem_cons hk]; simp [hk]
theorem lowns_base {w : World} {B B' e size n : Nat} {v : Value} {xs : List Value} (h : w.ownsRow B e size v n xs) (hB : B' ≤ B) : w.ownsRow B' e size v n xs := by
  refine ⟨h.1, ?_⟩
  rcases h.2 with hn | ⟨g, cap, cur, rfl, hg, rest⟩
  · exact .inl hn
  · exact .inr ⟨g, cap, cur, rfl, Nat.le_trans hB hg, rest⟩
theorem lit_tab (w : World) (x1 x2 x3 : Int) (x4 x5 : ByteArray) {g : Nat} (hg : w.heap.size = g) : LRow (w.alloc (.cells #[.int .i64 x1, .int .i64 x2, .int .i64 x3, .string x4, .string x5] 44)) (some ⟨g, 0, none⟩) 1 [⟨x1, x2, x3, x4, x5⟩] :=
  trow_lit w _ _ _ hg (fun j v hj => by
    match j, hj with
    | 0, hj | 1, hj | 2, hj | 3, hj | 4, hj => exact hj
    | j + 5, hj => simp [le] at hj)
abbrev otab (x1 x2 x3 : Int) (x4 x5 : ByteArray) : Obj := .cells #[.int .i64 x1, .int .i64 x2, .int .i64 x3, .string x4, .string x5] 44

theorem tab_past {w w2 : World} {x1 x2 x3 : Int} {x4 x5 : ByteArray} {B : Nat} (hb : Below B (w.alloc (otab x1 x2 x3 x4 x5)) w2) (hB : w.heap.size < B) :
    w2.cell? ⟨w.heap.size, 0, none⟩ = some (.int .i64 x1) ∧ w2.cell? ⟨w.heap.size, 1, none⟩ = some (.int .i64 x2) ∧ w2.cell? ⟨w.heap.size, 2, none⟩ = some (.int .i64 x3) ∧ w2.cell? ⟨w.heap.size, 3, none⟩ = some (.string x4) ∧ w2.cell? ⟨w.heap.size, 4, none⟩ = some (.string x5) := by
  refine ⟨?_, ?_, ?_, ?_, ?_⟩ <;> exact (hb.cell (p := ⟨w.heap.size, _, none⟩) hB).trans (cell_new _ _ _ _)

def L5 (w : World) (b o : Nat) (x : Lv.T) : Prop := w.cell? ⟨b, o, none⟩ = some (.int .i64 x.num) ∧ w.cell? ⟨b, o + 1, none⟩ = some (.int .i64 x.lev) ∧ w.cell? ⟨b, o + 2, none⟩ = some (.int .i64 x.size) ∧ w.cell? ⟨b, o + 3, none⟩ = some (.string x.first) ∧ w.cell? ⟨b, o + 4, none⟩ = some (.string x.last)
theorem L5.of {w : World} {b o : Nat} {x : Lv.T} (h : TAt le w b o x) : L5 w b o x := ⟨h 0 _ rfl, h 1 _ rfl, h 2 _ rfl, h 3 _ rfl, h 4 _ rfl⟩
theorem L5.below {w w' : World} {B b o : Nat} {x : Lv.T} (h : L5 w b o x) (hb : Below B w w') (hB : w.heap.size ≤ B) : L5 w' b o x := by
  obtain ⟨h0, h1, h2, h3, h4⟩ := h
  have hlt : b < B := Nat.lt_of_lt_of_le (cell_lt h0) hB
  exact ⟨(hb.cell (p := ⟨b, o, none⟩) hlt).trans h0, (hb.cell (p := ⟨b, o + 1, none⟩) hlt).trans h1, (hb.cell (p := ⟨b, o + 2, none⟩) hlt).trans h2, (hb.cell (p := ⟨b, o + 3, none⟩) hlt).trans h3, (hb.cell (p := ⟨b, o + 4, none⟩) hlt).trans h4⟩
end Go.Proofs.YtmodogmjfbcddaaGreat
