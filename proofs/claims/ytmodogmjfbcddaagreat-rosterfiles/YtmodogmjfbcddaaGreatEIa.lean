/- Edits: reading a row of edits. -/
import Derived.Test.YtmodogmjfbcddaaGreatEB
namespace Go.Proofs.YtmodogmjfbcddaaGreat
open Go.RowKit

theorem eget {w wr : World} {ad : Option Addr} {len j : Nat} {l : List Ed.E} (h : ERow w ad len l) (hb : Below w.heap.size w wr) (hj : j < len) :
    ∃ B O k n i t a b c p q r f g, ad = some ⟨B, O, none⟩ ∧ Hid (l.getD j Ed.zero = ⟨k, n, i, t, a, b, c, ⟨p, q, r, f, g⟩⟩) ∧ wr.cell? ⟨B, O + j * 12, none⟩ = some (.int .i64 k) ∧ wr.cell? ⟨B, O + j * 12 + 1, none⟩ = some (.int .i64 n) ∧ wr.cell? ⟨B, O + j * 12 + 2, none⟩ = some (.int .i64 i) ∧ wr.cell? ⟨B, O + j * 12 + 3, none⟩ = some (.int .i64 t) ∧ wr.cell? ⟨B, O + j * 12 + 4, none⟩ = some (.int .i64 a) ∧ wr.cell? ⟨B, O + j * 12 + 5, none⟩ = some (.int .i64 b) ∧ wr.cell? ⟨B, O + j * 12 + 6, none⟩ = some (.int .i64 c) ∧ wr.cell? ⟨B, O + j * 12 + 7, none⟩ = some (.int .i64 p) ∧ wr.cell? ⟨B, O + j * 12 + 8, none⟩ = some (.int .i64 q) ∧ wr.cell? ⟨B, O + j * 12 + 9, none⟩ = some (.int .i64 r) ∧ wr.cell? ⟨B, O + j * 12 + 10, none⟩ = some (.string f) ∧ wr.cell? ⟨B, O + j * 12 + 11, none⟩ = some (.string g) := by
  obtain ⟨B, O, rfl, hc⟩ := h.at (by omega)
  have hr := hc j hj
  generalize hx : l.getD j Ed.zero = x at hr
  obtain ⟨k, n, i, t, a, b, c, p, q, r, f, g⟩ := x
  refine ⟨B, O, k, n, i, t, a, b, c, p, q, r, f, g, rfl, (rfl : _ = _), ?_, ?_, ?_, ?_, ?_, ?_, ?_, ?_, ?_, ?_, ?_, ?_⟩
  · have := hr 0 _ rfl; exact (hb.cell (p := ⟨B, O + j * 12, none⟩) (cell_lt this)).trans this
  · have := hr 1 _ rfl; exact (hb.cell (p := ⟨B, O + j * 12 + 1, none⟩) (cell_lt this)).trans this
  · have := hr 2 _ rfl; exact (hb.cell (p := ⟨B, O + j * 12 + 2, none⟩) (cell_lt this)).trans this
  · have := hr 3 _ rfl; exact (hb.cell (p := ⟨B, O + j * 12 + 3, none⟩) (cell_lt this)).trans this
  · have := hr 4 _ rfl; exact (hb.cell (p := ⟨B, O + j * 12 + 4, none⟩) (cell_lt this)).trans this
  · have := hr 5 _ rfl; exact (hb.cell (p := ⟨B, O + j * 12 + 5, none⟩) (cell_lt this)).trans this
  · have := hr 6 _ rfl; exact (hb.cell (p := ⟨B, O + j * 12 + 6, none⟩) (cell_lt this)).trans this
  · have := hr 7 _ rfl; exact (hb.cell (p := ⟨B, O + j * 12 + 7, none⟩) (cell_lt this)).trans this
  · have := hr 8 _ rfl; exact (hb.cell (p := ⟨B, O + j * 12 + 8, none⟩) (cell_lt this)).trans this
  · have := hr 9 _ rfl; exact (hb.cell (p := ⟨B, O + j * 12 + 9, none⟩) (cell_lt this)).trans this
  · have := hr 10 _ rfl; exact (hb.cell (p := ⟨B, O + j * 12 + 10, none⟩) (cell_lt this)).trans this
  · have := hr 11 _ rfl; exact (hb.cell (p := ⟨B, O + j * 12 + 11, none⟩) (cell_lt this)).trans this
theorem edrop {l : List Ed.E} {k : Nat} (hk : k < l.length) : l.drop k = l.getD k Ed.zero :: l.drop (k + 1) := by
  rw [List.drop_eq_getElem_cons hk]; simp [hk]
theorem etake {l : List Ed.E} {k : Nat} (hk : k < l.length) : l.take (k + 1) = l.take k ++ [l.getD k Ed.zero] := by
  rw [List.take_succ_eq_append_getElem hk]; simp [hk]
theorem emem {l : List Ed.E} {k : Nat} (hk : k < l.length) : l.getD k Ed.zero ∈ l := by
  simp [hk]
theorem edE : Elem 30 46 12 112 (.agg #[.int .i64 0, .int .i64 0, .int .i64 0, .int .i64 0, .int .i64 0, .int .i64 0, .int .i64 0, .int .i64 0, .int .i64 0, .int .i64 0, .string ⟨#[]⟩, .string ⟨#[]⟩]) := ⟨Tryz.underlying30, by kernel_rfl, rfl, by decide, by decide⟩
end Go.Proofs.YtmodogmjfbcddaaGreat
