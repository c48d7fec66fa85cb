/- Parts of rows; what the law VarintPrefix does. -/
import Derived.Test.YtgmcjalcpgldhaaW6
namespace Go.Proofs.Ytgmcjalcpgldhaa
open Go.RowKit

theorem Row.take {k : IntKind} {w : World} {a : Option Addr} {n : Nat} {bs : List Nat} (h : Row k w a n bs) (j : Nat) (hj : j ≤ n) : Row k w a j (bs.take j) := by
  obtain ⟨h1, h2, h3, h4⟩ := h
  refine ⟨by rw [List.length_take]; omega, by omega, take_small h3 j, ?_⟩
  rcases Nat.eq_zero_or_pos j with h0 | h0
  · exact .inl h0
  · rcases h4 with h0 | ⟨b, off, e, hc⟩
    · omega
    · refine .inr ⟨b, off, e, fun i hi => ?_⟩
      rw [hc i (by omega)]
      congr 3
      rw [List.getD_eq_getElem?_getD, List.getD_eq_getElem?_getD, List.getElem?_take, if_pos hi]
theorem Row.drop {k : IntKind} {w : World} {b off n : Nat} {bs : List Nat} (h : Row k w (some ⟨b, off, none⟩) n bs) (j : Nat) (hj : j ≤ n) : Row k w (some ⟨b, off + j, none⟩) (n - j) (bs.drop j) := by
  obtain ⟨h1, h2, h3, h4⟩ := h
  refine ⟨by rw [List.length_drop]; omega, by omega, drop_small h3 j, ?_⟩
  rcases Nat.eq_zero_or_pos (n - j) with h0 | h0
  · exact .inl h0
  · rcases h4 with h0 | ⟨b', off', e, hc⟩
    · omega
    · simp only [Option.some.injEq, Addr.mk.injEq] at e
      obtain ⟨rfl, rfl, _⟩ := e
      refine .inr ⟨b, off + j, rfl, fun i hi => ?_⟩
      have := hc (j + i) (by omega)
      rw [← Nat.add_assoc] at this
      rw [this]
      congr 3
      rw [List.getD_eq_getElem?_getD, List.getD_eq_getElem?_getD, List.getElem?_drop]

theorem rowU (w : World) (u : Nat) (h : u < 18446744073709551616) : Row .u64 (w.alloc (.cells #[.int .u64 (u : Nat)] 53)) (some ⟨w.heap.size, 0, none⟩) 1 [u] := row_new .u64 w 53 u h

end Go.Proofs.Ytgmcjalcpgldhaa
