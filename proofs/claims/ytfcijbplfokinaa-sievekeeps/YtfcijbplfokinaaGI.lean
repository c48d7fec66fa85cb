/- Rows of ints and of texts, by the general rows; a text's bytes as a new row. -/
import Derived.Test.YtfcijbplfokinaaGR
import Derived.Test.YtfcijbplfokinaaK1
import Derived.Laws.IdiomStrings
namespace Go.Proofs.Ytfcijbplfokinaa
open Go.RowKit

/-- an int's cell, a number that is not below nought -/
def ie (n : Nat) : List Value := [.int .i64 (n : Int)]
theorem ieE : Enc 1 ie := ⟨fun _ => rfl, fun x u hu => by simp only [ie, List.mem_cons, List.not_mem_nil, or_false] at hu; rw [hu]; rfl⟩
theorem intE : Elem 25 3 1 8 (.int .i64 0) := ⟨Try.underlying25, by kernel_rfl, rfl, by decide, by decide⟩
abbrev IRow (w : World) (a : Option Addr) (n : Nat) (l : List Nat) : Prop := TRow 1 ie 0 w a n l
theorem lit_int (w : World) (x : Nat) {g : Nat} (hg : w.heap.size = g) : IRow (w.alloc (.cells #[.int .i64 (x : Int)] 3)) (some ⟨g, 0, none⟩) 1 [x] :=
  trow_lit w _ _ _ hg (fun j v hj => by
    match j, hj with
    | 0, hj => exact hj
    | j + 1, hj => simp [ie] at hj)
theorem IRow.cell {w : World} {a : Option Addr} {n : Nat} {l : List Nat} (h : IRow w a n l) (hn : 0 < n) : ∃ b off, a = some ⟨b, off, none⟩ ∧ ∀ i, i < n → w.cell? ⟨b, off + i, none⟩ = some (.int .i64 ((l.getD i 0 : Nat) : Int)) := by
  obtain ⟨b, off, e, hc⟩ := h.at hn
  refine ⟨b, off, e, fun i hi => ?_⟩
  have := hc i hi 0 _ rfl
  rw [Nat.mul_one, Nat.add_zero] at this
  exact this
theorem IRow.row {w : World} {a : Option Addr} {n : Nat} {l : List Nat} (h : IRow w a n l) (hs : ∀ x ∈ l, x < lim .i64) : Row .i64 w a n l := by
  refine ⟨h.1, by have := h.2.1; omega, hs, ?_⟩
  rcases Nat.eq_zero_or_pos n with h0 | h0
  · exact .inl h0
  · obtain ⟨b, off, e, hc⟩ := h.cell h0
    exact .inr ⟨b, off, e, hc⟩
/-- a byte's cell -/
def be (n : Nat) : List Value := [.int .u8 (n : Int)]
theorem beE : Enc 1 be := ⟨fun _ => rfl, fun x u hu => by simp only [be, List.mem_cons, List.not_mem_nil, or_false] at hu; rw [hu]; rfl⟩
theorem byteE : Elem 29 5 1 1 (.int .u8 0) := ⟨Try.underlying29, by kernel_rfl, rfl, by decide, by decide⟩
abbrev BRow (w : World) (a : Option Addr) (n : Nat) (l : List Nat) : Prop := TRow 1 be 0 w a n l
theorem lit_byte (w : World) (x : Nat) {g : Nat} (hg : w.heap.size = g) : BRow (w.alloc (.cells #[.int .u8 (x : Int)] 5)) (some ⟨g, 0, none⟩) 1 [x] :=
  trow_lit w _ _ _ hg (fun j v hj => by
    match j, hj with
    | 0, hj => exact hj
    | j + 1, hj => simp [be] at hj)
theorem BRow.row {w : World} {a : Option Addr} {n : Nat} {l : List Nat} (h : BRow w a n l) (hs : ∀ x ∈ l, x < 256) : Row .u8 w a n l := by
  refine ⟨h.1, by have := h.2.1; omega, hs, ?_⟩
  rcases Nat.eq_zero_or_pos n with h0 | h0
  · exact .inl h0
  · obtain ⟨b, off, e, hc⟩ := h.at h0
    refine .inr ⟨b, off, e, fun i hi => ?_⟩
    have := hc i hi 0 _ rfl
    rw [Nat.mul_one, Nat.add_zero] at this
    exact this
/-- a text's cell -/
def ste (s : ByteArray) : List Value := [.string s]
abbrev StRow (w : World) (a : Option Addr) (n : Nat) (l : List ByteArray) : Prop := TRow 1 ste ⟨#[]⟩ w a n l
theorem StRow.cell {w : World} {a : Option Addr} {n : Nat} {l : List ByteArray} (h : StRow w a n l) (hn : 0 < n) : ∃ b off, a = some ⟨b, off, none⟩ ∧ ∀ i, i < n → w.cell? ⟨b, off + i, none⟩ = some (.string (l.getD i ⟨#[]⟩)) := by
  obtain ⟨b, off, e, hc⟩ := h.at hn
  refine ⟨b, off, e, fun i hi => ?_⟩
  have := hc i hi 0 _ rfl
  rw [Nat.mul_one, Nat.add_zero] at this
  exact this
def InT (w : World) (a : Option Addr) (n c : Nat) (ks : List ByteArray) : Prop := StRow w a n ks ∧ (a = none → n = 0 ∧ c = 0) ∧ n ≤ c
theorem InT.below {w w' : World} {B : Nat} {a : Option Addr} {n c : Nat} {l : List ByteArray} (h : InT w a n c l) (hb : Below B w w') (hB : w.heap.size ≤ B) : InT w' a n c l := ⟨h.1.below hb hB, h.2⟩
/-- the bytes of a text, as a new row -/
theorem conv_row8 (s : ByteArray) (w : World) (hs : s.size ≤ 1000000) : ∃ (C : Array Value) (cap : Nat), (convert 9 29 (.string s)).run Try.prog w = .ok (.slice (some ⟨w.heap.size, 0, none⟩) s.size cap) (w.drew.alloc (.cells C 5 (C.size, C.size + 1))) ∧ Row .u8 (w.alloc (.cells C 5 (C.size, C.size + 1))) (some ⟨w.heap.size, 0, none⟩) s.size (kb s) := by
  refine ⟨_, _, run_bytes_of_string w 9 29 5 s Try.underlying9 Try.underlying29 Try.underlying5, ?_⟩
  refine ⟨kb_len s, by omega, fun x hx => kb_small s x hx, .inr ⟨_, 0, rfl, fun j hj => ?_⟩⟩
  have hj' : j < s.data.size := hj
  generalize hC : bytesRow s (grownCap w s.size 0 5) = C
  have hcs : C[j]? = some (.int .u8 (((kb s).getD j 0 : Nat) : Int)) := by
    rw [← hC]
    unfold bytesRow
    rw [Array.getElem?_append_left (by simpa using hj')]
    have e : s.data.toList[j]? = some (s.data[j]) := by simp
    simp only [kb, List.getD_eq_getElem?_getD, List.getElem?_map, e, Option.map_some, Option.getD_some, Array.getElem?_map]
    rw [Array.getElem?_eq_getElem hj']
    rfl
  rw [← hcs, Nat.zero_add]
  have : (w.alloc (.cells C 5 (C.size, C.size + 1))).heap[w.heap.size]? = some (.cells C 5 (C.size, C.size + 1)) := heap_alloc_new w _
  simp only [World.cell?, this]
  rfl
end Go.Proofs.Ytfcijbplfokinaa
