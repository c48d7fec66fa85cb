/- Rows of values: slices of slices of bytes; how they come in as an argument. -/
import Derived.Test.YtnoknmnbfkdccaaGreatDoorGa
import Derived.Test.YtnoknmnbfkdccaaGreatDoorG2
import Derived.Test.YtnoknmnbfkdccaaGreatDoorOT
namespace Go.Proofs.YtnoknmnbfkdccaaGreatDoor
open Go.ChangeShapes Go.WideShapes Go.RowKit

/-- a value as it lies in a row: where, how many bytes, room -/
structure VH where
  a : Option Addr
  n : Nat
  c : Nat
def vhz : VH := ⟨none, 0, 0⟩
def vhe (h : VH) : List Value := [.slice h.a h.n h.c]
theorem vhE : Enc 1 vhe := ⟨fun _ => rfl, fun x u hu => by simp only [vhe, List.mem_cons, List.not_mem_nil, or_false] at hu; subst hu; rfl⟩
theorem valE : Elem 48 39 1 24 (.slice none 0 0) := ⟨Tryz.underlying48, by kernel_rfl, rfl, by decide, by decide⟩
/-- what is behind them -/
def VAt (w : World) (h : VH) (v : List Nat) : Prop := Row .u8 w h.a h.n v ∧ (h.a = none → h.n = 0 ∧ h.c = 0) ∧ h.n ≤ h.c ∧ Shape h.a h.n h.c
theorem VAt.below {w w' : World} {B : Nat} {h : VH} {v : List Nat} (hv : VAt w h v) (hb : Below B w w') (hB : w.heap.size ≤ B) : VAt w' h v := ⟨hv.1.below hb hB, hv.2⟩
def VAll (w : World) (hs : List VH) (vs : List (List Nat)) : Prop := hs.length = vs.length ∧ ∀ i, i < hs.length → VAt w (hs.getD i vhz) (vs.getD i [])
theorem VAll.below {w w' : World} {B : Nat} {hs : List VH} {vs : List (List Nat)} (hv : VAll w hs vs) (hb : Below B w w') (hB : w.heap.size ≤ B) : VAll w' hs vs := ⟨hv.1, fun i hi => (hv.2 i hi).below hb hB⟩
def InV (w : World) (a : Option Addr) (n c : Nat) (hs : List VH) (vs : List (List Nat)) : Prop := TRow 1 vhe vhz w a n hs ∧ VAll w hs vs ∧ (a = none → n = 0 ∧ c = 0) ∧ n ≤ c
theorem InV.below {w w' : World} {B : Nat} {a : Option Addr} {n c : Nat} {hs : List VH} {vs : List (List Nat)} (h : InV w a n c hs vs) (hb : Below B w w') (hB : w.heap.size ≤ B) : InV w' a n c hs vs := ⟨h.1.below hb hB, h.2.1.below hb hB, h.2.2⟩
theorem InV.len {w : World} {a : Option Addr} {n c : Nat} {hs : List VH} {vs : List (List Nat)} (h : InV w a n c hs vs) : vs.length = n := h.2.1.1.symm.trans h.1.1
/-- the i-th slice, and the value behind it -/
theorem InV.get {w : World} {a : Option Addr} {n c : Nat} {hs : List VH} {vs : List (List Nat)} (h : InV w a n c hs vs) (hn : 0 < n) :
    ∃ b off, a = some ⟨b, off, none⟩ ∧ ∀ i, i < n → w.cell? ⟨b, off + i, none⟩ = some (.slice (hs.getD i vhz).a (hs.getD i vhz).n (hs.getD i vhz).c) ∧ VAt w (hs.getD i vhz) (vs.getD i []) := by
  obtain ⟨b, off, rfl, hc⟩ := h.1.at hn
  refine ⟨b, off, rfl, fun i hi => ⟨?_, h.2.1.2 i (by rw [h.1.1]; exact hi)⟩⟩
  have := hc i hi 0 _ (rfl : (vhe (hs.getD i vhz))[0]? = some (.slice (hs.getD i vhz).a (hs.getD i vhz).n (hs.getD i vhz).c))
  simpa using this

end Go.Proofs.YtnoknmnbfkdccaaGreatDoor
