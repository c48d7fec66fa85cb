/- What the reference's Get of a block does. -/
import Derived.Test.YtikieblokfjphaaBL2
import Derived.Test.YtikieblokfjphaaIT1
import Derived.Test.YtikieblokfjphaaTRa
import Derived.Laws.BytesArg
import Derived.SliceStrings
namespace Go.Proofs.Ytikieblokfjphaa
open Go.RowKit

theorem conv_row {w : World} {b off n cap : Nat} {bs : List Nat} (hr : Row .u8 w (some ⟨b, off, none⟩) n bs) : (convert 25 9 (.slice (some ⟨b, off, none⟩) n cap)).run Try.prog w = .ok (.string (bstr bs)) w := by
  refine run_convert_bytes_arg w 25 5 Try.underlying25 Try.underlying5 b off n cap _ (by rw [List.length_map]; exact hr.1) (fun i hi => ?_) 9 Try.underlying9
  rw [hr.cell i hi]
  have : i < bs.length := by rw [hr.1]; exact hi
  simp [this]
namespace Bl
/-- an item at a place, in places of the whole -/
theorem one_at {last bs : List Nat} {p u k1 v k2 : Nat} (h1 : Va.get (bs.drop p) = (u, k1)) (h2 : Va.get (bs.drop (p + k1)) = (v, k2)) (hp : p ≤ bs.length) :
    one last (bs.drop p) = if k1 = 0 ∨ k2 = 0 ∨ last.length < u ∨ 64 < v then none else if bs.length ≤ p + k1 + k2 + v then none
      else if bs.getD (p + k1 + k2 + v) 0 = 1 then some ((last.take u ++ (bs.drop (p + k1 + k2)).take v, true, Ce.zero), k1 + k2 + v + 1)
      else if (Ce.get (bs.drop (p + k1 + k2 + v + 1))).2 = 0 then none else some ((last.take u ++ (bs.drop (p + k1 + k2)).take v, false, (Ce.get (bs.drop (p + k1 + k2 + v + 1))).1), k1 + k2 + v + 1 + (Ce.get (bs.drop (p + k1 + k2 + v + 1))).2) := by
  unfold one
  simp only [h1, List.drop_drop, h2]
  have e1 : ((bs.drop p).length ≤ k1 + k2 + v) ↔ (bs.length ≤ p + k1 + k2 + v) := by rw [List.length_drop]; omega
  have e2 : (bs.drop p).getD (k1 + k2 + v) 0 = bs.getD (p + k1 + k2 + v) 0 := by
    rw [List.getD_eq_getElem?_getD, List.getD_eq_getElem?_getD, List.getElem?_drop]
    congr 2; omega
  have e3 : p + (k1 + k2) = p + k1 + k2 := by omega
  have e4 : p + (k1 + k2 + v + 1) = p + k1 + k2 + v + 1 := by omega
  simp only [e1, e2, e3, e4]
theorem sc_step {N k : Nat} (hk : k < N) (bs : List Nat) (p : Nat) (last : List Nat) (O : List It.I) : sc (N - k) bs p last O = match one last (bs.drop p) with | none => none | some (x, q) => sc (N - (k + 1)) bs (p + q) x.1 (O ++ [x]) := by
  rw [show N - k = (N - (k + 1)) + 1 by omega, sc]
  cases one last (bs.drop p) <;> rfl
end Bl
theorem kb_take (s : ByteArray) (u : Nat) : kb (s.extract 0 u) = (kb s).take u := by
  unfold kb
  rw [ByteArray.data_extract, Array.toList_extract, List.extract_eq_take_drop, List.map_take, List.map_drop]
  simp
theorem own_dead (W : World) (B : Nat) {s : ByteArray} {l : List Nat} (hk : kb s = l) (hs : s.size ≤ maxLen) : OwnIt W B ⟨s, true, false, none, 0, 0, Po.zero⟩ (l, true, Ce.zero) :=
  ⟨⟨hk, rfl, rfl, rfl, ⟨rfl, Nat.zero_le _, (fun x hx => by cases hx), .inl rfl⟩, (fun _ => ⟨rfl, rfl⟩), Nat.le_refl _, (by show Po.Fits Po.zero; unfold Po.Fits Po.zero; decide), hs⟩, ⟨rfl, .inl ⟨rfl, rfl⟩⟩⟩
def BGetRes (w : World) (L : List It.I) (e : Ending) (w' : World) : Prop :=
  ∃ a c hs, e = .returned (.slice a L.length c) ∧ InI w' a L.length c hs L ∧ Below w.heap.size w w'
/-- the same, of the call's own -/
def BGetOwn (w : World) (L : List It.I) (e : Ending) (w' : World) : Prop :=
  ∃ a c hs, e = .returned (.slice a L.length c) ∧ w'.ownsRow w.heap.size 47 8 (.slice a L.length c) L.length (tcells ih hs) ∧ ItHeld w' w.heap.size hs L ∧ Below w.heap.size w w'
theorem bget_none {w w' : World} {L : List It.I} (h : L = []) (hb : Below w.heap.size w w') : BGetOwn w L (.returned (.slice none 0 0)) w' := by
  subst h
  exact ⟨none, 0, [], rfl, ⟨rfl, .inl ⟨rfl, rfl⟩⟩, ItHeld.nil _ _, hb⟩
/-- the rest of a slice, cut within it or at its end -/
def Rest (b off n c p : Nat) (a' : Option Addr) (l' c' : Nat) : Prop := l' = n - p ∧ ((l' = 0 ∧ c' = 0) ∨ (a' = some ⟨b, off + p, none⟩ ∧ c' = c - p))
theorem Rest.row {b off n c p : Nat} {a' : Option Addr} {l' c' : Nat} {bs : List Nat} {W : World} (h : Rest b off n c p a' l' c') (hr : Row .u8 W (some ⟨b, off, none⟩) n bs) (hp : p ≤ n) (hc : n ≤ c) : Row .u8 W a' l' (bs.drop p) ∧ l' ≤ c' ∧ Shape a' l' c' := by
  have h1 := hr.drop p hp
  obtain ⟨rfl, ⟨h2, rfl⟩ | ⟨rfl, rfl⟩⟩ := h
  · rw [h2]
    refine ⟨⟨by rw [List.length_drop, hr.1]; exact h2, by omega, h1.2.2.1, .inl rfl⟩, Nat.le_refl _, ?_⟩
    cases a' <;> simp [Shape]
  · exact ⟨h1, by omega, by simp [Shape]; omega⟩

end Go.Proofs.Ytikieblokfjphaa
