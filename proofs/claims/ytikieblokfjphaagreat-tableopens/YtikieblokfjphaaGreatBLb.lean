/- What is asked of the program's own functions over blocks; awake; the law BlockPuts. -/
import Derived.Test.YtikieblokfjphaaGreatBL3
import Derived.Test.YtikieblokfjphaaGreatTR6
namespace Go.Proofs.YtikieblokfjphaaGreat
open Go.RowKit

namespace Bl
def putR (xs : List It.I) : Nat × List Nat := if may xs = true then (0, put xs) else (1, [])
def err (L : List It.I) : Nat := if L = [] then 2 else 0
theorem putR_small {w : World} {a : Option Addr} {n : Nat} {gs : List IH} {xs : List It.I} (h : ItRow w a n gs xs) : ∀ y ∈ (putR xs).2, y < 256 := by
  unfold putR
  split
  · intro y hy
    simp only at hy
    unfold Bl.put at hy
    rcases List.mem_append.mp hy with hy | hy
    · exact Va.one_small _ y hy
    · refine Bl.putGo_small (fun x hx => ?_) y hy
      obtain ⟨t, ht, rfl⟩ := List.getElem_of_mem hx
      have hI := h.item (i := t) (by rw [← h.len]; exact ht)
      rw [show xs.getD t It.zero = xs[t] by simp [ht]] at hI
      refine ⟨fun z hz => ?_, fun z hz => hI.row.2.2.1 z hz, ?_⟩
      · rw [← hI.key] at hz
        exact kb_small _ z hz
      · have := hI.fits
        rw [hI.pt] at this
        exact this.2.2.2
  · intro y hy; cases hy
end Bl

def BPRes (w : World) (R : Nat × List Nat) (e : Ending) (w' : World) : Prop :=
  ∃ a c, e = .returned (.tuple #[.slice a R.2.length c, .int .i64 (R.1 : Nat)]) ∧ Row .u8 w' a R.2.length R.2 ∧ (a = none → R.2.length = 0 ∧ c = 0) ∧ R.2.length ≤ c ∧ Below w.heap.size w w'
def BLRes (w : World) (L : List It.I) (e : Ending) (w' : World) : Prop :=
  ∃ a c hs, e = .returned (.tuple #[.slice a L.length c, .int .i64 (Bl.err L : Nat)]) ∧ InI w' a L.length c hs L ∧ Below w.heap.size w w'

def itAB : It.I := ([97, 98], true, Ce.zero)
def itAC : It.I := ([97, 99], true, Ce.zero)
theorem bl_ex1 : Bl.putR [itAB, itAC] = (0, [2, 0, 2, 97, 98, 1, 1, 1, 99, 1]) := by
  have h : Bl.may [itAB, itAC] = true := by decide
  have o0 := Va.one_lo (u := 0) (by omega)
  have o1 := Va.one_lo (u := 1) (by omega)
  have o2 := Va.one_lo (u := 2) (by omega)
  unfold Bl.putR
  rw [if_pos h]
  simp [Bl.put, Bl.putGo, Bl.put1, Bl.tail1, itAB, itAC, Bl.alike, o0, o1, o2]
theorem bl_ex2 : Bl.alike (kb ⟨#[97, 98]⟩) (kb ⟨#[97, 99]⟩) = 1 := by decide
theorem item_ab (w : World) : IsItem w ⟨⟨#[97, 98]⟩, true, false, none, 0, 0, Po.zero⟩ itAB := ⟨rfl, rfl, rfl, rfl, ⟨rfl, by decide, (fun x hx => by cases hx), .inl rfl⟩, (fun _ => ⟨rfl, rfl⟩), Nat.le_refl _, by unfold Po.Fits; decide, by decide⟩
theorem item_ac (w : World) : IsItem w ⟨⟨#[97, 99]⟩, true, false, none, 0, 0, Po.zero⟩ itAC := ⟨rfl, rfl, rfl, rfl, ⟨rfl, by decide, (fun x hx => by cases hx), .inl rfl⟩, (fun _ => ⟨rfl, rfl⟩), Nat.le_refl _, by unfold Po.Fits; decide, by decide⟩
theorem two_items (w : World) {g : Nat} (hg : w.heap.size = g) : InI (w.alloc (.cells #[.string ⟨#[97, 98]⟩, .bool true, .bool false, .slice none 0 0, .int .i64 0, .int .i64 0, .int .i64 0, .int .u32 0, .string ⟨#[97, 99]⟩, .bool true, .bool false, .slice none 0 0, .int .i64 0, .int .i64 0, .int .i64 0, .int .u32 0] 40)) (some ⟨g, 0, none⟩) 2 2 [⟨⟨#[97, 98]⟩, true, false, none, 0, 0, Po.zero⟩, ⟨⟨#[97, 99]⟩, true, false, none, 0, 0, Po.zero⟩] [itAB, itAC] := by
  subst hg
  refine ⟨⟨⟨rfl, by omega, .inr ⟨_, 0, rfl, fun i hi j v hj => ?_⟩⟩, ⟨rfl, fun i hi => ?_⟩⟩, (fun h => by cases h), Nat.le_refl _⟩
  · match i, hi with
    | 0, _ =>
      match j, hj with
      | 0, hj | 1, hj | 2, hj | 3, hj | 4, hj | 5, hj | 6, hj | 7, hj => exact (cell_new w _ _ _).trans hj
      | j + 8, hj => simp [ih] at hj
    | 1, _ =>
      match j, hj with
      | 0, hj | 1, hj | 2, hj | 3, hj | 4, hj | 5, hj | 6, hj | 7, hj => exact (cell_new w _ _ _).trans hj
      | j + 8, hj => simp [ih] at hj
  · match i, hi with
    | 0, _ => exact item_ab _
    | 1, _ => exact item_ac _
theorem ten_bytes (w : World) {g : Nat} (hg : w.heap.size = g) : Row .u8 (w.alloc (.cells #[.int .u8 2, .int .u8 0, .int .u8 2, .int .u8 97, .int .u8 98, .int .u8 1, .int .u8 1, .int .u8 1, .int .u8 99, .int .u8 1] 5)) (some ⟨g, 0, none⟩) 10 [2, 0, 2, 97, 98, 1, 1, 1, 99, 1] := by
  subst hg
  refine ⟨rfl, by decide, by decide, .inr ⟨_, 0, rfl, fun i hi => ?_⟩⟩
  match i, hi with
  | 0, _ | 1, _ | 2, _ | 3, _ | 4, _ | 5, _ | 6, _ | 7, _ | 8, _ | 9, _ => exact cell_new w _ _ _

end Go.Proofs.YtikieblokfjphaaGreat


/- The laws BlockPuts and BlockGets, given what is asked of the program. -/
namespace Go.Proofs.YtikieblokfjphaaGreat
open Go.RowKit

theorem bytesB (a1 : Option Addr) (l1 c1 : Nat) (bs1 : List Nat) (a2 : Option Addr) (l2 c2 : Nat) (bs2 : List Nat) (w : World) (hr1 : Row .u8 w a1 l1 bs1) (hr2 : Row .u8 w a2 l2 bs2) :
    Calls Tryz.prog 19 #[.slice a1 l1 c1, .slice a2 l2 c2] w fun e w' => e = .returned (.bool (decide (bs1 = bs2))) ∧ Below w.heap.size w w' :=
  (bytes_any a1 l1 c1 bs1 a2 l2 c2 bs2 w hr1 hr2).mono fun _ _ h => ⟨h.1, by obtain ⟨q, rfl⟩ := h.2; exact below_drewN _ _ _⟩

/-- two items that read alike -/
theorem one_self (x : It.I) : It.one x x = true := (It.one_iff x x).mpr rfl
theorem same_self12 (l : List It.I) : It.sameGo l l = true := (It.sameGo_iff l l).mpr rfl

end Go.Proofs.YtikieblokfjphaaGreat


/- The law BlockReads, given what is asked of the program. -/
namespace Go.Proofs.YtikieblokfjphaaGreat
open Go.RowKit

namespace It
theorem sortedGo_up : ∀ {l : List I} {p : Option (List Nat)}, sortedGo p l = true → l.Pairwise (fun a b => a.1 ≠ b.1) ∧ (∀ k, p = some k → ∀ x ∈ l, Na.lt k x.1 = true)
  | [], _, _ => ⟨List.Pairwise.nil, fun _ _ x hx => by cases hx⟩
  | y :: l, p, h => by
    simp only [sortedGo, Bool.and_eq_true] at h
    obtain ⟨⟨h1, h2⟩, h3⟩ := h
    obtain ⟨i1, i2⟩ := sortedGo_up h3
    have i3 := i2 y.1 rfl
    refine ⟨List.pairwise_cons.mpr ⟨fun x hx => lt_ne (i3 x hx), i1⟩, fun k hk x hx => ?_⟩
    subst hk
    simp only [after] at h2
    rcases List.mem_cons.mp hx with rfl | hx
    · exact h2
    · exact lt_trans h2 (i3 x hx)
theorem get_of_mem : ∀ {l : List I} {x : I}, l.Pairwise (fun a b => a.1 ≠ b.1) → x ∈ l → get l x.1 = x
  | [], _, _, hx => by cases hx
  | y :: l, x, h, hx => by
    rw [List.pairwise_cons] at h
    rcases List.mem_cons.mp hx with rfl | hx
    · simp [get]
    · rw [get, if_neg (h.1 x hx), get_of_mem h.2 hx]
end It
theorem small_of {w : World} {a : Option Addr} {n : Nat} {gs : List IH} {xs : List It.I} (h : ItRow w a n gs xs) : ∀ x ∈ xs, Bl.Small x := by
  intro x hx
  obtain ⟨t, ht, rfl⟩ := List.getElem_of_mem hx
  have hI := h.item (i := t) (by rw [← h.len]; exact ht)
  rw [show xs.getD t It.zero = xs[t] by simp [ht]] at hI
  refine ⟨fun z hz => ?_, fun z hz => hI.row.2.2.1 z hz, ?_⟩
  · rw [← hI.key] at hz
    exact kb_small _ z hz
  · have := hI.fits
    rw [hI.pt] at this
    exact this.2.2.2

end Go.Proofs.YtikieblokfjphaaGreat
