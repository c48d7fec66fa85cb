/- What bytes.Clone does. -/
import Derived.Test.YtchiilhdkbpboaaIT1
import Derived.Lib.Slices
namespace Go.Proofs.Ytchiilhdkbpboaa
open Go.RowKit

set_option maxRecDepth 100000 in
set_option maxHeartbeats 400000 in
theorem bclone_any (a : Option Addr) (n c : Nat) (bs : List Nat) (w : World) (hr : Row .u8 w a n bs) (hn : a = none → n = 0 ∧ c = 0) (hsm : n ≤ 1000000) :
    Calls Try.prog 39 #[.slice a n c] w fun e w' => ∃ a' c', e = .returned (.slice a' n c') ∧ w'.ownsRow w.heap.size 5 1 (.slice a' n c') n (kcells .u8 bs) ∧ Below w.heap.size w w' := by
  cases a with
  | none =>
    obtain ⟨rfl, rfl⟩ := hn rfl
    obtain rfl : bs = [] := List.length_eq_zero_iff.mp hr.1
    go_enter Try.func39, Try.ntmps39
    go_wp2_with fail
    rw [Lib.run_eql_slice_nil _ 30 5 none 0 0 0 0 Try.underlying30]
    go_wp2
    go_ret
    exact ⟨none, 0, rfl, ⟨rfl, .inl ⟨rfl, rfl⟩⟩, Below.refl _ _⟩
  | some p =>
    have hb0 : Below w.heap.size w (w.alloc (.cells #[] 5)) := below_alloc w _
    have ho := made_at w 5 w.heap.size rfl (Nat.le_refl _)
    go_enter Try.func39, Try.ntmps39
    go_wp2_with fail
    rw [Lib.run_eql_slice_nil _ 30 5 (some p) n c 0 0 Try.underlying30]
    go_wp2_with (at_builtin; go_must (refine append_u8 (w0 := w) rfl (.tmp 5) (.tmp 6) rfl _ 0 [] rfl ho (some p) n c bs rfl (hr.below hb0 (Nat.le_refl _)) hn (by omega) hb0 (by simp) ?_; intro a' c' w1 hown1 hbel1 hB1; rw [Nat.zero_add, List.nil_append] at hown1))
    go_ret
    exact ⟨a', c', by simp, hown1, hbel1⟩
end Go.Proofs.Ytchiilhdkbpboaa

/- Eight cells written, as an item is stored; rows kept meanwhile. -/
namespace Go.Proofs.Ytchiilhdkbpboaa
open Go.RowKit

theorem owns_same {w w' : World} {B e size n : Nat} {v : Value} {xs : List Value} (h : w.ownsRow B e size v n xs) (hk : ∀ k, B ≤ k → k < w.heap.size → w'.heap[k]? = w.heap[k]?) : w'.ownsRow B e size v n xs := by
  refine ⟨h.1, ?_⟩
  rcases h.2 with hn | ⟨g, cap, cur, rfl, hg, hgg, rest⟩
  · exact .inl hn
  · exact .inr ⟨g, cap, cur, rfl, hg, by rw [hk g hg (Array.getElem?_eq_some_iff.1 hgg).1]; exact hgg, rest⟩
theorem owns_base {w : World} {B B' e size n : Nat} {v : Value} {xs : List Value} (h : w.ownsRow B e size v n xs) (hB : B' ≤ B) : w.ownsRow B' e size v n xs := by
  refine ⟨h.1, ?_⟩
  rcases h.2 with hn | ⟨g, cap, cur, rfl, hg, rest⟩
  · exact .inl hn
  · exact .inr ⟨g, cap, cur, rfl, Nat.le_trans hB hg, rest⟩
/-- eight cells are written -/
def set8 (w : World) (b : Nat) (h : IH) : World := (((((((w.setCell ⟨b, 0, none⟩ (.string h.key)).setCell ⟨b, 1, none⟩ (.bool h.dead)).setCell ⟨b, 2, none⟩ (.bool h.far)).setCell ⟨b, 3, none⟩ (.slice h.a h.n h.c)).setCell ⟨b, 4, none⟩ (.int .i64 h.p.1)).setCell ⟨b, 5, none⟩ (.int .i64 h.p.2.1)).setCell ⟨b, 6, none⟩ (.int .i64 h.p.2.2.1)).setCell ⟨b, 7, none⟩ (.int .u32 (h.p.2.2.2 : Nat))
theorem set8_other (w : World) (b : Nat) (h : IH) (k : Nat) (hk : k ≠ b) : (set8 w b h).heap[k]? = w.heap[k]? := by
  unfold set8
  rw [Below.heap_setCell _ _ _ k hk, Below.heap_setCell _ _ _ k hk, Below.heap_setCell _ _ _ k hk, Below.heap_setCell _ _ _ k hk, Below.heap_setCell _ _ _ k hk, Below.heap_setCell _ _ _ k hk, Below.heap_setCell _ _ _ k hk, Below.heap_setCell _ _ _ k hk]
theorem set8_below {w0 w : World} {B : Nat} (hb : Below B w0 w) (b : Nat) (h : IH) (hB : B ≤ b) : Below B w0 (set8 w b h) :=
  (((((((hb.setCell hB _).setCell hB _).setCell hB _).setCell hB _).setCell hB _).setCell hB _).setCell hB _).setCell hB _
/-- eight cells as they lie, to be written -/
structure Eight (w : World) (b : Nat) (c0 c1 c2 c3 c4 c5 c6 c7 : Value) : Prop where
  k0 : w.cell? ⟨b, 0, none⟩ = some c0
  k1 : w.cell? ⟨b, 1, none⟩ = some c1
  k2 : w.cell? ⟨b, 2, none⟩ = some c2
  k3 : w.cell? ⟨b, 3, none⟩ = some c3
  k4 : w.cell? ⟨b, 4, none⟩ = some c4
  k5 : w.cell? ⟨b, 5, none⟩ = some c5
  k6 : w.cell? ⟨b, 6, none⟩ = some c6
  k7 : w.cell? ⟨b, 7, none⟩ = some c7
  fz : ∀ i, w.frozen? ⟨b, i, none⟩ = false
theorem eight_of {w : World} {b : Nat} {c0 c1 c2 c3 c4 c5 c6 c7 : Value} {e : TypeId} (h : w.heap[b]? = some (.cells #[c0, c1, c2, c3, c4, c5, c6, c7] e (0, 0))) : Eight w b c0 c1 c2 c3 c4 c5 c6 c7 :=
  ⟨(Go.Joins.cell_of_block h _).trans rfl, (Go.Joins.cell_of_block h _).trans rfl, (Go.Joins.cell_of_block h _).trans rfl, (Go.Joins.cell_of_block h _).trans rfl, (Go.Joins.cell_of_block h _).trans rfl, (Go.Joins.cell_of_block h _).trans rfl, (Go.Joins.cell_of_block h _).trans rfl, (Go.Joins.cell_of_block h _).trans rfl, fun i => Go.Joins.unfrozen_of_block h i⟩
end Go.Proofs.Ytchiilhdkbpboaa

/- Rows cut: their beginnings and ends. -/
namespace Go.Proofs.Ytchiilhdkbpboaa
open Go.RowKit

theorem TRow.take {α : Type} {s : Nat} {enc : α → List Value} {d : α} {w : World} {a : Option Addr} {n : Nat} {l : List α} (h : TRow s enc d w a n l) (j : Nat) (hj : j ≤ n) : TRow s enc d w a j (l.take j) := by
  obtain ⟨h1, h2, h3⟩ := h
  refine ⟨by rw [List.length_take]; omega, by omega, ?_⟩
  rcases h3 with h0 | ⟨b, off, e, hc⟩
  · exact .inl (by omega)
  · refine .inr ⟨b, off, e, fun i hi => ?_⟩
    have := hc i (by omega)
    rw [show (l.take j).getD i d = l.getD i d by rw [List.getD_eq_getElem?_getD, List.getD_eq_getElem?_getD, List.getElem?_take, if_pos hi]]
    exact this
theorem TRow.drop {α : Type} {s : Nat} {enc : α → List Value} {d : α} {w : World} {b off n : Nat} {l : List α} (h : TRow s enc d w (some ⟨b, off, none⟩) n l) (j : Nat) (hj : j ≤ n) : TRow s enc d w (some ⟨b, off + j * s, none⟩) (n - j) (l.drop j) := by
  obtain ⟨h1, h2, h3⟩ := h
  refine ⟨by rw [List.length_drop]; omega, by omega, ?_⟩
  rcases h3 with h0 | ⟨b', off', e, hc⟩
  · exact .inl (by omega)
  · cases e
    refine .inr ⟨b, off + j * s, rfl, fun i hi => ?_⟩
    have := hc (j + i) (by omega)
    rw [show (l.drop j).getD i d = l.getD (j + i) d by rw [List.getD_eq_getElem?_getD, List.getD_eq_getElem?_getD, List.getElem?_drop]]
    rw [Nat.add_mul, ← Nat.add_assoc] at this
    exact this
theorem getD_drop' {α : Type} (l : List α) (k i : Nat) (d : α) : (l.drop k).getD i d = l.getD (k + i) d := by rw [List.getD_eq_getElem?_getD, List.getD_eq_getElem?_getD, List.getElem?_drop]
theorem getD_take' {α : Type} (l : List α) {k i : Nat} (d : α) (h : i < k) : (l.take k).getD i d = l.getD i d := by rw [List.getD_eq_getElem?_getD, List.getD_eq_getElem?_getD, List.getElem?_take, if_pos h]
theorem ItAll.drop {w : World} {gs : List IH} {xs : List It.I} (h : ItAll w gs xs) (k : Nat) : ItAll w (gs.drop k) (xs.drop k) := by
  refine ⟨by rw [List.length_drop, List.length_drop, h.1], fun i hi => ?_⟩
  rw [getD_drop', getD_drop']
  rw [List.length_drop] at hi
  exact h.2 (k + i) (by omega)
theorem ItAll.take {w : World} {gs : List IH} {xs : List It.I} (h : ItAll w gs xs) (k : Nat) : ItAll w (gs.take k) (xs.take k) := by
  refine ⟨by rw [List.length_take, List.length_take, h.1], fun i hi => ?_⟩
  rw [List.length_take] at hi
  rw [getD_take' _ _ (by omega), getD_take' _ _ (by omega)]
  exact h.2 i (by omega)
/-- items from one on -/
theorem InI.from {w : World} {b off n c : Nat} {gs : List IH} {xs : List It.I} (h : InI w (some ⟨b, off, none⟩) n c gs xs) (k : Nat) (hk : k ≤ n) : InI w (some ⟨b, off + k * 8, none⟩) (n - k) (c - k) (gs.drop k) (xs.drop k) :=
  ⟨⟨h.1.1.drop k hk, h.1.2.drop k⟩, (fun e => by cases e), by have := h.2.2; omega⟩
/-- items from one on up to another -/
theorem InI.cut {w : World} {b off n c : Nat} {gs : List IH} {xs : List It.I} (h : InI w (some ⟨b, off, none⟩) n c gs xs) (k m : Nat) (hk : k ≤ m) (hm : m ≤ n) : InI w (some ⟨b, off + k * 8, none⟩) (m - k) (m - k) ((gs.take m).drop k) ((xs.take m).drop k) :=
  ⟨⟨(h.1.1.take m hm).drop k hk, (h.1.2.take m).drop k⟩, (fun e => by cases e), Nat.le_refl _⟩
end Go.Proofs.Ytchiilhdkbpboaa
