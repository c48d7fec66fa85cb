/- Rows of numbers: told, searched, copied, one of them taken out. -/
import Derived.Test.YtnoknmnbfkdccaaGreatDoorGa
import Derived.Test.YtnoknmnbfkdccaaGreatDoorShelf
import Derived.Lib.SlKeysI
import Derived.Lib.Slices
import Derived.Test.YtnoknmnbfkdccaaGreatDoorVLa
import Derived.BigQuiet
namespace Go.Proofs.YtnoknmnbfkdccaaGreatDoor
open Go.RowKit

def ze (z : Int) : List Value := [.int .i64 z]
theorem zeE : Enc 1 ze := ⟨fun _ => rfl, fun x u hu => by simp only [ze, List.mem_cons, List.not_mem_nil, or_false] at hu; rw [hu]; rfl⟩
theorem intZ : Elem 22 3 1 8 (.int .i64 0) := ⟨Tryz.underlying22, by kernel_rfl, rfl, by decide, by decide⟩
abbrev ZRow (w : World) (a : Option Addr) (n : Nat) (l : List Int) : Prop := TRow 1 ze 0 w a n l
theorem zget {w wr : World} {a : Option Addr} {n k : Nat} {l : List Int} (h : ZRow w a n l) (hb : Below w.heap.size w wr) (hk : k < n) :
    ∃ b off x, a = some ⟨b, off, none⟩ ∧ Hid (l.getD k 0 = x) ∧ wr.cell? ⟨b, off + k, none⟩ = some (.int .i64 x) := by
  obtain ⟨b, off, rfl, hc⟩ := h.at (by omega)
  have h0 : w.cell? ⟨b, off + k, none⟩ = some (.int .i64 (l.getD k 0)) := by
    have := hc k hk 0 _ rfl
    rw [Nat.mul_one] at this
    exact this
  exact ⟨b, off, _, rfl, (rfl : _ = _), (hb.cell (p := ⟨b, off + k, none⟩) (cell_lt h0)).trans h0⟩
theorem lit_z (w : World) (x : Int) {g : Nat} (hg : w.heap.size = g) : ZRow (w.alloc (.cells #[.int .i64 x] 3)) (some ⟨g, 0, none⟩) 1 [x] :=
  trow_lit w _ _ _ hg (fun j u hj => by
    match j, hj with
    | 0, hj => exact hj
    | j + 1, hj => simp [ze] at hj)
theorem gdrop {α : Type} {l : List α} {k : Nat} (d : α) (hk : k < l.length) : l.drop k = l.getD k d :: l.drop (k + 1) := by
  rw [List.drop_eq_getElem_cons hk]; simp [hk]
theorem gtake {α : Type} {l : List α} {k : Nat} (d : α) (hk : k < l.length) : l.take (k + 1) = l.take k ++ [l.getD k d] := by
  rw [List.take_succ_eq_append_getElem hk]; simp [hk]
theorem encz_cells (l : List Int) : l.map (Value.int .i64) = tcells ze l := by
  unfold tcells
  induction l with
  | nil => rfl
  | cons x l ih => rw [List.map_cons, List.flatMap_cons, ih]; rfl
theorem own_take {w : World} {B E s g n c m : Nat} {xs : List Value} (h : w.ownsRow B E s (.slice (some ⟨g, 0, none⟩) n c) n xs) (hm : m ≤ n) : w.ownsRow B E s (.slice (some ⟨g, 0, none⟩) m c) m (xs.take (m * s)) := by
  have hms : m * s ≤ n * s := Nat.mul_le_mul_right s hm
  obtain ⟨h1, h2⟩ := h
  refine ⟨by rw [List.length_take, h1]; omega, ?_⟩
  rcases h2 with ⟨e, _⟩ | ⟨g', cap, cur, e, hB, hg, hn, hmx, hs, ht⟩
  · cases e
  · simp only [Value.slice.injEq, Option.some.injEq, Addr.mk.injEq] at e
    obtain ⟨⟨rfl, _⟩, _, rfl⟩ := e
    refine .inr ⟨g, c, cur, rfl, hB, hg, by omega, hmx, hs, ?_⟩
    rw [← ht, List.take_take, Nat.min_eq_left hms]
theorem town_blk {w : World} {B n c : Nat} {a : Option Addr} {xs : List Value} {E s : Nat} (h : w.ownsRow B E s (.slice a n c) n xs) (hn : 0 < n) : ∃ g, a = some ⟨g, 0, none⟩ := by
  rcases h.2 with ⟨_, h⟩ | ⟨g', cap, cur, e, _⟩
  · omega
  · simp only [Value.slice.injEq] at e
    exact ⟨g', e.1⟩
theorem tcells_take_s {α : Type} {s : Nat} {enc : α → List Value} (hE : Enc s enc) (l : List α) (m : Nat) : (tcells enc l).take (m * s) = tcells enc (l.take m) := by
  rcases Nat.lt_or_ge m l.length with h | h
  · have e : tcells enc l = tcells enc (l.take m) ++ tcells enc (l.drop m) := by rw [← tcells_append, List.take_append_drop]
    have hl : (tcells enc (l.take m)).length = m * s := by rw [tcells_length hE, List.length_take, Nat.min_eq_left (by omega)]
    rw [e, List.take_append_of_le_length (by omega), List.take_of_length_le (by omega)]
  · rw [List.take_of_length_le h, List.take_of_length_le (by rw [tcells_length hE]; exact Nat.mul_le_mul_right s h)]
theorem zown_len {w : World} {B n c : Nat} {a : Option Addr} {l : List Int} (h : w.ownsRow B 3 1 (.slice a n c) n (tcells ze l)) : l.length = n := by
  have := h.1; rw [tcells_length zeE] at this; omega
theorem grow_nil (W : World) : Sort.grow W #[] = W := by simp [Sort.grow]

theorem zcont_any (a : Option Addr) (n c : Nat) (l : List Int) (x : Int) (w : World) (hn : n ≤ 1000000) (hr : ZRow w a n l) :
    Calls Tryz.prog 86 #[.slice a n c, .int .i64 x] w fun e w' => e = .returned (.bool (l.contains x)) ∧ w' = w := by
  obtain rfl := hr.1
  cases hz : l.length with
  | zero =>
    obtain rfl : l = [] := List.length_eq_zero_iff.mp hz
    exact Tryz.slices_Contains_int_empty a c x w
  | succ m =>
    rw [← hz]
    obtain ⟨b, off, rfl, hc⟩ := hr.at (by omega)
    have h := Tryz.slices_Contains_int b off l.length c l x w (Nat.le_refl _) (by omega) (fun j hj => by
      have := hc j hj 0 _ rfl
      rw [Nat.mul_one] at this
      exact this)
    rw [List.take_length] at h
    exact h
/-- where a number stands -/
theorem zidx_of : ∀ (l : List Int) (k : Nat), k < l.length → (∀ j, j < k → l.getD j 0 ≠ l.getD k 0) → Lib.idxOf l (l.getD k 0) = (k : Int) := fun l k hk h => by
  have := Lib.idxFrom_hit (l.getD k 0) l k 0 hk rfl h
  rw [Nat.zero_add] at this
  exact this
theorem zindex_any (a : Option Addr) (n c k : Nat) (l : List Int) (x : Int) (w : World) (hn : n ≤ 1000000) (hr : ZRow w a n l) (hk : k < l.length) (hx : l.getD k 0 = x) (h : ∀ j, j < k → l.getD j 0 ≠ x) :
    Calls Tryz.prog 58 #[.slice a n c, .int .i64 x] w fun e w' => e = .returned (.int .i64 (k : Int)) ∧ w' = w := by
  obtain rfl := hr.1
  obtain ⟨b, off, rfl, hc⟩ := hr.at (by omega)
  have hh := Tryz.slices_Index_int b off l.length c l x w (Nat.le_refl _) (by omega) (fun j hj => by
    have := hc j hj 0 _ rfl
    rw [Nat.mul_one] at this
    exact this)
  subst hx
  rw [List.take_length, zidx_of l k hk h] at hh
  exact hh
/-- a new row of numbers -/
def ZRes (w : World) (l : List Int) (e : Ending) (w' : World) : Prop := ∃ a c, e = .returned (.slice a l.length c) ∧ w'.ownsRow w.heap.size 3 1 (.slice a l.length c) l.length (tcells ze l) ∧ Below w.heap.size w w'
theorem zclone_any (a : Option Addr) (n c : Nat) (l : List Int) (w : World) (hn : n ≤ 1000000) (hr : ZRow w a n l) :
    Calls Tryz.prog 34 #[.slice a n c] w (ZRes w l) := by
  obtain rfl := hr.1
  cases a with
  | none =>
    have h0 : l.length = 0 := by
      rcases Nat.eq_zero_or_pos l.length with h | h
      · exact h
      · obtain ⟨b, off, e, _⟩ := hr.at h; cases e
    obtain rfl : l = [] := List.length_eq_zero_iff.mp h0
    refine (Tryz.slices_Clone_int_nil _ c w).mono ?_
    rintro e w' ⟨rfl, rfl⟩
    exact ⟨none, 0, rfl, ⟨rfl, .inl ⟨rfl, rfl⟩⟩, Below.refl _ _⟩
  | some p =>
    cases hz : l.length with
    | zero =>
      obtain rfl : l = [] := List.length_eq_zero_iff.mp hz
      refine (Tryz.slices_Clone_int_zero p c w).mono ?_
      rintro e w' ⟨v, rfl, ho, _, hb⟩
      obtain ⟨a', c', rfl, _⟩ := t_shape ho
      exact ⟨a', c', rfl, ho, hb⟩
    | succ m =>
      rw [← hz]
      obtain ⟨b, off, e, hc⟩ := hr.at (by omega)
      cases e
      have h := Tryz.slices_Clone_int b off l.length c l w (Nat.le_refl _) (by omega) (fun j hj => by
        have := hc j hj 0 _ rfl
        rw [Nat.mul_one] at this
        exact this)
      refine h.mono ?_
      rintro e w' ⟨v, rfl, ho, _, hb⟩
      rw [List.take_length, encz_cells] at ho
      obtain ⟨a', c', rfl, _⟩ := t_shape ho
      exact ⟨a', c', rfl, ho, hb⟩
theorem zdel_any (a : Option Addr) (n c B i j : Nat) (l : List Int) (w : World) (hown : w.ownsRow B 3 1 (.slice a n c) n (tcells ze l)) (hi : i < n) (hj : j = i + 1) :
    Calls Tryz.prog 59 #[.slice a n c, .int .i64 i, .int .i64 j] w fun e w' => e = .returned (.slice a (n - 1) c) ∧ w'.ownsRow B 3 1 (.slice a (n - 1) c) (n - 1) (tcells ze (l.take i ++ l.drop (i + 1))) ∧ w.grownBy w' (Value.slice a n c).ownBlock := by
  have hl := zown_len hown
  rcases hown.2 with ⟨e, h0⟩ | ⟨g, cap, cur, e, hBg, hg, h1, h2, h3, h4⟩
  · omega
  · simp only [Value.slice.injEq] at e
    obtain ⟨rfl, _, rfl⟩ := e
    subst hl hj
    rw [← encz_cells, Nat.mul_one] at h4
    refine (Tryz.slices_Delete_int g 0 c i (i + 1) l w (holds_of_block_i hg h4) h1 (by unfold maxLen at h2; omega) (by omega) (by omega)).mono ?_
    rintro e w' ⟨rfl, q, rfl⟩
    have e1 : i + 1 - i = 1 := by omega
    rw [e1]
    have hs : (l.take i ++ l.drop (i + 1) ++ List.replicate 1 0).length = l.length := by simp; omega
    have ho := ownsRow_sorted_i (base := B) (n := q) (os := #[]) hs hBg hg h1 h2 h3
    rw [grow_nil] at ho
    have hgr := grownBy_sorted_i (w := w) (g := g) (n := q) (os := #[]) (l.take i ++ l.drop (i + 1) ++ List.replicate 1 0).toArray
    rw [grow_nil] at hgr
    have ht := own_take ho (m := l.length - 1) (by omega)
    have hm : ((l.take i ++ l.drop (i + 1) ++ List.replicate 1 0).map encZ).take ((l.length - 1) * 1) = tcells ze (l.take i ++ l.drop (i + 1)) := by
      have hq : (l.take i ++ l.drop (i + 1) ++ List.replicate 1 0).map encZ = tcells ze (l.take i ++ l.drop (i + 1) ++ List.replicate 1 0) := encz_cells _
      rw [hq, tcells_take_s zeE, List.take_append_of_le_length (by simp; omega), List.take_of_length_le (by simp; omega)]
    rw [hm] at ht
    exact ⟨rfl, ht, hgr⟩
end Go.Proofs.YtnoknmnbfkdccaaGreatDoor

/- A log as it lies in memory; its small functions: mayBe, made, last, has, there, Size. -/
namespace Go.Proofs.YtnoknmnbfkdccaaGreatDoor
open Go.RowKit Go.Shelf

namespace Vl
/-- do numbers rise above p? -/
def rise : Int → List Int → Bool
  | _, [] => true
  | p, s :: l => decide (p < s ∧ s ≤ 2147483647) && rise s l
/-- may segments be? -/
def may (l : List Int) : Bool := decide (l.length ≤ 64) && rise 0 l
theorem rise_mem : ∀ {l : List Int} {p s : Int}, rise p l = true → s ∈ l → p < s ∧ s ≤ 2147483647
  | x :: l, p, s, h, hs => by
    simp only [rise, Bool.and_eq_true, decide_eq_true_eq] at h
    rcases List.mem_cons.1 hs with rfl | hs
    · exact h.1
    · have := rise_mem h.2 hs; omega
theorem rise_pair : ∀ {l : List Int} {p : Int}, rise p l = true → l.Pairwise (· < ·)
  | [], _, _ => .nil
  | x :: l, p, h => by
    simp only [rise, Bool.and_eq_true, decide_eq_true_eq] at h
    exact .cons (fun y hy => (rise_mem h.2 hy).1) (rise_pair h.2)
theorem may_mem {l : List Int} {s : Int} (h : may l = true) (hs : s ∈ l) : 1 ≤ s ∧ s ≤ 2147483647 := by
  simp only [may, Bool.and_eq_true] at h
  have := rise_mem h.2 hs; omega
theorem may_len {l : List Int} (h : may l = true) : l.length ≤ 64 := by
  simp only [may, Bool.and_eq_true, decide_eq_true_eq] at h; exact h.1
theorem may_pair {l : List Int} (h : may l = true) : l.Pairwise (· < ·) := by
  simp only [may, Bool.and_eq_true] at h; exact rise_pair h.2
/-- the last one; 0: there is none -/
def last (l : List Int) : Int := l.getD (l.length - 1) 0
theorem last_mem {l : List Int} (h : l ≠ []) : last l ∈ l := by
  have := List.length_pos_iff.2 h
  have hl : l.length - 1 < l.length := by omega
  unfold last
  rw [show l.getD (l.length - 1) 0 = l[l.length - 1] by simp [hl]]
  exact List.getElem_mem hl
end Vl

set_option maxRecDepth 100000 in
set_option maxHeartbeats 1000000 in
theorem vmay_any (a : Option Addr) (n c : Nat) (l : List Int) (w : World) (hn : n ≤ 1000000) (hr : ZRow w a n l) (R : Bool) (hR : R = Vl.may l) :
    Calls Tryz.prog 49 #[.slice a n c] w fun e w' => e = .returned (.bool R) ∧ w' = w := by
  have hll : Hid (l.length = n) := hr.1
  by_cases h : n ≤ 64
  · have d1 : decide ((64 : Int) < (n : Int)) = false := by simp; omega
    have d2 : ¬ ((64 : Int) < (n : Int)) := by omega
    have HR : Hid (R = Vl.rise 0 (l.drop 0)) := (by rw [hR, Vl.may, hll.out]; simp [h] : R = Vl.rise 0 (l.drop 0))
    clear hR
    go_enter Tryz.func49, Tryz.ntmps49
    go_wp2
    go_loop [3, 11] (fun t i => ∃ (k : Nat) (x : Int), k ≤ n ∧ i = .int .i64 k ∧ t = .int .i64 x ∧ Hid (R = Vl.rise x (l.drop k))) (fun _ i => n - (RowKit.intOf i).toNat)
    case atStart => exact ⟨0, 0, by omega, rfl, rfl, HR⟩
    case round =>
      obtain ⟨k, x, hk, rfl, rfl, H⟩ := hrel
      by_cases hlt : k < n
      · obtain ⟨b, off, y, rfl, hy, hc⟩ := zget hr (Below.refl _ w) hlt
        have H1 : Hid (R = (decide (x < y ∧ y ≤ 2147483647) && Vl.rise y (l.drop (k + 1)))) := (by rw [H.out, gdrop 0 (by rw [hll.out]; exact hlt), hy.out]; rfl : R = (decide (x < y ∧ y ≤ 2147483647) && Vl.rise y (l.drop (k + 1))))
        have i1 : (k : Int) < (n : Int) := by omega
        by_cases h1 : y ≤ x
        · have H2 : Hid (R = false) := (by rw [H1.out, decide_eq_false (show ¬ (x < y ∧ y ≤ 2147483647) by omega)]; rfl : R = false)
          clear H H1 HR
          go_wp2
          go_ret
          exact ⟨by rw [H2.out]; rfl, rfl⟩
        · by_cases h2 : 2147483647 < y
          · have H2 : Hid (R = false) := (by rw [H1.out, decide_eq_false (show ¬ (x < y ∧ y ≤ 2147483647) by omega)]; rfl : R = false)
            clear H H1 HR
            go_wp2
            go_ret
            exact ⟨by rw [H2.out]; rfl, rfl⟩
          · have H2 : Hid (R = Vl.rise y (l.drop (k + 1))) := (by rw [H1.out, decide_eq_true (show x < y ∧ y ≤ 2147483647 by omega)]; rfl : R = Vl.rise y (l.drop (k + 1)))
            clear H H1 HR
            go_wp2
            go_round
            case rel => exact ⟨k + 1, y, by omega, by go_num, rfl, H2⟩
            case measure => simp [RowKit.intOf]; omega
      · obtain rfl : k = n := by omega
        have H2 : Hid (R = true) := (by rw [H.out, List.drop_of_length_le (by rw [hll.out]; omega)]; rfl : R = true)
        clear H HR
        go_wp2
        go_ret
        exact ⟨by rw [H2.out]; rfl, rfl⟩
  · have d1 : decide ((64 : Int) < (n : Int)) = true := by simp; omega
    have d2 : ((64 : Int) < (n : Int)) := by omega
    have HR : Hid (R = false) := (by rw [hR, Vl.may, hll.out]; simp [h] : R = false)
    clear hR
    go_enter Tryz.func49, Tryz.ntmps49
    go_wp2
    go_ret
    exact ⟨by rw [HR.out]; rfl, rfl⟩

/-- a log lies at m: its disk at p, its segments -/
structure LgAt (B : Nat) (w : World) (m p : Nat) (a : Option Addr) (n c : Nat) (segs : List Int) : Prop where
  blk : w.heap[m]? = some (.cells #[.pointer (some ⟨p, 0, none⟩), .slice a n c] 67 (0, 0))
  own : w.ownsRow B 3 1 (.slice a n c) n (tcells ze segs)
  le : B ≤ m
  may : Vl.may segs = true
section
variable {B : Nat} {w : World} {m p : Nat} {a : Option Addr} {n c : Nat} {segs : List Int}
theorem LgAt.len (h : LgAt B w m p a n c segs) : segs.length = n ∧ n ≤ 64 := by
  have := zown_len h.own; have := Vl.may_len h.may; omega
theorem LgAt.row (h : LgAt B w m p a n c segs) : ZRow w a n segs := trow_of_owns zeE h.own (by omega) (by have := h.len; omega)
theorem LgAt.keep {w' : World} (h : LgAt B w m p a n c segs) (hb : Below w.heap.size w w') : LgAt B w' m p a n c segs :=
  ⟨(hb.block m (heap_lt h.blk)).trans h.blk, owns_below h.own hb, h.le, h.may⟩
theorem LgAt.wk {w' : World} {B' : Nat} (h : LgAt B w m p a n c segs) (hb : Wk B' w w') : LgAt B w' m p a n c segs :=
  ⟨hb.blk h.blk (by decide) (by decide) (by decide) (by decide), hb.own h.own (by decide) (by decide) (by decide) (by decide), h.le, h.may⟩
theorem LgAt.cells (h : LgAt B w m p a n c segs) : w.cell? ⟨m, 0, none⟩ = some (.pointer (some ⟨p, 0, none⟩)) ∧ w.cell? ⟨m, 1, none⟩ = some (.slice a n c) ∧ (∀ i, w.frozen? ⟨m, i, none⟩ = false) :=
  ⟨(Go.Joins.cell_of_block h.blk _).trans rfl, (Go.Joins.cell_of_block h.blk _).trans rfl, fun i => Go.Joins.unfrozen_of_block h.blk i⟩

theorem vmade_any (h : LgAt B w m p a n c segs) : Calls Tryz.prog 33 #[.pointer (some ⟨m, 0, none⟩)] w fun e w' => e = .returned (.bool true) ∧ w' = w := by
  obtain ⟨c0, c1, _⟩ := h.cells
  go_enter Tryz.func33, Tryz.ntmps33
  go_wp2
  all_goals go_ret
  all_goals exact ⟨rfl, rfl⟩
set_option maxRecDepth 100000 in
theorem vlast_any (h : LgAt B w m p a n c segs) (s : Int) (hs : s = Vl.last segs) : Calls Tryz.prog 35 #[.pointer (some ⟨m, 0, none⟩)] w fun e w' => e = .returned (.int .i64 s) ∧ Below w.heap.size w w' := by
  obtain ⟨c0, c1, _⟩ := h.cells
  have hl := h.len
  have hr := h.row
  by_cases h0 : n = 0
  · have : s = 0 := by
      rw [hs, show segs = [] from List.length_eq_zero_iff.1 (by omega)]; rfl
    subst this h0
    clear hs hr h
    go_enter Tryz.func35, Tryz.ntmps35
    go_wp2
    refine bodyPost_ret (results_tmp (t := 2) (by rfl) _ _ _) rfl ?_
    exact ⟨rfl, Below.refl _ _⟩
  · obtain ⟨k, rfl⟩ : ∃ k, n = k + 1 := ⟨n - 1, by omega⟩
    obtain ⟨b, off, x, rfl, hx, hc⟩ := zget hr (Below.refl _ w) (Nat.lt_succ_self k)
    have e : s = x := by rw [hs, ← hx.out, Vl.last, hl.1]; rfl
    subst e
    have i1 : IntKind.i64.wrap (((k + 1 : Nat) : Int) - 1) = (k : Int) := by rw [IntKind.wrap_i64]; omega
    have i2 : wrap64 (((k + 1 : Nat) : Int) - 1) = (k : Int) := by unfold wrap64; omega
    have i3 : ¬ (((k + 1 : Nat) : Int) = 0) := by omega
    clear hs hr h
    obtain ⟨n1, hn1⟩ : ∃ n1, n1 = k + 1 := ⟨_, rfl⟩
    rw [← hn1] at c1 i1 i2 i3
    have j1 : (0 : Int) ≤ (k : Int) := by omega
    have j2 : (k : Int) < (n1 : Int) := by omega
    have j3 : k < n1 := by omega
    have HN : Hid (n1 = k + 1) := hn1
    clear hn1
    go_enter Tryz.func35, Tryz.ntmps35
    go_wp2_with fail
    go_quiet (fail)
    go_wp2
    refine bodyPost_ret (results_tmp (t := 2) (by rfl) _ _ _) rfl ?_
    exact ⟨rfl, below_drewN _ _ _⟩
theorem vhas_any (h : LgAt B w m p a n c segs) (s : Int) : Calls Tryz.prog 52 #[.pointer (some ⟨m, 0, none⟩), .int .i64 s] w fun e w' => e = .returned (.bool (segs.contains s)) ∧ w' = w := by
  obtain ⟨c0, c1, _⟩ := h.cells
  have hm := vmade_any h
  have hc := zcont_any a n c segs s w (by have := h.len; omega) h.row
  generalize segs.contains s = r at *
  go_enter Tryz.func52, Tryz.ntmps52
  go_wp2_with (first
    | (go_at_call 33; go_must (refine hm.mono ?_; rintro e w1 ⟨rfl, hw⟩; subst hw))
    | (go_at_call 86; go_must (refine hc.mono ?_; rintro e w1 ⟨rfl, hw⟩; subst hw)))
  all_goals go_ret
  all_goals exact ⟨rfl, rfl⟩
end
end Go.Proofs.YtnoknmnbfkdccaaGreatDoor
