/- The disk's Size, Stop, Fault, New. -/
import Derived.Test.YtefadkengfjdmaaDK4
import Derived.Carry
namespace Go.Proofs.Ytefadkengfjdmaa
open Go.RowKit

theorem only_set {S : Nat → Prop} (w : World) (p i : Nat) (v : Value) (hS : S p) : OnlyIn S w (w.setCell ⟨p, i, none⟩ v) :=
  ⟨rfl, rfl, rfl, by simp, fun k _ hn => Below.heap_setCell w ⟨p, i, none⟩ v k (fun e => hn (by rw [e]; exact hS))⟩
theorem set_other (w : World) (p i : Nat) (v : Value) {k : Nat} (h : k ≠ p) : (w.setCell ⟨p, i, none⟩ v).heap[k]? = w.heap[k]? := Below.heap_setCell w ⟨p, i, none⟩ v k h

section
variable {w : World} {p u fm nm sm : Nat} {D : Dk.D} {tv : Value} {J : List (Nat × FH × Dk.F)} (h : Parts w p D u fm nm sm tv J)
include h
theorem Parts.setStop (n : Int) : Parts (w.setCell ⟨p, 7, none⟩ (.int .i64 n)) p { D with stop := n } u fm nm sm tv J :=
  h.self (fun _ _ hk => set_other w p 7 _ hk) _ _ (Go.Joins.block_setCell h.blk _) rfl rfl rfl rfl
theorem Parts.setFault (n : Int) : Parts (w.setCell ⟨p, 8, none⟩ (.int .i64 n)) p { D with fault := n } u fm nm sm tv J :=
  h.self (fun _ _ hk => set_other w p 8 _ hk) _ _ (Go.Joins.block_setCell h.blk _) rfl rfl rfl rfl
theorem Parts.setDead (b : Bool) : Parts (w.setCell ⟨p, 9, none⟩ (.bool b)) p { D with dead := b } u fm nm sm tv J :=
  h.self (fun _ _ hk => set_other w p 9 _ hk) _ _ (Go.Joins.block_setCell h.blk _) rfl rfl rfl rfl
theorem Parts.setUsed {z : Int} {n : Nat} (hz : z = (n : Int)) : Parts (w.setCell ⟨p, 3, none⟩ (.int .i64 z)) p D n fm nm sm tv J :=
  hz ▸ h.self (fun _ _ hk => set_other w p 3 _ hk) _ _ (Go.Joins.block_setCell h.blk _) rfl rfl rfl rfl
theorem Parts.setLast {z : Int} {n : Nat} (hz : z = (n : Int)) : Parts (w.setCell ⟨p, 2, none⟩ (.int .i64 z)) p { D with last := n } u fm nm sm tv J :=
  hz ▸ h.self (fun _ _ hk => set_other w p 2 _ hk) _ _ (Go.Joins.block_setCell h.blk _) rfl rfl rfl rfl
end

theorem FileAt.cells {w : World} {h : FH} {f : Dk.F} (x : FileAt w h f) : w.cell? ⟨h.q, 0, none⟩ = some h.v ∧ w.cell? ⟨h.q, 1, none⟩ = some (.int .i64 (f.safe : Int)) ∧ (∀ i, w.frozen? ⟨h.q, i, none⟩ = false) :=
  ⟨(Go.Joins.cell_of_block x.blk _).trans rfl, (Go.Joins.cell_of_block x.blk _).trans rfl, fun i => Go.Joins.unfrozen_of_block x.blk i⟩

/-- which file a name has -/
def Dk.find (D : Dk.D) (s : ByteArray) : Option (Nat × Dk.F) := match look D.names s with | none => none | some n => (look D.files n).map fun f => (n, f)

theorem Parts.look {w : World} {p u fm nm sm : Nat} {D : Dk.D} {tv : Value} {J : List (Nat × FH × Dk.F)} (h : Parts w p D u fm nm sm tv J) (n : Nat) : look D.files n = (look J n).map (·.2) := by
  rw [← h.jf]
  exact look_map (fun y : FH × Dk.F => y.2) J n
theorem Parts.look0 {w : World} {p u fm nm sm : Nat} {D : Dk.D} {tv : Value} {J : List (Nat × FH × Dk.F)} (h : Parts w p D u fm nm sm tv J) (hO : Dk.Ok D) : Go.Proofs.Ytefadkengfjdmaa.look J 0 = none := by
  cases hl : Go.Proofs.Ytefadkengfjdmaa.look J 0 with
  | none => rfl
  | some y =>
    have h1 := h.look 0
    rw [hl] at h1
    have := (hO.pos _ (look_mem h1)).1
    simp at this
/-- a name is there, or it is not -/
theorem Parts.findJ {w : World} {p u fm nm sm : Nat} {D : Dk.D} {tv : Value} {J : List (Nat × FH × Dk.F)} (h : Parts w p D u fm nm sm tv J) (hO : Dk.Ok D) (s : ByteArray) :
    (Dk.find D s = none ∧ Go.Proofs.Ytefadkengfjdmaa.look D.names s = none) ∨ ∃ n x f, Dk.find D s = some (n, f) ∧ Go.Proofs.Ytefadkengfjdmaa.look D.names s = some n ∧ Go.Proofs.Ytefadkengfjdmaa.look J n = some (x, f) ∧ Go.Proofs.Ytefadkengfjdmaa.look D.files n = some f := by
  cases hn : Go.Proofs.Ytefadkengfjdmaa.look D.names s with
  | none => exact .inl ⟨by simp [Dk.find, hn], rfl⟩
  | some n =>
    obtain ⟨f, hf⟩ := look_some_of (hO.nf _ (look_mem hn))
    have h1 := h.look n
    rw [hf] at h1
    cases hj : Go.Proofs.Ytefadkengfjdmaa.look J n with
    | none => rw [hj] at h1; cases h1
    | some y =>
      rw [hj] at h1
      obtain ⟨x, f'⟩ := y
      simp only [Option.map_some, Option.some.injEq] at h1
      subst h1
      exact .inr ⟨n, x, f, by simp [Dk.find, hn, hf], rfl, hj, hf⟩

set_option maxHeartbeats 1000000 in
theorem size_any {w : World} {p : Nat} {D : Dk.D} {S : Nat → Prop} (h : DK w p D S) (s : ByteArray) :
    Calls Try.prog 14 #[.pointer (some ⟨p, 0, none⟩), .string s] w fun e w' => e = .returned (.tuple #[.int .i64 (match Dk.find D s with | some x => (x.2.bs.length : Int) | none => 0), .bool (Dk.find D s).isSome]) ∧ Below w.heap.size w w' := by
  obtain ⟨hO, fm, nm, sm, tv, J, hP, hS⟩ := h
  rcases hP.findJ hO s with ⟨e1, e2⟩ | ⟨n, x, f, e1, e2, e3, e4⟩
  · have hfd := find_none hP s e2 (hP.look0 hO)
    simp only [e1]
    go_enter Try.func14, Try.ntmps14
    go_wp2_with (go_at_call 23; go_must (refine hfd.mono ?_; rintro e w1 ⟨rfl, m, hw⟩; subst hw))
    go_ret2
    exact ⟨rfl, below_drew _ _⟩
  · have hfd := find_some hP s e2 e3
    have hx := hP.each _ (look_mem e3)
    obtain ⟨a, c, hv, _⟩ := t_shape hx.row
    obtain ⟨c0, c1, _⟩ := hx.cells
    simp only at c0 c1 hv
    rw [hv] at c0
    simp only [e1]
    go_enter Try.func14, Try.ntmps14
    go_wp2_with (go_at_call 23; go_must (refine hfd.mono ?_; rintro e w1 ⟨rfl, m, hw⟩; subst hw))
    go_ret2
    exact ⟨rfl, below_drew _ _⟩

theorem Dk.Ok.with {D D' : Dk.D} (h : Dk.Ok D) (h0 : D'.quota = D.quota) (h1 : D'.files = D.files) (h2 : D'.names = D.names) (h3 : D'.kept = D.kept) (h4 : D'.turns = D.turns) (h5 : D'.last = D.last) (h6 : -9223372036854775808 ≤ D'.stop ∧ D'.stop ≤ 9223372036854775807) (h7 : -9223372036854775808 ≤ D'.fault ∧ D'.fault ≤ 9223372036854775807) : Dk.Ok D' where
  q := h0 ▸ h.q
  use := by rw [h0, h1]; exact h.use
  fk := h1 ▸ h.fk
  pos := by rw [h1, h5]; exact h.pos
  nk := h2 ▸ h.nk
  kk := h3 ▸ h.kk
  nf := by rw [h1, h2]; exact h.nf
  kf := by rw [h1, h3]; exact h.kf
  tf := by rw [h1, h4]; exact h.tf
  stop := h6
  fault := h7
  ns := h2 ▸ h.ns
  ks := h3 ▸ h.ks
  ts := h4 ▸ h.ts

def Dk.stopped (D : Dk.D) (n : Int) : Dk.D := { D with stop := n, dead := (n == 0) || D.dead }
set_option maxHeartbeats 1000000 in
theorem stop_any {w : World} {p : Nat} {D : Dk.D} {S : Nat → Prop} (h : DK w p D S) (n : Int) (hn : -9223372036854775808 ≤ n ∧ n ≤ 9223372036854775807) :
    Calls Try.prog 18 #[.pointer (some ⟨p, 0, none⟩), .int .i64 n] w fun e w' => e = .returned (.tuple #[]) ∧ DK w' p (Dk.stopped D n) S ∧ OnlyIn S w w' := by
  obtain ⟨hO, fm, nm, sm, tv, J, hP, hS⟩ := h
  obtain ⟨⟨c0, c1, c2, c3, c4, c5, c6, c7, c8, c9⟩, hf⟩ := hP.cells
  have hm := made_any hP
  have hSp := hS p (.inl rfl)
  have hp := heap_lt hP.blk
  have hO' : Dk.Ok (Dk.stopped D n) := hO.with rfl rfl rfl rfl rfl rfl hn hO.fault
  by_cases h0 : n = 0
  · subst h0
    go_enter Try.func18, Try.ntmps18
    go_wp2_with (go_at_call 20; go_must (refine hm.mono ?_; rintro e w1 ⟨rfl, hw⟩; subst hw))
    first | go_end0 | refine bodyPost_ret (results_none rfl _ _ _) rfl ?_
    refine ⟨rfl, ⟨hO', fm, nm, sm, tv, J, (hP.setStop 0).setDead true, hS⟩, (only_set _ p 7 _ hSp).trans ((only_set _ p 9 _ (.inl hSp)))⟩
  · have hb : (n == 0) = false := by simp [h0]
    go_enter Try.func18, Try.ntmps18
    go_wp2_with (go_at_call 20; go_must (refine hm.mono ?_; rintro e w1 ⟨rfl, hw⟩; subst hw))
    first | go_end0 | refine bodyPost_ret (results_none rfl _ _ _) rfl ?_
    refine ⟨rfl, ⟨hO', fm, nm, sm, tv, J, ?_, hS⟩, only_set _ p 7 _ hSp⟩
    have := hP.setStop n
    rw [show Dk.stopped D n = { D with stop := n } by simp [Dk.stopped, hb]]
    exact this

set_option maxHeartbeats 1000000 in
theorem fault_any {w : World} {p : Nat} {D : Dk.D} {S : Nat → Prop} (h : DK w p D S) (n : Int) (hn : -9223372036854775808 ≤ n ∧ n ≤ 9223372036854775807) :
    Calls Try.prog 19 #[.pointer (some ⟨p, 0, none⟩), .int .i64 n] w fun e w' => e = .returned (.tuple #[]) ∧ DK w' p { D with fault := n } S ∧ OnlyIn S w w' := by
  obtain ⟨hO, fm, nm, sm, tv, J, hP, hS⟩ := h
  obtain ⟨⟨c0, c1, c2, c3, c4, c5, c6, c7, c8, c9⟩, hf⟩ := hP.cells
  have hm := made_any hP
  have hSp := hS p (.inl rfl)
  go_enter Try.func19, Try.ntmps19
  go_wp2_with (go_at_call 20; go_must (refine hm.mono ?_; rintro e w1 ⟨rfl, hw⟩; subst hw))
  first | go_end0 | refine bodyPost_ret (results_none rfl _ _ _) rfl ?_
  exact ⟨rfl, ⟨hO.with rfl rfl rfl rfl rfl rfl hO.stop hn, fm, nm, sm, tv, J, hP.setFault n, hS⟩, only_set _ p 8 _ hSp⟩

theorem heap_alloc_at (W : World) (o : Obj) (k : Nat) : (W.alloc o).heap[k]? = if k = W.heap.size then some o else W.heap[k]? := by
  show (W.heap.push o)[k]? = _
  rw [Array.getElem?_push]
def Dk.new (q : Nat) : Dk.D := ⟨q, [], 0, [], [], [], 0, 0, false⟩
set_option maxHeartbeats 1000000 in
theorem new_any (q : Nat) (w : World) (hq : q ≤ 4194304) :
    Calls Try.prog 6 #[.int .i64 (q : Int)] w fun e w' => ∃ p, e = .returned (.tuple #[.pointer (some ⟨p, 0, none⟩), .int .i64 0]) ∧ DK w' p (Dk.new q) (fun k => w.heap.size ≤ k) ∧ Below w.heap.size w w' := by
  have hO : Dk.Ok (Dk.new q) := ⟨hq, by simp [Dk.new, Dk.sum], by simp [Dk.new], by simp [Dk.new], by simp [Dk.new], by simp [Dk.new], by simp [Dk.new], by simp [Dk.new], by simp [Dk.new], by simp [Dk.new], by simp [Dk.new], by simp [Dk.new], by simp [Dk.new], by simp [Dk.new]⟩
  have hmm := @run_makeMap Try.prog
  go_enter Try.func6, Try.ntmps6
  go_wp2
  go_ret2
  have empty : ∀ {α β : Type} {ek : α → Value} {ev : β → Value} {W : World} {b : Nat}, W.heap[b]? = some (.map #[] 0) → MapAt ek ev W b ([] : List (α × β)) := fun h => ⟨#[], 0, h, rfl, by simp, by simp⟩
  refine ⟨w.heap.size + 3, ?_, ⟨hO, w.heap.size, w.heap.size + 1, w.heap.size + 2, .slice none 0 0, [], ⟨?_, rfl, empty ?_, empty ?_, empty ?_, ⟨rfl, .inl ⟨rfl, rfl⟩⟩, by simp, by simp, by simp, by omega⟩, ?_⟩, ?_⟩
  · rfl
  · rw [heap_alloc_at, if_pos (by simp)]; rfl
  · rw [heap_alloc_at, if_neg (by simp <;> omega), heap_alloc_at, if_neg (by simp <;> omega), heap_alloc_at, if_neg (by simp <;> omega), heap_alloc_at, if_pos rfl]
  · rw [heap_alloc_at, if_neg (by simp <;> omega), heap_alloc_at, if_neg (by simp <;> omega), heap_alloc_at, if_pos (by simp)]
  · rw [heap_alloc_at, if_neg (by simp <;> omega), heap_alloc_at, if_pos (by simp)]
  · rintro k (rfl | rfl | rfl | rfl | hk | ⟨x, hx, _⟩)
    · omega
    · exact Nat.le_refl _
    · omega
    · omega
    · simp [Value.ownBlock] at hk
    · simp at hx
  · refine (Below.refl _ _).trans ?_
    exact ((((below_alloc w _).trans ((below_alloc _ _).mono (by simp))).trans ((below_alloc _ _).mono (by simp; omega))).trans ((below_alloc _ _).mono (by simp; omega)))
end Go.Proofs.Ytefadkengfjdmaa
