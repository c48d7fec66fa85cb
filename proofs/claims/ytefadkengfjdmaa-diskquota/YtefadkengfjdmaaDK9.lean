/- The disk's turns of names. -/
import Derived.Test.YtefadkengfjdmaaDK8
import Derived.Maps.OwnSet
namespace Go.Proofs.Ytefadkengfjdmaa
open Go.RowKit Go.Shelf

section
variable {P : Program} {α β : Type} [DecidableEq α] {K : TypeId} {ek : α → Value} {ev : β → Value} {w : World} {ops : Array Oper} {rest : List Oper} {o : Oper} {a : Act} {Q : Exit → Act → World → Prop}
theorem wp_update_at (hg : o.guard = none) (m x v : Operand) (t : TypeId) (hop : o.op = Op.mapUpdate t m x v) (E : TypeId) (hK : KeyE P K ek) (ht : P.underlying t = some (.map K E)) (b : Nat) (l : List (α × β)) (k : α) (y : β)
    (hm : a.eval m = .map (some b)) (hx : a.eval x = ek k) (hv : a.eval v = ev y) (h : MapAt ek ev w b l)
    (hC : ∀ w', MapAt ek ev w' b (mput l k y) → Turn1 w w' b → wpList P ops Q rest (a.put o.dst undef) w') : wpList P ops Q (o :: rest) a w := by
  refine wpList_plain hg fun K' hK' => ?_
  obtain ⟨w', hrun, r1, r2⟩ := run_update_at hK ht h k y
  unfold Oper.wp
  simp [execOp, hop, hm, hx, hv, hrun, Result.andThen]
  exact hK' _ _ (hC w' r1 r2)
theorem wp_delete_at (hg : o.guard = none) (m x : Operand) (t : TypeId) (hop : o.op = Op.call { callee := Callee.builtin Builtin.delete, args := #[m, x], argTypes := #[t, K] }) (E : TypeId) (hK : KeyE P K ek) (ht : P.underlying t = some (.map K E)) (b : Nat) (l : List (α × β)) (k : α)
    (hm : a.eval m = .map (some b)) (hx : a.eval x = ek k) (h : MapAt ek ev w b l)
    (hC : ∀ w', MapAt ek ev w' b (mdel l k) → Turn1 w w' b → wpList P ops Q rest (a.put o.dst (.tuple #[])) w') : wpList P ops Q (o :: rest) a w := by
  refine wpList_plain hg fun K' hK' => ?_
  obtain ⟨w', hrun, r1, r2⟩ := run_delete_at hK ht o.type h k
  unfold Oper.wp
  simp [execOp, hop, resolve, invoke, builtin, hm, hx, hrun, Result.andThen]
  exact hK' _ _ (hC w' r1 r2)
end

/-- names behind a turn -/
def Dk.turn (t : Dk.T) (l : List (ByteArray × Nat)) : List (ByteArray × Nat) := if t.given = ⟨#[]⟩ then mdel l t.taken else mput (mdel l t.taken) t.given t.file
def tval (t : Dk.T) : Value := .agg #[.string t.taken, .string t.given, .int .i64 (t.file : Int)]

theorem Turn1.cell {w w' : World} {b : Nat} (h : Turn1 w w' b) {p : Addr} (hp : p.block ≠ b) : w'.cell? p = w.cell? p := World.cell?_of_block (h.block _ hp)

set_option maxHeartbeats 1000000 in
theorem do_any (t : Dk.T) (b : Nat) (l : List (ByteArray × Nat)) (w : World) (h : MapAt sk ik w b l) :
    Calls Try.prog 37 #[tval t, .map (some b)] w fun e w' => e = .returned (.tuple #[]) ∧ MapAt sk ik w' b (Dk.turn t l) ∧ OnlyIn (fun k => k = b) w w' := by
  have hbs := h.lt
  have hne : ¬ (w.heap.size = b) := by omega
  have h1 : MapAt sk ik (w.alloc (.cells #[.string t.taken, .string t.given, .int .i64 (t.file : Int)] 64)) b l := h.keep (heap_alloc_old w _ hbs)
  unfold Dk.turn
  unfold tval
  have hon : ∀ {o : Obj} {w1 : World}, Turn1 (w.alloc o) w1 b → OnlyIn (fun k => k = b) w w1 := fun {o w1} ht => ⟨ht.os, ht.tape, ht.output, by rw [ht.size]; simp, fun k hk hn => (ht.block k hn).trans (heap_alloc_old w o hk)⟩
  by_cases hg : t.given = ⟨#[]⟩
  · rw [if_pos hg]
    rw [hg] at h1 ⊢
    go_enter Try.func37, Try.ntmps37
    go_wp2_with (at_delete; go_must (refine wp_delete_at (w := _) rfl _ _ _ rfl 3 skE Try.underlying46 b l t.taken rfl rfl h1 ?_; intro w1 hm1 ht1; have k0 := ht1.cell (p := ⟨w.heap.size, 0, none⟩) hne; have k1 := ht1.cell (p := ⟨w.heap.size, 1, none⟩) hne; have k2 := ht1.cell (p := ⟨w.heap.size, 2, none⟩) hne))
    first | go_end0 | refine bodyPost_ret (results_none rfl _ _ _) rfl ?_
    exact ⟨rfl, hm1, hon ht1⟩
  · rw [if_neg hg]
    have he : t.given.toList.isEmpty = false := by rw [isEmpty_kb, decide_eq_false hg]
    clear hg
    go_enter Try.func37, Try.ntmps37
    go_wp2_with (first | (at_delete; go_must (refine wp_delete_at (w := _) rfl _ _ _ rfl 3 skE Try.underlying46 b l t.taken rfl rfl h1 ?_; intro w1 hm1 ht1; have k0 := ht1.cell (p := ⟨w.heap.size, 0, none⟩) hne; have k1 := ht1.cell (p := ⟨w.heap.size, 1, none⟩) hne; have k2 := ht1.cell (p := ⟨w.heap.size, 2, none⟩) hne)) | (at_mapUpdate; go_must (refine wp_update_at (w := _) rfl _ _ _ _ rfl 3 skE Try.underlying46 b (mdel l t.taken) t.given t.file rfl rfl rfl hm1 ?_; intro w2 hm2 ht2)))
    first | go_end0 | refine bodyPost_ret (results_none rfl _ _ _) rfl ?_
    exact ⟨rfl, hm2, hon ⟨ht2.os.trans ht1.os, ht2.tape.trans ht1.tape, ht2.output.trans ht1.output, ht2.size.trans ht1.size, fun k hk => (ht2.block k hk).trans (ht1.block k hk)⟩⟩
end Go.Proofs.Ytefadkengfjdmaa
