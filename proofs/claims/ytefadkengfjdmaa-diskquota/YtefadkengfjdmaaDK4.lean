/- The disk's find, Size, Stop, Fault, New. -/
import Derived.Test.YtefadkengfjdmaaDK3
namespace Go.Proofs.Ytefadkengfjdmaa
open Go.RowKit

theorem below_drew (w : World) (n : Nat) : Below w.heap.size w (w.drewN n) := below_drewN _ w n
theorem MapAt.drewN {α β : Type} {ek : α → Value} {ev : β → Value} {w : World} {b : Nat} {l : List (α × β)} (h : MapAt ek ev w b l) (n : Nat) : MapAt ek ev (w.drewN n) b l := h.keep rfl
theorem look_j {J : List (Nat × FH × Dk.F)} {n : Nat} : look (J.map fun x => (x.1, x.2.1)) n = (look J n).map (·.1) := look_map (fun y : FH × Dk.F => y.1) J n

set_option maxHeartbeats 1000000 in
theorem find_some {w : World} {p u fm nm sm : Nat} {D : Dk.D} {tv : Value} {J : List (Nat × FH × Dk.F)} (h : Parts w p D u fm nm sm tv J) (s : ByteArray) {n : Nat} {x : FH} {f : Dk.F} (h1 : look D.names s = some n) (h2 : look J n = some (x, f)) :
    Calls Try.prog 23 #[.pointer (some ⟨p, 0, none⟩), .string s] w fun e w' => e = .returned (.pointer (some ⟨x.q, 0, none⟩)) ∧ ∃ n, w' = w.drewN n := by
  obtain ⟨⟨c0, c1, c2, c3, c4, c5, c6, c7, c8, c9⟩, hf⟩ := h.cells
  have hm := made_any h
  have l1 : ∀ m, (Instr.lookup 46 (.map (some nm)) (.string s) false).run Try.prog (w.drewN m) = .ok (.int .i64 (n : Int)) (w.drewN m) := fun m => (run_lookup_at skE Try.underlying46 (h.names.drewN m) s).1 n h1
  have l2 : ∀ m, (Instr.lookup 45 (.map (some fm)) (.int .i64 (n : Int)) false).run Try.prog (w.drewN m) = .ok (.pointer (some ⟨x.q, 0, none⟩)) (w.drewN m) := fun m => (run_lookup_at ikE Try.underlying45 (h.files.drewN m) n).1 x (by rw [look_j, h2]; rfl)
  clear h h1 h2
  go_enter Try.func23, Try.ntmps23
  go_wp2_with (go_at_call 20; go_must (refine hm.mono ?_; rintro e w1 ⟨rfl, hw⟩; subst hw))
  go_quiet (fail)
  go_wp2
  go_ret
  exact ⟨rfl, _, rfl⟩

set_option maxHeartbeats 1000000 in
theorem find_none {w : World} {p u fm nm sm : Nat} {D : Dk.D} {tv : Value} {J : List (Nat × FH × Dk.F)} (h : Parts w p D u fm nm sm tv J) (s : ByteArray) (h1 : look D.names s = none) (h2 : look J 0 = none) :
    Calls Try.prog 23 #[.pointer (some ⟨p, 0, none⟩), .string s] w fun e w' => e = .returned (.pointer none) ∧ ∃ n, w' = w.drewN n := by
  obtain ⟨⟨c0, c1, c2, c3, c4, c5, c6, c7, c8, c9⟩, hf⟩ := h.cells
  have hm := made_any h
  have z1 : ∀ w : World, (zeroValue 3).run Try.prog w = .ok (.int .i64 0) w := fun w => Try.zeroValue3 w
  have z2 : ∀ w : World, (zeroValue 54).run Try.prog w = .ok (.pointer none) w := fun w => Try.zeroValue54 w
  have l1 : ∀ m, (Instr.lookup 46 (.map (some nm)) (.string s) false).run Try.prog (w.drewN m) = .ok (.int .i64 0) (w.drewN m) := fun m => (run_lookup_at skE Try.underlying46 (h.names.drewN m) s).2 _ h1 (z1 _)
  have l2 : ∀ m, (Instr.lookup 45 (.map (some fm)) (.int .i64 0) false).run Try.prog (w.drewN m) = .ok (.pointer none) (w.drewN m) := fun m => (run_lookup_at ikE Try.underlying45 (h.files.drewN m) 0).2 _ (by rw [look_j, h2]; rfl) (z2 _)
  clear h h1 h2 z1 z2
  go_enter Try.func23, Try.ntmps23
  go_wp2_with (go_at_call 20; go_must (refine hm.mono ?_; rintro e w1 ⟨rfl, hw⟩; subst hw))
  go_quiet (fail)
  go_wp2
  go_ret
  exact ⟨rfl, _, rfl⟩
end Go.Proofs.Ytefadkengfjdmaa
