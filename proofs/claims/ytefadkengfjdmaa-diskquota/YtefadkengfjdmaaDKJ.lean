/- The disk's SyncNames. -/
import Derived.Test.YtefadkengfjdmaaDKI
namespace Go.Proofs.Ytefadkengfjdmaa
open Go.RowKit Go.Shelf

set_option maxRecDepth 100000 in
set_option maxHeartbeats 1000000 in
theorem syncnames1_any {w : World} {p fm nm sm : Nat} {D : Dk.D} {tv : Value} {J : List (Nat × FH × Dk.F)} {S : Nat → Prop} (hO : Dk.Ok D) (hP : Parts w p D (Dk.sum D.files) fm nm sm tv J) (hS : ∀ k, foot p fm nm sm tv J k → S k) (htl : D.turns.length ≤ 1000000)
    (b0 : Nat) (k0 : w.cell? ⟨b0, 0, none⟩ = some (.pointer (some ⟨p, 0, none⟩))) :
    Calls Try.prog 28 #[.pointer (some ⟨b0, 0, none⟩)] w fun e w' => e = .returned (.tuple #[]) ∧ DK w' p (Dk.settle D D.turns.length) (grow1 S w) ∧ OnlyIn S w w' := by
  have hm : Try.prog.follows .mixedOrders = true := by kernel_rfl
  obtain ⟨ta, tc, htv, _, _⟩ := t_shape hP.turns
  have c6 := hP.cells.1.2.2.2.2.2.2.1
  rw [htv] at c6
  have hc := settle_any (w := w.drew) (S := S) hO (hP.keep fun k _ => rfl) hS D.turns.length (Nat.le_refl _) htl
  clear htv
  go_enter Try.func28, Try.ntmps28
  go_wp2
  go_still_tail 6, hm
  go_wp2_with (go_at_call 29; go_must (refine hc.mono ?_; rintro e w1 ⟨rfl, hDK1, hon1⟩))
  first | go_end0 | refine bodyPost_ret (results_none rfl _ _ _) rfl ?_
  exact ⟨rfl, hDK1, hon1.after (W := w.drew) (bd1 (Below.refl _ _))⟩

/-- what SyncNames does and tells -/
def Dk.syncNames (D : Dk.D) : Dk.D × Int := if D.dead = true then (D, 9) else Dk.acted D (Dk.settle D D.turns.length)

set_option maxHeartbeats 2000000 in
theorem syncNamesD_any {w : World} {p : Nat} {D : Dk.D} {S : Nat → Prop} (h : DK w p D S) (htl : D.turns.length ≤ 1000000) :
    Calls Try.prog 12 #[.pointer (some ⟨p, 0, none⟩)] w fun e w' => e = .returned (.int .i64 (Dk.syncNames D).2) ∧ DK w' p (Dk.syncNames D).1 (grow1 S w) ∧ OnlyIn S w w' := by
  have hgr : ∀ {W : World}, Below w.heap.size w W → DK W p D (grow1 S w) ∧ OnlyIn S w W := fun {W} hb => ⟨h.keep (fun k hk _ => hb.block k hk) fun _ _ h => .inl h, OnlyIn.of_below hb⟩
  obtain ⟨hO, fm, nm, sm, tv, J, hP, hS⟩ := h
  have hPW : ∀ {W : World}, Below w.heap.size w W → Parts W p D (Dk.sum D.files) fm nm sm tv J := fun {W} hb => hP.keep fun k hk => hb.block k (hP.lt hk)
  have hdead := dead_any (hPW (bal (Below.refl _ w) (.cells #[.pointer (some ⟨p, 0, none⟩)] 26)))
  have hact := fun (k0 : (w.alloc (.cells #[.pointer (some ⟨p, 0, none⟩)] 26)).cell? ⟨w.heap.size, 0, none⟩ = some (.pointer (some ⟨p, 0, none⟩))) =>
    act_any ⟨hO, fm, nm, sm, tv, J, hPW (bal (Below.refl _ w) (.cells #[.pointer (some ⟨p, 0, none⟩)] 26)), hS⟩ (Dk.settle D D.turns.length) 28 _ rfl rfl (enters_lit Try.func28 (by kernel_rfl) rfl) (syncnames1_any hO (hPW (bal (Below.refl _ w) _)) hS htl w.heap.size k0)
  have hc := hact (by simp [go_sem])
  clear hact
  unfold Dk.syncNames
  by_cases hd : D.dead = true
  · rw [hd] at hdead
    rw [if_pos hd]
    clear hd hc
    go_enter Try.func12, Try.ntmps12
    go_wp2_with (go_at_call 21; go_must (refine hdead.mono ?_; rintro e w1 ⟨rfl, hw⟩; rw [hw]; clear hw w1))
    go_ret
    exact ⟨rfl, hgr (bal (Below.refl _ w) _)⟩
  · rw [if_neg hd]
    rw [Bool.not_eq_true] at hd
    rw [hd] at hdead
    clear hd
    go_enter Try.func12, Try.ntmps12
    go_wp2_with (first | (go_at_call 21; go_must (refine hdead.mono ?_; rintro e w1 ⟨rfl, hw⟩; rw [hw]; clear hw w1)) | (go_at_call 24; go_must (refine hc.mono ?_; rintro e w2 ⟨rfl, hDK1, hon1⟩)))
    go_ret
    exact ⟨rfl, hDK1.after (bal (Below.refl _ w) _), hon1.after (bal (Below.refl _ w) _)⟩
end Go.Proofs.Ytefadkengfjdmaa
