/- The disk's act: something is done, and counted. -/
import Derived.Test.YtefadkengfjdmaaDK6
import Derived.Shelf.Abstract
namespace Go.Proofs.Ytefadkengfjdmaa
open Go.RowKit Go.Shelf

/-- the blocks of a set, and new ones -/
def grow1 (S : Nat → Prop) (w : World) (k : Nat) : Prop := S k ∨ w.heap.size ≤ k
/-- an act is counted -/
def Dk.tick (D : Dk.D) : Dk.D := { D with fault := if 0 < D.fault then D.fault - 1 else D.fault, stop := if 0 < D.stop then D.stop - 1 else D.stop, dead := if 0 < D.stop then D.stop - 1 == 0 else D.dead }
theorem Dk.Ok.tick {D : Dk.D} (h : Dk.Ok D) : Dk.Ok (Dk.tick D) := by
  have h1 := h.stop
  have h2 := h.fault
  refine h.with rfl rfl rfl rfl rfl rfl ?_ ?_
  · simp only [Dk.tick]; split <;> omega
  · simp only [Dk.tick]; split <;> omega

theorem tick_f {w w1 : World} {p : Nat} {D : Dk.D} {S : Nat → Prop} (h : DK w p D S) (hf : 0 < D.fault) (hw : w1 = w.setCell ⟨p, 8, none⟩ (.int .i64 (D.fault - 1))) : DK w1 p { D with fault := D.fault - 1 } S ∧ OnlyIn S w w1 := by
  obtain ⟨hO, fm, nm, sm, tv, J, hP, hS⟩ := h
  have h2 := hO.fault
  subst hw
  exact ⟨⟨hO.with rfl rfl rfl rfl rfl rfl hO.stop (by simp only; omega), fm, nm, sm, tv, J, hP.setFault _, hS⟩, only_set _ p 8 _ (hS p (.inl rfl))⟩
theorem tick_s {w w1 : World} {p : Nat} {D : Dk.D} {S : Nat → Prop} (h : DK w p D S) (hf : 0 < D.stop) (b : Bool) (hw : w1 = (w.setCell ⟨p, 7, none⟩ (.int .i64 (D.stop - 1))).setCell ⟨p, 9, none⟩ (.bool b)) : DK w1 p { D with stop := D.stop - 1, dead := b } S ∧ OnlyIn S w w1 := by
  obtain ⟨hO, fm, nm, sm, tv, J, hP, hS⟩ := h
  have h2 := hO.stop
  subst hw
  have hp := hS p (.inl rfl)
  exact ⟨⟨hO.with rfl rfl rfl rfl rfl rfl (by simp only; omega) hO.fault, fm, nm, sm, tv, J, (hP.setStop _).setDead b, hS⟩, (only_set _ p 7 _ hp).trans (only_set _ p 9 _ (.inl hp))⟩

theorem tick_as {D : Dk.D} {n : Int} (h : 0 < D.fault) (k : 0 < D.stop) (e : D.stop = n) : ({ D with fault := D.fault - 1, stop := D.stop - 1, dead := n - 1 == 0 } : Dk.D) = Dk.tick D := by subst e; simp [Dk.tick, h, k]
theorem tick_ao {D : Dk.D} (h : 0 < D.fault) (k : D.stop ≤ 0) : ({ D with fault := D.fault - 1 } : Dk.D) = Dk.tick D := by simp [Dk.tick, h, Int.not_lt.2 k]
theorem tick_os {D : Dk.D} {n : Int} (h : D.fault ≤ 0) (k : 0 < D.stop) (e : D.stop = n) : ({ D with stop := D.stop - 1, dead := n - 1 == 0 } : Dk.D) = Dk.tick D := by subst e; simp [Dk.tick, Int.not_lt.2 h, k]
theorem tick_oo {D : Dk.D} (h : D.fault ≤ 0) (k : D.stop ≤ 0) : D = Dk.tick D := by simp [Dk.tick, Int.not_lt.2 h, Int.not_lt.2 k]

set_option maxHeartbeats 2000000 in
theorem act_done {w : World} {p : Nat} {D : Dk.D} {S : Nat → Prop} (h : DK w p D S) (D' : Dk.D) (fid : Nat) (caps : Array Value) (h1 : D'.stop = D.stop) (h2 : D'.fault = D.fault) (hf1 : D.fault ≠ 1)
    (eg : ∀ args w, (callFunc fid args).run Try.prog w = .ok (.enter fid args) w) (hdo : Calls Try.prog fid caps w fun e w' => e = .returned (.tuple #[]) ∧ DK w' p D' (grow1 S w) ∧ OnlyIn S w w') :
    Calls Try.prog 24 #[.pointer (some ⟨p, 0, none⟩), .func (.func fid) #[] caps] w fun e w' => e = .returned (.int .i64 0) ∧ DK w' p (Dk.tick D') (grow1 S w) ∧ OnlyIn S w w' := by
  obtain ⟨hO, fm, nm, sm, tv, J, hP, hS⟩ := h
  obtain ⟨⟨c0, c1, c2, c3, c4, c5, c6, c7, c8, c9⟩, hf⟩ := hP.cells
  have b1 := hO.stop
  have b2 := hO.fault
  have hne : (D.fault == 1) = false := by simp [hf1]
  go_enter Try.func24, Try.ntmps24
  go_wp2_with (go_at_fn fid; go_must (refine hdo.mono ?_; rintro e w1 ⟨rfl, hDK1, hon1⟩; obtain ⟨hO1, fm1, nm1, sm1, tv1, J1, hP1, hS1⟩ := id hDK1; obtain ⟨⟨c0', c1', c2', c3', c4', c5', c6', c7', c8', c9'⟩, hf'⟩ := hP1.cells; rw [h1] at c7'; rw [h2] at c8'))
  · go_ret
    obtain ⟨a1, a2⟩ := tick_f (w1 := w1.setCell ⟨p, 8, none⟩ (.int .i64 (D.fault - 1))) hDK1 (by omega) (by rw [h2])
    obtain ⟨d1, d2⟩ := tick_s (w1 := ((w1.setCell ⟨p, 8, none⟩ (.int .i64 (D.fault - 1))).setCell ⟨p, 7, none⟩ (.int .i64 (D.stop - 1))).setCell ⟨p, 9, none⟩ (.bool (D.stop - 1 == 0))) a1 (by show 0 < D'.stop; omega) (D.stop - 1 == 0) (by show _ = (World.setCell _ _ (.int .i64 (D'.stop - 1))).setCell _ _; rw [h1])
    exact ⟨rfl, (tick_as (D := D') (by omega) (by omega) h1) ▸ d1, hon1.trans ((a2.mono fun _ _ h => h).trans (d2.mono fun _ _ h => .inl h))⟩
  · go_ret
    obtain ⟨a1, a2⟩ := tick_f (w1 := w1.setCell ⟨p, 8, none⟩ (.int .i64 (D.fault - 1))) hDK1 (by omega) (by rw [h2])
    exact ⟨rfl, (tick_ao (D := D') (by omega) (by omega)) ▸ a1, hon1.trans a2⟩
  · go_ret
    obtain ⟨d1, d2⟩ := tick_s (w1 := (w1.setCell ⟨p, 7, none⟩ (.int .i64 (D.stop - 1))).setCell ⟨p, 9, none⟩ (.bool (D.stop - 1 == 0))) hDK1 (by omega) (D.stop - 1 == 0) (by rw [h1])
    exact ⟨rfl, (tick_os (D := D') (by omega) (by omega) h1) ▸ d1, hon1.trans d2⟩
  · go_ret
    exact ⟨rfl, (tick_oo (D := D') (by omega) (by omega)) ▸ hDK1, hon1⟩

set_option maxHeartbeats 2000000 in
theorem act_fault {w : World} {p : Nat} {D : Dk.D} {S : Nat → Prop} (h : DK w p D S) (v : Value) (hf1 : D.fault = 1) :
    Calls Try.prog 24 #[.pointer (some ⟨p, 0, none⟩), v] w fun e w' => e = .returned (.int .i64 8) ∧ DK w' p (Dk.tick D) (grow1 S w) ∧ OnlyIn S w w' := by
  obtain ⟨hO, fm, nm, sm, tv, J, hP, hS⟩ := id h
  obtain ⟨⟨c0, c1, c2, c3, c4, c5, c6, c7, c8, c9⟩, hf⟩ := hP.cells
  rw [hf1] at c8
  have b1 := hO.stop
  have hgr : ∀ {W : World} {E : Dk.D}, DK W p E S → DK W p E (grow1 S w) := fun h => h.keep (fun _ _ _ => rfl) fun _ _ h => .inl h
  go_enter Try.func24, Try.ntmps24
  go_wp2
  · go_ret
    obtain ⟨a1, a2⟩ := tick_f (w1 := w.setCell ⟨p, 8, none⟩ (.int .i64 0)) h (by omega) (by rw [hf1]; rfl)
    obtain ⟨d1, d2⟩ := tick_s (w1 := ((w.setCell ⟨p, 8, none⟩ (.int .i64 0)).setCell ⟨p, 7, none⟩ (.int .i64 (D.stop - 1))).setCell ⟨p, 9, none⟩ (.bool (D.stop - 1 == 0))) a1 (by assumption) (D.stop - 1 == 0) rfl
    exact ⟨rfl, hgr ((tick_as (D := D) (by omega) (by omega) rfl) ▸ d1), a2.trans (d2.mono fun _ _ h => .inl h)⟩
  · go_ret
    obtain ⟨a1, a2⟩ := tick_f (w1 := w.setCell ⟨p, 8, none⟩ (.int .i64 0)) h (by omega) (by rw [hf1]; rfl)
    exact ⟨rfl, hgr ((tick_ao (D := D) (by omega) (by omega)) ▸ a1), a2⟩

/-- what is done, done or not -/
def Dk.acted (D D' : Dk.D) : Dk.D × Int := if D.fault = 1 then (Dk.tick D, 8) else (Dk.tick D', 0)
theorem act_any {w : World} {p : Nat} {D : Dk.D} {S : Nat → Prop} (h : DK w p D S) (D' : Dk.D) (fid : Nat) (caps : Array Value) (h1 : D'.stop = D.stop) (h2 : D'.fault = D.fault)
    (eg : ∀ args w, (callFunc fid args).run Try.prog w = .ok (.enter fid args) w) (hdo : Calls Try.prog fid caps w fun e w' => e = .returned (.tuple #[]) ∧ DK w' p D' (grow1 S w) ∧ OnlyIn S w w') :
    Calls Try.prog 24 #[.pointer (some ⟨p, 0, none⟩), .func (.func fid) #[] caps] w fun e w' => e = .returned (.int .i64 (Dk.acted D D').2) ∧ DK w' p (Dk.acted D D').1 (grow1 S w) ∧ OnlyIn S w w' := by
  by_cases hf : D.fault = 1
  · simp only [Dk.acted, hf, if_true]; exact act_fault h _ hf
  · simp only [Dk.acted, hf, if_false]; exact act_done h D' fid caps h1 h2 hf eg hdo
end Go.Proofs.Ytefadkengfjdmaa
