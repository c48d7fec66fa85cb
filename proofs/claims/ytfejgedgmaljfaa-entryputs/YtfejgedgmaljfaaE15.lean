/- The law EntryGets, given the program's contracts. -/
import Derived.Test.YtfejgedgmaljfaaE14
namespace Go.Proofs.Ytfejgedgmaljfaa
open Go.RowKit

set_option maxRecDepth 100000 in
set_option maxHeartbeats 1000000 in
theorem engets_long (hP : EPutC) (hB : EBatchC) (a : Option Addr) (len cap : Nat) (w : World) (hl : 3000 < len) :
    Calls Try.prog 4 #[.slice a len cap] w fun e w' => e = .returned (.bool true) ∧ Below w.heap.size w w' := by
  have hA := fun w => enawake hP hB w
  go_enter Try.func4, Try.ntmps4
  go_wp2_with (go_at_call 7; refine (hA _).mono ?_; rintro e w1 ⟨rfl, hbel⟩)
  go_ret
  exact ⟨rfl, hbel⟩

theorem gcode_zero {es : List En.E} (h : es.length = 0) : gcode es = 2 := by unfold gcode; rw [if_pos h]
theorem gcode_pos {es : List En.E} (h : es.length ≠ 0) : gcode es = 0 := by unfold gcode; rw [if_neg h]

set_option maxRecDepth 100000 in
set_option maxHeartbeats 2000000 in
theorem engets_any (hP : EPutC) (hB : EBatchC) (hG : EGetC) (a : Option Addr) (len cap : Nat) (bs : List Nat) (w : World) (hl : len ≤ 3000) (hlc : len ≤ cap) (hshape : Shape a len cap) (hnil : a = none → len = 0 ∧ cap = 0) (hr : Row .u8 w a len bs) :
    Calls Try.prog 4 #[.slice a len cap] w fun e w' => e = .returned (.bool true) ∧ Below w.heap.size w w' := by
  have hA := fun w => enawake hP hB w
  have hg1 := fun b c W (h1 : Shape b len c) (h2 : len ≤ c) (h : Row .u8 W b len bs) (h3 : b = none → len = 0 ∧ c = 0) => hG b len c bs W h1 h2 (by omega) h h3
  have hg2 := fun W (h : Below w.heap.size w W) => enget_any a len cap bs W (by omega) hlc hshape (hr.below h (Nat.le_refl _))
  have hr2 := hr.below (below_alloc w (.cells #[] 5)) (Nat.le_refl _)
  have hsm := hr.2.2.1
  unfold EGetRes at hg1
  unfold RGet at hg2
  have hss := fun a1 n1 c1 a2 n2 c2 W (h1 : ERow W a1 n1 (En.get bs)) (h2 : ERow W a2 n2 (En.get bs)) => ensame_any a1 n1 c1 (En.get bs) a2 n2 c2 (En.get bs) W true (by simp) h1 h2
  generalize En.get bs = R at *
  by_cases hn : R.length = 0
  · rw [gcode_zero hn] at hg1
    rw [hn] at hg1 hg2
    clear hn
    go_enter Try.func4, Try.ntmps4
    go_wp2_with (first
      | (go_at_call 7; go_must (have := hbel4; refine (hA _).mono ?_; rintro e w5 ⟨rfl, hbel5⟩))
      | (go_at_call 17; go_must (have := hbel3; refine (hss a2 0 c2 a3 0 c3 _ (r2.below hbel3 (Nat.le_refl _)) r3).mono ?_; rintro e w4 ⟨rfl, hbel4⟩))
      | (at_builtin; go_must (refine append_u8 (w0 := w) (B := w.heap.size) rfl (.tmp 11) (.tmp 12) rfl _ 0 [] rfl (made_at w 5 w.heap.size rfl (Nat.le_refl _)) a len cap bs rfl hr2 hnil (by omega) (below_alloc _ _) (by simp) ?_; intro a1 c1 w1 hown1 hbel1 hsz1; rw [Nat.zero_add, List.nil_append] at hown1; rw [Nat.zero_add]; have hrow1 := row_of_owns hown1 hsm (by omega)))
      | (go_at_call 16; go_must (have := hbel2; refine (hg2 _ (hbel1.trans (hbel2.mono hsz1))).mono ?_; rintro e w3 ⟨a3, c3, rfl, r3, nl3, hbel3⟩))
      | (go_at_call 15; go_must (refine (hg1 _ _ _ (own_shape hown1) hrow1.2.2 hrow1.1 hrow1.2.1).mono ?_; rintro e w2 ⟨a2, c2, rfl, r2, nl2, hbel2⟩)))
    have hb2 := hbel1.trans (hbel2.mono hsz1)
    have hb3 := hb2.trans (hbel3.mono hb2.size)
    have hb4 := hb3.trans (hbel4.mono hb3.size)
    go_ret
    exact ⟨by simp, hb4.trans (hbel5.mono hb4.size)⟩
  · rw [gcode_pos hn] at hg1
    obtain ⟨n, hnn⟩ : ∃ n, R.length = n := ⟨_, rfl⟩
    rw [hnn] at hg1 hg2 hn
    have hd1 : ((n : Int) == 0) = false := by simp; omega
    have hd2 : decide (0 < (n : Int)) = true := by simp; omega
    have hd3 : 0 < n := by omega
    clear hn hnn
    go_enter Try.func4, Try.ntmps4
    go_wp2_with (first
      | (go_at_call 7; go_must (have := hbel4; refine (hA _).mono ?_; rintro e w5 ⟨rfl, hbel5⟩))
      | (go_at_call 17; go_must (have := hbel3; refine (hss a2 n c2 a3 n c3 _ (r2.below hbel3 (Nat.le_refl _)) r3).mono ?_; rintro e w4 ⟨rfl, hbel4⟩))
      | (at_builtin; go_must (refine append_u8 (w0 := w) (B := w.heap.size) rfl (.tmp 11) (.tmp 12) rfl _ 0 [] rfl (made_at w 5 w.heap.size rfl (Nat.le_refl _)) a len cap bs rfl hr2 hnil (by omega) (below_alloc _ _) (by simp) ?_; intro a1 c1 w1 hown1 hbel1 hsz1; rw [Nat.zero_add, List.nil_append] at hown1; rw [Nat.zero_add]; have hrow1 := row_of_owns hown1 hsm (by omega)))
      | (go_at_call 16; go_must (have := hbel2; refine (hg2 _ (hbel1.trans (hbel2.mono hsz1))).mono ?_; rintro e w3 ⟨a3, c3, rfl, r3, nl3, hbel3⟩))
      | (go_at_call 15; go_must (refine (hg1 _ _ _ (own_shape hown1) hrow1.2.2 hrow1.1 hrow1.2.1).mono ?_; rintro e w2 ⟨a2, c2, rfl, r2, nl2, hbel2⟩)))
    have hb2 := hbel1.trans (hbel2.mono hsz1)
    have hb3 := hb2.trans (hbel3.mono hb2.size)
    have hb4 := hb3.trans (hbel4.mono hb3.size)
    go_ret
    exact ⟨by simp, hb4.trans (hbel5.mono hb4.size)⟩
end Go.Proofs.Ytfejgedgmaljfaa
