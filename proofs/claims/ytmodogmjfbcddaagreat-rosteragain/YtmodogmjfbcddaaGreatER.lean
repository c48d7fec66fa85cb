/- Edits: may one be, as the reference asks: of any kind. -/
import Derived.Test.YtmodogmjfbcddaaGreatEQ8
import Derived.Test.YtmodogmjfbcddaaGreatES
namespace Go.Proofs.YtmodogmjfbcddaaGreat
open Go.RowKit

set_option maxRecDepth 100000 in
set_option maxHeartbeats 4000000 in
theorem rmay_none (k n i t a b c p q r : Int) (f g : ByteArray) (w : World)
    (hpar : ∀ W, Calls Tryz.prog 78 #[.int .i64 k] W fun e w' => e = .returned (.string ⟨#[]⟩) ∧ Below W.heap.size W w') :
    Calls Tryz.prog 34 #[ed12 k n i t a b c p q r f g] w fun e w' => e = .returned (.bool false) ∧ Below w.heap.size w w' := by
  go_enter Tryz.func34, Tryz.ntmps34
  go_wp2_with (go_at_call 78; refine (hpar _).mono ?_; rintro e w2 ⟨rfl, hb2⟩; have hB2 := (below_alloc w (oed k n i t a b c p q r f g)).trans (hb2.mono (by simp)))
  go_quiet (fail)
  go_wp2
  go_ret
  exact ⟨rfl, hB2.trans (below_drewN _ _ _)⟩
theorem rmay16_any (k n i t a b c p q r : Int) (f g : ByteArray) (w : World) :
    Calls Tryz.prog 34 #[ed12 k n i t a b c p q r f g] w fun e w' => e = .returned (.bool (Ed.may ⟨k, n, i, t, a, b, c, ⟨p, q, r, f, g⟩⟩)) ∧ Below w.heap.size w w' := by
  have hpar := fun W => rparts_any k W
  by_cases h9 : k < 1 ∨ 9 < k
  · rw [pstr_none h9] at hpar
    rw [Ed.may_none h9]
    exact rmay_none k n i t a b c p q r f g w hpar
  · have hkk : kb (pstr k) = Ed.parts k := pstr_parts k
    have hne : Ed.parts k ≠ [] := by
      rcases Ed.kinds k with h | h | h | h | h | h | h | h | h | h
      case inr.inr.inr.inr.inr.inr.inr.inr.inr => exact absurd h h9
      all_goals (rw [h]; exact List.cons_ne_nil _ _)
    have hP2 : ¬ (pstr k).toList = [] := fun h => hne (by
      rw [← hkk, kb_nil]
      exact toList_inj (by rw [h, Lib.toList_data]))
    have hP : (pstr k).toList.isEmpty = false := by simpa using hP2
    have hsz : (pstr k).size ≤ 1000000 := by rw [← kb_len, hkk]; have := parts_len k; omega
    have hh := fun ch W => rhasc_any (pstr k) ch W hsz
    rw [hkk] at hh
    have hr := fun x th W => rright_any x th W
    by_cases h8 : k = 8
    · subst h8
      refine rmay_8 n i t a b c p q r f g (pstr 8) w (Ed.has (Ed.parts 8) 73) (Ed.has (Ed.parts 8) 84) (Ed.has (Ed.parts 8) 78) (Ed.has (Ed.parts 8) 72) (Ed.has (Ed.parts 8) 66) _ _ _ _ (hardOk a b c (Ed.has (Ed.parts 8) 72) && (if Ed.has (Ed.parts 8) 66 = true then Lv.one ⟨p, q, r, f, g⟩ else Ed.tz ⟨p, q, r, f, g⟩)) hP hpar (hh 73) (hh 84) (hh 78) (hh 72) (hh 66) (hr i _) (hr t _) (hr n _) ?_ rfl
      show _ = _
      rw [Bool.eq_iff_iff]
      simp [Ed.may, Ed.has, Ed.parts, Ed.right, hardOk, Ed.counts_iff, Ed.cz_iff]
      grind
    · refine rmay_k k n i t a b c p q r f g (pstr k) w (Ed.has (Ed.parts k) 73) (Ed.has (Ed.parts k) 84) (Ed.has (Ed.parts k) 78) (Ed.has (Ed.parts k) 72) (Ed.has (Ed.parts k) 66) _ _ _ _ (hardOk a b c (Ed.has (Ed.parts k) 72) && (if Ed.has (Ed.parts k) 66 = true then Lv.one ⟨p, q, r, f, g⟩ else Ed.tz ⟨p, q, r, f, g⟩)) hP h8 hpar (hh 73) (hh 84) (hh 78) (hh 72) (hh 66) (hr i _) (hr t _) (hr n _) ?_ rfl
      show _ = _
      clear hpar hh hr hP hP2 hsz hkk hne
      rw [Bool.eq_iff_iff]
      rcases Ed.kinds k with rfl | rfl | rfl | rfl | rfl | rfl | rfl | rfl | rfl | h
      case inr.inr.inr.inr.inr.inr.inr.inl => exact absurd rfl h8
      case inr.inr.inr.inr.inr.inr.inr.inr.inr => exact absurd h h9
      all_goals
        simp [Ed.may, Ed.has, Ed.parts, Ed.right, hardOk, Ed.counts_iff, Ed.cz_iff, Ed.hz]
        try grind
end Go.Proofs.YtmodogmjfbcddaaGreat
