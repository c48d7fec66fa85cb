/- What the laws' Light does. -/
import Derived.Test.YtghgolpofafjmaaLF
namespace Go.Proofs.Ytghgolpofafjmaa
open Go.RowKit
def lgt1 (t : Lv.T) : Bool := decide (t.first.size ≤ 200) && decide (t.last.size ≤ 200)
def lgt (l : List Lv.T) : Bool := (l.take 81).all lgt1 && decide (l.length ≤ 80)
theorem lgt_len {l : List Lv.T} (h : lgt l = true) : l.length ≤ 80 := by
  simp only [lgt, Bool.and_eq_true, decide_eq_true_eq] at h
  exact h.2
theorem take_drop_cons {l : List Lv.T} {k : Nat} (hk : k < l.length) (h80 : k ≤ 80) : (l.take 81).drop k = l.getD k Lv.zero :: (l.take 81).drop (k + 1) := by
  have h : k < (l.take 81).length := by rw [List.length_take]; omega
  rw [List.drop_eq_getElem_cons h, List.getElem_take]
  simp [hk]
set_option maxRecDepth 100000 in
set_option maxHeartbeats 1000000 in
theorem light_level (a : Option Addr) (len cap : Nat) (l : List Lv.T) (w : World) (hr : LRow w a len l) (hlen : len ≤ 140737488355328) :
    Calls Try.prog 6 #[.slice a len cap] w fun e w' => e = .returned (.bool (lgt l)) ∧ w' = w := by
  have hll : Hid (l.length = len) := hr.1
  obtain ⟨R, hR⟩ : ∃ R, R = lgt l := ⟨_, rfl⟩
  rw [← hR]
  have HR : Hid (R = (((l.take 81).drop 0).all lgt1 && decide ((len : Int) ≤ 80))) := (by rw [hR, lgt, hll.out]; congr 1; exact decide_eq_decide.mpr (by omega) : R = (((l.take 81).drop 0).all lgt1 && decide ((len : Int) ≤ 80)))
  clear hR
  go_enter Try.func6, Try.ntmps6
  go_wp2
  go_loop [3] (fun i => ∃ k : Nat, k ≤ len ∧ k ≤ 81 ∧ i = .int .i64 k ∧ Hid (R = (((l.take 81).drop k).all lgt1 && decide ((len : Int) ≤ 80)))) (fun i => len - (intOf i).toNat)
  case atStart => exact ⟨0, by omega, by omega, rfl, HR⟩
  case round =>
    obtain ⟨k, hk, hk81, rfl, H⟩ := hrel
    by_cases hlt : k < len
    · by_cases h80 : k ≤ 80
      · obtain ⟨b, off, x1, x2, x3, x4, x5, rfl, hx, q0, q1, q2, q3, q4⟩ := lget hr (Below.refl _ _) hlt
        have HS : Hid (((l.take 81).drop k).all lgt1 = ((decide (x4.size ≤ 200) && decide (x5.size ≤ 200)) && ((l.take 81).drop (k + 1)).all lgt1)) := (by rw [take_drop_cons (by rw [hll.out]; exact hlt) h80, hx.out]; rfl : ((l.take 81).drop k).all lgt1 = _)
        have i0 : (0 : Int) ≤ (k : Int) := by omega
        have i1 : (k : Int) < (len : Int) := by omega
        have i2 : (k : Int) ≤ 80 := by omega
        by_cases h4 : x4.size ≤ 200
        · by_cases h5 : x5.size ≤ 200
          · have H2 : Hid (R = (((l.take 81).drop (k + 1)).all lgt1 && decide ((len : Int) ≤ 80))) := (by rw [H.out, HS.out, decide_eq_true h4, decide_eq_true h5]; rfl : R = (((l.take 81).drop (k + 1)).all lgt1 && decide ((len : Int) ≤ 80)))
            have d4 : ((x4.size : Nat) : Int) ≤ 200 := by omega
            have d5 : ((x5.size : Nat) : Int) ≤ 200 := by omega
            clear H HS HR hx
            go_wp2
            go_round
            case rel => exact ⟨k + 1, by omega, by omega, by go_num, H2⟩
            case measure => simp [intOf]; omega
          · have HE : Hid (R = false) := (by rw [H.out, HS.out, decide_eq_false h5]; simp : R = false)
            have d4 : ((x4.size : Nat) : Int) ≤ 200 := by omega
            have d5 : 200 < ((x5.size : Nat) : Int) := by omega
            clear H HS HR hx
            go_wp2
            go_ret
            obtain rfl := HE.out
            exact ⟨rfl, rfl⟩
        · have HE : Hid (R = false) := (by rw [H.out, HS.out, decide_eq_false h4]; simp : R = false)
          have d4 : 200 < ((x4.size : Nat) : Int) := by omega
          clear H HS HR hx
          go_wp2
          go_ret
          obtain rfl := HE.out
          exact ⟨rfl, rfl⟩
      · obtain rfl : k = 81 := by omega
        have HE : Hid (R = false) := (by rw [H.out, decide_eq_false (by omega), Bool.and_false] : R = false)
        have HL : 80 < (len : Int) := by omega
        clear H HR
        go_wp2
        go_ret
        obtain rfl := HE.out
        exact ⟨by first | rfl | exact congrArg _ (congrArg _ (decide_eq_false (by omega))), rfl⟩
    · obtain rfl : k = len := by omega
      have HE : Hid (R = decide ((k : Int) ≤ 80)) := (by rw [H.out, List.drop_of_length_le (by rw [List.length_take, hll.out]; omega)]; rfl : R = decide ((k : Int) ≤ 80))
      clear H HR
      go_wp2
      go_ret
      obtain rfl := HE.out
      exact ⟨rfl, rfl⟩
end Go.Proofs.Ytghgolpofafjmaa
