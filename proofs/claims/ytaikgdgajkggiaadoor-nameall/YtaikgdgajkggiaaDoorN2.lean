/- What the reference's number and Parse of a text do. -/
import Derived.Test.YtaikgdgajkggiaaDoorN1
namespace Go.Proofs.YtaikgdgajkggiaaDoor
open Go.RowKit

set_option maxRecDepth 100000 in
set_option maxHeartbeats 1000000 in
theorem nnum_any (s : ByteArray) (w : World) (hs : s.size ≤ 10) :
    Calls Tryd.prog 20 #[.string s] w fun e w' => e = .returned (.int .i64 (Na.num 0 (kb s))) ∧ w' = w := by
  have hkl := kb_len s
  go_enter Tryd.func20, Tryd.ntmps20
  go_wp2
  go_loop [3, 4] (fun t i => ∃ j v : Nat, j ≤ s.size ∧ i = .int .i64 j ∧ t = .int .i64 v ∧ v < 10 ^ j ∧ Hid (Na.num 0 (kb s) = Na.num v ((kb s).drop j))) (fun _ i => s.size - (intOf i).toNat)
  case atStart => exact ⟨0, 0, by omega, rfl, rfl, by omega, (by simp : Na.num 0 (kb s) = Na.num 0 ((kb s).drop 0))⟩
  case round =>
    obtain ⟨j, v, hj, rfl, rfl, hv, H⟩ := hrel
    by_cases hlt : j < s.size
    · have i0 : (0 : Int) ≤ (j : Int) := by omega
      have i1 : (j : Int) < (s.size : Int) := by omega
      obtain ⟨x, hx⟩ : ∃ x, (s[j]'hlt).toNat = x := ⟨_, rfl⟩
      have hd : Hid ((kb s).drop j = x :: (kb s).drop (j + 1)) := (by
        rw [List.drop_eq_getElem_cons (by rw [hkl]; exact hlt)]
        congr 1
        rw [← hx]
        simp [kb]; rfl : (kb s).drop j = x :: (kb s).drop (j + 1))
      have hp : 10 ^ j ≤ 10 ^ 9 := Nat.pow_le_pow_right (by omega) (by omega)
      have hv9 : v < 1000000000 := by omega
      have hx8 : x < 256 := by rw [← hx]; exact (s[j]'hlt).toNat_lt
      by_cases h1 : x < 48
      · have H' : Hid (Na.num 0 (kb s) = -1) := (by rw [H.out, hd.out, Na.num_cons, if_pos (.inl h1)] : Na.num 0 (kb s) = -1)
        clear H hd
        go_wp2
        go_ret
        exact ⟨by rw [H'.out]; rfl, rfl⟩
      · by_cases h2 : 57 < x
        · have H' : Hid (Na.num 0 (kb s) = -1) := (by rw [H.out, hd.out, Na.num_cons, if_pos (.inr h2)] : Na.num 0 (kb s) = -1)
          clear H hd
          go_wp2
          go_ret
          exact ⟨by rw [H'.out]; rfl, rfl⟩
        · have H' : Hid (Na.num 0 (kb s) = Na.num (10 * v + (x - 48)) ((kb s).drop (j + 1))) := (by rw [H.out, hd.out, Na.num_cons, if_neg (by omega)] : Na.num 0 (kb s) = Na.num (10 * v + (x - 48)) ((kb s).drop (j + 1)))
          have hvn : 10 * v + (x - 48) < 10 ^ (j + 1) := by rw [Nat.pow_succ]; omega
          have j1 : IntKind.i64.wrap (10 * (v : Int)) = 10 * (v : Int) := by rw [IntKind.wrap_i64]; omega
          have j2 : IntKind.i64.wrap (10 * (v : Int) + ((x : Int) - 48)) = 10 * (v : Int) + ((x : Int) - 48) := by rw [IntKind.wrap_i64]; omega
          clear H hd
          go_wp2
          go_round
          case rel => exact ⟨j + 1, 10 * v + (x - 48), by omega, by go_num, val_int (by omega), hvn, H'⟩
          case measure => simp [intOf]; omega
    · obtain rfl : j = s.size := by omega
      have H' : Hid (Na.num 0 (kb s) = (v : Int)) := (by rw [H.out, List.drop_of_length_le (by rw [hkl]; omega)]; rfl : Na.num 0 (kb s) = (v : Int))
      go_wp2
      go_ret
      exact ⟨by rw [H'.out]; rfl, rfl⟩
end Go.Proofs.YtaikgdgajkggiaaDoor
