/- Edits: getKey of the program. -/
import Derived.Test.YtkbnojjjfonniaaEJ
namespace Go.Proofs.Ytkbnojjjfonniaa
open Go.RowKit

theorem econv_row {w : World} {b off n cap : Nat} {bs : List Nat} (hr : Row .u8 w (some ⟨b, off, none⟩) n bs) : (convert 34 9 (.slice (some ⟨b, off, none⟩) n cap)).run Try.prog w = .ok (.string (bstr bs)) w := by
  refine run_convert_bytes_arg w 34 5 Try.underlying34 Try.underlying5 b off n cap _ (by rw [List.length_map]; exact hr.1) (fun i hi => ?_) 9 Try.underlying9
  rw [hr.cell i hi]
  have : i < bs.length := by rw [hr.1]; exact hi
  simp [this]
theorem econv_zero (w : World) (a : Option Addr) (c : Nat) : (convert 34 9 (.slice a 0 c)).run Try.prog w = .ok (.string ⟨#[]⟩) w := by
  rw [run_convert_bytes_string w _ _ 5 _ _ _ Try.underlying34 Try.underlying5 Try.underlying9]
  cases a <;> simp [Conv.bytesToString, loadCells] <;> rfl
def GKRes (w : World) (R : Option (ByteArray × Nat)) (e : Ending) (w' : World) : Prop := match R with
  | none => e = .returned (.tuple #[.string ⟨#[]⟩, .int .i64 0, .int .i64 2]) ∧ w' = w
  | some (s, m) => e = .returned (.tuple #[.string s, .int .i64 (m : Nat), .int .i64 0]) ∧ w' = w

set_option maxRecDepth 100000 in
set_option maxHeartbeats 2000000 in
theorem egkey_any (a : Option Addr) (len cap : Nat) (bs : List Nat) (w : World) (hbig : len ≤ 100000) (hshape : Shape a len cap) (hr : Row .u8 w a len bs) :
    Calls Try.prog 55 #[.slice a len cap] w (GKRes w (Ed.pkey bs)) := by
  have hget := fun W h => get_any a len cap bs W h
  have hle := Va.get_le (bs := bs)
  rw [hr.1] at hle
  have hlt := Va.get_lt bs
  have HP : Hid (Ed.pkey bs = if (Va.get bs).2 = 0 ∨ 64 < (Va.get bs).1 ∨ len < (Va.get bs).2 + (Va.get bs).1 then none else some (bstr ((bs.drop (Va.get bs).2).take (Va.get bs).1), (Va.get bs).2 + (Va.get bs).1)) := (by rw [Ed.pkey, hr.1] : _ = _)
  generalize Ed.pkey bs = P at *
  generalize Va.get bs = G at *
  obtain ⟨U, K⟩ := G
  simp only at hget hle hlt HP
  by_cases hK : K = 0
  · subst hK
    have HN : Hid (P = none) := (by rw [HP.out, if_pos (.inl rfl)] : P = none)
    rw [show code 0 = 2 from rfl] at hget
    clear HP
    go_enter Try.func55, Try.ntmps55
    go_wp2_with (go_at_call 29; go_must (refine (hget _ hr).mono ?_; rintro e w2 ⟨rfl, rfl⟩))
    go_ret3
    rw [HN.out]
    exact ⟨rfl, rfl⟩
  rw [show code K = 0 from by unfold code; rw [if_neg hK]] at hget
  by_cases hU : 64 < U
  · have HN : Hid (P = none) := (by rw [HP.out, if_pos (.inr (.inl hU))] : P = none)
    have i1 : (64 : Int) < (U : Int) := by omega
    clear HP
    go_enter Try.func55, Try.ntmps55
    go_wp2_with (go_at_call 29; go_must (refine (hget _ hr).mono ?_; rintro e w2 ⟨rfl, rfl⟩))
    go_ret3
    rw [HN.out]
    exact ⟨rfl, rfl⟩
  have i1 : ¬ (64 : Int) < (U : Int) := by omega
  have i2 : (U : Int) ≤ 9223372036854775807 := by omega
  obtain ⟨D, hD⟩ : ∃ D : Nat, D = len - K := ⟨_, rfl⟩
  have jd : IntKind.i64.wrap ((len : Int) - (K : Int)) = (D : Int) := by rw [IntKind.wrap_i64]; omega
  by_cases hDU : D < U
  · have HN : Hid (P = none) := (by rw [HP.out, if_pos (.inr (.inr (by omega)))] : P = none)
    have i3 : (D : Int) < (U : Int) := by omega
    clear HP hD
    go_enter Try.func55, Try.ntmps55
    go_wp2_with (go_at_call 29; go_must (refine (hget _ hr).mono ?_; rintro e w2 ⟨rfl, rfl⟩))
    go_ret3
    rw [HN.out]
    exact ⟨rfl, rfl⟩
  have i3 : ¬ (D : Int) < (U : Int) := by omega
  obtain ⟨E, hE⟩ : ∃ E : Nat, E = K + U := ⟨_, rfl⟩
  have je : IntKind.i64.wrap ((K : Int) + (U : Int)) = (E : Int) := by rw [IntKind.wrap_i64]; omega
  rcases hshape with ⟨h0, -⟩ | ⟨b, off, rfl, hlc⟩
  · omega
  have HS : Hid (P = some (bstr ((bs.drop K).take U), E)) := (by rw [HP.out, if_neg (by omega), hE] : P = _)
  have hrow := (hr.drop K (by omega)).take U (by omega)
  have i4 : (0 : Int) ≤ (K : Int) := by omega
  have i5 : (K : Int) ≤ (E : Int) := by omega
  have i6 : (E : Int) ≤ (cap : Int) := by omega
  have hEK : E - K = U := by omega
  rw [← hEK] at hrow
  clear HP
  by_cases hcap : cap = K
  · have hU0 : U = 0 := by omega
    subst hU0
    obtain rfl : E = K := by omega
    subst hcap
    have hz : ∀ q c W, (convert 34 9 (.slice q 0 c)).run Try.prog W = .ok (.string ⟨#[]⟩) W := fun q c W => econv_zero W q c
    clear hrow hEK hE hD
    go_enter Try.func55, Try.ntmps55
    go_wp2_with (go_at_call 29; go_must (refine (hget _ hr).mono ?_; rintro e w2 ⟨rfl, rfl⟩))
    go_ret3
    rw [HS.out]
    exact ⟨rfl, rfl⟩
  · have hcv := econv_row (cap := cap - K) hrow
    obtain ⟨S, hS⟩ : ∃ S, S = bstr ((bs.drop K).take U) := ⟨_, rfl⟩
    rw [hEK, ← hS] at hcv
    rw [← hEK] at hcv
    have HS2 : Hid (P = some (S, E)) := (by rw [HS.out, hS] : P = _)
    clear HS hS hEK hE hD hrow
    go_enter Try.func55, Try.ntmps55
    go_wp2_with (go_at_call 29; go_must (refine (hget _ hr).mono ?_; rintro e w2 ⟨rfl, rfl⟩))
    go_ret3
    rw [HS2.out]
    exact ⟨rfl, rfl⟩
end Go.Proofs.Ytkbnojjjfonniaa
