/- Edits: their bytes, as the reference tells them. -/
import Derived.Test.YtkbnojjjfonniaaET
namespace Go.Proofs.Ytkbnojjjfonniaa
open Go.RowKit

theorem rone16_any (k n i t a b c p q r : Int) (f g : ByteArray) (w : World) (hm : Ed.may ⟨k, n, i, t, a, b, c, ⟨p, q, r, f, g⟩⟩ = true) :
    Calls Try.prog 28 #[ed12 k n i t a b c p q r f g] w (Made .u8 5 w (Ed.one ⟨k, n, i, t, a, b, c, ⟨p, q, r, f, g⟩⟩)) := by
  obtain ⟨m1, m2, m3, m4, m5, m6⟩ := Ed.may_nums hm
  simp only at m2 m3 m5 m6
  have hnum := fun W => rnumbers_any k n i t a b c p q r f g W m1
  have hs : ∀ x ∈ (Ed.nums ⟨k, n, i, t, a, b, c, ⟨p, q, r, f, g⟩⟩).map Int.toNat, x < 18446744073709551616 := fun x hx => by have := Ed.toNat_map m1 x hx; omega
  have hc : 0 < Ed.cnt k ∧ Ed.cnt k ≤ 6 := by
    obtain ⟨c1, c2, c3, c4, c5, c6, c7, c8, c9⟩ := Ed.cnt_of
    rcases Ed.kinds k with h | h | h | h | h | h | h | h | h | h
    case inr.inr.inr.inr.inr.inr.inr.inr.inr => omega
    all_goals (rw [h]; omega)
  have hl : ((Ed.nums ⟨k, n, i, t, a, b, c, ⟨p, q, r, f, g⟩⟩).map Int.toNat).length = Ed.cnt k := by rw [List.length_map]; exact m4
  obtain ⟨K, rfl⟩ : ∃ K : Nat, k = K := ⟨k.toNat, by omega⟩
  by_cases h4 : (K : Int) = 4
  · obtain ⟨_, m8, m9⟩ := m6 h4
    have := rone_tab K n i t a b c p q r f g _ w (by omega) (by simp [h4]) m8 m9 (by omega) (by omega) hs hnum
    have e : Ed.one ⟨K, n, i, t, a, b, c, ⟨p, q, r, f, g⟩⟩ = K :: (Va.put ((Ed.nums ⟨K, n, i, t, a, b, c, ⟨p, q, r, f, g⟩⟩).map Int.toNat) ++ (Ed.text f ++ Ed.text g)) := by
      rw [Ed.one, Ed.texts, if_pos h4]; rfl
    rw [e]
    exact this
  · have := rone_row K n i t a b c p q r f g _ w (by omega) h4 (by omega) (by omega) hs hnum
    have e : Ed.one ⟨K, n, i, t, a, b, c, ⟨p, q, r, f, g⟩⟩ = K :: Va.put ((Ed.nums ⟨K, n, i, t, a, b, c, ⟨p, q, r, f, g⟩⟩).map Int.toNat) := by
      rw [Ed.one, Ed.texts, if_neg h4]; simp
    rw [e]
    exact this
set_option maxRecDepth 100000 in
set_option maxHeartbeats 2000000 in
theorem rput16_any (ad : Option Addr) (len cap : Nat) (l : List Ed.E) (w : World) (hlen : len ≤ 200) (hr : ERow w ad len l) (hmay : ∀ e ∈ l, Ed.may e = true) :
    Calls Try.prog 14 #[.slice ad len cap] w (Made .u8 5 w (Ed.put l)) := by
  have hll : Hid (l.length = len) := hr.1
  have hmay : Hid (∀ e ∈ l, Ed.may e = true) := hmay
  have hone : ∀ (W : World) (z : Int), z = (len : Int) → Calls Try.prog 27 #[.int .u64 z] W (Made .u8 5 W (Va.one len)) := fun W z hz => hz ▸ one_any len len W (Nat.le_refl _) (by omega)
  have hl10 : (Va.one len).length ≤ 10 := Va.one_len10 (by omega)
  obtain ⟨hd, hhd⟩ : ∃ hd, hd = Va.one len := ⟨_, rfl⟩
  rw [← hhd] at hone hl10
  have HD : Hid (hd = Va.one len) := hhd
  clear hhd
  have i1 : ((len : Nat) : Int) < 18446744073709551616 := by omega
  have hby := fun k n i t a b c p q r f g W h => rone16_any k n i t a b c p q r f g W h
  go_enter Try.func14, Try.ntmps14
  go_wp2_with (go_at_call 27; go_must (refine (hone _ _ (by go_num)).mono ?_; rintro e w2 ⟨a2, c2, rfl, hown2, hb2⟩))
  go_loopw [3, 4] (fun v iv wr => ∃ (j : Nat) (a' : Option Addr) (m c' : Nat), j ≤ len ∧ iv = .int .i64 j ∧ v = .slice a' m c' ∧ m ≤ 10 + 250 * j ∧ wr.ownsRow w.heap.size 5 1 (.slice a' m c') m (kcells .u8 (hd ++ (l.take j).flatMap Ed.one)) ∧ Below w.heap.size w wr) (fun _ iv _ => len - (intOf iv).toNat)
  case atStart => exact ⟨0, a2, hd.length, c2, by omega, rfl, rfl, by omega, by simpa using hown2, hb2⟩
  case round =>
    obtain ⟨j, a', m, c', hj, rfl, rfl, hm, hown, hbel⟩ := hrel
    by_cases hlt : j < len
    · obtain ⟨B, O, k, n, i, t, a, b, c, p, q, r, f, g, rfl, hx, q0, q1, q2, q3, q4, q5, q6, q7, q8, q9, q10, q11⟩ := eget hr hbel hlt
      have hj' : j < l.length := by rw [hll.out]; exact hlt
      have i2 : (0 : Int) ≤ (j : Int) := by omega
      have i3 : (j : Int) < (len : Int) := by omega
      have hmy := hmay.out _ (emem hj')
      rw [hx.out] at hmy
      have hby1 := fun W => hby k n i t a b c p q r f g W hmy
      have hlo := eone_len hmy
      have hso := Ed.one_small (e := ⟨k, n, i, t, a, b, c, ⟨p, q, r, f, g⟩⟩) (by have := (Ed.may_nums hmy).2.2.1; omega)
      have HP : Hid ((l.take (j + 1)).flatMap Ed.one = (l.take j).flatMap Ed.one ++ Ed.one ⟨k, n, i, t, a, b, c, ⟨p, q, r, f, g⟩⟩) := (by rw [etake hj', hx.out]; simp : _ = _)
      generalize Ed.one ⟨k, n, i, t, a, b, c, ⟨p, q, r, f, g⟩⟩ = o at *
      clear hx hmy
      go_wp2_with (first
        | (go_at_call 28; go_must (refine (hby1 _).mono ?_; rintro e w6 ⟨a6, c6, rfl, hown6, hb6⟩; have hk6 := owns_below hown hb6; have hB6 := hbel.trans (hb6.mono hbel.size); have hr6 := row_of_owns hown6 hso (by omega)))
        | (at_builtin; go_must (refine append_u8g (w0 := w) (B := w.heap.size) rfl (.tmp 15) (.tmp 20) rfl _ m _ rfl hk6 a6 o.length c6 o rfl hr6.1 hr6.2.1 (by omega) hB6 hB6.size ?_; intro a7 c7 w7 hown7 hb7 hsz7 hg7)))
      go_roundw
      case rel => exact ⟨j + 1, a7, m + o.length, c7, by omega, by go_num, rfl, by omega, by rw [HP.out, ← List.append_assoc]; exact hown7, hb7⟩
      case measure => simp [intOf]; omega
    · obtain rfl : j = len := by omega
      have HT : Hid (l.take j = l) := (List.take_of_length_le (by rw [hll.out]; exact Nat.le_refl _) : l.take j = l)
      go_wp2
      go_ret
      have hl := hown.1
      rw [kcells_length, Nat.mul_one] at hl
      rw [HT.out, HD.out] at hown
      rw [HT.out, HD.out] at hl
      have e : Va.one j ++ l.flatMap Ed.one = Ed.put l := by rw [Ed.put, hll.out]
      rw [e] at hown hl
      subst hl
      exact ⟨a', c', rfl, hown, hbel⟩
set_option maxRecDepth 100000 in
set_option maxHeartbeats 1000000 in
theorem rnumber_any (a : Option Addr) (len cap : Nat) (bs : List Nat) (w : World) (hbig : len ≤ 100000) (hcap : len ≤ cap) (hr : Row .u8 w a len bs) :
    Calls Try.prog 31 #[.slice a len cap] w fun e w' => e = .returned (.tuple #[.int .i64 ((Ed.number bs).1 : Nat), .int .i64 ((Ed.number bs).2 : Nat)]) ∧ Below w.heap.size w w' := by
  have hget := refget_any a len cap bs w hcap hbig hr
  have hle := Va.get_le (bs := bs)
  rw [hr.1] at hle
  have HP : Hid (Ed.number bs = if (Va.get bs).2 = 0 ∨ 2147483647 < (Va.get bs).1 then (0, 0) else Va.get bs) := (rfl : _ = _)
  generalize Ed.number bs = P at *
  generalize Va.get bs = G at *
  obtain ⟨U, K⟩ := G
  simp only at hget hle HP
  by_cases hK : K = 0
  · subst hK
    have HN : Hid (P = (0, 0)) := (by rw [HP.out, if_pos (.inl rfl)] : P = (0, 0))
    clear HP
    go_enter Try.func31, Try.ntmps31
    go_wp2_with (go_at_call 50; go_must (refine hget.mono ?_; rintro e w2 ⟨rfl, hb2⟩))
    go_ret2
    rw [HN.out]
    exact ⟨rfl, hb2⟩
  have i0 : ¬ (K : Int) = 0 := by omega
  by_cases hU : 2147483647 < U
  · have HN : Hid (P = (0, 0)) := (by rw [HP.out, if_pos (.inr hU)] : P = (0, 0))
    have i1 : (2147483647 : Int) < (U : Int) := by omega
    clear HP
    go_enter Try.func31, Try.ntmps31
    go_wp2_with (go_at_call 50; go_must (refine hget.mono ?_; rintro e w2 ⟨rfl, hb2⟩))
    go_ret2
    rw [HN.out]
    exact ⟨rfl, hb2⟩
  have HN : Hid (P = (U, K)) := (by rw [HP.out, if_neg (by omega)] : P = (U, K))
  have i1 : ¬ (2147483647 : Int) < (U : Int) := by omega
  have i2 : (U : Int) ≤ 9223372036854775807 := by omega
  have d0 : ((K : Int) == 0) = false := by simp; omega
  have d1 : decide ((2147483647 : Int) < (U : Int)) = false := by simp; omega
  clear HP
  go_enter Try.func31, Try.ntmps31
  go_wp2_with (go_at_call 50; go_must (refine hget.mono ?_; rintro e w2 ⟨rfl, hb2⟩))
  go_ret2
  rw [HN.out]
  exact ⟨rfl, hb2⟩
end Go.Proofs.Ytkbnojjjfonniaa
