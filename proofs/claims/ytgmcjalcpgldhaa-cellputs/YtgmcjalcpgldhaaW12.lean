/- What the reference's All does. -/
import Derived.Test.YtgmcjalcpgldhaaW11
namespace Go.Proofs.Ytgmcjalcpgldhaa
open Go.RowKit

theorem refget_c (a : Option Addr) (len cap : Nat) (bs : List Nat) (w : World) (hr : Row .u8 w a len bs) (hcap : len ≤ cap) (hbig : len ≤ 100000) :
    Calls Try.prog 33 #[.slice a len cap] w fun e w' => e = .returned (.tuple #[.int .u64 ((Va.get bs).1 : Nat), .int .i64 ((Va.get bs).2 : Nat)]) ∧ Below w.heap.size w w' := refget_any a len cap bs w hcap hbig hr

set_option maxRecDepth 100000 in
set_option maxHeartbeats 2000000 in
theorem refall_any (a : Option Addr) (len cap : Nat) (bs : List Nat) (n : Nat) (w : World) (hn : n ≤ 1000) (hbig : len ≤ 100000) (hshape : Shape a len cap) (hr : Row .u8 w a len bs) :
    Calls Try.prog 45 #[.slice a len cap, .int .i64 n] w (AllRes w (Va.all bs n)) := by
  have hlen : Hid (bs.length = len) := hr.1
  obtain ⟨R, hR⟩ : ∃ R, R = Va.all bs n := ⟨_, rfl⟩
  rw [← hR]
  have HR : Hid (R = Va.all bs n) := hR
  clear hR
  have hbel0 : Below w.heap.size w (w.alloc (.cells #[] 53)) := (Below.refl _ _).alloc (Nat.le_refl _) _
  have hmade := World.ownsRow_made (base := w.heap.size) (e := 53) (size := 1) w #[] 0 (Nat.le_refl _) (by decide) (by simp)
  go_enter Try.func45, Try.ntmps45
  go_wp2
  go_loopw [7, 8, 9] (fun v t i wr => ∃ (k at' : Nat) (l : List Nat) (a' : Option Addr) (c' : Nat), k ≤ n ∧ at' ≤ len ∧ i = .int .i64 k ∧ t = .int .i64 at' ∧ v = .slice a' k c' ∧ wr.ownsRow w.heap.size 53 1 (.slice a' k c') k (kcells .u64 l) ∧ Below w.heap.size w wr ∧ Hid (l.length = k) ∧ Hid (R = Va.al (n - k) bs at' l))
    (fun _ _ i _ => n - (intOf i).toNat)
  case atStart => exact ⟨0, 0, [], _, _, by omega, by omega, rfl, rfl, rfl, hmade, hbel0, (rfl : [].length = 0), HR⟩
  case round =>
    obtain ⟨k, at', l, a', c', hk, hat, rfl, rfl, rfl, hown, hbel, hlk, H⟩ := hrel
    clear hmade hbel0 HR
    have hsz := hbel.size
    by_cases hlt : k < n
    · have hr' := hr.below hbel (Nat.le_refl _)
      have hgle := Va.get_le (bs := bs.drop at')
      rw [List.length_drop, hlen.out] at hgle
      have hglt := Va.get_lt (bs.drop at')
      have H0 := H.out
      rw [show n - k = (n - (k + 1)) + 1 by omega] at H0
      rcases hshape with ⟨rfl, rfl⟩ | ⟨b, off, rfl, hc⟩
      · have hrow := hr'.take 0 (by omega)
        obtain rfl : at' = 0 := by omega
        rw [show bs.take 0 = bs.drop 0 by rw [List.length_eq_zero_iff.mp hlen.out]; rfl] at hrow
        have hcall := fun c => refget_c a 0 c (bs.drop 0) wr hrow
        clear hr hr' hrow H
        have hz : (Va.get (bs.drop 0)).2 = 0 := by omega
        rw [Va.al_none hz] at H0
        have H2 : Hid (R = ([], 0, 2)) := H0
        have hcz : code (Va.get (bs.drop 0)).2 = 2 := by rw [hz]; rfl
        clear H0
        generalize Va.get (bs.drop 0) = g at *
        obtain ⟨g1, g2⟩ := g
        simp only at hz hglt hgle hcz hcall
        subst hz
        clear hcz
        have hc0 : code 0 = 2 := rfl
        go_wp2_with (go_at_call 33; refine (hcall _ (by omega) (by omega)).mono ?_; rintro e w3 ⟨rfl, hbel3⟩)
        go_ret3
        exact ⟨none, 0, ret_all (by rw [H2.out] <;> rfl) (by rw [H2.out] <;> rfl) (by rw [H2.out] <;> rfl), by rw [H2.out]; exact World.ownsRow_nil _ _ _ _, hbel.trans (hbel3.mono hsz)⟩
      · by_cases hcap : cap = at'
        · have hrow : Row .u8 wr (some ⟨b, off, none⟩) (len - at') (bs.drop at') := by
            have h1 := hr'.drop at' hat
            exact ⟨h1.1, h1.2.1, h1.2.2.1, .inl (by omega)⟩
          have hcall := fun c => refget_c (some ⟨b, off, none⟩) (len - at') c (bs.drop at') wr hrow
          clear hr hr' hrow H
          have hz : (Va.get (bs.drop at')).2 = 0 := by omega
          rw [Va.al_none hz] at H0
          have H2 : Hid (R = ([], at', 2)) := H0
          have hcz : code (Va.get (bs.drop at')).2 = 2 := by rw [hz]; rfl
          clear H0
          generalize Va.get (bs.drop at') = g at *
          obtain ⟨g1, g2⟩ := g
          simp only at hz hglt hgle hcz hcall
          subst hz
          clear hcz
          have hc0 : code 0 = 2 := rfl
          go_wp2_with (go_at_call 33; refine (hcall _ (by omega) (by omega)).mono ?_; rintro e w3 ⟨rfl, hbel3⟩)
          go_ret3
          exact ⟨none, 0, ret_all (by rw [H2.out] <;> rfl) (by rw [H2.out] <;> rfl) (by rw [H2.out] <;> rfl), by rw [H2.out]; exact World.ownsRow_nil _ _ _ _, hbel.trans (hbel3.mono hsz)⟩
        · have hrow := hr'.drop at' hat
          have hcall := fun c => refget_c (some ⟨b, off + at', none⟩) (len - at') c (bs.drop at') wr hrow
          clear hr hr' hrow H
          by_cases hz : (Va.get (bs.drop at')).2 = 0
          · rw [Va.al_none hz] at H0
            have H2 : Hid (R = ([], at', 2)) := H0
            have hcz : code (Va.get (bs.drop at')).2 = 2 := by rw [hz]; rfl
            clear H0
            generalize Va.get (bs.drop at') = g at *
            obtain ⟨g1, g2⟩ := g
            simp only at hz hglt hgle hcz hcall
            subst hz
            clear hcz
            have hc0 : code 0 = 2 := rfl
            go_wp2_with (go_at_call 33; refine (hcall _ (by omega) (by omega)).mono ?_; rintro e w3 ⟨rfl, hbel3⟩)
            go_ret3
            exact ⟨none, 0, ret_all (by rw [H2.out] <;> rfl) (by rw [H2.out] <;> rfl) (by rw [H2.out] <;> rfl), by rw [H2.out]; exact World.ownsRow_nil _ _ _ _, hbel.trans (hbel3.mono hsz)⟩
          · rw [Va.al_some hz] at H0
            have H2 : Hid (_ = _) := H0
            clear H0
            have hcz : code (Va.get (bs.drop at')).2 = 0 := by unfold code; rw [if_neg hz]
            generalize Va.get (bs.drop at') = g at *
            obtain ⟨g1, g2⟩ := g
            simp only at hz hglt hgle hcz hcall H2
            obtain ⟨m, rfl⟩ : ∃ m, g2 = m + 1 := ⟨g2 - 1, by omega⟩
            clear hcz
            have hc0 : code (m + 1) = 0 := rfl
            go_wp2_with (first | (go_at_call 33; refine (hcall _ (by omega) (by omega)).mono ?_; rintro e w3 ⟨rfl, hbel3⟩) | (at_builtin; have := hbel3; refine append_u64 (w0 := w) rfl (.tmp 28) (.tmp 30) rfl _ k l rfl ((owns_below hown hbel3).alloc _) _ 1 1 [g1] rfl (row_new .u64 _ 53 g1 hglt) (fun h => by cases h) (by omega) ((hbel.trans (hbel3.mono hsz)).alloc (Nat.le_trans hsz hbel3.size) _) (by simp; have := hbel3.size; omega) ?_; intro a2 c2 w2 hown2 hbel2 hsz2))
            go_roundw
            case rel => exact ⟨k + 1, at' + (m + 1), l ++ [g1], a2, c2, by omega, by omega, by go_num, val_int (by omega), rfl, hown2, hbel2, (by rw [List.length_append, hlk.out]; rfl : (l ++ [g1]).length = k + 1), H2⟩
            case measure => simp [intOf]; omega
    · have H2 : Hid (R = (l, at', 0)) := (by rw [H.out, show n - k = 0 by omega]; rfl : R = (l, at', 0))
      clear H
      go_wp2
      go_ret3
      exact ⟨a', c', ret_all (by rw [H2.out, hlk.out] <;> rfl) (by rw [H2.out] <;> rfl) (by rw [H2.out] <;> rfl), by rw [H2.out, hlk.out]; exact hown, hbel⟩

end Go.Proofs.Ytgmcjalcpgldhaa
