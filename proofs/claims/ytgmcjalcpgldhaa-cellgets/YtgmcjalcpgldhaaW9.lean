/- What All does, the program's and the reference's. -/
import Derived.Test.YtgmcjalcpgldhaaW8
namespace Go.Proofs.Ytgmcjalcpgldhaa
open Go.RowKit

/-- what a slice looks like: of no room at all, or at a place in a block -/
def Shape (a : Option Addr) (len cap : Nat) : Prop := (len = 0 ∧ cap = 0) ∨ ∃ b off, a = some ⟨b, off, none⟩ ∧ len ≤ cap

theorem shape_of {k : IntKind} {w : World} {a : Option Addr} {len cap : Nat} {zs : List Int} (h : IsRow k w a len cap zs) : Shape a len cap := by
  rcases h with ⟨rfl, rfl, rfl, rfl⟩ | ⟨x, rfl, hlc, hm, hz, hcell, _⟩
  · exact .inl ⟨rfl, rfl⟩
  · rcases Nat.eq_zero_or_pos cap with h0 | h0
    · exact .inl ⟨by omega, h0⟩
    · obtain ⟨b, off, spot⟩ := x
      have hs : spot = none := by simpa [Addr.add] using World.cell?_spot (hcell 0 (by omega))
      subst hs
      exact .inr ⟨b, off, rfl, hlc⟩

/-- what All tells -/
def AllRes (w : World) (R : List Nat × Nat × Nat) (e : Ending) (w' : World) : Prop :=
  ∃ a c, e = .returned (.tuple #[.slice a R.1.length c, .int .i64 (R.2.1 : Nat), .int .i64 (R.2.2 : Nat)]) ∧ w'.ownsRow w.heap.size 53 1 (.slice a R.1.length c) R.1.length (kcells .u64 R.1) ∧ Below w.heap.size w w'
theorem ret_all {v v' : Value} {b b' c c' : Int} (h1 : v = v') (h2 : b = b') (h3 : c = c') :
    Ending.returned (.tuple #[v, .int .i64 b, .int .i64 c]) = .returned (.tuple #[v', .int .i64 b', .int .i64 c']) := by rw [h1, h2, h3]

set_option maxRecDepth 100000 in
set_option maxHeartbeats 400000 in
theorem all_arg (v : Value) (z : Int) (w : World) (h : z < 0 ∨ 1000 < z) :
    Calls Try.prog 42 #[v, .int .i64 z] w fun e w' => e = .returned (.tuple #[.slice none 0 0, .int .i64 0, .int .i64 1]) ∧ w' = w := by
  by_cases h0 : z < 0
  · clear h
    go_enter Try.func42, Try.ntmps42
    go_wp2
    go_ret3
    exact ⟨rfl, rfl⟩
  · have h1 : 1000 < z := by omega
    clear h
    go_enter Try.func42, Try.ntmps42
    go_wp2
    go_ret3
    exact ⟨rfl, rfl⟩

set_option maxRecDepth 100000 in
set_option maxHeartbeats 2000000 in
theorem all_any (a : Option Addr) (len cap : Nat) (bs : List Nat) (n : Nat) (w : World) (hn : n ≤ 1000) (hbig : len ≤ 100000) (hshape : Shape a len cap) (hr : Row .u8 w a len bs) :
    Calls Try.prog 42 #[.slice a len cap, .int .i64 n] w (AllRes w (Va.all bs n)) := by
  have hlen : Hid (bs.length = len) := hr.1
  obtain ⟨R, hR⟩ : ∃ R, R = Va.all bs n := ⟨_, rfl⟩
  rw [← hR]
  have HR : Hid (R = Va.all bs n) := hR
  clear hR
  obtain ⟨i0, hi0, hz0, hz1, hz2⟩ := info_parts Try.info53
  go_enter Try.func42, Try.ntmps42
  go_wp2_with (at_make; refine wpList_make_own _ rfl _ _ 69 rfl w.heap.size 53 i0 (.int .u64 0) 1 Try.underlying69 hi0 hz0 hz1 .i64 .i64 _ n rfl rfl rfl (by rw [hz2]; omega) (by unfold maxLen; omega) (Nat.le_refl _) ?_; intro w2 hmade hg)
  have hbel0 : Below w.heap.size w w2 := (Below.refl _ _).grown hg (Nat.le_refl _) (fun k h => by cases h)
  clear hg hi0 hz0 hz1 hz2
  go_loopw [7, 8, 21] (fun v t i wr => ∃ (k at' : Nat) (l : List Nat) (a' : Option Addr) (c' : Nat), k ≤ n ∧ at' ≤ len ∧ i = .int .i64 k ∧ t = .int .i64 at' ∧ v = .slice a' k c' ∧ wr.ownsRow w.heap.size 53 1 (.slice a' k c') k (kcells .u64 l) ∧ Below w.heap.size w wr ∧ Hid (l.length = k) ∧ Hid (R = Va.al (n - k) bs at' l))
    (fun _ _ i _ => n - (intOf i).toNat)
  case atStart => exact ⟨0, 0, [], _, _, by omega, by omega, rfl, rfl, rfl, hmade, hbel0, (rfl : [].length = 0), HR⟩
  case round =>
    obtain ⟨k, at', l, a', c', hk, hat, rfl, rfl, rfl, hown, hbel, hlk, H⟩ := hrel
    clear hmade hbel0 HR
    have hsz := hbel.size
    by_cases hlt : k < n
    · have hr' := hr.below hbel (Nat.le_refl _)
      have hgle := Va.get_le (bs := bs.drop at')
      rw [List.length_drop, hlen.out] at hgle
      have hglt := Va.get_lt (bs.drop at')
      have H0 := H.out
      rw [show n - k = (n - (k + 1)) + 1 by omega] at H0
      rcases hshape with ⟨rfl, rfl⟩ | ⟨b, off, rfl, hc⟩
      · have hrow := hr'.take 0 (by omega)
        obtain rfl : at' = 0 := by omega
        rw [show bs.take 0 = bs.drop 0 by rw [List.length_eq_zero_iff.mp hlen.out]; rfl] at hrow
        have hcall := fun c => get_any a 0 c (bs.drop 0) wr hrow
        clear hr hr' hrow H
        have hz : (Va.get (bs.drop 0)).2 = 0 := by omega
        rw [Va.al_none hz] at H0
        have H2 : Hid (R = ([], 0, 2)) := H0
        have hcz : code (Va.get (bs.drop 0)).2 = 2 := by rw [hz]; rfl
        clear H0
        generalize Va.get (bs.drop 0) = g at *
        obtain ⟨g1, g2⟩ := g
        simp only at hz hglt hgle hcz hcall
        subst hz
        clear hcz
        have hc0 : code 0 = 2 := rfl
        go_wp2_with (go_at_call 41; refine (hcall _).mono ?_; rintro e w3 ⟨rfl, rfl⟩)
        go_ret3
        exact ⟨none, 0, ret_all (by rw [H2.out] <;> rfl) (by rw [H2.out] <;> rfl) (by rw [H2.out] <;> rfl), by rw [H2.out]; exact World.ownsRow_nil _ _ _ _, hbel⟩
      · by_cases hcap : cap = at'
        · have hrow : Row .u8 wr (some ⟨b, off, none⟩) (len - at') (bs.drop at') := by
            have h1 := hr'.drop at' hat
            exact ⟨h1.1, h1.2.1, h1.2.2.1, .inl (by omega)⟩
          have hcall := fun c => get_any (some ⟨b, off, none⟩) (len - at') c (bs.drop at') wr hrow
          clear hr hr' hrow H
          have hz : (Va.get (bs.drop at')).2 = 0 := by omega
          rw [Va.al_none hz] at H0
          have H2 : Hid (R = ([], at', 2)) := H0
          have hcz : code (Va.get (bs.drop at')).2 = 2 := by rw [hz]; rfl
          clear H0
          generalize Va.get (bs.drop at') = g at *
          obtain ⟨g1, g2⟩ := g
          simp only at hz hglt hgle hcz hcall
          subst hz
          clear hcz
          have hc0 : code 0 = 2 := rfl
          go_wp2_with (go_at_call 41; refine (hcall _).mono ?_; rintro e w3 ⟨rfl, rfl⟩)
          go_ret3
          exact ⟨none, 0, ret_all (by rw [H2.out] <;> rfl) (by rw [H2.out] <;> rfl) (by rw [H2.out] <;> rfl), by rw [H2.out]; exact World.ownsRow_nil _ _ _ _, hbel⟩
        · have hrow := hr'.drop at' hat
          have hcall := fun c => get_any (some ⟨b, off + at', none⟩) (len - at') c (bs.drop at') wr hrow
          clear hr hr' hrow H
          by_cases hz : (Va.get (bs.drop at')).2 = 0
          · rw [Va.al_none hz] at H0
            have H2 : Hid (R = ([], at', 2)) := H0
            have hcz : code (Va.get (bs.drop at')).2 = 2 := by rw [hz]; rfl
            clear H0
            generalize Va.get (bs.drop at') = g at *
            obtain ⟨g1, g2⟩ := g
            simp only at hz hglt hgle hcz hcall
            subst hz
            clear hcz
            have hc0 : code 0 = 2 := rfl
            go_wp2_with (go_at_call 41; refine (hcall _).mono ?_; rintro e w3 ⟨rfl, rfl⟩)
            go_ret3
            exact ⟨none, 0, ret_all (by rw [H2.out] <;> rfl) (by rw [H2.out] <;> rfl) (by rw [H2.out] <;> rfl), by rw [H2.out]; exact World.ownsRow_nil _ _ _ _, hbel⟩
          · rw [Va.al_some hz] at H0
            have H2 : Hid (_ = _) := H0
            clear H0
            have hcz : code (Va.get (bs.drop at')).2 = 0 := by unfold code; rw [if_neg hz]
            generalize Va.get (bs.drop at') = g at *
            obtain ⟨g1, g2⟩ := g
            simp only at hz hglt hgle hcz hcall H2
            obtain ⟨m, rfl⟩ : ∃ m, g2 = m + 1 := ⟨g2 - 1, by omega⟩
            clear hcz
            have hc0 : code (m + 1) = 0 := rfl
            simp only [hc0] at hcall
            go_wp2_with (first | (go_at_call 41; refine (hcall _).mono ?_; rintro e w3 ⟨rfl, rfl⟩) | (at_builtin; refine append_u64 (w0 := w) rfl (.tmp 35) (.tmp 37) rfl _ k l rfl (hown.alloc _) _ 1 1 [g1] rfl (row_new .u64 _ 53 g1 hglt) (fun h => by cases h) (by omega) (hbel.alloc hsz _) (by simp; omega) ?_; intro a2 c2 w2 hown2 hbel2 hsz2))
            go_roundw
            case rel => exact ⟨k + 1, at' + (m + 1), l ++ [g1], a2, c2, by omega, by omega, by go_num, val_int (by omega), rfl, hown2, hbel2, (by rw [List.length_append, hlk.out]; rfl : (l ++ [g1]).length = k + 1), H2⟩
            case measure => simp [intOf]; omega
    · have H2 : Hid (R = (l, at', 0)) := (by rw [H.out, show n - k = 0 by omega]; rfl : R = (l, at', 0))
      clear H
      go_wp2
      go_ret3
      exact ⟨a', c', ret_all (by rw [H2.out, hlk.out] <;> rfl) (by rw [H2.out] <;> rfl) (by rw [H2.out] <;> rfl), by rw [H2.out, hlk.out]; exact hown, hbel⟩

end Go.Proofs.Ytgmcjalcpgldhaa
