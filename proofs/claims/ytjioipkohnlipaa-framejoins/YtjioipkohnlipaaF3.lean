/- What the reference's Ints and All do. -/
import Derived.Test.YtjioipkohnlipaaF2
namespace Go.Proofs.Ytjioipkohnlipaa
open Go.RowKit

set_option maxHeartbeats 400000 in
theorem ints_any (a1 : Option Addr) (l1 c1 : Nat) (bs1 : List Nat) (a2 : Option Addr) (l2 c2 : Nat) (bs2 : List Nat) (w : World) (hr1 : Row .i64 w a1 l1 bs1) (hr2 : Row .i64 w a2 l2 bs2) :
    Calls Try.prog 21 #[.slice a1 l1 c1, .slice a2 l2 c2] w fun e w' => e = .returned (.bool (decide (bs1 = bs2))) ∧ ∃ n, w' = w.drewN n := by
  by_cases hl : l1 = l2
  · subst hl
    rcases Nat.eq_zero_or_pos l1 with h0 | h0
    · have he : Hid (decide (bs1 = bs2) = true) := (by
        have e1 := List.length_eq_zero_iff.mp (hr1.1.trans h0); have e2 := List.length_eq_zero_iff.mp (hr2.1.trans h0)
        rw [e1, e2]; rfl : decide (bs1 = bs2) = true)
      subst h0
      go_enter Try.func21, Try.ntmps21
      go_wp2
      go_loop [5] (fun i => i = .int .i64 (0 : Nat)) (fun _ => 0)
      case atStart => rfl
      case round =>
        subst hrel
        go_wp2
        go_ret
        exact ⟨by rw [he.out]; rfl, 0, rfl⟩
    · obtain ⟨b1, o1, rfl, hc1⟩ := hr1.at h0
      obtain ⟨b2, o2, rfl, hc2⟩ := hr2.at h0
      have hb := hr1.2.1
      have hlen : Hid (bs1.length = bs2.length) := (by rw [hr1.1, hr2.1] : bs1.length = bs2.length)
      have hlen1 : Hid (bs1.length = l1) := hr1.1
      clear hr1 hr2
      go_enter Try.func21, Try.ntmps21
      go_wp2
      go_loopw [5] (fun i wr => ∃ k n : Nat, k ≤ l1 ∧ i = .int .i64 k ∧ wr = w.drewN n ∧ Hid (∀ j, j < k → bs1.getD j 0 = bs2.getD j 0)) (fun i _ => l1 - (intOf i).toNat)
      case atStart => exact ⟨0, 0, by omega, rfl, rfl, (fun j hj => by omega : ∀ j, j < 0 → bs1.getD j 0 = bs2.getD j 0)⟩
      case round =>
        obtain ⟨k, n, hk, rfl, rfl, hsame⟩ := hrel
        by_cases hlt : k < l1
        · have h1 := hc1 k hlt
          have h2 := hc2 k hlt
          clear hc1 hc2
          have i0 : (0 : Int) ≤ (k : Int) := Int.natCast_nonneg _
          have i1 : (k : Int) < (l1 : Int) := by omega
          by_cases hxy : bs1.getD k 0 = bs2.getD k 0
          · have H : Hid (∀ j, j < k + 1 → bs1.getD j 0 = bs2.getD j 0) := (by
              intro j hj
              rcases Nat.lt_or_ge j k with h | h
              · exact hsame.out j h
              · obtain rfl : j = k := by omega
                exact hxy : ∀ j, j < k + 1 → bs1.getD j 0 = bs2.getD j 0)
            rw [← hxy] at h2
            clear hxy hsame
            generalize bs1.getD k 0 = x at *
            go_wp2_with fail
            go_quiet (fail)
            go_wp2
            go_roundw
            case rel => exact ⟨k + 1, _, by omega, by go_num, by first | rfl | exact (World.drewN_drewN _ _ _), H⟩
            case measure => simp [intOf]; omega
          · have he : Hid (decide (bs1 = bs2) = false) := (by simp; intro h; exact hxy (by rw [h]) : decide (bs1 = bs2) = false)
            generalize bs1.getD k 0 = x at *
            generalize bs2.getD k 0 = y at *
            have hxy' : ((x : Int) == (y : Int)) = false := by simp; omega
            go_wp2_with fail
            go_quiet (fail)
            go_wp2
            go_ret
            exact ⟨by rw [he.out]; rfl, _, by first | rfl | exact (World.drewN_drewN _ _ _)⟩
        · have he : Hid (decide (bs1 = bs2) = true) := (by
            simp; exact eq_of_getD hlen.out (fun j hj => hsame.out j (by have := hlen1.out; omega)) : decide (bs1 = bs2) = true)
          go_wp2
          go_ret
          exact ⟨by rw [he.out]; rfl, _, by first | rfl | exact (World.drewN_drewN _ _ _)⟩
  · have he : Hid (decide (bs1 = bs2) = false) := (by
      simp; intro h; apply hl; rw [← hr1.1, ← hr2.1, h] : decide (bs1 = bs2) = false)
    go_enter Try.func21, Try.ntmps21
    go_wp2
    go_ret
    exact ⟨by rw [he.out]; rfl, 0, rfl⟩


theorem fall_take (l : List Fr.F) (k : Nat) (h : k < l.length) : Fr.all (l.take (k + 1)) = Fr.all (l.take k) ++ Fr.one (l.getD k (0, [])) := by
  rw [List.take_succ_eq_append_getElem h, Fr.all_append]; simp [h, Fr.all]
theorem fall_take_le (l : List Fr.F) (k : Nat) : (Fr.all (l.take k)).length ≤ (Fr.all l).length := by
  have h : Fr.all l = Fr.all (l.take k) ++ Fr.all (l.drop k) := by rw [← Fr.all_append, List.take_append_drop]
  rw [h, List.length_append]; omega
theorem good_get {l : List Fr.F} (hg : Fr.Good l) (k : Nat) (h : k < l.length) : Fr.may (l.getD k (0, [])) = true := by
  have : l.getD k (0, []) = l[k] := by simp [h]
  rw [this]; exact (hg _ (List.getElem_mem h)).1

set_option maxRecDepth 100000 in
set_option maxHeartbeats 1000000 in
theorem frefall_any (a : Option Addr) (len cap : Nat) (l : List Fr.F) (w : World) (hg : Fr.Good l) (hbig : (Fr.all l).length ≤ 1000000000) (hr : FRow w a len l) :
    Calls Try.prog 15 #[.slice a len cap] w (Made .u8 5 w (Fr.all l)) := by
  have hll : Hid (l.length = len) := hr.1
  have hlb := hr.2.1
  have hbel0 : Below w.heap.size w (w.alloc (.cells #[] 5)) := (Below.refl _ _).alloc (Nat.le_refl _) _
  have hmade := World.ownsRow_made (base := w.heap.size) (e := 5) (size := 1) w #[] 0 (Nat.le_refl _) (by decide) (by simp)
  go_enter Try.func15, Try.ntmps15
  go_wp2
  go_loopw [3, 4] (fun v i wr => ∃ (k : Nat) (a' : Option Addr) (n c : Nat), k ≤ len ∧ i = .int .i64 k ∧ v = .slice a' n c ∧ Hid (n = (Fr.all (l.take k)).length) ∧ wr.ownsRow w.heap.size 5 1 (.slice a' n c) n (kcells .u8 (Fr.all (l.take k))) ∧ Below w.heap.size w wr)
    (fun _ i _ => len - (intOf i).toNat)
  case atStart => exact ⟨0, _, 0, 0, by omega, rfl, rfl, (rfl : 0 = (Fr.all (l.take 0)).length), hmade, hbel0⟩
  case round =>
    obtain ⟨k, a', n, c, hk, rfl, rfl, hn, hown, hbel⟩ := hrel
    clear hmade hbel0
    by_cases hlt : k < len
    · have hr' := hr.below hbel (Nat.le_refl _)
      obtain ⟨b, off, rfl, hc⟩ := hr'.at (by omega)
      obtain ⟨A, L, C, p1, q1, r1, s1, t1, lo1, hi1⟩ := hc k hlt
      have hm := (Fr.may_iff _).mp (good_get hg k (by rw [hll.out]; exact hlt))
      have H : Hid (Fr.all (l.take (k + 1)) = Fr.all (l.take k) ++ Fr.one (l.getD k (0, []))) := fall_take l k (by rw [hll.out]; exact hlt)
      have hb1 := fall_take_le l k
      have hb2 := fall_take_le l (k + 1)
      rw [H.out, List.length_append, ← hn.out] at hb2
      rw [← hn.out] at hb1
      clear hc hr'
      generalize l.getD k (0, []) = f at *
      obtain ⟨x, y⟩ := f
      simp only at p1 r1 hm
      obtain ⟨z, rfl⟩ : ∃ z : Nat, x = (z : Int) := ⟨x.toNat, by omega⟩
      have hy : Hid (y.length = L) := r1.1
      have hp := refput1_any z A L C y wr (by omega) (by omega) (by have := hy.out; omega) r1 t1
      have hsm : ∀ x ∈ Fr.put1 z y, x < lim .u8 := Fr.put1_small (by omega) r1.2.2.1
      have hone : Hid (Fr.one ((z : Int), y) = Fr.put1 z y) := (by unfold Fr.one; simp : Fr.one ((z : Int), y) = Fr.put1 z y)
      rw [hone.out] at hb2 H
      clear hone hm
      generalize Fr.put1 z y = r at *
      have hsz := hbel.size
      go_wp2_with (first | (go_at_call 28; refine hp.mono ?_; rintro e w1 ⟨a1, c1, rfl, hown1, hbel1⟩) | (at_builtin; have := hown1; go_must (obtain ⟨hr1, hn1, _⟩ := row_of_owns hown1 hsm (by omega); refine append_u8 (w0 := w) rfl (.tmp 12) (.tmp 17) rfl _ n _ rfl (owns_below hown hbel1) a1 _ c1 r rfl hr1 hn1 (by omega) (hbel.trans (hbel1.mono hsz)) (Nat.le_trans hsz hbel1.size) ?_; intro a2 c2 w2 hown2 hbel2 hsz2)))
      go_roundw
      case rel => exact ⟨k + 1, a2, n + r.length, c2, by omega, by go_num, rfl, (by rw [H.out, List.length_append, ← hn.out] : n + r.length = (Fr.all (l.take (k + 1))).length), by rw [H.out]; exact hown2, hbel2⟩
      case measure => simp [intOf]; omega
    · have hkl : Hid (l.take k = l) := (List.take_of_length_le (by rw [hll.out]; omega) : l.take k = l)
      rw [hkl.out] at hown
      have hn' : Hid (n = (Fr.all l).length) := (by rw [hn.out, hkl.out] : n = (Fr.all l).length)
      clear hn
      go_wp2
      go_ret
      exact ⟨a', c, by rw [← hn'.out]; rfl, by rw [← hn'.out]; exact hown, hbel⟩
end Go.Proofs.Ytjioipkohnlipaa
