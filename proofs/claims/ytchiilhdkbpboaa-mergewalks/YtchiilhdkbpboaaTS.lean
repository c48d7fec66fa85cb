/- What the program's Check and Sorted of items do. -/
import Derived.Test.YtchiilhdkbpboaaMa
import Derived.Test.YtchiilhdkbpboaaTRa
import Derived.Test.YtchiilhdkbpboaaXC
namespace Go.Proofs.Ytchiilhdkbpboaa
open Go.RowKit

set_option maxRecDepth 100000 in
set_option maxHeartbeats 2000000 in
theorem tcheck_any (h : IH) (x : It.I) (w : World) (hx : IsItem w h x) :
    Calls Try.prog 41 #[iv h] w fun e w' => e = .returned (.int .i64 (if It.may x = true then 0 else 1)) ∧ Below w.heap.size w w' := by
  obtain ⟨R, hR⟩ : ∃ R : Int, R = if It.may x = true then 0 else 1 := ⟨_, rfl⟩
  rw [← hR]
  have HR : Hid (R = if It.may x = true then 0 else 1) := hR
  have hb0 := below_alloc w (.cells #[.string h.key, .bool h.dead, .bool h.far, .slice h.a h.n h.c, .int .i64 h.p.1, .int .i64 h.p.2.1, .int .i64 h.p.2.2.1, .int .u32 (h.p.2.2.2 : Nat)] 37)
  have hmay := fun W (hW : Below w.heap.size w W) => ccheck_any h.far h.a h.n h.c x.2.2.2.1 h.p W (hx.row.below hW (Nat.le_refl _)) hx.fits
  have hsame := fun W (hW : Below w.heap.size w W) => csame_any h.far h.a h.n h.c x.2.2.2.1 h.p false none 0 0 [] Po.zero W (hx.row.below hW (Nat.le_refl _)) ⟨rfl, by decide, (fun x hx => by cases hx), .inl rfl⟩
  have e1 : Hid (Ce.may (h.far, x.2.2.2.1, h.p) = Ce.may x.2.2) := (by rw [← hx.cell] : Ce.may (h.far, x.2.2.2.1, h.p) = Ce.may x.2.2)
  have e2 : Hid (Ce.same (h.far, x.2.2.2.1, h.p) (false, [], Po.zero) = decide (x.2.2 = Ce.zero)) := (by unfold Ce.same; rw [← hx.cell]; rfl : Ce.same (h.far, x.2.2.2.1, h.p) (false, [], Po.zero) = decide (x.2.2 = Ce.zero))
  simp only [e1.out] at hmay
  simp only [e2.out] at hsame
  have hk := hx.key
  have hd := hx.dead
  have hks := hx.ksz
  clear hx e1 e2 hR
  obtain ⟨key, dead, far, a, n, c, ⟨s, y, l, m⟩⟩ := h
  simp only at hk hd hmay hsame hb0 hks
  unfold maxLen at hks
  have hkl : Hid (x.1.length = key.size) := (by rw [← hk, kb_len] : x.1.length = key.size)
  unfold It.may at HR
  by_cases h1 : x.1 = []
  · obtain rfl : R = 1 := by rw [HR.out]; simp [h1]
    obtain rfl : key = ⟨#[]⟩ := (kb_nil key).mp (hk.trans h1)
    clear HR hmay hsame hk hkl hd
    go_enter Try.func41, Try.ntmps41
    go_wp2
    go_ret
    exact ⟨rfl, hb0⟩
  · have hne : 1 ≤ key.size := by
      rw [← hkl.out]
      cases hx1 : x.1 with
      | nil => exact absurd hx1 h1
      | cons _ _ => simp
    have d1 : decide ((key.size : Int) < 1) = false := by simp; omega
    have n1 : ¬ ((key.size : Int) < 1) := by omega
    by_cases h2 : key.size ≤ 64
    · have d2 : decide (64 < (key.size : Int)) = false := by simp; omega
      have n2 : ¬ (64 < (key.size : Int)) := by omega
      have HR2 : Hid (R = if (Ce.may x.2.2 && (!x.2.1 || decide (x.2.2 = Ce.zero))) = true then 0 else 1) := (by rw [HR.out]; simp [h1, hkl.out, h2] : R = if (Ce.may x.2.2 && (!x.2.1 || decide (x.2.2 = Ce.zero))) = true then 0 else 1)
      rw [← hd] at HR2
      clear HR hk hkl h1 hd
      generalize Ce.may x.2.2 = M at *
      generalize decide (x.2.2 = Ce.zero) = Z at *
      cases dead with
      | false =>
        obtain rfl : R = if M = true then 0 else 1 := by rw [HR2.out]; cases M <;> rfl
        clear HR2 hsame
        go_enter Try.func41, Try.ntmps41
        go_wp2_with (go_at_call 47; go_must (refine (hmay _ hb0).mono ?_; rintro e w1 ⟨rfl, hb1⟩))
        all_goals
          go_ret
          exact ⟨by first | rfl | (simp [*]), hb0.trans (hb1.mono hb0.size)⟩
      | true =>
        cases Z with
        | false =>
          obtain rfl : R = 1 := by rw [HR2.out]; cases M <;> rfl
          clear HR2
          go_enter Try.func41, Try.ntmps41
          go_wp2_with (go_at_call 46; go_must (refine (hsame _ hb0).mono ?_; rintro e w1 ⟨rfl, hb1⟩))
          go_ret
          exact ⟨rfl, hb0.trans (hb1.mono hb0.size)⟩
        | true =>
          obtain rfl : R = if M = true then 0 else 1 := by rw [HR2.out]; cases M <;> rfl
          clear HR2
          go_enter Try.func41, Try.ntmps41
          go_wp2_with (first
            | (go_at_call 46; go_must (refine (hsame _ hb0).mono ?_; rintro e w1 ⟨rfl, hb1⟩; obtain ⟨⟨k0, k1, k2, k3, k4, k5, k6, k7⟩, hlt, hw1⟩ := eight_keep hb1))
            | (go_at_call 47; go_must (refine (hmay _ hw1).mono ?_; rintro e w2 ⟨rfl, hb2⟩)))
          all_goals
            go_ret
            exact ⟨by first | rfl | (simp [*]), hw1.trans (hb2.mono hw1.size)⟩
    · have d2 : decide (64 < (key.size : Int)) = true := by simp; omega
      have n2 : 64 < (key.size : Int) := by omega
      obtain rfl : R = 1 := by rw [HR.out]; simp [hkl.out, h2]
      clear HR hmay hsame hk hkl hd
      go_enter Try.func41, Try.ntmps41
      go_wp2
      go_ret
      exact ⟨rfl, hb0⟩

theorem It.sorted_go {xs : List It.I} {k : Nat} (hk : k < xs.length) {last : List Nat} : It.sortedGo (some last) (xs.drop k) = (It.may (xs.getD k It.zero) && Na.lt last (xs.getD k It.zero).1 && It.sortedGo (some (xs.getD k It.zero).1) (xs.drop (k + 1))) := by
  rw [It.getD_drop hk, It.sortedGo]
  rfl
theorem It.sorted_nil (xs : List It.I) : It.sorted xs = It.sortedGo (some []) xs := by
  unfold It.sorted
  cases xs with
  | nil => rfl
  | cons x l =>
    rw [It.sortedGo, It.sortedGo]
    cases hm : It.may x with
    | false => rfl
    | true =>
      have h := (Tn.may_small hm).1
      have : Na.lt [] x.1 = true := by cases hx : x.1 with
        | nil => exact absurd hx h
        | cons _ _ => rfl
      simp [It.after, this]

set_option maxRecDepth 100000 in
set_option maxHeartbeats 2000000 in
theorem tsorted_any (a : Option Addr) (n c : Nat) (gs : List IH) (xs : List It.I) (w : World) (hn : n ≤ 100000) (hi : InI w a n c gs xs) :
    Calls Try.prog 31 #[.slice a n c] w fun e w' => e = .returned (.bool (It.sorted xs)) ∧ Below w.heap.size w w' := by
  have hll : Hid (xs.length = n) := hi.1.len
  obtain ⟨R, hR⟩ : ∃ R, R = It.sorted xs := ⟨_, rfl⟩
  rw [← hR]
  have HR : Hid (R = It.sortedGo (some (kb ⟨#[]⟩)) (xs.drop 0)) := (by rw [hR, It.sorted_nil]; rfl : R = It.sortedGo (some (kb ⟨#[]⟩)) (xs.drop 0))
  clear hR
  go_enter Try.func31, Try.ntmps31
  go_wp2_with fail
  go_loopw [3, 8] (fun la i wr => ∃ (k : Nat) (last : ByteArray), k ≤ n ∧ i = .int .i64 k ∧ la = .string last ∧ Hid (R = It.sortedGo (some (kb last)) (xs.drop k)) ∧ Below w.heap.size w wr) (fun _ i _ => n - (intOf i).toNat)
  case atStart => exact ⟨0, ⟨#[]⟩, by omega, rfl, rfl, HR, Below.refl _ _⟩
  case round =>
    obtain ⟨k, last, hk, rfl, rfl, H, hbel⟩ := hrel
    clear HR
    by_cases hlt : k < n
    · obtain ⟨bb, off, rfl, hc⟩ := hi.1.1.items (by omega)
      obtain ⟨y0, y1, y2, y3, y4, y5, y6, y7⟩ := (hc k hlt).below hbel (Nat.le_refl _)
      have hk' : k < xs.length := by rw [hll.out]; exact hlt
      have Hy := hi.1.item hlt
      have hst : Hid (R = (It.may (xs.getD k It.zero) && Na.lt (kb last) (xs.getD k It.zero).1 && It.sortedGo (some (xs.getD k It.zero).1) (xs.drop (k + 1)))) := (by rw [H.out, It.sorted_go hk'] : R = (It.may (xs.getD k It.zero) && Na.lt (kb last) (xs.getD k It.zero).1 && It.sortedGo (some (xs.getD k It.zero).1) (xs.drop (k + 1))))
      have hch := fun W (hW : Below w.heap.size w W) => tcheck_any _ _ W (Hy.below hW (Nat.le_refl _))
      have q1 : Op.bytesLess last.toList (gs.getD k ihz).key.toList = Na.lt (kb last) (xs.getD k It.zero).1 := by rw [less_kb, Hy.key]
      have hky : Hid (kb (gs.getD k ihz).key = (xs.getD k It.zero).1) := Hy.key
      generalize gs.getD k ihz = q at *
      generalize xs.getD k It.zero = y at *
      have i0 : (0 : Int) ≤ (k : Int) := by omega
      have i1 : (k : Int) < (n : Int) := by omega
      have i2 : IntKind.i64.wrap ((k : Int) + 1) = (k : Int) + 1 := by rw [IntKind.wrap_i64]; omega
      clear hc hk' Hy H
      obtain ⟨key, dead, far, qa, qn, qc, ⟨p1, p2, p3, p4⟩⟩ := q
      simp only at y0 y1 y2 y3 y4 y5 y6 y7 hch q1 hky
      have hba := hbel.alloc hbel.size (.cells #[.string key, .bool dead, .bool far, .slice qa qn qc, .int .i64 p1, .int .i64 p2, .int .i64 p3, .int .u32 (p4 : Nat)] 37)
      have q2 : Op.bytesLess key.toList last.toList = Na.lt y.1 (kb last) := by rw [less_kb, hky.out]
      have q3 : (key.toList == last.toList) = decide (y.1 = kb last) := str_eq _ (by rw [decide_eq_true_eq, hky.out])
      cases hm : It.may y with
      | false =>
        obtain rfl : R = false := by rw [hst.out, hm]; rfl
        simp only [hm, Bool.false_eq_true, if_false] at hch
        clear hm hst q1 q2 q3
        go_wp2_with (go_at_call 41; go_must (refine (hch _ hba).mono ?_; rintro e w1 ⟨rfl, hb1⟩; obtain ⟨⟨k0, k1, k2, k3, k4, k5, k6, k7⟩, hlw, hw1⟩ := eight_keep hb1))
        go_ret
        exact ⟨rfl, hba.trans (hb1.mono hba.size)⟩
      | true =>
        simp only [hm, if_true] at hch
        rcases It.lt_total (kb last) y.1 with hl | hl | hl
        · rw [hl] at q1
          rw [It.lt_asymm hl] at q2
          rw [decide_eq_false (fun e => It.lt_ne hl e.symm)] at q3
          have hs2 : Hid (R = It.sortedGo (some (kb key)) (xs.drop (k + 1))) := (by rw [hst.out, hm, hl, hky.out]; rfl : R = It.sortedGo (some (kb key)) (xs.drop (k + 1)))
          clear hm hst hl
          go_wp2_with (go_at_call 41; go_must (refine (hch _ hba).mono ?_; rintro e w1 ⟨rfl, hb1⟩; obtain ⟨⟨k0, k1, k2, k3, k4, k5, k6, k7⟩, hlw, hw1⟩ := eight_keep hb1))
          go_roundw
          case rel => exact ⟨k + 1, key, by omega, by go_num, rfl, hs2, hba.trans (hb1.mono hba.size)⟩
          case measure => simp [intOf]; omega
        · obtain rfl : R = false := by rw [hst.out, hl, It.lt_irrefl]; simp
          rw [hl, It.lt_irrefl] at q1
          rw [hl, It.lt_irrefl] at q2
          rw [hl, decide_eq_true rfl] at q3
          clear hm hst hl
          go_wp2_with (go_at_call 41; go_must (refine (hch _ hba).mono ?_; rintro e w1 ⟨rfl, hb1⟩; obtain ⟨⟨k0, k1, k2, k3, k4, k5, k6, k7⟩, hlw, hw1⟩ := eight_keep hb1))
          go_ret
          exact ⟨rfl, hba.trans (hb1.mono hba.size)⟩
        · obtain rfl : R = false := by rw [hst.out, It.lt_asymm hl]; simp
          rw [It.lt_asymm hl] at q1
          rw [hl] at q2
          clear hm hst hl
          go_wp2_with (go_at_call 41; go_must (refine (hch _ hba).mono ?_; rintro e w1 ⟨rfl, hb1⟩; obtain ⟨⟨k0, k1, k2, k3, k4, k5, k6, k7⟩, hlw, hw1⟩ := eight_keep hb1))
          go_ret
          exact ⟨rfl, hba.trans (hb1.mono hba.size)⟩
    · obtain rfl : k = n := by omega
      obtain rfl : R = true := by rw [H.out, List.drop_of_length_le (by rw [hll.out]; omega)]; rfl
      go_wp2
      go_ret
      exact ⟨rfl, hbel⟩

end Go.Proofs.Ytchiilhdkbpboaa
