/- The reference of rosters: counts, has, Edits. -/
import Derived.Test.YtmodogmjfbcddaaGreatRWa
import Derived.Test.YtmodogmjfbcddaaGreatER
import Derived.Deep.LoopGhost
namespace Go.Proofs.YtmodogmjfbcddaaGreat
open Go.RowKit

set_option maxRecDepth 100000 in
set_option maxHeartbeats 400000 in
theorem rcounts17_any (n : Int) (R : Bool) (hR : R = (decide (0 ≤ n) && decide (n ≤ 2147483647))) (w : World) : Calls Tryz.prog 32 #[.int .i64 n] w fun e w' => e = .returned (.bool R) ∧ w' = w := by
  have HR : Hid (R = (decide (0 ≤ n) && decide (n ≤ 2147483647))) := hR
  clear hR
  by_cases h1 : 0 ≤ n
  · have d1 : decide (0 ≤ n) = true := by simpa using h1
    have HF : Hid (R = decide (n ≤ 2147483647)) := (by rw [HR.out, d1, Bool.true_and] : _ = _)
    clear HR
    go_enter Tryz.func32, Tryz.ntmps32
    go_wp2
    go_ret
    obtain rfl := HF.out
    exact ⟨rfl, rfl⟩
  · have d1 : decide (0 ≤ n) = false := by simpa using h1
    have HF : Hid (R = false) := (by rw [HR.out, d1, Bool.false_and] : _ = _)
    clear HR
    go_enter Tryz.func32, Tryz.ntmps32
    go_wp2
    go_ret
    obtain rfl := HF.out
    exact ⟨rfl, rfl⟩

set_option maxRecDepth 100000 in
set_option maxHeartbeats 400000 in
theorem zhas_any (a : Option Addr) (n c : Nat) (l : List Int) (x : Int) (w : World) (hn : n ≤ 1000000) (hr : ZRow w a n l) (R : Bool) (hR : R = decide (x ∈ l)) :
    Calls Tryz.prog 77 #[.slice a n c, .int .i64 x] w fun e w' => e = .returned (.bool R) ∧ w' = w := by
  have hll : Hid (l.length = n) := hr.1
  have HR : Hid (R = decide (x ∈ l.drop 0)) := hR
  clear hR
  go_enter Tryz.func77, Tryz.ntmps77
  go_wp2
  go_loop [5] (fun i => ∃ k : Nat, k ≤ n ∧ i = .int .i64 k ∧ Hid (R = decide (x ∈ l.drop k))) (fun i => n - (intOf i).toNat)
  case atStart => exact ⟨0, by omega, rfl, HR⟩
  case round =>
    obtain ⟨k, hk, rfl, H⟩ := hrel
    clear HR
    by_cases hlt : k < n
    · obtain ⟨b, off, y, rfl, hy, q0⟩ := zget hr (Below.refl _ _) hlt
      have HS : Hid (R = decide (x ∈ y :: l.drop (k + 1))) := (by rw [H.out, gdrop 0 (by rw [hll.out]; exact hlt), hy.out] : _ = _)
      have i0 : (0 : Int) ≤ (k : Int) := by omega
      have i1 : (k : Int) < (n : Int) := by omega
      clear H hy
      by_cases hxy : y = x
      · have HF : Hid (R = true) := (by rw [HS.out, hxy]; simp : _ = _)
        have d : (y == x) = true := by simpa using hxy
        clear HS hxy
        go_wp2
        go_ret
        obtain rfl := HF.out
        exact ⟨rfl, rfl⟩
      · have H2 : Hid (R = decide (x ∈ l.drop (k + 1))) := (by rw [HS.out]; exact decide_eq_decide.mpr (by simp [Ne.symm hxy]) : _ = _)
        have d : (y == x) = false := by simpa using hxy
        clear HS hxy
        go_wp2
        go_round
        case rel => exact ⟨k + 1, by omega, by go_num, H2⟩
        case measure => simp [intOf]; omega
    · obtain rfl : k = n := by omega
      have HF : Hid (R = false) := (by rw [H.out, List.drop_of_length_le (by rw [hll.out]; exact Nat.le_refl _)]; simp : _ = _)
      clear H
      go_wp2
      go_ret
      obtain rfl := HF.out
      exact ⟨rfl, rfl⟩

set_option maxRecDepth 100000 in
set_option maxHeartbeats 400000 in
theorem rhas17_any (a : Option Addr) (n c : Nat) (l : List Int) (x : Int) (w : World) (hn : n ≤ 1000000) (hr : ZRow w a n l) (R : Bool) (hR : R = decide (x ∈ l)) :
    Calls Tryz.prog 33 #[.slice a n c, .int .i64 x] w fun e w' => e = .returned (.bool R) ∧ w' = w := by
  have hz := zhas_any a n c l x w hn hr R hR
  clear hR hr
  go_enter Tryz.func33, Tryz.ntmps33
  go_wp2_with (go_at_call 77; go_must (refine hz.mono ?_; rintro e w2 ⟨rfl, hw⟩; obtain rfl : w = w2 := hw.symm))
  go_ret
  exact ⟨rfl, rfl⟩

end Go.Proofs.YtmodogmjfbcddaaGreat

/- The reference's May of a roster that may be. -/
namespace Go.Proofs.YtmodogmjfbcddaaGreat
open Go.RowKit

namespace Ro
theorem differ_nodup {l : List Int} (h : differ l = true) : l.Nodup := by
  have h1 := ((rise_iff _).mp h).2
  exact (sorted_perm l).nodup_iff.mp (h1.imp (fun h e => by omega))
theorem check_nums {r : R} (h : check r = true) : (r.moves.map (·.2)).Nodup ∧ (r.stills.map (·.1)).Nodup := by
  obtain ⟨_, h2, _, h4, _⟩ := check_parts h
  simp only [movesMay, stillsMay, Bool.and_eq_true] at h2 h4
  exact ⟨differ_nodup h2.2.2.2, differ_nodup h4.2.2.2⟩
theorem pw_at {α : Type} {f : α → Int} {l : List α} {d : α} (h : (l.map f).Pairwise (· < ·)) {p q : Nat} (hpq : p < q) (hq : q < l.length) : f (l.getD p d) < f (l.getD q d) := by
  have := (List.pairwise_iff_getElem.mp h) p q (by rw [List.length_map]; omega) (by rw [List.length_map]; exact hq) hpq
  simpa [show p < l.length by omega, hq] using this
theorem nd_at {α : Type} {f : α → Int} {l : List α} {d : α} (h : (l.map f).Nodup) {p q : Nat} (hpq : p < q) (hq : q < l.length) : ¬ (f (l.getD p d) = f (l.getD q d)) := by
  have := (List.pairwise_iff_getElem.mp h) p q (by rw [List.length_map]; omega) (by rw [List.length_map]; exact hq) hpq
  simpa [show p < l.length by omega, hq] using this
end Ro

set_option maxRecDepth 100000 in
set_option maxHeartbeats 8000000 in
theorem rmay17_yes (s : List Int) (ms : List (Int × Int)) (ts : List Lv.T) (ks : List (Int × Int × Int)) (a1 : Option Addr) (n1 c1 : Nat) (a2 : Option Addr) (n2 c2 : Nat) (a3 : Option Addr) (n3 c3 : Nat) (a4 : Option Addr) (n4 c4 : Nat) (i1 i2 i3 i4 i5 i6 i7 : Int) (w : World) (h : RIn w a1 n1 c1 a2 n2 c2 a3 n3 c3 a4 n4 c4 ⟨s, ms, ts, ks, i1, i2, i3, i4, i5, i6, i7⟩) (hc : Ro.check ⟨s, ms, ts, ks, i1, i2, i3, i4, i5, i6, i7⟩ = true) :
    Calls Tryz.prog 12 #[.agg #[.slice a1 n1 c1, .slice a2 n2 c2, .slice a3 n3 c3, .slice a4 n4 c4, .int .i64 i1, .int .i64 i2, .int .i64 i3, .int .i64 i4, .int .i64 i5, .int .i64 i6, .int .i64 i7]] w fun e w' => e = .returned (.bool true) ∧ Below w.heap.size w w' := by
  have hM := Ro.may_of_check hc
  obtain ⟨hd1, hd2⟩ := Ro.check_nums hc
  have HM : Hid (Ro.May ⟨s, ms, ts, ks, i1, i2, i3, i4, i5, i6, i7⟩) := hM
  have HD1 : Hid ((ms.map (·.2)).Nodup) := hd1
  have HD2 : Hid ((ks.map (·.1)).Nodup) := hd2
  have l1 := hM.sl; have l2 := hM.ml; have l4 := hM.kl
  have t1 := h.r1.1; have t2 := h.r2.1; have t4 := h.r4.1
  have m3 := h.m3
  dsimp only at l1 l2 l4 t1 t2 t4
  have b1 : (n1 : Int) ≤ 64 := by omega
  have b2 : (n2 : Int) ≤ 64 := by omega
  have b4 : (n4 : Int) ≤ 4 := by omega
  have d1 : decide (64 < (n1 : Int)) = false := by simp; omega
  have d2 : decide (64 < (n2 : Int)) = false := by simp; omega
  have d4 : decide (4 < (n4 : Int)) = false := by simp; omega
  have R1 : Hid (ZRow w a1 n1 s) := h.r1
  have R2 : Hid (MRow w a2 n2 ms) := h.r2
  have R4 : Hid (KRow w a4 n4 ks) := h.r4
  have T1 : Hid (s.length = n1) := t1
  have T2 : Hid (ms.length = n2) := t2
  have T4 : Hid (ks.length = n4) := t4
  have hmt := fun W (hb : Below w.heap.size w W) => rmay_any a3 n3 c3 ts W m3 (h.r3.below hb (Nat.le_refl _))
  have htt : Lv.may ts = true := (Lv.may_iff _).mpr hM.tabs
  rw [htt] at hmt
  have hcn := fun (n : Int) (hn : 0 ≤ n ∧ n ≤ 2147483647) W => rcounts17_any n true (by simp [hn.1, hn.2]) W
  obtain ⟨g1, g2, g3, g4, g5, g6, g7⟩ := Ro.rest_parts hM.rest
  dsimp only at g1 g2 g3 g4 g5 g6 g7
  obtain ⟨U, hU⟩ : ∃ U, U = w.alloc (.cells #[.slice a1 n1 c1, .slice a2 n2 c2, .slice a3 n3 c3, .slice a4 n4 c4, .int .i64 i1, .int .i64 i2, .int .i64 i3, .int .i64 i4, .int .i64 i5, .int .i64 i6, .int .i64 i7] 29) := ⟨_, rfl⟩
  have hbU : Below w.heap.size w U := by rw [hU]; exact below_alloc _ _
  have e0 : U.heap[w.heap.size]? = some (.cells #[.slice a1 n1 c1, .slice a2 n2 c2, .slice a3 n3 c3, .slice a4 n4 c4, .int .i64 i1, .int .i64 i2, .int .i64 i3, .int .i64 i4, .int .i64 i5, .int .i64 i6, .int .i64 i7] 29 (0, 0)) := by rw [hU]; exact heap_alloc_new _ _
  have HV : Hid (∀ W, Below U.heap.size U W → ∀ i, W.cell? ⟨w.heap.size, i, none⟩ = (#[.slice a1 n1 c1, .slice a2 n2 c2, .slice a3 n3 c3, .slice a4 n4 c4, .int .i64 i1, .int .i64 i2, .int .i64 i3, .int .i64 i4, .int .i64 i5, .int .i64 i6, .int .i64 i7] : Array Value)[i]?) := (fun W hb => (blkc ((hb.block _ (ob_ltB e0)).trans e0)).1 : ∀ W, _ → _)
  have ca := HV.out U (Below.refl _ _)
  have j0 := ca 0
  have j1 := ca 1
  have j2 := ca 2
  have j3 := ca 3
  have j4 := ca 4
  have j5 := ca 5
  have j6 := ca 6
  have j7 := ca 7
  have j8 := ca 8
  have j9 := ca 9
  have j10 := ca 10
  clear ca
  have HU : Hid (Below w.heap.size w U) := hbU
  have hUe : w.alloc (.cells #[.slice a1 n1 c1, .slice a2 n2 c2, .slice a3 n3 c3, .slice a4 n4 c4, .int .i64 i1, .int .i64 i2, .int .i64 i3, .int .i64 i4, .int .i64 i5, .int .i64 i6, .int .i64 i7] 29) = U := hU.symm
  clear hU hbU e0 h hc hM hd1 hd2 l1 l2 l4 t1 t2 t4 htt
  go_enter Tryz.func12, Tryz.ntmps12
  go_wp2_with (go_at_call 31; go_must (refine (hmt _ HU.out).mono ?_; rintro e w1 ⟨rfl, hb1⟩))
  clear hUe j0 j1 j2 j3 j4 j5 j6 j7 j8 j9 j10 hmt d1 d2 d4
  have HB1 : Hid (Below U.heap.size U w1) := hb1
  clear hb1
  go_loopw [3] (fun iv wr => ∃ k : Nat, k ≤ n1 ∧ iv = .int .i64 k ∧ Hid (Below U.heap.size U wr)) (fun iv _ => n1 - (intOf iv).toNat)
  case atStart => exact ⟨0, by omega, rfl, HB1⟩
  case round =>
    obtain ⟨k, hk, rfl, HBa⟩ := hrel
    clear HB1
    have ca := HV.out wr HBa.out
    have j0 := ca 0
    have j1 := ca 1
    have j2 := ca 2
    have j3 := ca 3
    have j4 := ca 4
    have j5 := ca 5
    have j6 := ca 6
    have j7 := ca 7
    have j8 := ca 8
    have j9 := ca 9
    have j10 := ca 10
    clear ca
    by_cases hlt : k < n1
    · have hbw := HU.out.trans (HBa.out.mono HU.out.size)
      obtain ⟨b, off, x, rfl, hx, q0⟩ := zget R1.out hbw hlt
      have hks : k < s.length := by rw [T1.out]; exact hlt
      have hxm : 0 < x ∧ x ≤ 2147483647 := by
        rw [← hx.out]
        exact HM.out.segs.1 _ (by simp [hks])
      have hcx := fun W => hcn x ⟨by omega, by omega⟩ W
      have dx : decide (x < 1) = false := by simp; omega
      have i0 : (0 : Int) ≤ (k : Int) := by omega
      have i9 : (k : Int) < (n1 : Int) := by omega
      by_cases hk0 : k = 0
      · have dk : decide ((0 : Int) < (k : Int)) = false := by simp; omega
        have dk2 : decide (0 < k) = false := by simp; omega
        have dk3 : ¬ (0 < k) := by omega
        have dk4 : ¬ ((0 : Int) < (k : Int)) := by omega
        clear hx hcn hks hk0
        go_wp2_with fail
        go_quiet ((go_at_call 32; (with_reducible refine Calls.quiet_of_same (hcx _))))
        go_wp2
        go_roundw
        case rel => exact ⟨k + 1, by omega, by go_num, (HBa.out.trans (below_drewN _ _ _) : Below _ _ _)⟩
        case measure => simp [intOf]; omega
      · obtain ⟨K, hkk⟩ : ∃ K, k = K + 1 := ⟨k - 1, by omega⟩
        obtain ⟨b', off', y, e', hy, q1⟩ := zget R1.out hbw (show K < n1 by omega)
        simp only [Option.some.injEq, Addr.mk.injEq] at e'
        obtain ⟨rfl, rfl, _⟩ := e'
        have hxy : y < x := by
          have := Ro.pw_at (f := id) (l := s) (d := 0) (by simpa using HM.out.segs.2) (show K < k by omega) hks
          simp only [id] at this
          rw [hx.out, hy.out] at this
          exact this
        have dk : decide ((0 : Int) < (k : Int)) = true := by simp; omega
        have dk2 : decide (0 < k) = true := by simp; omega
        have dk3 : 0 < k := by omega
        have dk4 : (0 : Int) < (k : Int) := by omega
        have w1' : IntKind.i64.wrap ((k : Int) - 1) = (K : Int) := by rw [IntKind.wrap_i64]; omega
        have i8 : (0 : Int) ≤ (K : Int) := by omega
        have i7' : (K : Int) < (n1 : Int) := by omega
        have dxy : decide (x ≤ y) = false := by simp; omega
        clear hx hy hcn hks hkk hk0
        go_wp2_with fail
        go_quiet ((go_at_call 32; (with_reducible refine Calls.quiet_of_same (hcx _))))
        go_wp2
        go_roundw
        case rel => exact ⟨k + 1, by omega, by go_num, (HBa.out.trans (below_drewN _ _ _) : Below _ _ _)⟩
        case measure => simp [intOf]; omega
    · obtain rfl : k = n1 := by omega
      go_wp2
      clear j0 j1 j2 j3 j4 j5 j6 j7 j8 j9 j10
      go_loopg [4, 5, 6] n2 (fun g iv _ _ wx => ∃ i : Nat, i + g = n2 ∧ iv = .int .i64 i ∧ Hid (Below U.heap.size U wx))
      case atStart => exact ⟨0, by omega, rfl, HBa⟩
      case round =>
        obtain ⟨i, hig, rfl, HBb⟩ := hrel
        obtain ⟨W1, rfl⟩ : ∃ W1, W1 = wr := ⟨_, rfl⟩
        cases gk with
        | succ g =>
          have hlt2 : i < n2 := by omega
          have hbw := HU.out.trans (HBb.out.mono HU.out.size)
          obtain ⟨b, off, x, y, rfl, hx, q0, q1⟩ := mget R2.out hbw hlt2
          have hks : i < ms.length := by rw [T2.out]; exact hlt2
          have hmem : (x, y) ∈ ms := by rw [← hx.out]; simp [hks]
          have hx1 := HM.out.moves.1 x (List.mem_map_of_mem (f := (·.1)) hmem)
          have hy1 := HM.out.nums _ hmem
          obtain ⟨hap1, hap2⟩ := HM.out.apart x (List.mem_map_of_mem (f := (·.1)) hmem)
          dsimp only at hx1 hy1 hap1 hap2
          obtain ⟨K, hkK⟩ : ∃ K, k = K + 1 := ⟨k - 1, by
            have : k ≠ 0 := fun e => by
              have h0 : s = [] := List.length_eq_zero_iff.mp (T1.out.trans e)
              rw [h0] at hap1
              have : Ro.lastOf [] = 0 := rfl
              omega
            omega⟩
          have hlast : Ro.lastOf s = s.getD K 0 := last_get (by rw [T1.out]; exact hkK)
          obtain ⟨V, hV⟩ : ∃ V, V = W1.alloc (.cells #[.int .i64 x, .int .i64 y] 53) := ⟨_, rfl⟩
          have hbV : Below U.heap.size U V := by rw [hV]; exact HBb.out.alloc HBb.out.size _
          have hbV1 : Below W1.heap.size W1 V := by rw [hV]; exact below_alloc _ _
          have eV : V.heap[W1.heap.size]? = some (.cells #[.int .i64 x, .int .i64 y] 53 (0, 0)) := by rw [hV]; exact heap_alloc_new _ _
          obtain ⟨b', off', z, ea, hz, q2⟩ := zget R1.out (HU.out.trans (hbV.mono HU.out.size)) (show K < k by omega)
          have hxz : x < z := by rw [hlast, hz.out] at hap1; exact hap1
          have hcx := fun W => hcn x ⟨by omega, by omega⟩ W
          have hcy := fun W => hcn y ⟨by omega, by omega⟩ W
          have hhs := fun q => rhas17_any a1 k c1 s x (V.drewN q) (by omega) (R1.out.below ((HU.out.trans (hbV.mono HU.out.size)).trans (below_drewN _ _ _)) (Nat.le_refl _)) false (by simpa using hap2)
          have hVe : W1.alloc (.cells #[.int .i64 x, .int .i64 y] 53) = V := hV.symm
          subst ea
          have p0 : V.cell? ⟨W1.heap.size, 0, none⟩ = some (.int .i64 x) := (blkc eV).1 0
          have p1 : V.cell? ⟨W1.heap.size, 1, none⟩ = some (.int .i64 y) := (blkc eV).1 1
          have hcc := HV.out W1 HBb.out
          have ja1 := hcc 1
          have ca := HV.out V hbV
          have j0 := ca 0
          have j1 := ca 1
          have j2 := ca 2
          have j3 := ca 3
          have j4 := ca 4
          have j5 := ca 5
          have j6 := ca 6
          have j7 := ca 7
          have j8 := ca 8
          have j9 := ca 9
          have j10 := ca 10
          clear ca
          have dx : decide (x < 1) = false := by simp; omega
          have dy : decide (y < 1) = false := by simp; omega
          have dz : decide (z < x) = false := by simp; omega
          have dn : ((k : Int) == 0) = false := by simp; omega
          have wk : IntKind.i64.wrap ((k : Int) - 1) = (K : Int) := by rw [IntKind.wrap_i64]; omega
          have o0 : (0 : Int) ≤ (i : Int) := by omega
          have o1 : (i : Int) < (n2 : Int) := by omega
          have o2 : (0 : Int) ≤ (K : Int) := by omega
          have o3 : (K : Int) < (k : Int) := by omega
          have HX : Hid (ms.getD i (0, 0) = (x, y)) := hx
          have HEV : Hid (V.heap[W1.heap.size]? = some (.cells #[.int .i64 x, .int .i64 y] 53 (0, 0))) := eV
          have HBV : Hid (Below U.heap.size U V) := hbV
          have HKS : Hid (i < ms.length) := hks
          clear hx hcn hmem hlast hz hcc hV eV hap1 hap2 hks hkK
          go_wp2_with fail
          clear hVe
          go_quiet (first
            | (go_at_call 32; (with_reducible refine Calls.quiet_of_same (hcx _)))
            | (go_at_call 32; (with_reducible refine Calls.quiet_of_same (hcy _)))
            | (go_at_call 33; go_loud (refine Calls.quiet_of_same (hhs _))))
          go_wp2
          clear hcx hcy hhs j0 j1 j2 j3 j4 j5 j6 j7 j8 j9 j10 ja1 p0 p1 q0 q1 q2 dx dy dz dn wk o0 o1 o2 o3
          have HW : Hid (W1.heap.size < V.heap.size) := (ob_ltB HEV.out : _ < _)
          go_loopg [6] i (fun g2 kv wy => ∃ q : Nat, q + g2 = i ∧ kv = .int .i64 q ∧ Hid (Below V.heap.size V wy))
          case atStart => exact ⟨0, by omega, rfl, (below_drewN _ _ _ : Below _ _ _)⟩
          case round =>
            obtain ⟨q, hq, rfl, HBq⟩ := hrel
            have HBQ : Hid (Below U.heap.size U wr) := (HBV.out.trans (HBq.out.mono HBV.out.size) : Below _ _ _)
            cases gk with
            | zero =>
              obtain rfl : q = i := by omega
              go_wp2
              go_roundg g
              case measure => omega
              case rel => exact ⟨q + 1, by omega, by go_num, HBQ⟩
            | succ g2 =>
              obtain ⟨b2, off2, x2, y2, e2, hx2, q0, q1⟩ := mget R2.out (HU.out.trans (HBQ.out.mono HU.out.size)) (show q < n2 by omega)
              simp only [Option.some.injEq, Addr.mk.injEq] at e2
              obtain ⟨rfl, rfl, _⟩ := e2
              have hxx : x2 < x := by
                have := Ro.pw_at (f := (·.1)) (d := (0, 0)) HM.out.moves.2 (show q < i by omega) HKS.out
                rw [hx2.out, HX.out] at this
                exact this
              have hyy : ¬ (y2 = y) := by
                have := Ro.nd_at (f := (·.2)) (d := (0, 0)) HD1.out (show q < i by omega) HKS.out
                rw [hx2.out, HX.out] at this
                exact this
              have p0 := ((HBq.out.block _ (ob_ltB HEV.out)).trans HEV.out)
              have p1 := (blkc p0).1 1
              have p2 := (blkc p0).1 0
              have hcc := HV.out wr HBQ.out
              have ja1 := hcc 1
              have dq : decide (x ≤ x2) = false := by simp; omega
              have dy : (y2 == y) = false := by simpa using hyy
              have o0 : (0 : Int) ≤ (q : Int) := by omega
              have o1 : (q : Int) < (n2 : Int) := by omega
              have o2 : (q : Int) < (i : Int) := by omega
              clear hx2 hxx hyy p0 hcc
              go_wp2_with fail
              go_quiet (fail)
              go_wp2
              go_roundg g2
              case measure => omega
              case rel => exact ⟨q + 1, by omega, by go_num, (HBq.out.trans (below_drewN _ _ _) : Below _ _ _)⟩
        | zero =>
          obtain rfl : i = n2 := by omega
          have ca := HV.out W1 HBb.out
          have j0 := ca 0
          have j1 := ca 1
          have j2 := ca 2
          have j3 := ca 3
          have j4 := ca 4
          have j5 := ca 5
          have j6 := ca 6
          have j7 := ca 7
          have j8 := ca 8
          have j9 := ca 9
          have j10 := ca 10
          clear ca
          go_wp2
          clear j0 j1 j2 j3 j4 j5 j6 j7 j8 j9 j10
          go_loopg [7, 8, 9] n4 (fun g iv _ _ wx => ∃ j : Nat, j + g = n4 ∧ iv = .int .i64 j ∧ Hid (Below U.heap.size U wx))
          case atStart => exact ⟨0, by omega, rfl, HBb⟩
          case round =>
            obtain ⟨j, hjg, rfl, HBc⟩ := hrel
            obtain ⟨W2, rfl⟩ : ∃ W2, W2 = wr := ⟨_, rfl⟩
            clear HBb HBa
            cases gk with
            | succ g =>
              have hlt4 : j < n4 := by omega
              have hbw := HU.out.trans (HBc.out.mono HU.out.size)
              obtain ⟨b, off, x, y, z, rfl, hx, q0, q1, q2⟩ := kget R4.out hbw hlt4
              have hks : j < ks.length := by rw [T4.out]; exact hlt4
              have hmem : (x, y, z) ∈ ks := by rw [← hx.out]; simp [hks]
              have hy1 := HM.out.stills.1 y (List.mem_map_of_mem (f := (·.2.1)) hmem)
              have hx1 := HM.out.snums _ hmem
              dsimp only at hx1 hy1
              obtain ⟨V, hV⟩ : ∃ V, V = W2.alloc (.cells #[.int .i64 x, .int .i64 y, .int .i64 z] 67) := ⟨_, rfl⟩
              have hbV : Below U.heap.size U V := by rw [hV]; exact HBc.out.alloc HBc.out.size _
              have eV : V.heap[W2.heap.size]? = some (.cells #[.int .i64 x, .int .i64 y, .int .i64 z] 67 (0, 0)) := by rw [hV]; exact heap_alloc_new _ _
              have hcx := fun W => hcn x ⟨by omega, by omega⟩ W
              have hcy := fun W => hcn y ⟨by omega, by omega⟩ W
              have hcz := fun W => hcn z ⟨by omega, by omega⟩ W
              have hVe : W2.alloc (.cells #[.int .i64 x, .int .i64 y, .int .i64 z] 67) = V := hV.symm
              have p0 : V.cell? ⟨W2.heap.size, 0, none⟩ = some (.int .i64 x) := (blkc eV).1 0
              have p1 : V.cell? ⟨W2.heap.size, 1, none⟩ = some (.int .i64 y) := (blkc eV).1 1
              have p2 : V.cell? ⟨W2.heap.size, 2, none⟩ = some (.int .i64 z) := (blkc eV).1 2
              have hcc := HV.out W2 HBc.out
              have ja3 := hcc 3
              have ca := HV.out V hbV
              have j0 := ca 0
              have j1 := ca 1
              have j2 := ca 2
              have j3 := ca 3
              have j4 := ca 4
              have j5 := ca 5
              have j6 := ca 6
              have j7 := ca 7
              have j8 := ca 8
              have j9 := ca 9
              have j10 := ca 10
              clear ca
              have dx : decide (x < 1) = false := by simp; omega
              have dy : decide (y < 1) = false := by simp; omega
              have dz : decide (z < 1) = false := by simp; omega
              have dm : decide (i7 < y) = false := by simp; omega
              have o0 : (0 : Int) ≤ (j : Int) := by omega
              have o1 : (j : Int) < (n4 : Int) := by omega
              have HX : Hid (ks.getD j (0, 0, 0) = (x, y, z)) := hx
              have HEV : Hid (V.heap[W2.heap.size]? = some (.cells #[.int .i64 x, .int .i64 y, .int .i64 z] 67 (0, 0))) := eV
              have HBV : Hid (Below U.heap.size U V) := hbV
              have HKS : Hid (j < ks.length) := hks
              clear hx hcn hmem hcc hV eV hks hx1 hy1
              go_wp2_with fail
              clear hVe
              refine (hcx V).mono ?_
              rintro e w5 ⟨rfl, hw⟩
              obtain rfl : V = w5 := hw.symm
              clear hw
              go_wp2_with (first
                | (go_at_call 32; (with_reducible refine (hcx V).mono ?_); rintro e w5 ⟨rfl, hw⟩; obtain rfl : V = w5 := hw.symm; clear hw)
                | (go_at_call 32; (with_reducible refine (hcy V).mono ?_); rintro e w5 ⟨rfl, hw⟩; obtain rfl : V = w5 := hw.symm; clear hw)
                | (go_at_call 32; (with_reducible refine (hcz V).mono ?_); rintro e w5 ⟨rfl, hw⟩; obtain rfl : V = w5 := hw.symm; clear hw))
              clear hcx hcy hcz j0 j1 j2 j3 j4 j5 j6 j7 j8 j9 j10 ja3 p0 p1 p2 q0 q1 q2 dx dy dz dm o0 o1
              go_loopg [9] j (fun g2 kv wy => ∃ q : Nat, q + g2 = j ∧ kv = .int .i64 q ∧ Hid (Below V.heap.size V wy))
              case atStart => exact ⟨0, by omega, rfl, (Below.refl _ _ : Below _ _ _)⟩
              case round =>
                obtain ⟨q, hq, rfl, HBq⟩ := hrel
                have HBQ : Hid (Below U.heap.size U wr) := (HBV.out.trans (HBq.out.mono HBV.out.size) : Below _ _ _)
                cases gk with
                | zero =>
                  obtain rfl : q = j := by omega
                  go_wp2
                  go_roundg g
                  case measure => omega
                  case rel => exact ⟨q + 1, by omega, by go_num, HBQ⟩
                | succ g2 =>
                  obtain ⟨b2, off2, x2, y2, z2, e2, hx2, q0, q1, q2⟩ := kget R4.out (HU.out.trans (HBQ.out.mono HU.out.size)) (show q < n4 by omega)
                  simp only [Option.some.injEq, Addr.mk.injEq] at e2
                  obtain ⟨rfl, rfl, _⟩ := e2
                  have hxx : y2 < y := by
                    have := Ro.pw_at (f := (·.2.1)) (d := (0, 0, 0)) HM.out.stills.2 (show q < j by omega) HKS.out
                    rw [hx2.out, HX.out] at this
                    exact this
                  have hyy : ¬ (x2 = x) := by
                    have := Ro.nd_at (f := (·.1)) (d := (0, 0, 0)) HD2.out (show q < j by omega) HKS.out
                    rw [hx2.out, HX.out] at this
                    exact this
                  have p0 := ((HBq.out.block _ (ob_ltB HEV.out)).trans HEV.out)
                  have p1 := (blkc p0).1 1
                  have p2 := (blkc p0).1 0
                  have hcc := HV.out wr HBQ.out
                  have ja3 := hcc 3
                  have dq : decide (y ≤ y2) = false := by simp; omega
                  have dy : (x2 == x) = false := by simpa using hyy
                  have o0 : (0 : Int) ≤ (q : Int) := by omega
                  have o1 : (q : Int) < (n4 : Int) := by omega
                  have o2 : (q : Int) < (j : Int) := by omega
                  clear hx2 hxx hyy p0 hcc
                  go_wp2_with fail
                  go_quiet (fail)
                  go_wp2
                  go_roundg g2
                  case measure => omega
                  case rel => exact ⟨q + 1, by omega, by go_num, (HBq.out.trans (below_drewN _ _ _) : Below _ _ _)⟩
            | zero =>
              obtain rfl : j = n4 := by omega
              obtain ⟨V, hV⟩ : ∃ V, V = W2.alloc (.cells #[.int .i64 i4, .int .i64 i5, .int .i64 i6] 27) := ⟨_, rfl⟩
              have hbV : Below U.heap.size U V := by rw [hV]; exact HBc.out.alloc HBc.out.size _
              have eV : V.heap[W2.heap.size]? = some (.cells #[.int .i64 i4, .int .i64 i5, .int .i64 i6] 27 (0, 0)) := by rw [hV]; exact heap_alloc_new _ _
              have hVe : W2.alloc (.cells #[.int .i64 i4, .int .i64 i5, .int .i64 i6] 27) = V := hV.symm
              have p0 : V.cell? ⟨W2.heap.size, 0, none⟩ = some (.int .i64 i4) := (blkc eV).1 0
              have p1 : V.cell? ⟨W2.heap.size, 1, none⟩ = some (.int .i64 i5) := (blkc eV).1 1
              have p2 : V.cell? ⟨W2.heap.size, 2, none⟩ = some (.int .i64 i6) := (blkc eV).1 2
              have hcc := HV.out W2 HBc.out
              have ja3 := hcc 3
              have ja7 := hcc 7
              have ja8 := hcc 8
              have ja9 := hcc 9
              have ca := HV.out V hbV
              have j0 := ca 0
              have j1 := ca 1
              have j2 := ca 2
              have j3 := ca 3
              have j4 := ca 4
              have j5 := ca 5
              have j6 := ca 6
              have j7 := ca 7
              have j8 := ca 8
              have j9 := ca 9
              have j10 := ca 10
              clear ca
              have hc1 := fun W => hcn i1 ⟨by omega, by omega⟩ W
              have hc2 := fun W => hcn i2 ⟨by omega, by omega⟩ W
              have hc3 := fun W => hcn i3 ⟨by omega, by omega⟩ W
              have hc4 := fun W => hcn i4 ⟨by omega, by omega⟩ W
              have hc5 := fun W => hcn i5 ⟨by omega, by omega⟩ W
              have hc6 := fun W => hcn i6 ⟨by omega, by omega⟩ W
              have hc7 := fun W => hcn i7 ⟨by omega, by omega⟩ W
              have d1 : decide (1 ≤ i1) = true := by simp; omega
              have d2 : decide (i2 ≤ i7) = true := by simp; omega
              have hB : ∃ B : Bool, (i2 == 0) = B ∧ (i3 == 0) = B := by
                rcases g3 with hg | hg
                · exact ⟨false, by simp; omega, by simp; omega⟩
                · exact ⟨true, by simp; omega, by simp; omega⟩
              obtain ⟨B, dB2, dB3⟩ := hB
              have hBB : (B == B) = true := by simp
              have HBV : Hid (Below U.heap.size U V) := hbV
              clear hcn hcc hV eV g1 g2 g3 g4 g5 g6 g7
              go_wp2_with fail
              clear hVe
              refine (hc1 V).mono ?_
              rintro e w5 ⟨rfl, hw⟩
              obtain rfl : V = w5 := hw.symm
              clear hw
              go_wp2_with (first
                | (go_at_call 32; (with_reducible refine (hc2 V).mono ?_); rintro e w5 ⟨rfl, hw⟩; obtain rfl : V = w5 := hw.symm; clear hw)
                | (go_at_call 32; (with_reducible refine (hc3 V).mono ?_); rintro e w5 ⟨rfl, hw⟩; obtain rfl : V = w5 := hw.symm; clear hw)
                | (go_at_call 32; (with_reducible refine (hc7 V).mono ?_); rintro e w5 ⟨rfl, hw⟩; obtain rfl : V = w5 := hw.symm; clear hw)
                | (go_at_call 32; (with_reducible refine (hc4 V).mono ?_); rintro e w5 ⟨rfl, hw⟩; obtain rfl : V = w5 := hw.symm; clear hw)
                | (go_at_call 32; (with_reducible refine (hc5 V).mono ?_); rintro e w5 ⟨rfl, hw⟩; obtain rfl : V = w5 := hw.symm; clear hw)
                | (go_at_call 32; (with_reducible refine (hc6 V).mono ?_); rintro e w5 ⟨rfl, hw⟩; obtain rfl : V = w5 := hw.symm; clear hw)
                | (go_at_call 32; (with_reducible refine (hc1 V).mono ?_); rintro e w5 ⟨rfl, hw⟩; obtain rfl : V = w5 := hw.symm; clear hw))
              go_ret
              exact ⟨by simp, HU.out.trans (HBV.out.mono HU.out.size)⟩
end Go.Proofs.YtmodogmjfbcddaaGreat
