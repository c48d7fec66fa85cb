/- The reference's Ints and Same; Light of the law; Apply as the mathematics says. -/
import Derived.Test.YtfogodbbgbnhkaaGreatDoorRQ
import Derived.Test.YtfogodbbgbnhkaaGreatDoorRpMath
import Derived.Test.YtfogodbbgbnhkaaGreatDoorOR
namespace Go.Proofs.YtfogodbbgbnhkaaGreatDoor
open Go.RowKit

theorem rapply_any (s : List Int) (ms : List (Int × Int)) (ts : List Lv.T) (ks : List (Int × Int × Int)) (a1 : Option Addr) (n1 c1 : Nat) (a2 : Option Addr) (n2 c2 : Nat) (a3 : Option Addr) (n3 c3 : Nat) (a4 : Option Addr) (n4 c4 : Nat) (i1 i2 i3 i4 i5 i6 i7 : Int) (ad : Option Addr) (len cap : Nat) (l : List Ed.E) (w : World) (h : RIn w a1 n1 c1 a2 n2 c2 a3 n3 c3 a4 n4 c4 ⟨s, ms, ts, ks, i1, i2, i3, i4, i5, i6, i7⟩) (hl : ERow w ad len l) (hlen : len ≤ 1000) :
    Calls Tryz.prog 14 #[.agg #[.slice a1 n1 c1, .slice a2 n2 c2, .slice a3 n3 c3, .slice a4 n4 c4, .int .i64 i1, .int .i64 i2, .int .i64 i3, .int .i64 i4, .int .i64 i5, .int .i64 i6, .int .i64 i7], .slice ad len cap] w (ApRes w (Ro.apply ⟨s, ms, ts, ks, i1, i2, i3, i4, i5, i6, i7⟩ l).1 (Ro.apply ⟨s, ms, ts, ks, i1, i2, i3, i4, i5, i6, i7⟩ l).2) := by
  cases hc : (Ro.check ⟨s, ms, ts, ks, i1, i2, i3, i4, i5, i6, i7⟩ && l.all Ed.may) with
  | false => rw [Ro.apply_no hc]; exact rapply_no s ms ts ks a1 n1 c1 a2 n2 c2 a3 n3 c3 a4 n4 c4 i1 i2 i3 i4 i5 i6 i7 ad len cap l w h hl hlen hc
  | true =>
    rw [Ro.apply_fin hc]
    rw [Bool.and_eq_true] at hc
    exact rapply_yes s ms ts ks a1 n1 c1 a2 n2 c2 a3 n3 c3 a4 n4 c4 i1 i2 i3 i4 i5 i6 i7 ad len cap l w h hl hlen hc.1 hc.2 _ _ rfl

set_option maxRecDepth 100000 in
set_option maxHeartbeats 400000 in
theorem zints_any (a1 : Option Addr) (n1 c1 : Nat) (l1 : List Int) (a2 : Option Addr) (n2 c2 : Nat) (l2 : List Int) (w : World) (hn : n1 ≤ 1000000) (hr1 : ZRow w a1 n1 l1) (hr2 : ZRow w a2 n2 l2) (R : Bool) (hR : R = decide (l1 = l2)) :
    Calls Tryz.prog 18 #[.slice a1 n1 c1, .slice a2 n2 c2] w fun e w' => e = .returned (.bool R) ∧ Below w.heap.size w w' := by
  by_cases hl : n1 = n2
  · subst hl
    have h1 : Hid (l1.length = n1) := hr1.1
    have h2 : Hid (l2.length = n1) := hr2.1
    have HR : Hid (R = decide (l1.drop 0 = l2.drop 0)) := hR
    clear hR
    go_enter Tryz.func18, Tryz.ntmps18
    go_wp2
    go_loopw [5] (fun i wr => ∃ k : Nat, k ≤ n1 ∧ i = .int .i64 k ∧ Hid (R = decide (l1.drop k = l2.drop k)) ∧ Below w.heap.size w wr) (fun i _ => n1 - (intOf i).toNat)
    case atStart => exact ⟨0, by omega, rfl, HR, Below.refl _ _⟩
    case round =>
      obtain ⟨k, hk, rfl, H, hbel⟩ := hrel
      clear HR
      by_cases hlt : k < n1
      · obtain ⟨b, off, x, rfl, hx, q0⟩ := zget hr1 hbel hlt
        obtain ⟨b', off', y, rfl, hy, q1⟩ := zget hr2 hbel hlt
        have HS : Hid (R = decide (x :: l1.drop (k + 1) = y :: l2.drop (k + 1))) := (by rw [H.out, gdrop 0 (by rw [h1.out]; exact hlt), gdrop (l := l2) 0 (by rw [h2.out]; exact hlt), hx.out, hy.out] : _ = _)
        have i0 : (0 : Int) ≤ (k : Int) := by omega
        have i1 : (k : Int) < (n1 : Int) := by omega
        clear hx hy H
        by_cases hxy : x = y
        · subst hxy
          have H2 : Hid (R = decide (l1.drop (k + 1) = l2.drop (k + 1))) := (by rw [HS.out]; exact decide_eq_decide.mpr (by simp) : _ = _)
          clear HS
          go_wp2_with fail
          go_quiet (fail)
          go_wp2
          go_roundw
          case rel => exact ⟨k + 1, by omega, by go_num, H2, hbel.trans (below_drewN _ _ _)⟩
          case measure => simp [intOf]; omega
        · have HF : Hid (R = false) := (by rw [HS.out]; exact decide_eq_false (fun h => hxy (List.cons.inj h).1) : _ = _)
          have d : (x == y) = false := by simpa using hxy
          clear HS hxy
          go_wp2_with fail
          go_quiet (fail)
          go_wp2
          go_ret
          exact ⟨by rw [HF.out]; rfl, hbel.trans (below_drewN _ _ _)⟩
      · obtain rfl : k = n1 := by omega
        have HE : Hid (R = true) := (by rw [H.out, List.drop_of_length_le (by rw [h1.out]; exact Nat.le_refl _), List.drop_of_length_le (by rw [h2.out]; exact Nat.le_refl _)]; rfl : R = true)
        clear H
        go_wp2
        go_ret
        exact ⟨by rw [HE.out]; rfl, hbel⟩
  · have HF : Hid (R = false) := (by rw [hR]; exact decide_eq_false (fun h => hl (by rw [← hr1.1, ← hr2.1, h])) : R = false)
    have d : ((n1 : Int) == (n2 : Int)) = false := by simp; omega
    clear hR
    go_enter Tryz.func18, Tryz.ntmps18
    go_wp2
    go_ret
    exact ⟨by rw [HF.out]; rfl, Below.refl _ _⟩

set_option maxRecDepth 100000 in
set_option maxHeartbeats 4000000 in
/-- Same of rosters that are alike -/
theorem rsame_eq (s : List Int) (ms : List (Int × Int)) (ts : List Lv.T) (ks : List (Int × Int × Int)) (a1 : Option Addr) (n1 c1 : Nat) (a2 : Option Addr) (n2 c2 : Nat) (a3 : Option Addr) (n3 c3 : Nat) (a4 : Option Addr) (n4 c4 : Nat) (i1 i2 i3 i4 i5 i6 i7 : Int) (b1 : Option Addr) (d1 : Nat) (b2 : Option Addr) (d2 : Nat) (b3 : Option Addr) (d3 : Nat) (b4 : Option Addr) (d4 : Nat) (w : World) (h : RIn w a1 n1 c1 a2 n2 c2 a3 n3 c3 a4 n4 c4 ⟨s, ms, ts, ks, i1, i2, i3, i4, i5, i6, i7⟩) (h' : RIn w b1 n1 d1 b2 n2 d2 b3 n3 d3 b4 n4 d4 ⟨s, ms, ts, ks, i1, i2, i3, i4, i5, i6, i7⟩) :
    Calls Tryz.prog 9 #[.agg #[.slice a1 n1 c1, .slice a2 n2 c2, .slice a3 n3 c3, .slice a4 n4 c4, .int .i64 i1, .int .i64 i2, .int .i64 i3, .int .i64 i4, .int .i64 i5, .int .i64 i6, .int .i64 i7], .agg #[.slice b1 n1 d1, .slice b2 n2 d2, .slice b3 n3 d3, .slice b4 n4 d4, .int .i64 i1, .int .i64 i2, .int .i64 i3, .int .i64 i4, .int .i64 i5, .int .i64 i6, .int .i64 i7]] w fun e w' => e = .returned (.bool true) ∧ Below w.heap.size w w' := by
  obtain ⟨r1, r2, r3, r4, _, _, _, _, m1, m2, m3, m4, _, _⟩ := h
  obtain ⟨s1, s2, s3, s4, _, _, _, _, _, _, _, _, _, _⟩ := h'
  dsimp only at r1 r2 r3 r4 s1 s2 s3 s4
  obtain ⟨U, hU⟩ : ∃ U, U = (w.alloc (.cells #[.slice a1 n1 c1, .slice a2 n2 c2, .slice a3 n3 c3, .slice a4 n4 c4, .int .i64 i1, .int .i64 i2, .int .i64 i3, .int .i64 i4, .int .i64 i5, .int .i64 i6, .int .i64 i7] 34)).alloc (.cells #[.slice b1 n1 d1, .slice b2 n2 d2, .slice b3 n3 d3, .slice b4 n4 d4, .int .i64 i1, .int .i64 i2, .int .i64 i3, .int .i64 i4, .int .i64 i5, .int .i64 i6, .int .i64 i7] 34) := ⟨_, rfl⟩
  have hbU : Below w.heap.size w U := by rw [hU]; exact below_two _ _ _
  have e0 : U.heap[w.heap.size]? = some (.cells #[.slice a1 n1 c1, .slice a2 n2 c2, .slice a3 n3 c3, .slice a4 n4 c4, .int .i64 i1, .int .i64 i2, .int .i64 i3, .int .i64 i4, .int .i64 i5, .int .i64 i6, .int .i64 i7] 34 (0, 0)) := by
    rw [hU]; exact (Below.heap_alloc _ _ _ (by simp)).trans (heap_alloc_new _ _)
  have e1 : U.heap[w.heap.size + 1]? = some (.cells #[.slice b1 n1 d1, .slice b2 n2 d2, .slice b3 n3 d3, .slice b4 n4 d4, .int .i64 i1, .int .i64 i2, .int .i64 i3, .int .i64 i4, .int .i64 i5, .int .i64 i6, .int .i64 i7] 34 (0, 0)) := by
    rw [hU]; have := heap_alloc_new (w.alloc (.cells #[.slice a1 n1 c1, .slice a2 n2 c2, .slice a3 n3 c3, .slice a4 n4 c4, .int .i64 i1, .int .i64 i2, .int .i64 i3, .int .i64 i4, .int .i64 i5, .int .i64 i6, .int .i64 i7] 34)) (.cells #[.slice b1 n1 d1, .slice b2 n2 d2, .slice b3 n3 d3, .slice b4 n4 d4, .int .i64 i1, .int .i64 i2, .int .i64 i3, .int .i64 i4, .int .i64 i5, .int .i64 i6, .int .i64 i7] 34); rwa [World.size_alloc] at this
  have hin := fun W (hb : Below w.heap.size w W) => zints_any a1 n1 c1 s b1 n1 d1 s W (by omega) (r1.below hb (Nat.le_refl _)) (s1.below hb (Nat.le_refl _)) true (by simp)
  have HV : Hid (∀ W, Below U.heap.size U W → (∀ i, W.cell? ⟨w.heap.size, i, none⟩ = (#[.slice a1 n1 c1, .slice a2 n2 c2, .slice a3 n3 c3, .slice a4 n4 c4, .int .i64 i1, .int .i64 i2, .int .i64 i3, .int .i64 i4, .int .i64 i5, .int .i64 i6, .int .i64 i7] : Array Value)[i]?) ∧ ∀ i, W.cell? ⟨w.heap.size + 1, i, none⟩ = (#[.slice b1 n1 d1, .slice b2 n2 d2, .slice b3 n3 d3, .slice b4 n4 d4, .int .i64 i1, .int .i64 i2, .int .i64 i3, .int .i64 i4, .int .i64 i5, .int .i64 i6, .int .i64 i7] : Array Value)[i]?) := (fun W hb => ⟨(blkc ((hb.block _ (ob_ltB e0)).trans e0)).1, (blkc ((hb.block _ (ob_ltB e1)).trans e1)).1⟩ : ∀ W, _ → _)
  have HU : Hid (Below w.heap.size w U) := hbU
  have hUe : (w.alloc (.cells #[.slice a1 n1 c1, .slice a2 n2 c2, .slice a3 n3 c3, .slice a4 n4 c4, .int .i64 i1, .int .i64 i2, .int .i64 i3, .int .i64 i4, .int .i64 i5, .int .i64 i6, .int .i64 i7] 34)).alloc (.cells #[.slice b1 n1 d1, .slice b2 n2 d2, .slice b3 n3 d3, .slice b4 n4 d4, .int .i64 i1, .int .i64 i2, .int .i64 i3, .int .i64 i4, .int .i64 i5, .int .i64 i6, .int .i64 i7] 34) = U := hU.symm
  have b01 : ((n2 : Int) == (n2 : Int)) = true := by simp
  have b02 : ((n3 : Int) == (n3 : Int)) = true := by simp
  have b03 : ((n4 : Int) == (n4 : Int)) = true := by simp
  clear hU hbU e0 e1 r1 s1
  have xa0 := (HV.out U (Below.refl _ _)).1 0
  have xb0 := (HV.out U (Below.refl _ _)).2 0
  go_enter Tryz.func9, Tryz.ntmps9
  go_wp2_with fail
  clear hUe xa0 xb0
  refine (hin _ HU.out).mono ?_
  rintro e w1 ⟨rfl, hb1⟩
  obtain ⟨ca, cb⟩ := HV.out w1 hb1
  have ja0 := ca 0
  have jb0 := cb 0
  have ja1 := ca 1
  have jb1 := cb 1
  have ja2 := ca 2
  have jb2 := cb 2
  have ja3 := ca 3
  have jb3 := cb 3
  have ja4 := ca 4
  have jb4 := cb 4
  have ja5 := ca 5
  have jb5 := cb 5
  have ja6 := ca 6
  have jb6 := cb 6
  have ja7 := ca 7
  have jb7 := cb 7
  have ja8 := ca 8
  have jb8 := cb 8
  have ja9 := ca 9
  have jb9 := cb 9
  have ja10 := ca 10
  have jb10 := cb 10
  clear ca cb hin
  have HB1 : Hid (Below U.heap.size U w1) := hb1
  clear hb1
  go_wp2
  have R2 : Hid (MRow w a2 n2 ms) := r2
  have S2 : Hid (MRow w b2 n2 ms) := s2
  have R3 : Hid (LRow w a3 n3 ts) := r3
  have S3 : Hid (LRow w b3 n3 ts) := s3
  have R4 : Hid (KRow w a4 n4 ks) := r4
  have S4 : Hid (KRow w b4 n4 ks) := s4
  clear r2 s2 r3 s3 r4 s4
  go_loopw [5] (fun iv wr => ∃ j : Nat, j ≤ n2 ∧ iv = .int .i64 j ∧ Hid (Below U.heap.size U wr)) (fun iv _ => n2 - (intOf iv).toNat)
  case atStart => exact ⟨0, by omega, rfl, HB1⟩
  case round =>
    obtain ⟨j, hj, rfl, HW1⟩ := hrel
    clear HB1 ja0 jb0 ja1 jb1 ja2 jb2 ja3 jb3 ja4 jb4 ja5 jb5 ja6 jb6 ja7 jb7 ja8 jb8 ja9 jb9 ja10 jb10
    obtain ⟨ca, cb⟩ := HV.out wr HW1.out
    have ja1 := ca 1
    have jb1 := cb 1
    by_cases hlt : j < n2
    · have hbw := HU.out.trans (HW1.out.mono HU.out.size)
      obtain ⟨b, off, x, y, rfl, hx, q0, q1⟩ := mget R2.out hbw hlt
      obtain ⟨b', off', x', y', rfl, hx', t0, t1⟩ := mget S2.out hbw hlt
      have hxx := hx.out.symm.trans hx'.out
      obtain ⟨rfl, rfl⟩ := Prod.mk.inj hxx
      have i0 : (0 : Int) ≤ (j : Int) := by omega
      have i5 : (j : Int) < (n2 : Int) := by omega
      clear hx hx' hxx ca cb hbw
      go_wp2_with fail
      go_quiet (fail)
      go_wp2
      go_roundw
      case rel => exact ⟨j + 1, by omega, by go_num, (HW1.out.trans (below_drewN _ _ _) : Below _ _ _)⟩
      case measure => simp [intOf]; omega
    · obtain rfl : j = n2 := by omega
      have ja0 := ca 0
      have jb0 := cb 0
      have ja2 := ca 2
      have jb2 := cb 2
      have ja3 := ca 3
      have jb3 := cb 3
      have ja4 := ca 4
      have jb4 := cb 4
      have ja5 := ca 5
      have jb5 := cb 5
      have ja6 := ca 6
      have jb6 := cb 6
      have ja7 := ca 7
      have jb7 := cb 7
      have ja8 := ca 8
      have jb8 := cb 8
      have ja9 := ca 9
      have jb9 := cb 9
      have ja10 := ca 10
      have jb10 := cb 10
      clear ca cb
      go_wp2
      go_loopw [6] (fun iv wr => ∃ j : Nat, j ≤ n3 ∧ iv = .int .i64 j ∧ Hid (Below U.heap.size U wr)) (fun iv _ => n3 - (intOf iv).toNat)
      case atStart => exact ⟨0, by omega, rfl, HW1⟩
      case round =>
        obtain ⟨j, hj, rfl, HW2⟩ := hrel
        clear HW1 ja0 jb0 ja1 jb1 ja2 jb2 ja3 jb3 ja4 jb4 ja5 jb5 ja6 jb6 ja7 jb7 ja8 jb8 ja9 jb9 ja10 jb10
        obtain ⟨ca, cb⟩ := HV.out wr HW2.out
        have ja2 := ca 2
        have jb2 := cb 2
        by_cases hlt : j < n3
        · have hbw := HU.out.trans (HW2.out.mono HU.out.size)
          obtain ⟨b, off, x1, x2, x3, x4, x5, rfl, hx, q0, q1, q2, q3, q4⟩ := lget R3.out hbw hlt
          obtain ⟨b', off', x1', x2', x3', x4', x5', rfl, hx', t0, t1, t2, t3, t4⟩ := lget S3.out hbw hlt
          have hxx := hx.out.symm.trans hx'.out
          obtain ⟨rfl, rfl, rfl, rfl, rfl⟩ := Lv.T.mk.inj hxx
          have i0 : (0 : Int) ≤ (j : Int) := by omega
          have i5 : (j : Int) < (n3 : Int) := by omega
          clear hx hx' hxx ca cb hbw
          go_wp2_with fail
          go_quiet (fail)
          go_wp2
          go_roundw
          case rel => exact ⟨j + 1, by omega, by go_num, (HW2.out.trans (below_drewN _ _ _) : Below _ _ _)⟩
          case measure => simp [intOf]; omega
        · obtain rfl : j = n3 := by omega
          have ja0 := ca 0
          have jb0 := cb 0
          have ja1 := ca 1
          have jb1 := cb 1
          have ja3 := ca 3
          have jb3 := cb 3
          have ja4 := ca 4
          have jb4 := cb 4
          have ja5 := ca 5
          have jb5 := cb 5
          have ja6 := ca 6
          have jb6 := cb 6
          have ja7 := ca 7
          have jb7 := cb 7
          have ja8 := ca 8
          have jb8 := cb 8
          have ja9 := ca 9
          have jb9 := cb 9
          have ja10 := ca 10
          have jb10 := cb 10
          clear ca cb
          go_wp2
          go_loopw [7] (fun iv wr => ∃ j : Nat, j ≤ n4 ∧ iv = .int .i64 j ∧ Hid (Below U.heap.size U wr)) (fun iv _ => n4 - (intOf iv).toNat)
          case atStart => exact ⟨0, by omega, rfl, HW2⟩
          case round =>
            obtain ⟨j, hj, rfl, HW3⟩ := hrel
            clear HW2 ja0 jb0 ja1 jb1 ja2 jb2 ja3 jb3 ja4 jb4 ja5 jb5 ja6 jb6 ja7 jb7 ja8 jb8 ja9 jb9 ja10 jb10
            obtain ⟨ca, cb⟩ := HV.out wr HW3.out
            have ja3 := ca 3
            have jb3 := cb 3
            by_cases hlt : j < n4
            · have hbw := HU.out.trans (HW3.out.mono HU.out.size)
              obtain ⟨b, off, x, y, z, rfl, hx, q0, q1, q2⟩ := kget R4.out hbw hlt
              obtain ⟨b', off', x', y', z', rfl, hx', t0, t1, t2⟩ := kget S4.out hbw hlt
              have hxx := hx.out.symm.trans hx'.out
              obtain ⟨rfl, hyz⟩ := Prod.mk.inj hxx
              obtain ⟨rfl, rfl⟩ := Prod.mk.inj hyz
              have i0 : (0 : Int) ≤ (j : Int) := by omega
              have i5 : (j : Int) < (n4 : Int) := by omega
              clear hx hx' hxx hyz ca cb hbw
              go_wp2_with fail
              go_quiet (fail)
              go_wp2
              go_roundw
              case rel => exact ⟨j + 1, by omega, by go_num, (HW3.out.trans (below_drewN _ _ _) : Below _ _ _)⟩
              case measure => simp [intOf]; omega
            · obtain rfl : j = n4 := by omega
              have ja0 := ca 0
              have jb0 := cb 0
              have ja1 := ca 1
              have jb1 := cb 1
              have ja2 := ca 2
              have jb2 := cb 2
              have ja4 := ca 4
              have jb4 := cb 4
              have ja5 := ca 5
              have jb5 := cb 5
              have ja6 := ca 6
              have jb6 := cb 6
              have ja7 := ca 7
              have jb7 := cb 7
              have ja8 := ca 8
              have jb8 := cb 8
              have ja9 := ca 9
              have jb9 := cb 9
              have ja10 := ca 10
              have jb10 := cb 10
              clear ca cb
              go_wp2
              go_ret
              exact ⟨by simp, HU.out.trans (HW3.out.mono HU.out.size)⟩
end Go.Proofs.YtfogodbbgbnhkaaGreatDoor

/- Rosters: the law's Light; First of the program; awake. -/
namespace Go.Proofs.YtfogodbbgbnhkaaGreatDoor
open Go.RowKit

def rlgt1 (t : Lv.T) : Bool := decide (t.first.size ≤ 200) && decide (t.last.size ≤ 200)
def rlgt (r : Ro.R) : Bool := (r.tabs.take 71).all rlgt1 && (decide (r.tabs.length ≤ 70) && (decide (r.segs.length ≤ 100) && (decide (r.moves.length ≤ 100) && decide (r.stills.length ≤ 100))))
theorem IsRos.rin {w : World} {a1 : Option Addr} {n1 c1 : Nat} {a2 : Option Addr} {n2 c2 : Nat} {a3 : Option Addr} {n3 c3 : Nat} {a4 : Option Addr} {n4 c4 : Nat} {r : Ro.R} (h : IsRos w a1 n1 c1 a2 n2 c2 a3 n3 c3 a4 n4 c4 r) (hl : rlgt r = true) : RIn w a1 n1 c1 a2 n2 c2 a3 n3 c3 a4 n4 c4 r := by
  simp only [rlgt, Bool.and_eq_true, decide_eq_true_eq] at hl
  obtain ⟨h1, h2, h3, h4, h5⟩ := hl
  have l1 := h.r1.1; have l2 := h.r2.1; have l3 := h.r3.1; have l4 := h.r4.1
  rw [List.take_of_length_le (by omega)] at h1
  refine ⟨h.r1, h.r2, h.r3, h.r4, h.z1, h.z2, h.z3, h.z4, by omega, by omega, by omega, by omega, h.c3, fun t ht => ?_⟩
  have := List.all_eq_true.mp h1 t ht
  simp only [rlgt1, Bool.and_eq_true, decide_eq_true_eq] at this
  omega
theorem rin_first (w : World) : RIn w none 0 0 none 0 0 none 0 0 none 0 0 Ro.first := ⟨TRow.nil _ _, TRow.nil _ _, TRow.nil _ _, TRow.nil _ _, fun _ => ⟨rfl, rfl⟩, fun _ => ⟨rfl, rfl⟩, fun _ => ⟨rfl, rfl⟩, fun _ => ⟨rfl, rfl⟩, by omega, by omega, by omega, by omega, by omega, fun t ht => by cases ht⟩
set_option maxRecDepth 100000 in
set_option maxHeartbeats 1000000 in
theorem rfirst_any (w : World) : Calls Tryz.prog 100 #[] w fun e w' => e = .returned (.agg #[.slice none 0 0, .slice none 0 0, .slice none 0 0, .slice none 0 0, .int .i64 1, .int .i64 0, .int .i64 0, .int .i64 0, .int .i64 0, .int .i64 0, .int .i64 0]) ∧ Below w.heap.size w w' := by
  go_enter Tryz.func100, Tryz.ntmps100
  go_wp2
  have d0 := cell_new w #[.slice none 0 0, .slice none 0 0, .slice none 0 0, .slice none 0 0, .int .i64 1, .int .i64 0, .int .i64 0, .int .i64 0, .int .i64 0, .int .i64 0, .int .i64 0] 34 0
  have d1 := cell_new w #[.slice none 0 0, .slice none 0 0, .slice none 0 0, .slice none 0 0, .int .i64 1, .int .i64 0, .int .i64 0, .int .i64 0, .int .i64 0, .int .i64 0, .int .i64 0] 34 1
  have d2 := cell_new w #[.slice none 0 0, .slice none 0 0, .slice none 0 0, .slice none 0 0, .int .i64 1, .int .i64 0, .int .i64 0, .int .i64 0, .int .i64 0, .int .i64 0, .int .i64 0] 34 2
  have d3 := cell_new w #[.slice none 0 0, .slice none 0 0, .slice none 0 0, .slice none 0 0, .int .i64 1, .int .i64 0, .int .i64 0, .int .i64 0, .int .i64 0, .int .i64 0, .int .i64 0] 34 3
  have d4 := cell_new w #[.slice none 0 0, .slice none 0 0, .slice none 0 0, .slice none 0 0, .int .i64 1, .int .i64 0, .int .i64 0, .int .i64 0, .int .i64 0, .int .i64 0, .int .i64 0] 34 4
  have d5 := cell_new w #[.slice none 0 0, .slice none 0 0, .slice none 0 0, .slice none 0 0, .int .i64 1, .int .i64 0, .int .i64 0, .int .i64 0, .int .i64 0, .int .i64 0, .int .i64 0] 34 5
  have d6 := cell_new w #[.slice none 0 0, .slice none 0 0, .slice none 0 0, .slice none 0 0, .int .i64 1, .int .i64 0, .int .i64 0, .int .i64 0, .int .i64 0, .int .i64 0, .int .i64 0] 34 6
  have d7 := cell_new w #[.slice none 0 0, .slice none 0 0, .slice none 0 0, .slice none 0 0, .int .i64 1, .int .i64 0, .int .i64 0, .int .i64 0, .int .i64 0, .int .i64 0, .int .i64 0] 34 7
  have d8 := cell_new w #[.slice none 0 0, .slice none 0 0, .slice none 0 0, .slice none 0 0, .int .i64 1, .int .i64 0, .int .i64 0, .int .i64 0, .int .i64 0, .int .i64 0, .int .i64 0] 34 8
  have d9 := cell_new w #[.slice none 0 0, .slice none 0 0, .slice none 0 0, .slice none 0 0, .int .i64 1, .int .i64 0, .int .i64 0, .int .i64 0, .int .i64 0, .int .i64 0, .int .i64 0] 34 9
  have d10 := cell_new w #[.slice none 0 0, .slice none 0 0, .slice none 0 0, .slice none 0 0, .int .i64 1, .int .i64 0, .int .i64 0, .int .i64 0, .int .i64 0, .int .i64 0, .int .i64 0] 34 10
  refine bodyPost_ret (v := .agg #[.slice none 0 0, .slice none 0 0, .slice none 0 0, .slice none 0 0, .int .i64 1, .int .i64 0, .int .i64 0, .int .i64 0, .int .i64 0, .int .i64 0, .int .i64 0]) (by simp [results, Tryz.results100, go_sem, d0, d1, d2, d3, d4, d5, d6, d7, d8, d9, d10]) rfl ⟨rfl, below_alloc _ _⟩

end Go.Proofs.YtfogodbbgbnhkaaGreatDoor
