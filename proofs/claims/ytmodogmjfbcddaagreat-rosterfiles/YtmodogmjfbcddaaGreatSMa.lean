/- The reference's May of a roster that may not be. -/
import Derived.Test.YtmodogmjfbcddaaGreatRYa
import Derived.Deep.LoopGhost
namespace Go.Proofs.YtmodogmjfbcddaaGreat
open Go.RowKit

namespace Ro
structure Good (s : List Int) (ms : List (Int × Int)) (ts : List Lv.T) (ks : List (Int × Int × Int)) (i1 i2 i3 i4 i5 i6 i7 : Int) : Prop where
  sl : s.length ≤ 64
  ml : ms.length ≤ 64
  kl : ks.length ≤ 4
  tabs : Lv.may ts = true
  segs : ∀ m, m < s.length → 0 < s.getD m 0 ∧ s.getD m 0 ≤ 2147483647 ∧ (∀ q, q + 1 = m → s.getD q 0 < s.getD m 0)
  moves : ∀ m, m < ms.length → 0 < (ms.getD m (0, 0)).1 ∧ (ms.getD m (0, 0)).1 ≤ 2147483647 ∧ 0 < (ms.getD m (0, 0)).2 ∧ (ms.getD m (0, 0)).2 ≤ 2147483647 ∧ (ms.getD m (0, 0)).1 ∉ s ∧ (ms.getD m (0, 0)).1 < lastOf s ∧ ∀ q, q < m → (ms.getD q (0, 0)).1 < (ms.getD m (0, 0)).1 ∧ (ms.getD q (0, 0)).2 ≠ (ms.getD m (0, 0)).2
  stills : ∀ m, m < ks.length → 0 < (ks.getD m (0, 0, 0)).1 ∧ (ks.getD m (0, 0, 0)).1 ≤ 2147483647 ∧ 0 < (ks.getD m (0, 0, 0)).2.1 ∧ (ks.getD m (0, 0, 0)).2.1 ≤ 2147483647 ∧ 0 < (ks.getD m (0, 0, 0)).2.2 ∧ (ks.getD m (0, 0, 0)).2.2 ≤ 2147483647 ∧ (ks.getD m (0, 0, 0)).2.1 ≤ i7 ∧ ∀ q, q < m → (ks.getD q (0, 0, 0)).2.1 < (ks.getD m (0, 0, 0)).2.1 ∧ (ks.getD q (0, 0, 0)).1 ≠ (ks.getD m (0, 0, 0)).1
  rest : (1 ≤ i1 ∧ i1 ≤ 2147483647) ∧ (0 ≤ i2 ∧ i2 ≤ 2147483647) ∧ (0 ≤ i3 ∧ i3 ≤ 2147483647) ∧ (0 ≤ i7 ∧ i7 ≤ 2147483647) ∧ (0 ≤ i4 ∧ i4 ≤ 2147483647) ∧ (0 ≤ i5 ∧ i5 ≤ 2147483647) ∧ (0 ≤ i6 ∧ i6 ≤ 2147483647) ∧ (i2 = 0 ↔ i3 = 0) ∧ i2 ≤ i7
theorem pw_of {α : Type} {f : α → Int} {l : List α} {d : α} (h : ∀ m, m < l.length → ∀ q, q < m → f (l.getD q d) < f (l.getD m d)) : (l.map f).Pairwise (· < ·) := by
  rw [List.pairwise_iff_getElem]
  intro i j hi hj hij
  rw [List.length_map] at hi hj
  have := h j hj i hij
  simpa [hi, hj] using this
theorem nd_of {α : Type} {f : α → Int} {l : List α} {d : α} (h : ∀ m, m < l.length → ∀ q, q < m → f (l.getD q d) ≠ f (l.getD m d)) : (l.map f).Nodup := by
  rw [List.Nodup, List.pairwise_iff_getElem]
  intro i j hi hj hij
  rw [List.length_map] at hi hj
  have := h j hj i hij
  simpa [hi, hj] using this
theorem differ_of {l : List Int} (h : l.Nodup) (h2 : ∀ x ∈ l, 0 < x ∧ x ≤ 2147483647) : differ l = true := by
  refine (rise_iff _).mpr ⟨fun x hx => h2 x ((sorted_perm l).mem_iff.mp hx), ?_⟩
  have h1 := sorted_pw l
  have h3 := (sorted_perm l).nodup_iff.mpr h
  exact (h1.and h3).imp (fun h => by have := h.1; have := h.2; omega)
theorem chain_pw {s : List Int} (h : ∀ m, m < s.length → ∀ q, q + 1 = m → s.getD q 0 < s.getD m 0) : s.Pairwise (· < ·) := by
  have key : ∀ d q, q + (d + 1) < s.length → s.getD q 0 < s.getD (q + (d + 1)) 0 := by
    intro d
    induction d with
    | zero => intro q hq; exact h (q + 1) hq q rfl
    | succ d ih =>
      intro q hq
      have h1 := ih q (by omega)
      have h2 := h (q + (d + 1 + 1)) hq (q + (d + 1)) (by omega)
      omega
  have := pw_of (f := id) (l := s) (d := 0) (fun m hm q hq => by
    have := key (m - q - 1) q (by omega)
    rw [show q + (m - q - 1 + 1) = m by omega] at this
    exact this)
  simpa using this
theorem mem_at {α : Type} {l : List α} {x d : α} (h : x ∈ l) : ∃ m, m < l.length ∧ l.getD m d = x := by
  obtain ⟨i, hi, e⟩ := List.getElem_of_mem h
  exact ⟨i, hi, by simpa [hi] using e⟩
theorem check_good {s : List Int} {ms : List (Int × Int)} {ts : List Lv.T} {ks : List (Int × Int × Int)} {i1 i2 i3 i4 i5 i6 i7 : Int} (h : Good s ms ts ks i1 i2 i3 i4 i5 i6 i7) : check ⟨s, ms, ts, ks, i1, i2, i3, i4, i5, i6, i7⟩ = true := by
  have hs : rise s = true := (rise_iff _).mpr ⟨fun x hx => by
    obtain ⟨m, hm, e⟩ := mem_at (d := 0) hx
    have := h.segs m hm
    rw [e] at this
    exact ⟨this.1, this.2.1⟩, chain_pw (fun m hm => (h.segs m hm).2.2)⟩
  have hm1 : rise (ms.map (·.1)) = true := (rise_iff _).mpr ⟨fun x hx => by
    obtain ⟨y, hy, rfl⟩ := List.mem_map.mp hx
    obtain ⟨m, hm, e⟩ := mem_at (d := (0, 0)) hy
    have := h.moves m hm
    rw [e] at this
    exact ⟨this.1, this.2.1⟩, pw_of (d := (0, 0)) (fun m hm q hq => ((h.moves m hm).2.2.2.2.2.2 q hq).1)⟩
  have hm2 : differ (ms.map (·.2)) = true := differ_of (nd_of (d := (0, 0)) (fun m hm q hq => ((h.moves m hm).2.2.2.2.2.2 q hq).2)) (fun x hx => by
    obtain ⟨y, hy, rfl⟩ := List.mem_map.mp hx
    obtain ⟨m, hm, e⟩ := mem_at (d := (0, 0)) hy
    have := h.moves m hm
    rw [e] at this
    exact ⟨this.2.2.1, this.2.2.2.1⟩)
  have hk1 : rise (ks.map (·.2.1)) = true := (rise_iff _).mpr ⟨fun x hx => by
    obtain ⟨y, hy, rfl⟩ := List.mem_map.mp hx
    obtain ⟨m, hm, e⟩ := mem_at (d := (0, 0, 0)) hy
    have := h.stills m hm
    rw [e] at this
    exact ⟨this.2.2.1, this.2.2.2.1⟩, pw_of (f := (·.2.1)) (d := (0, 0, 0)) (fun m hm q hq => ((h.stills m hm).2.2.2.2.2.2.2 q hq).1)⟩
  have hk2 : differ (ks.map (·.1)) = true := differ_of (nd_of (d := (0, 0, 0)) (fun m hm q hq => ((h.stills m hm).2.2.2.2.2.2.2 q hq).2)) (fun x hx => by
    obtain ⟨y, hy, rfl⟩ := List.mem_map.mp hx
    obtain ⟨m, hm, e⟩ := mem_at (d := (0, 0, 0)) hy
    have := h.stills m hm
    rw [e] at this
    exact ⟨this.1, this.2.1⟩)
  have hmm : ∀ x ∈ ms.map (·.1), x < lastOf s ∧ x ∉ s := fun x hx => by
    obtain ⟨y, hy, rfl⟩ := List.mem_map.mp hx
    obtain ⟨m, hm, e⟩ := mem_at (d := (0, 0)) hy
    have := h.moves m hm
    rw [e] at this
    exact ⟨this.2.2.2.2.2.1, this.2.2.2.2.1⟩
  have hkk : ∀ k ∈ ks, k.2.1 ≤ i7 ∧ 1 ≤ k.2.2 ∧ k.2.2 ≤ 2147483647 := fun y hy => by
    obtain ⟨m, hm, e⟩ := mem_at (d := (0, 0, 0)) hy
    have := h.stills m hm
    rw [e] at this
    exact ⟨this.2.2.2.2.2.2.1, this.2.2.2.2.1, this.2.2.2.2.2.1⟩
  obtain ⟨g1, g2, g3, g7, g4, g5, g6, gz, gm⟩ := h.rest
  have hr : restMay ⟨s, ms, ts, ks, i1, i2, i3, i4, i5, i6, i7⟩ = true := by
    simp only [restMay, placeMay, cnt, cz, Bool.and_eq_true, Bool.or_eq_true, decide_eq_true_eq]
    omega
  simp only [check, segsMay, movesMay, stillsMay, hs, hm1, hm2, hk1, hk2, hr, h.tabs, h.sl, h.ml, h.kl, Bool.and_eq_true, decide_true, Bool.and_true, Bool.true_and, decide_eq_true_eq, List.all_eq_true]
  exact ⟨fun x hx => ⟨(hmm x hx).1, by simpa using (hmm x hx).2⟩, fun k hk => ⟨(hkk k hk).1, by simp only [cnt, Bool.and_eq_true, decide_eq_true_eq]; exact (hkk k hk).2⟩⟩
end Ro

set_option maxRecDepth 100000 in
set_option maxHeartbeats 16000000 in
theorem rmay17_noA (s : List Int) (ms : List (Int × Int)) (ts : List Lv.T) (ks : List (Int × Int × Int)) (a1 : Option Addr) (n1 c1 : Nat) (a2 : Option Addr) (n2 c2 : Nat) (a3 : Option Addr) (n3 c3 : Nat) (a4 : Option Addr) (n4 c4 : Nat) (i1 i2 i3 i4 i5 i6 i7 : Int) (w : World) (h : RIn w a1 n1 c1 a2 n2 c2 a3 n3 c3 a4 n4 c4 ⟨s, ms, ts, ks, i1, i2, i3, i4, i5, i6, i7⟩) (hA : ¬ ((n1 ≤ 64 ∧ n2 ≤ 64 ∧ n4 ≤ 4) ∧ Lv.may ts = true ∧ ∀ m, m < n1 → 0 < s.getD m 0 ∧ s.getD m 0 ≤ 2147483647 ∧ (∀ q, q + 1 = m → s.getD q 0 < s.getD m 0))) :
    Calls Tryz.prog 12 #[.agg #[.slice a1 n1 c1, .slice a2 n2 c2, .slice a3 n3 c3, .slice a4 n4 c4, .int .i64 i1, .int .i64 i2, .int .i64 i3, .int .i64 i4, .int .i64 i5, .int .i64 i6, .int .i64 i7]] w fun e w' => e = .returned (.bool false) ∧ Below w.heap.size w w' := by
  have HA : Hid (¬ ((n1 ≤ 64 ∧ n2 ≤ 64 ∧ n4 ≤ 4) ∧ Lv.may ts = true ∧ ∀ m, m < n1 → 0 < s.getD m 0 ∧ s.getD m 0 ≤ 2147483647 ∧ (∀ q, q + 1 = m → s.getD q 0 < s.getD m 0))) := hA
  clear hA
  have t1 := h.r1.1; have t2 := h.r2.1; have t4 := h.r4.1
  have m1 := h.m1; have m2 := h.m2; have m3 := h.m3; have m4 := h.m4
  dsimp only at t1 t2 t4
  have R1 : Hid (ZRow w a1 n1 s) := h.r1
  have R2 : Hid (MRow w a2 n2 ms) := h.r2
  have R4 : Hid (KRow w a4 n4 ks) := h.r4
  have T1 : Hid (s.length = n1) := t1
  have T2 : Hid (ms.length = n2) := t2
  have T4 : Hid (ks.length = n4) := t4
  have hmt := fun W (hb : Below w.heap.size w W) => rmay_any a3 n3 c3 ts W m3 (h.r3.below hb (Nat.le_refl _))
  have hcn := fun (n : Int) (B : Bool) (hB : B = (decide (0 ≤ n) && decide (n ≤ 2147483647))) W => rcounts17_any n B hB W
  obtain ⟨U, hU⟩ : ∃ U, U = w.alloc (.cells #[.slice a1 n1 c1, .slice a2 n2 c2, .slice a3 n3 c3, .slice a4 n4 c4, .int .i64 i1, .int .i64 i2, .int .i64 i3, .int .i64 i4, .int .i64 i5, .int .i64 i6, .int .i64 i7] 29) := ⟨_, rfl⟩
  have hbU : Below w.heap.size w U := by rw [hU]; exact below_alloc _ _
  have e0 : U.heap[w.heap.size]? = some (.cells #[.slice a1 n1 c1, .slice a2 n2 c2, .slice a3 n3 c3, .slice a4 n4 c4, .int .i64 i1, .int .i64 i2, .int .i64 i3, .int .i64 i4, .int .i64 i5, .int .i64 i6, .int .i64 i7] 29 (0, 0)) := by rw [hU]; exact heap_alloc_new _ _
  have HV : Hid (∀ W, Below U.heap.size U W → ∀ i, W.cell? ⟨w.heap.size, i, none⟩ = (#[.slice a1 n1 c1, .slice a2 n2 c2, .slice a3 n3 c3, .slice a4 n4 c4, .int .i64 i1, .int .i64 i2, .int .i64 i3, .int .i64 i4, .int .i64 i5, .int .i64 i6, .int .i64 i7] : Array Value)[i]?) := (fun W hb => (blkc ((hb.block _ (ob_ltB e0)).trans e0)).1 : ∀ W, _ → _)
  have ca := HV.out U (Below.refl _ _)
  have j0 := ca 0
  have j1 := ca 1
  have j2 := ca 2
  have j3 := ca 3
  have j4 := ca 4
  have j5 := ca 5
  have j6 := ca 6
  have j7 := ca 7
  have j8 := ca 8
  have j9 := ca 9
  have j10 := ca 10
  clear ca
  have HU : Hid (Below w.heap.size w U) := hbU
  have hUe : w.alloc (.cells #[.slice a1 n1 c1, .slice a2 n2 c2, .slice a3 n3 c3, .slice a4 n4 c4, .int .i64 i1, .int .i64 i2, .int .i64 i3, .int .i64 i4, .int .i64 i5, .int .i64 i6, .int .i64 i7] 29) = U := hU.symm
  clear hU hbU e0 h t1 t2 t4
  by_cases e1 : n1 ≤ 64
  case neg =>
    have d1 : decide (64 < (n1 : Int)) = true := by simp; omega
    clear hmt hcn
    go_enter Tryz.func12, Tryz.ntmps12
    go_wp2
    go_ret
    exact ⟨rfl, HU.out⟩
  have d1 : decide (64 < (n1 : Int)) = false := by simp; omega
  by_cases e2 : n2 ≤ 64
  case neg =>
    have d2 : decide (64 < (n2 : Int)) = true := by simp; omega
    clear hmt hcn
    go_enter Tryz.func12, Tryz.ntmps12
    go_wp2
    go_ret
    exact ⟨rfl, HU.out⟩
  have d2 : decide (64 < (n2 : Int)) = false := by simp; omega
  by_cases e4 : n4 ≤ 4
  case neg =>
    have d4 : decide (4 < (n4 : Int)) = true := by simp; omega
    clear hmt hcn
    go_enter Tryz.func12, Tryz.ntmps12
    go_wp2
    go_ret
    exact ⟨rfl, HU.out⟩
  have d4 : decide (4 < (n4 : Int)) = false := by simp; omega
  cases htt : Lv.may ts with
  | false =>
    rw [htt] at hmt
    clear hcn htt
    go_enter Tryz.func12, Tryz.ntmps12
    go_wp2_with (go_at_call 31; go_must (refine (hmt _ HU.out).mono ?_; rintro e w1 ⟨rfl, hb1⟩))
    go_ret
    exact ⟨rfl, HU.out.trans (hb1.mono HU.out.size)⟩
  | true =>
  rw [htt] at hmt
  have HTT : Hid (Lv.may ts = true) := htt
  clear htt
  go_enter Tryz.func12, Tryz.ntmps12
  go_wp2_with (go_at_call 31; go_must (refine (hmt _ HU.out).mono ?_; rintro e w1 ⟨rfl, hb1⟩))
  clear hUe j0 j1 j2 j3 j4 j5 j6 j7 j8 j9 j10 hmt d1 d2 d4
  have HB1 : Hid (Below U.heap.size U w1) := hb1
  clear hb1
  go_loopw [3] (fun iv wr => ∃ k : Nat, k ≤ n1 ∧ iv = .int .i64 k ∧ Hid (∀ m, m < k → 0 < s.getD m 0 ∧ s.getD m 0 ≤ 2147483647 ∧ (∀ q, q + 1 = m → s.getD q 0 < s.getD m 0)) ∧ Hid (Below U.heap.size U wr)) (fun iv _ => n1 - (intOf iv).toNat)
  case atStart => exact ⟨0, by omega, rfl, (fun m hm => by omega : ∀ m, m < 0 → 0 < s.getD m 0 ∧ s.getD m 0 ≤ 2147483647 ∧ (∀ q, q + 1 = m → s.getD q 0 < s.getD m 0)), HB1⟩
  case round =>
    obtain ⟨k, hk, rfl, HG1, HBa⟩ := hrel
    clear HB1
    have ca := HV.out wr HBa.out
    have j0 := ca 0
    have j1 := ca 1
    have j2 := ca 2
    have j3 := ca 3
    have j4 := ca 4
    have j5 := ca 5
    have j6 := ca 6
    have j7 := ca 7
    have j8 := ca 8
    have j9 := ca 9
    have j10 := ca 10
    clear ca
    by_cases hlt : k < n1
    · have hbw := HU.out.trans (HBa.out.mono HU.out.size)
      obtain ⟨b, off, x, rfl, hx, q0⟩ := zget R1.out hbw hlt
      have i0 : (0 : Int) ≤ (k : Int) := by omega
      have i9 : (k : Int) < (n1 : Int) := by omega
      by_cases c1' : 0 < x
      case neg =>
        have dx : decide (x < 1) = true := by simp; omega
        clear hx hcn c1' HG1
        go_wp2_with fail
        go_quiet (fail)
        go_wp2
        go_ret
        exact ⟨rfl, HU.out.trans ((by first | exact HBa.out | exact HBa.out.trans (below_drewN _ _ _) : Below U.heap.size U _).mono HU.out.size)⟩
      have dx : decide (x < 1) = false := by simp; omega
      by_cases c2' : x ≤ 2147483647
      case neg =>
        have hcx := fun W => hcn x false (by simp [c2']) W
        clear hx hcn c1' c2' HG1
        go_wp2_with fail
        go_quiet (first
          | (go_at_call 32; (with_reducible refine Calls.quiet_of_same (hcx _))))
        go_wp2
        go_ret
        exact ⟨rfl, HU.out.trans ((by first | exact HBa.out | exact HBa.out.trans (below_drewN _ _ _) : Below U.heap.size U _).mono HU.out.size)⟩
      have hcx := fun W => hcn x true (by simp [c2']; omega) W
      by_cases hk0 : k = 0
      · have HG2 : Hid (∀ m, m < k + 1 → 0 < s.getD m 0 ∧ s.getD m 0 ≤ 2147483647 ∧ (∀ q, q + 1 = m → s.getD q 0 < s.getD m 0)) := (fun m hm => by
          obtain rfl : m = k := by omega
          rw [hx.out]; exact ⟨c1', c2', fun q hq => by omega⟩ : ∀ m, m < k + 1 → 0 < s.getD m 0 ∧ s.getD m 0 ≤ 2147483647 ∧ (∀ q, q + 1 = m → s.getD q 0 < s.getD m 0))
        have dk : decide ((0 : Int) < (k : Int)) = false := by simp; omega
        have dk2 : decide (0 < k) = false := by simp; omega
        have dk3 : ¬ (0 < k) := by omega
        have dk4 : ¬ ((0 : Int) < (k : Int)) := by omega
        clear hx hcn hk0 c1' c2' HG1
        go_wp2_with fail
        go_quiet ((go_at_call 32; (with_reducible refine Calls.quiet_of_same (hcx _))))
        go_wp2
        go_roundw
        case rel => exact ⟨k + 1, by omega, by go_num, HG2, (HBa.out.trans (below_drewN _ _ _) : Below _ _ _)⟩
        case measure => simp [intOf]; omega
      · obtain ⟨K, hkk⟩ : ∃ K, k = K + 1 := ⟨k - 1, by omega⟩
        obtain ⟨b', off', y, e', hy, q1⟩ := zget R1.out hbw (show K < n1 by omega)
        simp only [Option.some.injEq, Addr.mk.injEq] at e'
        obtain ⟨rfl, rfl, _⟩ := e'
        have dk : decide ((0 : Int) < (k : Int)) = true := by simp; omega
        have dk2 : decide (0 < k) = true := by simp; omega
        have dk3 : 0 < k := by omega
        have dk4 : (0 : Int) < (k : Int) := by omega
        have w1' : IntKind.i64.wrap ((k : Int) - 1) = (K : Int) := by rw [IntKind.wrap_i64]; omega
        have i8 : (0 : Int) ≤ (K : Int) := by omega
        have i7' : (K : Int) < (n1 : Int) := by omega
        by_cases c3' : y < x
        · have HG2 : Hid (∀ m, m < k + 1 → 0 < s.getD m 0 ∧ s.getD m 0 ≤ 2147483647 ∧ (∀ q, q + 1 = m → s.getD q 0 < s.getD m 0)) := (fun m hm => by
            rcases Nat.lt_or_ge m k with hmk | hmk
            · exact HG1.out m hmk
            · obtain rfl : m = k := by omega
              rw [hx.out]; exact ⟨c1', c2', fun q hq => by
                obtain rfl : q = K := by omega
                rw [hy.out]; exact c3'⟩ : ∀ m, m < k + 1 → 0 < s.getD m 0 ∧ s.getD m 0 ≤ 2147483647 ∧ (∀ q, q + 1 = m → s.getD q 0 < s.getD m 0))
          have dxy : decide (x ≤ y) = false := by simp; omega
          clear hx hy hcn hkk hk0 c1' c2' c3' HG1
          go_wp2_with fail
          go_quiet ((go_at_call 32; (with_reducible refine Calls.quiet_of_same (hcx _))))
          go_wp2
          go_roundw
          case rel => exact ⟨k + 1, by omega, by go_num, HG2, (HBa.out.trans (below_drewN _ _ _) : Below _ _ _)⟩
          case measure => simp [intOf]; omega
        · have dxy : decide (x ≤ y) = true := by simp; omega
          clear hx hy hcn hkk hk0 c1' c2' c3' HG1
          go_wp2_with fail
          go_quiet (first
            | (go_at_call 32; (with_reducible refine Calls.quiet_of_same (hcx _))))
          go_wp2
          go_ret
          exact ⟨rfl, HU.out.trans ((by first | exact HBa.out | exact HBa.out.trans (below_drewN _ _ _) : Below U.heap.size U _).mono HU.out.size)⟩
    · obtain rfl : k = n1 := by omega
      exact absurd ⟨⟨e1, e2, e4⟩, HTT.out, HG1.out⟩ HA.out

set_option maxRecDepth 100000 in
set_option maxHeartbeats 16000000 in
theorem rmay17_noB (s : List Int) (ms : List (Int × Int)) (ts : List Lv.T) (ks : List (Int × Int × Int)) (a1 : Option Addr) (n1 c1 : Nat) (a2 : Option Addr) (n2 c2 : Nat) (a3 : Option Addr) (n3 c3 : Nat) (a4 : Option Addr) (n4 c4 : Nat) (i1 i2 i3 i4 i5 i6 i7 : Int) (w : World) (h : RIn w a1 n1 c1 a2 n2 c2 a3 n3 c3 a4 n4 c4 ⟨s, ms, ts, ks, i1, i2, i3, i4, i5, i6, i7⟩) (hA : (n1 ≤ 64 ∧ n2 ≤ 64 ∧ n4 ≤ 4) ∧ Lv.may ts = true ∧ ∀ m, m < n1 → 0 < s.getD m 0 ∧ s.getD m 0 ≤ 2147483647 ∧ (∀ q, q + 1 = m → s.getD q 0 < s.getD m 0)) (hB : ¬ ∀ m, m < n2 → 0 < (ms.getD m (0, 0)).1 ∧ (ms.getD m (0, 0)).1 ≤ 2147483647 ∧ 0 < (ms.getD m (0, 0)).2 ∧ (ms.getD m (0, 0)).2 ≤ 2147483647 ∧ (ms.getD m (0, 0)).1 ∉ s ∧ (ms.getD m (0, 0)).1 < Ro.lastOf s ∧ ∀ q, q < m → (ms.getD q (0, 0)).1 < (ms.getD m (0, 0)).1 ∧ (ms.getD q (0, 0)).2 ≠ (ms.getD m (0, 0)).2) :
    Calls Tryz.prog 12 #[.agg #[.slice a1 n1 c1, .slice a2 n2 c2, .slice a3 n3 c3, .slice a4 n4 c4, .int .i64 i1, .int .i64 i2, .int .i64 i3, .int .i64 i4, .int .i64 i5, .int .i64 i6, .int .i64 i7]] w fun e w' => e = .returned (.bool false) ∧ Below w.heap.size w w' := by
  have HA : Hid ((n1 ≤ 64 ∧ n2 ≤ 64 ∧ n4 ≤ 4) ∧ Lv.may ts = true ∧ ∀ m, m < n1 → 0 < s.getD m 0 ∧ s.getD m 0 ≤ 2147483647 ∧ (∀ q, q + 1 = m → s.getD q 0 < s.getD m 0)) := hA
  have HBB : Hid (¬ (∀ m, m < n2 → 0 < (ms.getD m (0, 0)).1 ∧ (ms.getD m (0, 0)).1 ≤ 2147483647 ∧ 0 < (ms.getD m (0, 0)).2 ∧ (ms.getD m (0, 0)).2 ≤ 2147483647 ∧ (ms.getD m (0, 0)).1 ∉ s ∧ (ms.getD m (0, 0)).1 < Ro.lastOf s ∧ ∀ q, q < m → (ms.getD q (0, 0)).1 < (ms.getD m (0, 0)).1 ∧ (ms.getD q (0, 0)).2 ≠ (ms.getD m (0, 0)).2)) := hB
  clear hA hB
  have t1 := h.r1.1; have t2 := h.r2.1; have t4 := h.r4.1
  have m1 := h.m1; have m2 := h.m2; have m3 := h.m3; have m4 := h.m4
  dsimp only at t1 t2 t4
  have R1 : Hid (ZRow w a1 n1 s) := h.r1
  have R2 : Hid (MRow w a2 n2 ms) := h.r2
  have R4 : Hid (KRow w a4 n4 ks) := h.r4
  have T1 : Hid (s.length = n1) := t1
  have T2 : Hid (ms.length = n2) := t2
  have T4 : Hid (ks.length = n4) := t4
  have hmt := fun W (hb : Below w.heap.size w W) => rmay_any a3 n3 c3 ts W m3 (h.r3.below hb (Nat.le_refl _))
  have hcn := fun (n : Int) (B : Bool) (hB : B = (decide (0 ≤ n) && decide (n ≤ 2147483647))) W => rcounts17_any n B hB W
  obtain ⟨U, hU⟩ : ∃ U, U = w.alloc (.cells #[.slice a1 n1 c1, .slice a2 n2 c2, .slice a3 n3 c3, .slice a4 n4 c4, .int .i64 i1, .int .i64 i2, .int .i64 i3, .int .i64 i4, .int .i64 i5, .int .i64 i6, .int .i64 i7] 29) := ⟨_, rfl⟩
  have hbU : Below w.heap.size w U := by rw [hU]; exact below_alloc _ _
  have e0 : U.heap[w.heap.size]? = some (.cells #[.slice a1 n1 c1, .slice a2 n2 c2, .slice a3 n3 c3, .slice a4 n4 c4, .int .i64 i1, .int .i64 i2, .int .i64 i3, .int .i64 i4, .int .i64 i5, .int .i64 i6, .int .i64 i7] 29 (0, 0)) := by rw [hU]; exact heap_alloc_new _ _
  have HV : Hid (∀ W, Below U.heap.size U W → ∀ i, W.cell? ⟨w.heap.size, i, none⟩ = (#[.slice a1 n1 c1, .slice a2 n2 c2, .slice a3 n3 c3, .slice a4 n4 c4, .int .i64 i1, .int .i64 i2, .int .i64 i3, .int .i64 i4, .int .i64 i5, .int .i64 i6, .int .i64 i7] : Array Value)[i]?) := (fun W hb => (blkc ((hb.block _ (ob_ltB e0)).trans e0)).1 : ∀ W, _ → _)
  have ca := HV.out U (Below.refl _ _)
  have j0 := ca 0
  have j1 := ca 1
  have j2 := ca 2
  have j3 := ca 3
  have j4 := ca 4
  have j5 := ca 5
  have j6 := ca 6
  have j7 := ca 7
  have j8 := ca 8
  have j9 := ca 9
  have j10 := ca 10
  clear ca
  have HU : Hid (Below w.heap.size w U) := hbU
  have hUe : w.alloc (.cells #[.slice a1 n1 c1, .slice a2 n2 c2, .slice a3 n3 c3, .slice a4 n4 c4, .int .i64 i1, .int .i64 i2, .int .i64 i3, .int .i64 i4, .int .i64 i5, .int .i64 i6, .int .i64 i7] 29) = U := hU.symm
  clear hU hbU e0 h t1 t2 t4
  have e1 : n1 ≤ 64 := by have := HA.out.1; omega
  have d1 : decide (64 < (n1 : Int)) = false := by simp; omega
  have e2 : n2 ≤ 64 := by have := HA.out.1; omega
  have d2 : decide (64 < (n2 : Int)) = false := by simp; omega
  have e4 : n4 ≤ 4 := by have := HA.out.1; omega
  have d4 : decide (4 < (n4 : Int)) = false := by simp; omega
  have htt : Lv.may ts = true := HA.out.2.1
  rw [htt] at hmt
  have HTT : Hid (Lv.may ts = true) := htt
  clear htt
  go_enter Tryz.func12, Tryz.ntmps12
  go_wp2_with (go_at_call 31; go_must (refine (hmt _ HU.out).mono ?_; rintro e w1 ⟨rfl, hb1⟩))
  clear hUe j0 j1 j2 j3 j4 j5 j6 j7 j8 j9 j10 hmt d1 d2 d4
  have HB1 : Hid (Below U.heap.size U w1) := hb1
  clear hb1
  go_loopw [3] (fun iv wr => ∃ k : Nat, k ≤ n1 ∧ iv = .int .i64 k ∧ Hid (∀ m, m < k → 0 < s.getD m 0 ∧ s.getD m 0 ≤ 2147483647 ∧ (∀ q, q + 1 = m → s.getD q 0 < s.getD m 0)) ∧ Hid (Below U.heap.size U wr)) (fun iv _ => n1 - (intOf iv).toNat)
  case atStart => exact ⟨0, by omega, rfl, (fun m hm => by omega : ∀ m, m < 0 → 0 < s.getD m 0 ∧ s.getD m 0 ≤ 2147483647 ∧ (∀ q, q + 1 = m → s.getD q 0 < s.getD m 0)), HB1⟩
  case round =>
    obtain ⟨k, hk, rfl, HG1, HBa⟩ := hrel
    clear HB1
    have ca := HV.out wr HBa.out
    have j0 := ca 0
    have j1 := ca 1
    have j2 := ca 2
    have j3 := ca 3
    have j4 := ca 4
    have j5 := ca 5
    have j6 := ca 6
    have j7 := ca 7
    have j8 := ca 8
    have j9 := ca 9
    have j10 := ca 10
    clear ca
    by_cases hlt : k < n1
    · have hbw := HU.out.trans (HBa.out.mono HU.out.size)
      obtain ⟨b, off, x, rfl, hx, q0⟩ := zget R1.out hbw hlt
      have i0 : (0 : Int) ≤ (k : Int) := by omega
      have i9 : (k : Int) < (n1 : Int) := by omega
      have hg := HA.out.2.2 k hlt
      rw [hx.out] at hg
      by_cases c1' : 0 < x
      case neg => exact absurd hg.1 c1'
      have dx : decide (x < 1) = false := by simp; omega
      by_cases c2' : x ≤ 2147483647
      case neg => exact absurd hg.2.1 c2'
      have hcx := fun W => hcn x true (by simp [c2']; omega) W
      by_cases hk0 : k = 0
      · have HG2 : Hid (∀ m, m < k + 1 → 0 < s.getD m 0 ∧ s.getD m 0 ≤ 2147483647 ∧ (∀ q, q + 1 = m → s.getD q 0 < s.getD m 0)) := (fun m hm => by
          obtain rfl : m = k := by omega
          rw [hx.out]; exact ⟨c1', c2', fun q hq => by omega⟩ : ∀ m, m < k + 1 → 0 < s.getD m 0 ∧ s.getD m 0 ≤ 2147483647 ∧ (∀ q, q + 1 = m → s.getD q 0 < s.getD m 0))
        have dk : decide ((0 : Int) < (k : Int)) = false := by simp; omega
        have dk2 : decide (0 < k) = false := by simp; omega
        have dk3 : ¬ (0 < k) := by omega
        have dk4 : ¬ ((0 : Int) < (k : Int)) := by omega
        clear hx hcn hk0 c1' c2' HG1
        go_wp2_with fail
        go_quiet ((go_at_call 32; (with_reducible refine Calls.quiet_of_same (hcx _))))
        go_wp2
        go_roundw
        case rel => exact ⟨k + 1, by omega, by go_num, HG2, (HBa.out.trans (below_drewN _ _ _) : Below _ _ _)⟩
        case measure => simp [intOf]; omega
      · obtain ⟨K, hkk⟩ : ∃ K, k = K + 1 := ⟨k - 1, by omega⟩
        obtain ⟨b', off', y, e', hy, q1⟩ := zget R1.out hbw (show K < n1 by omega)
        simp only [Option.some.injEq, Addr.mk.injEq] at e'
        obtain ⟨rfl, rfl, _⟩ := e'
        have dk : decide ((0 : Int) < (k : Int)) = true := by simp; omega
        have dk2 : decide (0 < k) = true := by simp; omega
        have dk3 : 0 < k := by omega
        have dk4 : (0 : Int) < (k : Int) := by omega
        have w1' : IntKind.i64.wrap ((k : Int) - 1) = (K : Int) := by rw [IntKind.wrap_i64]; omega
        have i8 : (0 : Int) ≤ (K : Int) := by omega
        have i7' : (K : Int) < (n1 : Int) := by omega
        by_cases c3' : y < x
        · have HG2 : Hid (∀ m, m < k + 1 → 0 < s.getD m 0 ∧ s.getD m 0 ≤ 2147483647 ∧ (∀ q, q + 1 = m → s.getD q 0 < s.getD m 0)) := (fun m hm => by
            rcases Nat.lt_or_ge m k with hmk | hmk
            · exact HG1.out m hmk
            · obtain rfl : m = k := by omega
              rw [hx.out]; exact ⟨c1', c2', fun q hq => by
                obtain rfl : q = K := by omega
                rw [hy.out]; exact c3'⟩ : ∀ m, m < k + 1 → 0 < s.getD m 0 ∧ s.getD m 0 ≤ 2147483647 ∧ (∀ q, q + 1 = m → s.getD q 0 < s.getD m 0))
          have dxy : decide (x ≤ y) = false := by simp; omega
          clear hx hy hcn hkk hk0 c1' c2' c3' HG1
          go_wp2_with fail
          go_quiet ((go_at_call 32; (with_reducible refine Calls.quiet_of_same (hcx _))))
          go_wp2
          go_roundw
          case rel => exact ⟨k + 1, by omega, by go_num, HG2, (HBa.out.trans (below_drewN _ _ _) : Below _ _ _)⟩
          case measure => simp [intOf]; omega
        · exact absurd (by have := hg.2.2 K hkk.symm; rw [hy.out] at this; exact this) c3'
    · obtain rfl : k = n1 := by omega
      go_wp2
      clear j0 j1 j2 j3 j4 j5 j6 j7 j8 j9 j10
      go_loopg [4, 5, 6] n2 (fun g iv _ _ wx => ∃ i : Nat, i + g = n2 ∧ iv = .int .i64 i ∧ Hid (∀ m, m < i → 0 < (ms.getD m (0, 0)).1 ∧ (ms.getD m (0, 0)).1 ≤ 2147483647 ∧ 0 < (ms.getD m (0, 0)).2 ∧ (ms.getD m (0, 0)).2 ≤ 2147483647 ∧ (ms.getD m (0, 0)).1 ∉ s ∧ (ms.getD m (0, 0)).1 < Ro.lastOf s ∧ ∀ q, q < m → (ms.getD q (0, 0)).1 < (ms.getD m (0, 0)).1 ∧ (ms.getD q (0, 0)).2 ≠ (ms.getD m (0, 0)).2) ∧ Hid (Below U.heap.size U wx))
      case atStart => exact ⟨0, by omega, rfl, (fun m hm => by omega : ∀ m, m < 0 → 0 < (ms.getD m (0, 0)).1 ∧ (ms.getD m (0, 0)).1 ≤ 2147483647 ∧ 0 < (ms.getD m (0, 0)).2 ∧ (ms.getD m (0, 0)).2 ≤ 2147483647 ∧ (ms.getD m (0, 0)).1 ∉ s ∧ (ms.getD m (0, 0)).1 < Ro.lastOf s ∧ ∀ q, q < m → (ms.getD q (0, 0)).1 < (ms.getD m (0, 0)).1 ∧ (ms.getD q (0, 0)).2 ≠ (ms.getD m (0, 0)).2), HBa⟩
      case round =>
        obtain ⟨i, hig, rfl, HG2, HBb⟩ := hrel
        obtain ⟨W1, rfl⟩ : ∃ W1, W1 = wr := ⟨_, rfl⟩
        cases gk with
        | succ g =>
          have hlt2 : i < n2 := by omega
          have hbw := HU.out.trans (HBb.out.mono HU.out.size)
          obtain ⟨b, off, x, y, rfl, hx, q0, q1⟩ := mget R2.out hbw hlt2
          have HX : Hid (ms.getD i (0, 0) = (x, y)) := hx
          obtain ⟨V, hV⟩ : ∃ V, V = W1.alloc (.cells #[.int .i64 x, .int .i64 y] 53) := ⟨_, rfl⟩
          have hbV : Below U.heap.size U V := by rw [hV]; exact HBb.out.alloc HBb.out.size _
          have eV : V.heap[W1.heap.size]? = some (.cells #[.int .i64 x, .int .i64 y] 53 (0, 0)) := by rw [hV]; exact heap_alloc_new _ _
          have hVe : W1.alloc (.cells #[.int .i64 x, .int .i64 y] 53) = V := hV.symm
          have p0 : V.cell? ⟨W1.heap.size, 0, none⟩ = some (.int .i64 x) := (blkc eV).1 0
          have p1 : V.cell? ⟨W1.heap.size, 1, none⟩ = some (.int .i64 y) := (blkc eV).1 1
          have ja1 := (HV.out W1 HBb.out) 1
          have ca := HV.out V hbV
          have j0 := ca 0
          have j1 := ca 1
          have j2 := ca 2
          have j3 := ca 3
          have j4 := ca 4
          have j5 := ca 5
          have j6 := ca 6
          have j7 := ca 7
          have j8 := ca 8
          have j9 := ca 9
          have j10 := ca 10
          clear ca
          have HEV : Hid (V.heap[W1.heap.size]? = some (.cells #[.int .i64 x, .int .i64 y] 53 (0, 0))) := eV
          have HBV : Hid (Below U.heap.size U V) := hbV
          have o0 : (0 : Int) ≤ (i : Int) := by omega
          have o1 : (i : Int) < (n2 : Int) := by omega
          clear hx hV eV hbV hbw
          by_cases f1 : 0 < x
          case neg =>
            have dx : decide (x < 1) = true := by simp; omega
            clear hcn f1
            go_wp2_with fail
            clear hVe
            go_quiet (fail)
            go_wp2
            go_ret
            exact ⟨rfl, HU.out.trans ((by first | exact HBV.out | exact HBV.out.trans (below_drewN _ _ _) : Below U.heap.size U _).mono HU.out.size)⟩
          have dx : decide (x < 1) = false := by simp; omega
          by_cases f2 : 0 < y
          case neg =>
            have dy : decide (y < 1) = true := by simp; omega
            clear hcn f1 f2
            go_wp2_with fail
            clear hVe
            go_quiet (fail)
            go_wp2
            go_ret
            exact ⟨rfl, HU.out.trans ((by first | exact HBV.out | exact HBV.out.trans (below_drewN _ _ _) : Below U.heap.size U _).mono HU.out.size)⟩
          have dy : decide (y < 1) = false := by simp; omega
          by_cases f3 : x ≤ 2147483647
          case neg =>
            have hcx := fun W => hcn x false (by simp [f3]) W
            clear hcn f1 f2 f3
            go_wp2_with fail
            clear hVe
            go_quiet (first
              | (go_at_call 32; (with_reducible refine Calls.quiet_of_same (hcx _))))
            go_wp2
            go_ret
            exact ⟨rfl, HU.out.trans ((by first | exact HBV.out | exact HBV.out.trans (below_drewN _ _ _) : Below U.heap.size U _).mono HU.out.size)⟩
          have hcx := fun W => hcn x true (by simp [f3]; omega) W
          by_cases f4 : y ≤ 2147483647
          case neg =>
            have hcy := fun W => hcn y false (by simp [f4]) W
            by_cases hxy : x = y
            · omega
            clear hcn f1 f2 f3 f4 hxy
            go_wp2_with fail
            clear hVe
            go_quiet (first
              | (go_at_call 32; (with_reducible refine Calls.quiet_of_same (hcx _)))
              | (go_at_call 32; (with_reducible refine Calls.quiet_of_same (hcy _))))
            go_wp2
            go_ret
            exact ⟨rfl, HU.out.trans ((by first | exact HBV.out | exact HBV.out.trans (below_drewN _ _ _) : Below U.heap.size U _).mono HU.out.size)⟩
          have hcy := fun W => hcn y true (by simp [f4]; omega) W
          by_cases f5 : x ∈ s
          case pos =>
            have hhs := fun q => rhas17_any a1 k c1 s x (V.drewN q) (by omega) (R1.out.below ((HU.out.trans (HBV.out.mono HU.out.size)).trans (below_drewN _ _ _)) (Nat.le_refl _)) true (by simpa using f5)
            clear hcn f1 f2 f3 f4 f5
            go_wp2_with fail
            clear hVe
            go_quiet (first
              | (go_at_call 32; (with_reducible refine Calls.quiet_of_same (hcx _)))
              | (go_at_call 32; (with_reducible refine Calls.quiet_of_same (hcy _)))
              | (go_at_call 33; go_loud (refine Calls.quiet_of_same (hhs _))))
            go_wp2
            go_ret
            exact ⟨rfl, HU.out.trans ((by first | exact HBV.out | exact HBV.out.trans (below_drewN _ _ _) : Below U.heap.size U _).mono HU.out.size)⟩
          have hhs := fun q => rhas17_any a1 k c1 s x (V.drewN q) (by omega) (R1.out.below ((HU.out.trans (HBV.out.mono HU.out.size)).trans (below_drewN _ _ _)) (Nat.le_refl _)) false (by simpa using f5)
          by_cases f6 : k = 0
          case pos =>
            have dn : ((k : Int) == 0) = true := by simp; omega
            subst f6
            clear hcn f1 f2 f3 f4 f5
            go_wp2_with fail
            clear hVe
            go_quiet (first
              | (go_at_call 32; (with_reducible refine Calls.quiet_of_same (hcx _)))
              | (go_at_call 32; (with_reducible refine Calls.quiet_of_same (hcy _)))
              | (go_at_call 33; go_loud (refine Calls.quiet_of_same (hhs _))))
            go_wp2
            go_ret
            exact ⟨rfl, HU.out.trans ((by first | exact HBV.out | exact HBV.out.trans (below_drewN _ _ _) : Below U.heap.size U _).mono HU.out.size)⟩
          obtain ⟨K, hkK⟩ : ∃ K, k = K + 1 := ⟨k - 1, by omega⟩
          have hlast : Ro.lastOf s = s.getD K 0 := last_get (by rw [T1.out]; exact hkK)
          obtain ⟨b', off', z, ea, hz, q2⟩ := zget R1.out (HU.out.trans (HBV.out.mono HU.out.size)) (show K < k by omega)
          subst ea
          have dn : ((k : Int) == 0) = false := by simp; omega
          have wk : IntKind.i64.wrap ((k : Int) - 1) = (K : Int) := by rw [IntKind.wrap_i64]; omega
          have o2 : (0 : Int) ≤ (K : Int) := by omega
          have o3 : (K : Int) < (k : Int) := by omega
          by_cases f7 : x ≤ z
          case neg =>
            have dz : decide (z < x) = true := by simp; omega
            clear hcn f1 f2 f3 f4 f5 f6 f7 hkK hlast hz
            go_wp2_with fail
            clear hVe
            go_quiet (first
              | (go_at_call 32; (with_reducible refine Calls.quiet_of_same (hcx _)))
              | (go_at_call 32; (with_reducible refine Calls.quiet_of_same (hcy _)))
              | (go_at_call 33; go_loud (refine Calls.quiet_of_same (hhs _))))
            go_wp2
            go_ret
            exact ⟨rfl, HU.out.trans ((by first | exact HBV.out | exact HBV.out.trans (below_drewN _ _ _) : Below U.heap.size U _).mono HU.out.size)⟩
          have dz : decide (z < x) = false := by simp; omega
          have hxz : x < z := by
            have : z ∈ s := by rw [← hz.out]; simp [show K < s.length by rw [T1.out]; omega]
            have : x ≠ z := fun e => f5 (e ▸ this)
            omega
          have HXF : Hid (0 < x ∧ x ≤ 2147483647 ∧ 0 < y ∧ y ≤ 2147483647 ∧ x ∉ s ∧ x < Ro.lastOf s) := (⟨f1, f3, f2, f4, f5, by rw [hlast, hz.out]; exact hxz⟩ : _ ∧ _)
          clear hcn f1 f2 f3 f4 f5 f6 f7 hkK hlast hz hxz
          go_wp2_with fail
          clear hVe
          go_quiet (first
            | (go_at_call 32; (with_reducible refine Calls.quiet_of_same (hcx _)))
            | (go_at_call 32; (with_reducible refine Calls.quiet_of_same (hcy _)))
            | (go_at_call 33; go_loud (refine Calls.quiet_of_same (hhs _))))
          go_wp2
          clear hcx hcy hhs j0 j1 j2 j3 j4 j5 j6 j7 j8 j9 j10 ja1 p0 p1 q0 q1 q2 dx dy dz dn wk o0 o1 o2 o3
          go_loopg [6] i (fun g2 kv wy => ∃ q : Nat, q + g2 = i ∧ kv = .int .i64 q ∧ Hid (∀ m, m < q → (ms.getD m (0, 0)).1 < x ∧ (ms.getD m (0, 0)).2 ≠ y) ∧ Hid (Below V.heap.size V wy))
          case atStart => exact ⟨0, by omega, rfl, (fun m hm => by omega : ∀ m, m < 0 → (ms.getD m (0, 0)).1 < x ∧ (ms.getD m (0, 0)).2 ≠ y), (below_drewN _ _ _ : Below _ _ _)⟩
          case round =>
            obtain ⟨q, hq, rfl, HIN, HBq⟩ := hrel
            have HBQ : Hid (Below U.heap.size U wr) := (HBV.out.trans (HBq.out.mono HBV.out.size) : Below _ _ _)
            cases gk with
            | zero =>
              obtain rfl : q = i := by omega
              have HG3 : Hid (∀ m, m < q + 1 → 0 < (ms.getD m (0, 0)).1 ∧ (ms.getD m (0, 0)).1 ≤ 2147483647 ∧ 0 < (ms.getD m (0, 0)).2 ∧ (ms.getD m (0, 0)).2 ≤ 2147483647 ∧ (ms.getD m (0, 0)).1 ∉ s ∧ (ms.getD m (0, 0)).1 < Ro.lastOf s ∧ ∀ q, q < m → (ms.getD q (0, 0)).1 < (ms.getD m (0, 0)).1 ∧ (ms.getD q (0, 0)).2 ≠ (ms.getD m (0, 0)).2) := (fun m hm => by
                rcases Nat.lt_or_ge m q with hmk | hmk
                · exact HG2.out m hmk
                · obtain rfl : m = q := by omega
                  obtain ⟨u1, u2, u3, u4, u5, u6⟩ := HXF.out
                  rw [HX.out]
                  exact ⟨u1, u2, u3, u4, u5, u6, HIN.out⟩ : ∀ m, m < q + 1 → 0 < (ms.getD m (0, 0)).1 ∧ (ms.getD m (0, 0)).1 ≤ 2147483647 ∧ 0 < (ms.getD m (0, 0)).2 ∧ (ms.getD m (0, 0)).2 ≤ 2147483647 ∧ (ms.getD m (0, 0)).1 ∉ s ∧ (ms.getD m (0, 0)).1 < Ro.lastOf s ∧ ∀ q, q < m → (ms.getD q (0, 0)).1 < (ms.getD m (0, 0)).1 ∧ (ms.getD q (0, 0)).2 ≠ (ms.getD m (0, 0)).2)
              clear HIN
              go_wp2
              go_roundg g
              case measure => omega
              case rel => exact ⟨q + 1, by omega, by go_num, HG3, HBQ⟩
            | succ g2 =>
              obtain ⟨b2, off2, x2, y2, e2', hx2, q0, q1⟩ := mget R2.out (HU.out.trans (HBQ.out.mono HU.out.size)) (show q < n2 by omega)
              simp only [Option.some.injEq, Addr.mk.injEq] at e2'
              obtain ⟨rfl, rfl, _⟩ := e2'
              have p0 := ((HBq.out.block _ (ob_ltB HEV.out)).trans HEV.out)
              have p1 := (blkc p0).1 1
              have p2 := (blkc p0).1 0
              have ja1 := (HV.out wr HBQ.out) 1
              have o0 : (0 : Int) ≤ (q : Int) := by omega
              have o1 : (q : Int) < (n2 : Int) := by omega
              have o2 : (q : Int) < (i : Int) := by omega
              clear p0
              by_cases f1 : x2 < x
              case neg =>
                have dq : decide (x ≤ x2) = true := by simp; omega
                clear hx2 f1 HIN
                go_wp2_with fail
                go_quiet (fail)
                go_wp2
                go_ret
                exact ⟨rfl, HU.out.trans ((by first | exact HBQ.out | exact HBQ.out.trans (below_drewN _ _ _) : Below U.heap.size U _).mono HU.out.size)⟩
              have dq : decide (x ≤ x2) = false := by simp; omega
              by_cases f2 : y2 = y
              case pos =>
                have dy : (y2 == y) = true := by simpa using f2
                clear hx2 f1 f2 HIN
                go_wp2_with fail
                go_quiet (fail)
                go_wp2
                go_ret
                exact ⟨rfl, HU.out.trans ((by first | exact HBQ.out | exact HBQ.out.trans (below_drewN _ _ _) : Below U.heap.size U _).mono HU.out.size)⟩
              have dy : (y2 == y) = false := by simpa using f2
              have HIN2 : Hid (∀ m, m < q + 1 → (ms.getD m (0, 0)).1 < x ∧ (ms.getD m (0, 0)).2 ≠ y) := (fun m hm => by
                rcases Nat.lt_or_ge m q with hmk | hmk
                · exact HIN.out m hmk
                · obtain rfl : m = q := by omega
                  rw [hx2.out]; exact ⟨f1, f2⟩ : ∀ m, m < q + 1 → (ms.getD m (0, 0)).1 < x ∧ (ms.getD m (0, 0)).2 ≠ y)
              clear hx2 f1 f2 HIN
              go_wp2_with fail
              go_quiet (fail)
              go_wp2
              go_roundg g2
              case measure => omega
              case rel => exact ⟨q + 1, by omega, by go_num, HIN2, (HBq.out.trans (below_drewN _ _ _) : Below _ _ _)⟩
        | zero =>
          obtain rfl : i = n2 := by omega
          exact absurd HG2.out HBB.out
end Go.Proofs.YtmodogmjfbcddaaGreat
