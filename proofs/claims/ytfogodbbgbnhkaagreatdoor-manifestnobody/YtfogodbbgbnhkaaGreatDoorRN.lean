/- The program's do, kind by kind. -/
import Derived.Test.YtfogodbbgbnhkaaGreatDoorRM
namespace Go.Proofs.YtfogodbbgbnhkaaGreatDoor
open Go.RowKit

set_option maxRecDepth 100000 in
set_option maxHeartbeats 2000000 in
theorem rdo1 (B p : Nat) (s : List Int) (ms : List (Int × Int)) (ts : List Lv.T) (ks : List (Int × Int × Int)) (a1 : Option Addr) (n1 c1 : Nat) (a2 : Option Addr) (n2 c2 : Nat) (a3 : Option Addr) (n3 c3 : Nat) (a4 : Option Addr) (n4 c4 : Nat) (i1 i2 i3 i4 i5 i6 i7 : Int) (w : World) (h : RSt B p w ⟨s, ms, ts, ks, i1, i2, i3, i4, i5, i6, i7⟩ a1 n1 c1 a2 n2 c2 a3 n3 c3 a4 n4 c4) (hB : B ≤ w.heap.size) (hn1 : n1 ≤ 100000) (hn2 : n2 ≤ 100000) (e2 e3 e4 e5 e6 e7 e8 e9 e10 : Int) (f g : ByteArray) :
    Calls Tryz.prog 32 #[.pointer (some ⟨p, 0, none⟩), ed12 1 e2 e3 e4 e5 e6 e7 e8 e9 e10 f g] w (DoRes B p w (!decide (e2 ≤ Ro.lastOf s) && !decide (e2 ≤ Ro.lastOf (ms.map (·.1)))) ⟨s ++ [e2], ms, ts, ks, i1, i2, i3, i4, i5, i6, i7⟩) := by
  obtain ⟨U, hU⟩ : ∃ U, U = w.alloc (oed 1 e2 e3 e4 e5 e6 e7 e8 e9 e10 f g) := ⟨_, rfl⟩
  have hbU : Below w.heap.size w U := by rw [hU]; exact below_alloc _ _
  have hq : U.heap[w.heap.size]? = some (oed 1 e2 e3 e4 e5 e6 e7 e8 e9 e10 f g) := by rw [hU]; exact heap_alloc_new _ _
  have hS := h.below hbU
  have hBU : B ≤ U.heap.size := Nat.le_trans hB hbU.size
  have y0 : U.cell? ⟨w.heap.size, 0, none⟩ = some (.int .i64 1) := (blkc hq).1 0
  have y1 := (blkc hq).1 1
  have HS : Hid (RSt B p U ⟨s, ms, ts, ks, i1, i2, i3, i4, i5, i6, i7⟩ a1 n1 c1 a2 n2 c2 a3 n3 c3 a4 n4 c4) := hS
  have HU : Hid (Below w.heap.size w U) := hbU
  have hUe : w.alloc (oed 1 e2 e3 e4 e5 e6 e7 e8 e9 e10 f g) = U := hU.symm
  have HQ : Hid (U.heap[w.heap.size]? = some (oed 1 e2 e3 e4 e5 e6 e7 e8 e9 e10 f g)) := hq
  have hpw : ¬ (p = w.heap.size) := by have := ob_ltB h.box; omega
  clear hU hq hS hbU h
  have HBU : Hid (Below B w U) := belowB HU.out hB
  have hco := rdoseg_any B p s ms ts ks a1 n1 c1 a2 n2 c2 a3 n3 c3 a4 n4 c4 i1 i2 i3 i4 i5 i6 i7 U HS.out hBU hn1 hn2 e2 _ rfl
  unfold DoRes at hco ⊢
  clear hB
  go_enter Tryz.func32, Tryz.ntmps32
  go_wp2_with (go_at_call 70; go_must (refine hco.mono ?_; rintro e w3 ⟨rfl, hx, hb3, hk3⟩))
  go_ret
  exact ⟨rfl, hx, (HBU.out).trans hb3, (RKeep.below HU.out).trans hk3⟩

set_option maxRecDepth 100000 in
set_option maxHeartbeats 2000000 in
theorem rdo2 (B p : Nat) (s : List Int) (ms : List (Int × Int)) (ts : List Lv.T) (ks : List (Int × Int × Int)) (a1 : Option Addr) (n1 c1 : Nat) (a2 : Option Addr) (n2 c2 : Nat) (a3 : Option Addr) (n3 c3 : Nat) (a4 : Option Addr) (n4 c4 : Nat) (i1 i2 i3 i4 i5 i6 i7 : Int) (w : World) (h : RSt B p w ⟨s, ms, ts, ks, i1, i2, i3, i4, i5, i6, i7⟩ a1 n1 c1 a2 n2 c2 a3 n3 c3 a4 n4 c4) (hB : B ≤ w.heap.size) (hn1 : n1 ≤ 100000) (hn2 : n2 ≤ 100000) (hs : s.Pairwise (· < ·)) (hm : (ms.map (·.1)).Pairwise (· ≤ ·)) (e2 e3 e4 e5 e6 e7 e8 e9 e10 : Int) (f g : ByteArray) :
    Calls Tryz.prog 32 #[.pointer (some ⟨p, 0, none⟩), ed12 2 e2 e3 e4 e5 e6 e7 e8 e9 e10 f g] w (DoRes B p w (decide (e3 ∈ s)) ⟨s.erase e3, if e2 = 0 then ms else Ro.ins (·.1) (e3, e2) ms, ts, ks, i1, i2, i3, i4, i5, i6, i7⟩) := by
  obtain ⟨U, hU⟩ : ∃ U, U = w.alloc (oed 2 e2 e3 e4 e5 e6 e7 e8 e9 e10 f g) := ⟨_, rfl⟩
  have hbU : Below w.heap.size w U := by rw [hU]; exact below_alloc _ _
  have hq : U.heap[w.heap.size]? = some (oed 2 e2 e3 e4 e5 e6 e7 e8 e9 e10 f g) := by rw [hU]; exact heap_alloc_new _ _
  have hS := h.below hbU
  have hBU : B ≤ U.heap.size := Nat.le_trans hB hbU.size
  have y0 : U.cell? ⟨w.heap.size, 0, none⟩ = some (.int .i64 2) := (blkc hq).1 0
  have y1 := (blkc hq).1 1
  have y2 := (blkc hq).1 2
  have HS : Hid (RSt B p U ⟨s, ms, ts, ks, i1, i2, i3, i4, i5, i6, i7⟩ a1 n1 c1 a2 n2 c2 a3 n3 c3 a4 n4 c4) := hS
  have HU : Hid (Below w.heap.size w U) := hbU
  have hUe : w.alloc (oed 2 e2 e3 e4 e5 e6 e7 e8 e9 e10 f g) = U := hU.symm
  have HQ : Hid (U.heap[w.heap.size]? = some (oed 2 e2 e3 e4 e5 e6 e7 e8 e9 e10 f g)) := hq
  have hpw : ¬ (p = w.heap.size) := by have := ob_ltB h.box; omega
  clear hU hq hS hbU h
  have HBU : Hid (Below B w U) := belowB HU.out hB
  obtain ⟨MM, hMM⟩ : ∃ MM, MM = (if e2 = 0 then ms else Ro.ins (·.1) (e3, e2) ms) := ⟨_, rfl⟩
  have hco := rdomove_any B p s ms ts ks a1 n1 c1 a2 n2 c2 a3 n3 c3 a4 n4 c4 i1 i2 i3 i4 i5 i6 i7 U HS.out hBU hn1 hn2 hs hm e3 e2
  rw [← hMM] at hco ⊢
  clear hMM
  unfold DoRes at hco ⊢
  clear hB
  go_enter Tryz.func32, Tryz.ntmps32
  go_wp2_with (go_at_call 71; go_must (refine hco.mono ?_; rintro e w3 ⟨rfl, hx, hb3, hk3⟩))
  go_ret
  exact ⟨rfl, hx, (HBU.out).trans hb3, (RKeep.below HU.out).trans hk3⟩

set_option maxRecDepth 100000 in
set_option maxHeartbeats 2000000 in
theorem rdo8 (B p : Nat) (s : List Int) (ms : List (Int × Int)) (ts : List Lv.T) (ks : List (Int × Int × Int)) (a1 : Option Addr) (n1 c1 : Nat) (a2 : Option Addr) (n2 c2 : Nat) (a3 : Option Addr) (n3 c3 : Nat) (a4 : Option Addr) (n4 c4 : Nat) (i1 i2 i3 i4 i5 i6 i7 : Int) (w : World) (h : RSt B p w ⟨s, ms, ts, ks, i1, i2, i3, i4, i5, i6, i7⟩ a1 n1 c1 a2 n2 c2 a3 n3 c3 a4 n4 c4) (hB : B ≤ w.heap.size) (e2 e3 e4 e5 e6 e7 e8 e9 e10 : Int) (f g : ByteArray) :
    Calls Tryz.prog 32 #[.pointer (some ⟨p, 0, none⟩), ed12 8 e2 e3 e4 e5 e6 e7 e8 e9 e10 f g] w (DoRes B p w (!decide (e2 < i1) && !decide (e3 < i2)) ⟨s, ms, ts, ks, e2, e3, e4, e5, e6, e7, i7⟩) := by
  obtain ⟨U, hU⟩ : ∃ U, U = w.alloc (oed 8 e2 e3 e4 e5 e6 e7 e8 e9 e10 f g) := ⟨_, rfl⟩
  have hbU : Below w.heap.size w U := by rw [hU]; exact below_alloc _ _
  have hq : U.heap[w.heap.size]? = some (oed 8 e2 e3 e4 e5 e6 e7 e8 e9 e10 f g) := by rw [hU]; exact heap_alloc_new _ _
  have hS := h.below hbU
  have hBU : B ≤ U.heap.size := Nat.le_trans hB hbU.size
  have y0 : U.cell? ⟨w.heap.size, 0, none⟩ = some (.int .i64 8) := (blkc hq).1 0
  have y1 := (blkc hq).1 1
  have y2 := (blkc hq).1 2
  have y3 := (blkc hq).1 3
  have y4 := (blkc hq).1 4
  have y5 := (blkc hq).1 5
  have y6 := (blkc hq).1 6
  have y7 := (blkc hq).1 7
  have y8 := (blkc hq).1 8
  have y9 := (blkc hq).1 9
  have y10 := (blkc hq).1 10
  have y11 := (blkc hq).1 11
  have HS : Hid (RSt B p U ⟨s, ms, ts, ks, i1, i2, i3, i4, i5, i6, i7⟩ a1 n1 c1 a2 n2 c2 a3 n3 c3 a4 n4 c4) := hS
  have HU : Hid (Below w.heap.size w U) := hbU
  have hUe : w.alloc (oed 8 e2 e3 e4 e5 e6 e7 e8 e9 e10 f g) = U := hU.symm
  have HQ : Hid (U.heap[w.heap.size]? = some (oed 8 e2 e3 e4 e5 e6 e7 e8 e9 e10 f g)) := hq
  have hpw : ¬ (p = w.heap.size) := by have := ob_ltB h.box; omega
  clear hU hq hS hbU h
  have HBU : Hid (Below B w U) := belowB HU.out hB
  have hco := rdobase_any B p s ms ts ks a1 n1 c1 a2 n2 c2 a3 n3 c3 a4 n4 c4 i1 i2 i3 i4 i5 i6 i7 U HS.out hBU 8 e2 e3 e4 e5 e6 e7 e8 e9 e10 f g _ rfl
  unfold DoRes at hco ⊢
  clear hB
  go_enter Tryz.func32, Tryz.ntmps32
  go_wp2_with (go_at_call 79; go_must (refine hco.mono ?_; rintro e w3 ⟨rfl, hx, hb3, hk3⟩))
  go_ret
  exact ⟨rfl, hx, (HBU.out).trans hb3, (RKeep.below HU.out).trans hk3⟩

set_option maxRecDepth 100000 in
set_option maxHeartbeats 2000000 in
theorem rdo9 (B p : Nat) (s : List Int) (ms : List (Int × Int)) (ts : List Lv.T) (ks : List (Int × Int × Int)) (a1 : Option Addr) (n1 c1 : Nat) (a2 : Option Addr) (n2 c2 : Nat) (a3 : Option Addr) (n3 c3 : Nat) (a4 : Option Addr) (n4 c4 : Nat) (i1 i2 i3 i4 i5 i6 i7 : Int) (w : World) (h : RSt B p w ⟨s, ms, ts, ks, i1, i2, i3, i4, i5, i6, i7⟩ a1 n1 c1 a2 n2 c2 a3 n3 c3 a4 n4 c4) (hB : B ≤ w.heap.size) (e2 e3 e4 e5 e6 e7 e8 e9 e10 : Int) (f g : ByteArray) :
    Calls Tryz.prog 32 #[.pointer (some ⟨p, 0, none⟩), ed12 9 e2 e3 e4 e5 e6 e7 e8 e9 e10 f g] w (DoRes B p w (!decide (e3 < i7)) ⟨s, ms, ts, ks, i1, i2, i3, i4, i5, i6, e3⟩) := by
  obtain ⟨U, hU⟩ : ∃ U, U = w.alloc (oed 9 e2 e3 e4 e5 e6 e7 e8 e9 e10 f g) := ⟨_, rfl⟩
  have hbU : Below w.heap.size w U := by rw [hU]; exact below_alloc _ _
  have hq : U.heap[w.heap.size]? = some (oed 9 e2 e3 e4 e5 e6 e7 e8 e9 e10 f g) := by rw [hU]; exact heap_alloc_new _ _
  have hS := h.below hbU
  have y0 : U.cell? ⟨w.heap.size, 0, none⟩ = some (.int .i64 9) := (blkc hq).1 0
  have y2 := (blkc hq).1 2
  have HS : Hid (RSt B p U ⟨s, ms, ts, ks, i1, i2, i3, i4, i5, i6, i7⟩ a1 n1 c1 a2 n2 c2 a3 n3 c3 a4 n4 c4) := hS
  have HU : Hid (Below w.heap.size w U) := hbU
  have hUe : w.alloc (oed 9 e2 e3 e4 e5 e6 e7 e8 e9 e10 f g) = U := hU.symm
  have HQ : Hid (U.heap[w.heap.size]? = some (oed 9 e2 e3 e4 e5 e6 e7 e8 e9 e10 f g)) := hq
  have hpw : ¬ (p = w.heap.size) := by have := ob_ltB h.box; omega
  clear hU hq hS hbU h
  have HBU : Hid (Below B w U) := belowB HU.out hB
  have hco := rdomark_any B p s ms ts ks a1 n1 c1 a2 n2 c2 a3 n3 c3 a4 n4 c4 i1 i2 i3 i4 i5 i6 i7 U HS.out e3
  unfold DoRes at hco ⊢
  clear hB
  go_enter Tryz.func32, Tryz.ntmps32
  go_wp2_with (go_at_call 80; go_must (refine hco.mono ?_; rintro e w3 ⟨rfl, hx, hb3, hk3⟩))
  go_ret
  exact ⟨rfl, hx, (HBU.out).trans hb3, (RKeep.below HU.out).trans hk3⟩

set_option maxRecDepth 100000 in
set_option maxHeartbeats 2000000 in
theorem rdo3 (B p : Nat) (s : List Int) (ms : List (Int × Int)) (ts : List Lv.T) (ks : List (Int × Int × Int)) (a1 : Option Addr) (n1 c1 : Nat) (a2 : Option Addr) (n2 c2 : Nat) (a3 : Option Addr) (n3 c3 : Nat) (a4 : Option Addr) (n4 c4 : Nat) (i1 i2 i3 i4 i5 i6 i7 : Int) (w : World) (h : RSt B p w ⟨s, ms, ts, ks, i1, i2, i3, i4, i5, i6, i7⟩ a1 n1 c1 a2 n2 c2 a3 n3 c3 a4 n4 c4) (hB : B ≤ w.heap.size) (hn : n2 ≤ 100000) (e2 e3 e4 e5 e6 e7 e8 e9 e10 : Int) (f g : ByteArray) :
    Calls Tryz.prog 32 #[.pointer (some ⟨p, 0, none⟩), ed12 3 e2 e3 e4 e5 e6 e7 e8 e9 e10 f g] w (DoRes B p w (decide ((Ro.out (·.1) e3 ms).length < n2)) ⟨s, Ro.out (·.1) e3 ms, ts, ks, i1, i2, i3, i4, i5, i6, i7⟩) := by
  obtain ⟨U, hU⟩ : ∃ U, U = w.alloc (oed 3 e2 e3 e4 e5 e6 e7 e8 e9 e10 f g) := ⟨_, rfl⟩
  have hbU : Below w.heap.size w U := by rw [hU]; exact below_alloc _ _
  have hq : U.heap[w.heap.size]? = some (oed 3 e2 e3 e4 e5 e6 e7 e8 e9 e10 f g) := by rw [hU]; exact heap_alloc_new _ _
  have hS := h.below hbU
  have hBU : B ≤ U.heap.size := Nat.le_trans hB hbU.size
  have y0 : U.cell? ⟨w.heap.size, 0, none⟩ = some (.int .i64 3) := (blkc hq).1 0
  have x1 := (blkc hS.box).1 1
  have y2 := (blkc hq).1 2
  have HS : Hid (RSt B p U ⟨s, ms, ts, ks, i1, i2, i3, i4, i5, i6, i7⟩ a1 n1 c1 a2 n2 c2 a3 n3 c3 a4 n4 c4) := hS
  have HU : Hid (Below w.heap.size w U) := hbU
  have hUe : w.alloc (oed 3 e2 e3 e4 e5 e6 e7 e8 e9 e10 f g) = U := hU.symm
  have HQ : Hid (U.heap[w.heap.size]? = some (oed 3 e2 e3 e4 e5 e6 e7 e8 e9 e10 f g)) := hq
  have hpw : ¬ (p = w.heap.size) := by have := ob_ltB h.box; omega
  clear hU hq hS hbU h
  have hwo := fun W ho => rwithout_m (·.1) 73 (by intro args w; rfl) (fun x y W => rmseg_any x y W) e3 a2 n2 c2 B ms W (by omega) ho
  generalize Ro.out (·.1) e3 ms = K at *
  obtain ⟨R, hR⟩ : ∃ R, R = decide (K.length < n2) := ⟨_, rfl⟩
  rw [← hR] at hwo ⊢
  clear hR
  go_enter Tryz.func32, Tryz.ntmps32
  go_wp2_with fail
  clear hUe
  go_region_with
    ((go_at_call 72; go_must (refine (hwo _ (own_drew HS.out.own.o2)).mono ?_; rintro e w5 ⟨a', c', rfl, hown5, hg5⟩; obtain ⟨bx5, st5, kp5, be5⟩ := HS.out.turn2 hBU (grown_of_drew hg5) hown5; have u1 := (blkc bx5).1 1; have uf := (blkc bx5).2 1; have ST5 : Hid (RSt B p _ _ a1 n1 c1 a' K.length c' a3 n3 c3 a4 n4 c4) := st5; clear st5 bx5)))
  all_goals
    go_wp2
    go_ret
    exact ⟨rfl, fun _ => ⟨a1, n1, c1, a', K.length, c', a3, n3, c3, a4, n4, c4, ST5.out⟩, (belowB HU.out hB).trans be5, (RKeep.below HU.out).trans kp5⟩

end Go.Proofs.YtfogodbbgbnhkaaGreatDoor
