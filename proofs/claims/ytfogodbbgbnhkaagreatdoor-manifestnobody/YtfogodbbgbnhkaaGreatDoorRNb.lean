/- The program's do, kind by kind. -/
import Derived.Test.YtfogodbbgbnhkaaGreatDoorRM
namespace Go.Proofs.YtfogodbbgbnhkaaGreatDoor
open Go.RowKit

set_option maxRecDepth 100000 in
set_option maxHeartbeats 2000000 in
theorem rdo5 (B p : Nat) (s : List Int) (ms : List (Int × Int)) (ts : List Lv.T) (ks : List (Int × Int × Int)) (a1 : Option Addr) (n1 c1 : Nat) (a2 : Option Addr) (n2 c2 : Nat) (a3 : Option Addr) (n3 c3 : Nat) (a4 : Option Addr) (n4 c4 : Nat) (i1 i2 i3 i4 i5 i6 i7 : Int) (w : World) (h : RSt B p w ⟨s, ms, ts, ks, i1, i2, i3, i4, i5, i6, i7⟩ a1 n1 c1 a2 n2 c2 a3 n3 c3 a4 n4 c4) (hB : B ≤ w.heap.size) (hn : n3 ≤ 100000) (e2 e3 e4 e5 e6 e7 e8 e9 e10 : Int) (f g : ByteArray) :
    Calls Tryz.prog 32 #[.pointer (some ⟨p, 0, none⟩), ed12 5 e2 e3 e4 e5 e6 e7 e8 e9 e10 f g] w (DoRes B p w (decide ((Ro.out (·.num) e2 ts).length < n3)) ⟨s, ms, Ro.out (·.num) e2 ts, ks, i1, i2, i3, i4, i5, i6, i7⟩) := by
  obtain ⟨U, hU⟩ : ∃ U, U = w.alloc (oed 5 e2 e3 e4 e5 e6 e7 e8 e9 e10 f g) := ⟨_, rfl⟩
  have hbU : Below w.heap.size w U := by rw [hU]; exact below_alloc _ _
  have hq : U.heap[w.heap.size]? = some (oed 5 e2 e3 e4 e5 e6 e7 e8 e9 e10 f g) := by rw [hU]; exact heap_alloc_new _ _
  have hS := h.below hbU
  have hBU : B ≤ U.heap.size := Nat.le_trans hB hbU.size
  have y0 : U.cell? ⟨w.heap.size, 0, none⟩ = some (.int .i64 5) := (blkc hq).1 0
  have x2 := (blkc hS.box).1 2
  have y1 := (blkc hq).1 1
  have HS : Hid (RSt B p U ⟨s, ms, ts, ks, i1, i2, i3, i4, i5, i6, i7⟩ a1 n1 c1 a2 n2 c2 a3 n3 c3 a4 n4 c4) := hS
  have HU : Hid (Below w.heap.size w U) := hbU
  have hUe : w.alloc (oed 5 e2 e3 e4 e5 e6 e7 e8 e9 e10 f g) = U := hU.symm
  have HQ : Hid (U.heap[w.heap.size]? = some (oed 5 e2 e3 e4 e5 e6 e7 e8 e9 e10 f g)) := hq
  have hpw : ¬ (p = w.heap.size) := by have := ob_ltB h.box; omega
  clear hU hq hS hbU h
  have hwo := fun W ho => rwithout_t (·.num) 75 (by intro args w; rfl) (fun x1 x2 x3 x4 x5 W => rtnum_any x1 x2 x3 x4 x5 W) e2 a3 n3 c3 B ts W (by omega) ho
  generalize Ro.out (·.num) e2 ts = K at *
  obtain ⟨R, hR⟩ : ∃ R, R = decide (K.length < n3) := ⟨_, rfl⟩
  rw [← hR] at hwo ⊢
  clear hR
  go_enter Tryz.func32, Tryz.ntmps32
  go_wp2_with fail
  clear hUe
  go_region_with
    ((go_at_call 74; go_must (refine (hwo _ (own_drew HS.out.own.o3)).mono ?_; rintro e w5 ⟨a', c', rfl, hown5, hg5⟩; obtain ⟨bx5, st5, kp5, be5⟩ := HS.out.turn3 hBU (grown_of_drew hg5) hown5; have u1 := (blkc bx5).1 2; have uf := (blkc bx5).2 2; have ST5 : Hid (RSt B p _ _ a1 n1 c1 a2 n2 c2 a' K.length c' a4 n4 c4) := st5; clear st5 bx5)))
  all_goals
    go_wp2
    go_ret
    exact ⟨rfl, fun _ => ⟨a1, n1, c1, a2, n2, c2, a', K.length, c', a4, n4, c4, ST5.out⟩, (belowB HU.out hB).trans be5, (RKeep.below HU.out).trans kp5⟩

set_option maxRecDepth 100000 in
set_option maxHeartbeats 2000000 in
theorem rdo7 (B p : Nat) (s : List Int) (ms : List (Int × Int)) (ts : List Lv.T) (ks : List (Int × Int × Int)) (a1 : Option Addr) (n1 c1 : Nat) (a2 : Option Addr) (n2 c2 : Nat) (a3 : Option Addr) (n3 c3 : Nat) (a4 : Option Addr) (n4 c4 : Nat) (i1 i2 i3 i4 i5 i6 i7 : Int) (w : World) (h : RSt B p w ⟨s, ms, ts, ks, i1, i2, i3, i4, i5, i6, i7⟩ a1 n1 c1 a2 n2 c2 a3 n3 c3 a4 n4 c4) (hB : B ≤ w.heap.size) (hn : n4 ≤ 100000) (e2 e3 e4 e5 e6 e7 e8 e9 e10 : Int) (f g : ByteArray) :
    Calls Tryz.prog 32 #[.pointer (some ⟨p, 0, none⟩), ed12 7 e2 e3 e4 e5 e6 e7 e8 e9 e10 f g] w (DoRes B p w (decide ((Ro.out (·.2.1) e3 ks).length < n4)) ⟨s, ms, ts, Ro.out (·.2.1) e3 ks, i1, i2, i3, i4, i5, i6, i7⟩) := by
  obtain ⟨U, hU⟩ : ∃ U, U = w.alloc (oed 7 e2 e3 e4 e5 e6 e7 e8 e9 e10 f g) := ⟨_, rfl⟩
  have hbU : Below w.heap.size w U := by rw [hU]; exact below_alloc _ _
  have hq : U.heap[w.heap.size]? = some (oed 7 e2 e3 e4 e5 e6 e7 e8 e9 e10 f g) := by rw [hU]; exact heap_alloc_new _ _
  have hS := h.below hbU
  have hBU : B ≤ U.heap.size := Nat.le_trans hB hbU.size
  have y0 : U.cell? ⟨w.heap.size, 0, none⟩ = some (.int .i64 7) := (blkc hq).1 0
  have x3 := (blkc hS.box).1 3
  have y2 := (blkc hq).1 2
  have HS : Hid (RSt B p U ⟨s, ms, ts, ks, i1, i2, i3, i4, i5, i6, i7⟩ a1 n1 c1 a2 n2 c2 a3 n3 c3 a4 n4 c4) := hS
  have HU : Hid (Below w.heap.size w U) := hbU
  have hUe : w.alloc (oed 7 e2 e3 e4 e5 e6 e7 e8 e9 e10 f g) = U := hU.symm
  have HQ : Hid (U.heap[w.heap.size]? = some (oed 7 e2 e3 e4 e5 e6 e7 e8 e9 e10 f g)) := hq
  have hpw : ¬ (p = w.heap.size) := by have := ob_ltB h.box; omega
  clear hU hq hS hbU h
  have hwo := fun W ho => rwithout_k (·.2.1) 77 (by intro args w; rfl) (fun x y z W => rkidx_any x y z W) e3 a4 n4 c4 B ks W (by omega) ho
  generalize Ro.out (·.2.1) e3 ks = K at *
  obtain ⟨R, hR⟩ : ∃ R, R = decide (K.length < n4) := ⟨_, rfl⟩
  rw [← hR] at hwo ⊢
  clear hR
  go_enter Tryz.func32, Tryz.ntmps32
  go_wp2_with fail
  clear hUe
  go_region_with
    ((go_at_call 78; go_must (refine (hwo _ (own_drew HS.out.own.o4)).mono ?_; rintro e w5 ⟨a', c', rfl, hown5, hg5⟩; obtain ⟨bx5, st5, kp5, be5⟩ := HS.out.turn4 hBU (grown_of_drew hg5) hown5; have u1 := (blkc bx5).1 3; have uf := (blkc bx5).2 3; have ST5 : Hid (RSt B p _ _ a1 n1 c1 a2 n2 c2 a3 n3 c3 a' K.length c') := st5; clear st5 bx5)))
  all_goals
    go_wp2
    go_ret
    exact ⟨rfl, fun _ => ⟨a1, n1, c1, a2, n2, c2, a3, n3, c3, a', K.length, c', ST5.out⟩, (belowB HU.out hB).trans be5, (RKeep.below HU.out).trans kp5⟩

set_option maxRecDepth 100000 in
set_option maxHeartbeats 2000000 in
theorem rdo6 (B p : Nat) (s : List Int) (ms : List (Int × Int)) (ts : List Lv.T) (ks : List (Int × Int × Int)) (a1 : Option Addr) (n1 c1 : Nat) (a2 : Option Addr) (n2 c2 : Nat) (a3 : Option Addr) (n3 c3 : Nat) (a4 : Option Addr) (n4 c4 : Nat) (i1 i2 i3 i4 i5 i6 i7 : Int) (w : World) (h : RSt B p w ⟨s, ms, ts, ks, i1, i2, i3, i4, i5, i6, i7⟩ a1 n1 c1 a2 n2 c2 a3 n3 c3 a4 n4 c4) (hB : B ≤ w.heap.size) (hn : n4 ≤ 100000) (hm : (ks.map (·.2.1)).Pairwise (· ≤ ·)) (e2 e3 e4 e5 e6 e7 e8 e9 e10 : Int) (f g : ByteArray) :
    Calls Tryz.prog 32 #[.pointer (some ⟨p, 0, none⟩), ed12 6 e2 e3 e4 e5 e6 e7 e8 e9 e10 f g] w (DoRes B p w true ⟨s, ms, ts, Ro.ins (·.2.1) (e2, e3, e4) ks, i1, i2, i3, i4, i5, i6, i7⟩) := by
  obtain ⟨U, hU⟩ : ∃ U, U = w.alloc (oed 6 e2 e3 e4 e5 e6 e7 e8 e9 e10 f g) := ⟨_, rfl⟩
  have hbU : Below w.heap.size w U := by rw [hU]; exact below_alloc _ _
  have hq : U.heap[w.heap.size]? = some (oed 6 e2 e3 e4 e5 e6 e7 e8 e9 e10 f g) := by rw [hU]; exact heap_alloc_new _ _
  have hS := h.below hbU
  have hBU : B ≤ U.heap.size := Nat.le_trans hB hbU.size
  have y0 : U.cell? ⟨w.heap.size, 0, none⟩ = some (.int .i64 6) := (blkc hq).1 0
  have x3 := (blkc hS.box).1 3
  have y1 := (blkc hq).1 1
  have y2 := (blkc hq).1 2
  have y3 := (blkc hq).1 3
  have HS : Hid (RSt B p U ⟨s, ms, ts, ks, i1, i2, i3, i4, i5, i6, i7⟩ a1 n1 c1 a2 n2 c2 a3 n3 c3 a4 n4 c4) := hS
  have HU : Hid (Below w.heap.size w U) := hbU
  have hUe : w.alloc (oed 6 e2 e3 e4 e5 e6 e7 e8 e9 e10 f g) = U := hU.symm
  have HQ : Hid (U.heap[w.heap.size]? = some (oed 6 e2 e3 e4 e5 e6 e7 e8 e9 e10 f g)) := hq
  have hpw : ¬ (p = w.heap.size) := by have := ob_ltB h.box; omega
  clear hU hq hS hbU h
  have ham := fun W ho hW => ramong_k (·.2.1) 77 (by intro args w; rfl) (fun x y z W => rkidx_any x y z W) e2 e3 e4 a4 n4 c4 B ks W (by omega) ho hW hm
  unfold InsResG at ham
  generalize Ro.ins (·.2.1) (e2, e3, e4) ks = L at *
  clear hm
  go_enter Tryz.func32, Tryz.ntmps32
  go_wp2_with fail
  clear hUe
  refine wp_region_held_drew (S := (fun W => W.cell? ⟨w.heap.size, 1, none⟩ = some (.int .i64 e2) ∧ W.cell? ⟨w.heap.size, 2, none⟩ = some (.int .i64 e3) ∧ W.cell? ⟨w.heap.size, 3, none⟩ = some (.int .i64 e4))) (by kernel_rfl) (by first | go_keep | (refine ⟨?_, ?_, ?_⟩ <;> assumption)) (fun hHeld => ?_)
  refine wpAnyH_take (i := 0) (oi := ⟨some 69, _, _, _, _, _⟩) (v := ?_) rfl (by kernel_rfl) (by kernel_rfl) (by kernel_rfl) (fun _ _ _ h => h) (Or.inl ⟨by rfl, ?_⟩) (by assumption) ?_
  rotate_left
  · intro w hSw; (try dsimp only at hSw); go_simp <;> (try with_reducible rfl)
  go_frame
  refine wpAnyH_take (i := 1) (oi := ⟨some 70, _, _, _, _, _⟩) (v := ?_) rfl (by kernel_rfl) (by kernel_rfl) (by kernel_rfl) (fun _ _ _ h => h) (Or.inl ⟨by rfl, ?_⟩) (by assumption) ?_
  rotate_left
  · intro w hSw; (try dsimp only at hSw); go_simp <;> (try with_reducible rfl)
  go_frame
  refine wpAnyH_take (i := 2) (oi := ⟨some 71, _, _, _, _, _⟩) (v := ?_) rfl (by kernel_rfl) (by kernel_rfl) (by kernel_rfl) (fun _ _ _ h => h) (Or.inl ⟨by rfl, ?_⟩) (by assumption) ?_
  rotate_left
  · intro w hSw; (try dsimp only at hSw); go_simp <;> (try with_reducible rfl)
  go_frame
  refine wpAnyH_take (i := 3) (oi := ⟨some 72, _, _, _, _, _⟩) (v := ?_) rfl (by kernel_rfl) (by kernel_rfl) (by kernel_rfl) (fun _ _ _ h => h) (Or.inl ⟨by rfl, ?_⟩) (by assumption) ?_
  rotate_left
  · intro w hSw; (try dsimp only at hSw); go_simp <;> (try with_reducible rfl)
  go_frame
  refine wpAnyH_take (i := 5) (oi := ⟨some 74, _, _, _, _, _⟩) (v := ?_) rfl (by kernel_rfl) (by kernel_rfl) (by kernel_rfl) (fun _ _ _ h => h) (Or.inl ⟨by rfl, ?_⟩) (by assumption) ?_
  rotate_left
  · intro w hSw; (try dsimp only at hSw); go_simp <;> (try with_reducible rfl)
  go_frame
  refine wpAnyH_take (i := 6) (oi := ⟨some 75, _, _, _, _, _⟩) (v := ?_) rfl (by kernel_rfl) (by kernel_rfl) (by kernel_rfl) (fun _ _ _ h => h) (Or.inl ⟨by rfl, ?_⟩) (by assumption) ?_
  rotate_left
  · intro w hSw; (try dsimp only at hSw); go_simp <;> (try with_reducible rfl)
  go_frame
  refine wpAnyH_take (i := 7) (oi := ⟨some 76, _, _, _, _, _⟩) (v := ?_) rfl (by kernel_rfl) (by kernel_rfl) (by kernel_rfl) (fun _ _ _ h => h) (Or.inl ⟨by rfl, ?_⟩) (by assumption) ?_
  rotate_left
  · intro w hSw; (try dsimp only at hSw); go_simp <;> (try with_reducible rfl)
  go_frame
  refine wpAnyH_take (i := 8) (oi := ⟨some 77, _, _, _, _, _⟩) (v := ?_) rfl (by kernel_rfl) (by kernel_rfl) (by kernel_rfl) (fun _ _ _ h => h) (Or.inl ⟨by rfl, ?_⟩) (by assumption) ?_
  rotate_left
  · intro w hSw; (try dsimp only at hSw); go_simp <;> (try with_reducible rfl)
  go_frame
  refine wpAnyH_take (i := 9) (oi := ⟨some 78, _, _, _, _, _⟩) (v := ?_) rfl (by kernel_rfl) (by kernel_rfl) (by kernel_rfl) (fun _ _ _ h => h) (Or.inl ⟨by rfl, ?_⟩) (by assumption) ?_
  rotate_left
  · intro w hSw; (try dsimp only at hSw); go_simp <;> (try with_reducible rfl)
  go_frame
  refine wpAnyH_take (i := 10) (oi := ⟨some 79, _, _, _, _, _⟩) (v := ?_) rfl (by kernel_rfl) (by kernel_rfl) (by kernel_rfl) (fun _ _ _ h => h) (Or.inl ⟨by rfl, ?_⟩) (by assumption) ?_
  rotate_left
  · intro w hSw; (try dsimp only at hSw); go_simp <;> (try with_reducible rfl)
  go_frame
  refine wpAnyH_take (i := 11) (oi := ⟨some 80, _, _, _, _, _⟩) (v := ?_) rfl (by kernel_rfl) (by kernel_rfl) (by kernel_rfl) (fun _ _ _ h => h) (Or.inl ⟨by rfl, ?_⟩) (by assumption) ?_
  rotate_left
  · intro w hSw; (try dsimp only at hSw); go_simp <;> (try with_reducible rfl)
  go_frame
  refine wpAnyH_ready (rs := [4]) (by kernel_rfl) (by simp) ?_
  refine AllReadyH.cons rfl (fun K hK => ?_) AllReadyH.nil
  go_simp
  refine hK.out _ _ (by first | go_keep | (refine ⟨?_, ?_, ?_⟩ <;> assumption)) (fun hHeld => ?_)
  clear hK K
  refine wpAnyH_ready (rs := [12]) (by kernel_rfl) (by simp) ?_
  refine AllReadyH.cons rfl (fun K hK => ?_) AllReadyH.nil
  go_simp; go_at_call 76; refine (ham _ (own_drew HS.out.own.o4) hBU).mono ?_; rintro e w5 ⟨a', c', rfl, hown5, hg5⟩; obtain ⟨bx5, st5, kp5, be5⟩ := HS.out.turn4 hBU (grown_of_drew hg5) hown5; have u1 := (blkc bx5).1 3; have uf := (blkc bx5).2 3; have hE5 := (hg5.block _ (ob_ltB HQ.out) (obr_apart HQ.out HS.out.own.o4 (by decide))).trans HQ.out; have r1 : w5.cell? ⟨w.heap.size, 1, none⟩ = some (.int .i64 e2) := (blkc hE5).1 1; have r2 : w5.cell? ⟨w.heap.size, 2, none⟩ = some (.int .i64 e3) := (blkc hE5).1 2; have r3 : w5.cell? ⟨w.heap.size, 3, none⟩ = some (.int .i64 e4) := (blkc hE5).1 3; have ST5 : Hid (RSt B p _ _ a1 n1 c1 a2 n2 c2 a3 n3 c3 a' L.length c') := st5; clear st5 bx5 hE5
  refine hK.out _ _ ⟨r1, r2, r3⟩ (fun hHeld => ?_)
  clear hK K
  try go_frame
  refine wpAnyH_take (i := 13) (oi := ⟨some 82, _, _, _, _, _⟩) (v := ?_) rfl (by kernel_rfl) (by kernel_rfl) (by kernel_rfl) (fun _ _ _ h => h) (Or.inl ⟨by rfl, ?_⟩) (by assumption) ?_
  rotate_left
  · intro w hSw; (try dsimp only at hSw); go_simp <;> (try with_reducible rfl)
  go_frame
  refine wpAnyH_take (i := 14) (oi := ⟨some 83, _, _, _, _, _⟩) (v := ?_) rfl (by kernel_rfl) (by kernel_rfl) (by kernel_rfl) (fun _ _ _ h => h) (Or.inl ⟨by rfl, ?_⟩) (by assumption) ?_
  rotate_left
  · intro w hSw; (try dsimp only at hSw); go_simp <;> (try with_reducible rfl)
  go_frame
  refine wpAnyH_ready (rs := [15]) (by kernel_rfl) (by simp) ?_
  refine AllReadyH.cons rfl (fun K hK => ?_) AllReadyH.nil
  go_simp
  refine hK.out _ _ ⟨(World.cell?_setCell_other _ _ _ _ (fun e => hpw (Addr.mk.inj e).1)).trans r1, (World.cell?_setCell_other _ _ _ _ (fun e => hpw (Addr.mk.inj e).1)).trans r2, (World.cell?_setCell_other _ _ _ _ (fun e => hpw (Addr.mk.inj e).1)).trans r3⟩ (fun hHeld => ?_)
  clear hK K
  refine wpAnyH_done (by kernel_rfl) ?_ _
  clear y1 y2 y3
  go_wp2
  go_ret
  exact ⟨rfl, fun _ => ⟨a1, n1, c1, a2, n2, c2, a3, n3, c3, a', L.length, c', ST5.out⟩, (belowB HU.out hB).trans be5, (RKeep.below HU.out).trans kp5⟩

set_option maxRecDepth 100000 in
set_option maxHeartbeats 2000000 in
theorem rdo4 (B p : Nat) (s : List Int) (ms : List (Int × Int)) (ts : List Lv.T) (ks : List (Int × Int × Int)) (a1 : Option Addr) (n1 c1 : Nat) (a2 : Option Addr) (n2 c2 : Nat) (a3 : Option Addr) (n3 c3 : Nat) (a4 : Option Addr) (n4 c4 : Nat) (i1 i2 i3 i4 i5 i6 i7 : Int) (w : World) (h : RSt B p w ⟨s, ms, ts, ks, i1, i2, i3, i4, i5, i6, i7⟩ a1 n1 c1 a2 n2 c2 a3 n3 c3 a4 n4 c4) (hB : B ≤ w.heap.size) (hn : n3 ≤ 100000) (e2 e3 e4 e5 e6 e7 e8 e9 e10 : Int) (f g : ByteArray) (hf : f.size ≤ 1000000) (hg : g.size ≤ 1000000) :
    Calls Tryz.prog 32 #[.pointer (some ⟨p, 0, none⟩), ed12 4 e2 e3 e4 e5 e6 e7 e8 e9 e10 f g] w (DoRes B p w true ⟨s, ms, ts ++ [⟨e8, e9, e10, f, g⟩], ks, i1, i2, i3, i4, i5, i6, i7⟩) := by
  obtain ⟨U, hU⟩ : ∃ U, U = w.alloc (oed 4 e2 e3 e4 e5 e6 e7 e8 e9 e10 f g) := ⟨_, rfl⟩
  have hbU : Below w.heap.size w U := by rw [hU]; exact below_alloc _ _
  have hq : U.heap[w.heap.size]? = some (oed 4 e2 e3 e4 e5 e6 e7 e8 e9 e10 f g) := by rw [hU]; exact heap_alloc_new _ _
  have hS := h.below hbU
  have hBU : B ≤ U.heap.size := Nat.le_trans hB hbU.size
  have y0 : U.cell? ⟨w.heap.size, 0, none⟩ = some (.int .i64 4) := (blkc hq).1 0
  have x2 := (blkc hS.box).1 2
  have y7 := (blkc hq).1 7
  have y8 := (blkc hq).1 8
  have y9 := (blkc hq).1 9
  have y10 := (blkc hq).1 10
  have y11 := (blkc hq).1 11
  have HS : Hid (RSt B p U ⟨s, ms, ts, ks, i1, i2, i3, i4, i5, i6, i7⟩ a1 n1 c1 a2 n2 c2 a3 n3 c3 a4 n4 c4) := hS
  have HU : Hid (Below w.heap.size w U) := hbU
  have hUe : w.alloc (oed 4 e2 e3 e4 e5 e6 e7 e8 e9 e10 f g) = U := hU.symm
  have HQ : Hid (U.heap[w.heap.size]? = some (oed 4 e2 e3 e4 e5 e6 e7 e8 e9 e10 f g)) := hq
  have hpw : ¬ (p = w.heap.size) := by have := ob_ltB h.box; omega
  clear hU hq hS hbU h
  have hot := fun W => rowntab_any e8 e9 e10 f g hf hg W
  have HV : Hid (∀ W, Below U.heap.size U W → RSt B p W ⟨s, ms, ts, ks, i1, i2, i3, i4, i5, i6, i7⟩ a1 n1 c1 a2 n2 c2 a3 n3 c3 a4 n4 c4) := (fun W hb => HS.out.below hb : ∀ W, _ → _)
  go_enter Tryz.func32, Tryz.ntmps32
  go_wp2_with fail
  clear hUe
  refine wp_region_held_drew (S := (fun W => W.cell? ⟨w.heap.size, 7, none⟩ = some (.int .i64 e8) ∧ W.cell? ⟨w.heap.size, 8, none⟩ = some (.int .i64 e9) ∧ W.cell? ⟨w.heap.size, 9, none⟩ = some (.int .i64 e10) ∧ W.cell? ⟨w.heap.size, 10, none⟩ = some (.string f) ∧ W.cell? ⟨w.heap.size, 11, none⟩ = some (.string g))) (by kernel_rfl) (by first | go_keep | (refine ⟨?_, ?_, ?_, ?_, ?_⟩ <;> assumption)) (fun hHeld => ?_)
  refine wpAnyH_take (i := 0) (oi := ⟨some 40, _, _, _, _, _⟩) (v := ?_) rfl (by kernel_rfl) (by kernel_rfl) (by kernel_rfl) (fun _ _ _ h => h) (Or.inl ⟨by rfl, ?_⟩) (by assumption) ?_
  rotate_left
  · intro w hSw; (try dsimp only at hSw); go_simp <;> (try with_reducible rfl)
  go_frame
  refine wpAnyH_take (i := 1) (oi := ⟨some 41, _, _, _, _, _⟩) (v := ?_) rfl (by kernel_rfl) (by kernel_rfl) (by kernel_rfl) (fun _ _ _ h => h) (Or.inl ⟨by rfl, ?_⟩) (by assumption) ?_
  rotate_left
  · intro w hSw; (try dsimp only at hSw); go_simp <;> (try with_reducible rfl)
  go_frame
  refine wpAnyH_take (i := 2) (oi := ⟨some 42, _, _, _, _, _⟩) (v := ?_) rfl (by kernel_rfl) (by kernel_rfl) (by kernel_rfl) (fun _ _ _ h => h) (Or.inl ⟨by rfl, ?_⟩) (by assumption) ?_
  rotate_left
  · intro w hSw; (try dsimp only at hSw); go_simp <;> (try with_reducible rfl)
  go_frame
  refine wpAnyH_take (i := 3) (oi := ⟨some 43, _, _, _, _, _⟩) (v := ?_) rfl (by kernel_rfl) (by kernel_rfl) (by kernel_rfl) (fun _ _ _ h => h) (Or.inl ⟨by rfl, ?_⟩) (by assumption) ?_
  rotate_left
  · intro w hSw; (try dsimp only at hSw); go_simp <;> (try with_reducible rfl)
  go_frame
  refine wpAnyH_take (i := 5) (oi := ⟨some 45, _, _, _, _, _⟩) (v := ?_) rfl (by kernel_rfl) (by kernel_rfl) (by kernel_rfl) (fun _ _ _ h => h) (Or.inl ⟨by rfl, ?_⟩) (by assumption) ?_
  rotate_left
  · intro w hSw; (try dsimp only at hSw); go_simp <;> (try with_reducible rfl)
  go_frame
  refine wpAnyH_take (i := 6) (oi := ⟨some 46, _, _, _, _, _⟩) (v := ?_) rfl (by kernel_rfl) (by kernel_rfl) (by kernel_rfl) (fun _ _ _ h => h) (Or.inl ⟨by rfl, ?_⟩) (by assumption) ?_
  rotate_left
  · intro w hSw; (try dsimp only at hSw); go_simp <;> (try with_reducible rfl)
  go_frame
  refine wpAnyH_ready (rs := [4, 7]) (by kernel_rfl) (by simp) ?_
  refine AllReadyH.cons rfl (fun K hK => ?_) (AllReadyH.cons rfl (fun K hK => ?_) AllReadyH.nil)
  · skip
    go_simp
    refine hK.out _ _ (by first | go_keep | (refine ⟨?_, ?_, ?_, ?_, ?_⟩ <;> assumption)) (fun hHeld => ?_)
    clear hK K
    refine wpAnyH_ready (rs := [7]) (by kernel_rfl) (by simp) ?_
    refine AllReadyH.cons rfl (fun K hK => ?_) AllReadyH.nil
    go_simp; go_at_call 69; refine (hot _).mono ?_; rintro e w5 ⟨rfl, b5⟩; have hb5 := below_of_drew b5; have hS5 := HV.out w5 hb5; have z2 : w5.cell? ⟨p, 2, none⟩ = some (.slice a3 n3 c3) := (blkc hS5.box).1 2; have hE5 := (hb5.block _ (ob_ltB HQ.out)).trans HQ.out; have r7 : w5.cell? ⟨w.heap.size, 7, none⟩ = some (.int .i64 e8) := (blkc hE5).1 7; have r8 : w5.cell? ⟨w.heap.size, 8, none⟩ = some (.int .i64 e9) := (blkc hE5).1 8; have r9 : w5.cell? ⟨w.heap.size, 9, none⟩ = some (.int .i64 e10) := (blkc hE5).1 9; have r10 : w5.cell? ⟨w.heap.size, 10, none⟩ = some (.string f) := (blkc hE5).1 10; have r11 : w5.cell? ⟨w.heap.size, 11, none⟩ = some (.string g) := (blkc hE5).1 11; have hb6 := hb5.alloc hb5.size (.cells #[.int .i64 e8, .int .i64 e9, .int .i64 e10, .string f, .string g] 50); have hS6 := HV.out _ hb6; have hE6 := (hb6.block _ (ob_ltB HQ.out)).trans HQ.out; have zz2 : (w5.alloc (.cells #[.int .i64 e8, .int .i64 e9, .int .i64 e10, .string f, .string g] 50)).cell? ⟨p, 2, none⟩ = some (.slice a3 n3 c3) := (blkc hS6.box).1 2; have s7 : (w5.alloc (.cells #[.int .i64 e8, .int .i64 e9, .int .i64 e10, .string f, .string g] 50)).cell? ⟨w.heap.size, 7, none⟩ = some (.int .i64 e8) := (blkc hE6).1 7; have s8 : (w5.alloc (.cells #[.int .i64 e8, .int .i64 e9, .int .i64 e10, .string f, .string g] 50)).cell? ⟨w.heap.size, 8, none⟩ = some (.int .i64 e9) := (blkc hE6).1 8; have s9 : (w5.alloc (.cells #[.int .i64 e8, .int .i64 e9, .int .i64 e10, .string f, .string g] 50)).cell? ⟨w.heap.size, 9, none⟩ = some (.int .i64 e10) := (blkc hE6).1 9; have s10 : (w5.alloc (.cells #[.int .i64 e8, .int .i64 e9, .int .i64 e10, .string f, .string g] 50)).cell? ⟨w.heap.size, 10, none⟩ = some (.string f) := (blkc hE6).1 10; have s11 : (w5.alloc (.cells #[.int .i64 e8, .int .i64 e9, .int .i64 e10, .string f, .string g] 50)).cell? ⟨w.heap.size, 11, none⟩ = some (.string g) := (blkc hE6).1 11; have hlit := trow_lit (s := 5) (enc := le) (d := Lv.zero) w5 #[.int .i64 e8, .int .i64 e9, .int .i64 e10, .string f, .string g] 50 ⟨e8, e9, e10, f, g⟩ (g := w5.heap.size) rfl (fun j v hj => by simpa [le] using hj); clear hE5 hE6
    refine hK.out _ _ ⟨r7, r8, r9, r10, r11⟩ (fun hHeld => ?_)
    clear hK K
    try go_frame
    refine wpAnyH_ready (rs := [8]) (by kernel_rfl) (by simp) ?_
    refine AllReadyH.cons rfl (fun K hK => ?_) AllReadyH.nil
    go_simp
    refine hK.out _ _ ⟨s7, s8, s9, s10, s11⟩ (fun hHeld => ?_)
    clear hK K
    refine wpAnyH_ready (rs := [9]) (by kernel_rfl) (by simp) ?_
    refine AllReadyH.cons rfl (fun K hK => ?_) AllReadyH.nil
    refine step_tg tabE leE (w0 := w) (B := B) (by rfl) _ _ (by rfl) _ n3 ts (by rfl) hS6.own.o3 (some ⟨w5.heap.size, 0, none⟩) 1 1 [⟨e8, e9, e10, f, g⟩] (by rfl) hlit (fun h => by cases h) (by omega) ((belowB HU.out hB).trans (belowB hb6 hBU)) (Nat.le_trans hBU hb6.size) ?_; intro a6 c6 w6 hg6 _ _ hown6 hb7; obtain ⟨bx6, st6, kp6, be6⟩ := hS6.turn3 (Nat.le_trans hBU hb6.size) hg6 hown6; have u1 := (blkc bx6).1 2; have uf := (blkc bx6).2 2; have hEs := (hb6.block _ (ob_ltB HQ.out)).trans HQ.out; have hEt := (hg6.block _ (ob_ltB hEs) (obr_apart hEs hS6.own.o3 (by decide))).trans hEs; have t7 : w6.cell? ⟨w.heap.size, 7, none⟩ = some (.int .i64 e8) := (blkc hEt).1 7; have t8 : w6.cell? ⟨w.heap.size, 8, none⟩ = some (.int .i64 e9) := (blkc hEt).1 8; have t9 : w6.cell? ⟨w.heap.size, 9, none⟩ = some (.int .i64 e10) := (blkc hEt).1 9; have t10 : w6.cell? ⟨w.heap.size, 10, none⟩ = some (.string f) := (blkc hEt).1 10; have t11 : w6.cell? ⟨w.heap.size, 11, none⟩ = some (.string g) := (blkc hEt).1 11; have ST6 : Hid (RSt B p _ _ a1 n1 c1 a2 n2 c2 a6 (n3 + 1) c6 a4 n4 c4) := st6; clear st6 bx6 hEs hEt
    refine hK.out _ _ ⟨t7, t8, t9, t10, t11⟩ (fun hHeld => ?_)
    clear hK K
    try go_frame
    refine wpAnyH_take (i := 10) (oi := ⟨some 50, _, _, _, _, _⟩) (v := ?_) rfl (by kernel_rfl) (by kernel_rfl) (by kernel_rfl) (fun _ _ _ h => h) (Or.inl ⟨by rfl, ?_⟩) (by assumption) ?_
    rotate_left
    · intro w hSw; (try dsimp only at hSw); go_simp <;> (try with_reducible rfl)
    go_frame
    refine wpAnyH_take (i := 11) (oi := ⟨some 51, _, _, _, _, _⟩) (v := ?_) rfl (by kernel_rfl) (by kernel_rfl) (by kernel_rfl) (fun _ _ _ h => h) (Or.inl ⟨by rfl, ?_⟩) (by assumption) ?_
    rotate_left
    · intro w hSw; (try dsimp only at hSw); go_simp <;> (try with_reducible rfl)
    go_frame
    refine wpAnyH_ready (rs := [12]) (by kernel_rfl) (by simp) ?_
    refine AllReadyH.cons rfl (fun K hK => ?_) AllReadyH.nil
    go_simp
    refine hK.out _ _ ⟨(World.cell?_setCell_other _ _ _ _ (fun e => hpw (Addr.mk.inj e).1)).trans t7, (World.cell?_setCell_other _ _ _ _ (fun e => hpw (Addr.mk.inj e).1)).trans t8, (World.cell?_setCell_other _ _ _ _ (fun e => hpw (Addr.mk.inj e).1)).trans t9, (World.cell?_setCell_other _ _ _ _ (fun e => hpw (Addr.mk.inj e).1)).trans t10, (World.cell?_setCell_other _ _ _ _ (fun e => hpw (Addr.mk.inj e).1)).trans t11⟩ (fun hHeld => ?_)
    clear hK K
    refine wpAnyH_done (by kernel_rfl) ?_ _
    go_wp2
    go_ret
    exact ⟨rfl, fun _ => ⟨a1, n1, c1, a2, n2, c2, a6, n3 + 1, c6, a4, n4, c4, ST6.out⟩, ((belowB HU.out hB).trans (belowB hb6 hBU)).trans be6, ((RKeep.below HU.out).trans (RKeep.below hb6)).trans kp6⟩
  · skip
    go_simp; go_at_call 69; refine (hot _).mono ?_; rintro e w5 ⟨rfl, b5⟩; have hb5 := below_of_drew b5; have hS5 := HV.out w5 hb5; have z2 : w5.cell? ⟨p, 2, none⟩ = some (.slice a3 n3 c3) := (blkc hS5.box).1 2; have hE5 := (hb5.block _ (ob_ltB HQ.out)).trans HQ.out; have r7 : w5.cell? ⟨w.heap.size, 7, none⟩ = some (.int .i64 e8) := (blkc hE5).1 7; have r8 : w5.cell? ⟨w.heap.size, 8, none⟩ = some (.int .i64 e9) := (blkc hE5).1 8; have r9 : w5.cell? ⟨w.heap.size, 9, none⟩ = some (.int .i64 e10) := (blkc hE5).1 9; have r10 : w5.cell? ⟨w.heap.size, 10, none⟩ = some (.string f) := (blkc hE5).1 10; have r11 : w5.cell? ⟨w.heap.size, 11, none⟩ = some (.string g) := (blkc hE5).1 11; have hb6 := hb5.alloc hb5.size (.cells #[.int .i64 e8, .int .i64 e9, .int .i64 e10, .string f, .string g] 50); have hS6 := HV.out _ hb6; have hE6 := (hb6.block _ (ob_ltB HQ.out)).trans HQ.out; have zz2 : (w5.alloc (.cells #[.int .i64 e8, .int .i64 e9, .int .i64 e10, .string f, .string g] 50)).cell? ⟨p, 2, none⟩ = some (.slice a3 n3 c3) := (blkc hS6.box).1 2; have s7 : (w5.alloc (.cells #[.int .i64 e8, .int .i64 e9, .int .i64 e10, .string f, .string g] 50)).cell? ⟨w.heap.size, 7, none⟩ = some (.int .i64 e8) := (blkc hE6).1 7; have s8 : (w5.alloc (.cells #[.int .i64 e8, .int .i64 e9, .int .i64 e10, .string f, .string g] 50)).cell? ⟨w.heap.size, 8, none⟩ = some (.int .i64 e9) := (blkc hE6).1 8; have s9 : (w5.alloc (.cells #[.int .i64 e8, .int .i64 e9, .int .i64 e10, .string f, .string g] 50)).cell? ⟨w.heap.size, 9, none⟩ = some (.int .i64 e10) := (blkc hE6).1 9; have s10 : (w5.alloc (.cells #[.int .i64 e8, .int .i64 e9, .int .i64 e10, .string f, .string g] 50)).cell? ⟨w.heap.size, 10, none⟩ = some (.string f) := (blkc hE6).1 10; have s11 : (w5.alloc (.cells #[.int .i64 e8, .int .i64 e9, .int .i64 e10, .string f, .string g] 50)).cell? ⟨w.heap.size, 11, none⟩ = some (.string g) := (blkc hE6).1 11; have hlit := trow_lit (s := 5) (enc := le) (d := Lv.zero) w5 #[.int .i64 e8, .int .i64 e9, .int .i64 e10, .string f, .string g] 50 ⟨e8, e9, e10, f, g⟩ (g := w5.heap.size) rfl (fun j v hj => by simpa [le] using hj); clear hE5 hE6
    refine hK.out _ _ ⟨r7, r8, r9, r10, r11⟩ (fun hHeld => ?_)
    clear hK K
    try go_frame
    refine wpAnyH_ready (rs := [4, 8]) (by kernel_rfl) (by simp) ?_
    refine AllReadyH.cons rfl (fun K hK => ?_) (AllReadyH.cons rfl (fun K hK => ?_) AllReadyH.nil)
    · skip
      go_simp
      refine hK.out _ _ ⟨r7, r8, r9, r10, r11⟩ (fun hHeld => ?_)
      clear hK K
      refine wpAnyH_ready (rs := [8]) (by kernel_rfl) (by simp) ?_
      refine AllReadyH.cons rfl (fun K hK => ?_) AllReadyH.nil
      go_simp
      refine hK.out _ _ ⟨s7, s8, s9, s10, s11⟩ (fun hHeld => ?_)
      clear hK K
      refine wpAnyH_ready (rs := [9]) (by kernel_rfl) (by simp) ?_
      refine AllReadyH.cons rfl (fun K hK => ?_) AllReadyH.nil
      refine step_tg tabE leE (w0 := w) (B := B) (by rfl) _ _ (by rfl) _ n3 ts (by rfl) hS6.own.o3 (some ⟨w5.heap.size, 0, none⟩) 1 1 [⟨e8, e9, e10, f, g⟩] (by rfl) hlit (fun h => by cases h) (by omega) ((belowB HU.out hB).trans (belowB hb6 hBU)) (Nat.le_trans hBU hb6.size) ?_; intro a6 c6 w6 hg6 _ _ hown6 hb7; obtain ⟨bx6, st6, kp6, be6⟩ := hS6.turn3 (Nat.le_trans hBU hb6.size) hg6 hown6; have u1 := (blkc bx6).1 2; have uf := (blkc bx6).2 2; have hEs := (hb6.block _ (ob_ltB HQ.out)).trans HQ.out; have hEt := (hg6.block _ (ob_ltB hEs) (obr_apart hEs hS6.own.o3 (by decide))).trans hEs; have t7 : w6.cell? ⟨w.heap.size, 7, none⟩ = some (.int .i64 e8) := (blkc hEt).1 7; have t8 : w6.cell? ⟨w.heap.size, 8, none⟩ = some (.int .i64 e9) := (blkc hEt).1 8; have t9 : w6.cell? ⟨w.heap.size, 9, none⟩ = some (.int .i64 e10) := (blkc hEt).1 9; have t10 : w6.cell? ⟨w.heap.size, 10, none⟩ = some (.string f) := (blkc hEt).1 10; have t11 : w6.cell? ⟨w.heap.size, 11, none⟩ = some (.string g) := (blkc hEt).1 11; have ST6 : Hid (RSt B p _ _ a1 n1 c1 a2 n2 c2 a6 (n3 + 1) c6 a4 n4 c4) := st6; clear st6 bx6 hEs hEt
      refine hK.out _ _ ⟨t7, t8, t9, t10, t11⟩ (fun hHeld => ?_)
      clear hK K
      try go_frame
      refine wpAnyH_take (i := 10) (oi := ⟨some 50, _, _, _, _, _⟩) (v := ?_) rfl (by kernel_rfl) (by kernel_rfl) (by kernel_rfl) (fun _ _ _ h => h) (Or.inl ⟨by rfl, ?_⟩) (by assumption) ?_
      rotate_left
      · intro w hSw; (try dsimp only at hSw); go_simp <;> (try with_reducible rfl)
      go_frame
      refine wpAnyH_take (i := 11) (oi := ⟨some 51, _, _, _, _, _⟩) (v := ?_) rfl (by kernel_rfl) (by kernel_rfl) (by kernel_rfl) (fun _ _ _ h => h) (Or.inl ⟨by rfl, ?_⟩) (by assumption) ?_
      rotate_left
      · intro w hSw; (try dsimp only at hSw); go_simp <;> (try with_reducible rfl)
      go_frame
      refine wpAnyH_ready (rs := [12]) (by kernel_rfl) (by simp) ?_
      refine AllReadyH.cons rfl (fun K hK => ?_) AllReadyH.nil
      go_simp
      refine hK.out _ _ ⟨(World.cell?_setCell_other _ _ _ _ (fun e => hpw (Addr.mk.inj e).1)).trans t7, (World.cell?_setCell_other _ _ _ _ (fun e => hpw (Addr.mk.inj e).1)).trans t8, (World.cell?_setCell_other _ _ _ _ (fun e => hpw (Addr.mk.inj e).1)).trans t9, (World.cell?_setCell_other _ _ _ _ (fun e => hpw (Addr.mk.inj e).1)).trans t10, (World.cell?_setCell_other _ _ _ _ (fun e => hpw (Addr.mk.inj e).1)).trans t11⟩ (fun hHeld => ?_)
      clear hK K
      refine wpAnyH_done (by kernel_rfl) ?_ _
      go_wp2
      go_ret
      exact ⟨rfl, fun _ => ⟨a1, n1, c1, a2, n2, c2, a6, n3 + 1, c6, a4, n4, c4, ST6.out⟩, ((belowB HU.out hB).trans (belowB hb6 hBU)).trans be6, ((RKeep.below HU.out).trans (RKeep.below hb6)).trans kp6⟩
    · skip
      go_simp
      refine hK.out _ _ ⟨s7, s8, s9, s10, s11⟩ (fun hHeld => ?_)
      clear hK K
      refine wpAnyH_ready (rs := [4]) (by kernel_rfl) (by simp) ?_
      refine AllReadyH.cons rfl (fun K hK => ?_) AllReadyH.nil
      go_simp
      refine hK.out _ _ ⟨s7, s8, s9, s10, s11⟩ (fun hHeld => ?_)
      clear hK K
      refine wpAnyH_ready (rs := [9]) (by kernel_rfl) (by simp) ?_
      refine AllReadyH.cons rfl (fun K hK => ?_) AllReadyH.nil
      refine step_tg tabE leE (w0 := w) (B := B) (by rfl) _ _ (by rfl) _ n3 ts (by rfl) hS6.own.o3 (some ⟨w5.heap.size, 0, none⟩) 1 1 [⟨e8, e9, e10, f, g⟩] (by rfl) hlit (fun h => by cases h) (by omega) ((belowB HU.out hB).trans (belowB hb6 hBU)) (Nat.le_trans hBU hb6.size) ?_; intro a6 c6 w6 hg6 _ _ hown6 hb7; obtain ⟨bx6, st6, kp6, be6⟩ := hS6.turn3 (Nat.le_trans hBU hb6.size) hg6 hown6; have u1 := (blkc bx6).1 2; have uf := (blkc bx6).2 2; have hEs := (hb6.block _ (ob_ltB HQ.out)).trans HQ.out; have hEt := (hg6.block _ (ob_ltB hEs) (obr_apart hEs hS6.own.o3 (by decide))).trans hEs; have t7 : w6.cell? ⟨w.heap.size, 7, none⟩ = some (.int .i64 e8) := (blkc hEt).1 7; have t8 : w6.cell? ⟨w.heap.size, 8, none⟩ = some (.int .i64 e9) := (blkc hEt).1 8; have t9 : w6.cell? ⟨w.heap.size, 9, none⟩ = some (.int .i64 e10) := (blkc hEt).1 9; have t10 : w6.cell? ⟨w.heap.size, 10, none⟩ = some (.string f) := (blkc hEt).1 10; have t11 : w6.cell? ⟨w.heap.size, 11, none⟩ = some (.string g) := (blkc hEt).1 11; have ST6 : Hid (RSt B p _ _ a1 n1 c1 a2 n2 c2 a6 (n3 + 1) c6 a4 n4 c4) := st6; clear st6 bx6 hEs hEt
      refine hK.out _ _ ⟨t7, t8, t9, t10, t11⟩ (fun hHeld => ?_)
      clear hK K
      try go_frame
      refine wpAnyH_take (i := 10) (oi := ⟨some 50, _, _, _, _, _⟩) (v := ?_) rfl (by kernel_rfl) (by kernel_rfl) (by kernel_rfl) (fun _ _ _ h => h) (Or.inl ⟨by rfl, ?_⟩) (by assumption) ?_
      rotate_left
      · intro w hSw; (try dsimp only at hSw); go_simp <;> (try with_reducible rfl)
      go_frame
      refine wpAnyH_take (i := 11) (oi := ⟨some 51, _, _, _, _, _⟩) (v := ?_) rfl (by kernel_rfl) (by kernel_rfl) (by kernel_rfl) (fun _ _ _ h => h) (Or.inl ⟨by rfl, ?_⟩) (by assumption) ?_
      rotate_left
      · intro w hSw; (try dsimp only at hSw); go_simp <;> (try with_reducible rfl)
      go_frame
      refine wpAnyH_ready (rs := [12]) (by kernel_rfl) (by simp) ?_
      refine AllReadyH.cons rfl (fun K hK => ?_) AllReadyH.nil
      go_simp
      refine hK.out _ _ ⟨(World.cell?_setCell_other _ _ _ _ (fun e => hpw (Addr.mk.inj e).1)).trans t7, (World.cell?_setCell_other _ _ _ _ (fun e => hpw (Addr.mk.inj e).1)).trans t8, (World.cell?_setCell_other _ _ _ _ (fun e => hpw (Addr.mk.inj e).1)).trans t9, (World.cell?_setCell_other _ _ _ _ (fun e => hpw (Addr.mk.inj e).1)).trans t10, (World.cell?_setCell_other _ _ _ _ (fun e => hpw (Addr.mk.inj e).1)).trans t11⟩ (fun hHeld => ?_)
      clear hK K
      refine wpAnyH_done (by kernel_rfl) ?_ _
      go_wp2
      go_ret
      exact ⟨rfl, fun _ => ⟨a1, n1, c1, a2, n2, c2, a6, n3 + 1, c6, a4, n4, c4, ST6.out⟩, ((belowB HU.out hB).trans (belowB hb6 hBU)).trans be6, ((RKeep.below HU.out).trans (RKeep.below hb6)).trans kp6⟩

end Go.Proofs.YtfogodbbgbnhkaaGreatDoor
