/- The reference's Files of a roster. -/
import Derived.Test.YtmodogmjfbcddaaGreatSF
namespace Go.Proofs.YtmodogmjfbcddaaGreat
open Go.RowKit

theorem lit_file (W : World) (k x : Int) : MRow (W.alloc (.cells #[.int .i64 k, .int .i64 x] 51)) (some ⟨W.heap.size, 0, none⟩) 1 [(k, x)] :=
  trow_lit W _ _ _ rfl (fun j v hj => by
    match j, hj with
    | 0, hj | 1, hj => exact hj
    | j + 2, hj => simp [me] at hj)

set_option maxRecDepth 100000 in
set_option maxHeartbeats 4000000 in
theorem rfiles17_any (s : List Int) (ms : List (Int × Int)) (ts : List Lv.T) (ks : List (Int × Int × Int)) (a1 : Option Addr) (n1 c1 : Nat) (a2 : Option Addr) (n2 c2 : Nat) (a3 : Option Addr) (n3 c3 : Nat) (a4 : Option Addr) (n4 c4 : Nat) (i1 i2 i3 i4 i5 i6 i7 : Int) (w : World) (h : RIn w a1 n1 c1 a2 n2 c2 a3 n3 c3 a4 n4 c4 ⟨s, ms, ts, ks, i1, i2, i3, i4, i5, i6, i7⟩) :
    Calls Tryz.prog 21 #[.agg #[.slice a1 n1 c1, .slice a2 n2 c2, .slice a3 n3 c3, .slice a4 n4 c4, .int .i64 i1, .int .i64 i2, .int .i64 i3, .int .i64 i4, .int .i64 i5, .int .i64 i6, .int .i64 i7]] w (FlRes w (s.map (fun x => ((3 : Int), x)) ++ (ms.map (·.2)).map (fun x => ((7 : Int), x)) ++ (ts.map (·.num)).map (fun x => ((5 : Int), x)) ++ (ks.map (·.1)).map (fun x => ((6 : Int), x)))) := by
  have m1 := h.m1; have m2 := h.m2; have m3 := h.m3; have m4 := h.m4
  have R1 : Hid (ZRow w a1 n1 s) := h.r1
  have R2 : Hid (MRow w a2 n2 ms) := h.r2
  have R3 : Hid (LRow w a3 n3 ts) := h.r3
  have R4 : Hid (KRow w a4 n4 ks) := h.r4
  have T1 : Hid (s.length = n1) := h.r1.1
  have T2 : Hid (ms.length = n2) := h.r2.1
  have T3 : Hid (ts.length = n3) := h.r3.1
  have T4 : Hid (ks.length = n4) := h.r4.1
  obtain ⟨U, hU⟩ : ∃ U, U = w.alloc (.cells #[.slice a1 n1 c1, .slice a2 n2 c2, .slice a3 n3 c3, .slice a4 n4 c4, .int .i64 i1, .int .i64 i2, .int .i64 i3, .int .i64 i4, .int .i64 i5, .int .i64 i6, .int .i64 i7] 29) := ⟨_, rfl⟩
  have hbU : Below w.heap.size w U := by rw [hU]; exact below_alloc _ _
  have e0 : U.heap[w.heap.size]? = some (.cells #[.slice a1 n1 c1, .slice a2 n2 c2, .slice a3 n3 c3, .slice a4 n4 c4, .int .i64 i1, .int .i64 i2, .int .i64 i3, .int .i64 i4, .int .i64 i5, .int .i64 i6, .int .i64 i7] 29 (0, 0)) := by rw [hU]; exact heap_alloc_new _ _
  have HV : Hid (∀ W, Below U.heap.size U W → (W.cell? ⟨w.heap.size, 0, none⟩ = some (.slice a1 n1 c1) ∧ W.cell? ⟨w.heap.size, 1, none⟩ = some (.slice a2 n2 c2) ∧ W.cell? ⟨w.heap.size, 2, none⟩ = some (.slice a3 n3 c3) ∧ W.cell? ⟨w.heap.size, 3, none⟩ = some (.slice a4 n4 c4))) := (fun W hb => by
    have a := (blkc ((hb.block _ (ob_ltB e0)).trans e0)).1
    exact ⟨a 0, a 1, a 2, a 3⟩ : ∀ W, _ → _)
  have HU : Hid (Below w.heap.size w U) := hbU
  have hUe : w.alloc (.cells #[.slice a1 n1 c1, .slice a2 n2 c2, .slice a3 n3 c3, .slice a4 n4 c4, .int .i64 i1, .int .i64 i2, .int .i64 i3, .int .i64 i4, .int .i64 i5, .int .i64 i6, .int .i64 i7] 29) = U := hU.symm
  have ow0 := made_t (s := 2) (enc := me) U (B := U.heap.size) (E := 51) (Nat.le_refl _) rfl
  have HB0 : Hid (Below U.heap.size U (U.alloc (.cells #[] 51))) := (below_alloc _ _ : Below _ _ _)
  obtain ⟨j0, j1, j2, j3⟩ := HV.out _ HB0.out
  obtain ⟨P0, hP0⟩ : ∃ P : List (Int × Int), P = [] := ⟨_, rfl⟩
  have ow0' : (U.alloc (.cells #[] 51)).ownsRow U.heap.size 51 2 (.slice (some ⟨U.heap.size, 0, none⟩) 0 0) 0 (tcells me P0) := by rw [hP0]; exact ow0
  have HP0 : Hid (P0 = []) := hP0
  have HL0 : Hid (P0.length ≤ 0) := (by rw [hP0]; exact Nat.le_refl _ : _ ≤ _)
  clear hU hbU e0 h hP0 ow0
  have ow0 := ow0'
  clear ow0'
  go_enter Tryz.func21, Tryz.ntmps21
  go_wp2
  clear hUe
  go_loopw [3, 4] (fun v iv wr => ∃ (k : Nat) (a : Option Addr) (n c : Nat), k ≤ n1 ∧ iv = .int .i64 k ∧ v = .slice a n c ∧ wr.ownsRow U.heap.size 51 2 (.slice a n c) n (tcells me (P0 ++ (s.take k).map (fun x => ((3 : Int), x)))) ∧ Hid (Below U.heap.size U wr)) (fun _ iv _ => n1 - (intOf iv).toNat)
  case atStart => exact ⟨0, _, _, _, by omega, rfl, rfl, by simpa using ow0, HB0⟩
  case round =>
    obtain ⟨k, a, n, c, hk, rfl, rfl, ow1, HB1⟩ := hrel
    clear ow0 j0 j1 j2 j3
    obtain ⟨j0, j1, j2, j3⟩ := HV.out wr HB1.out
    have hnn : n ≤ 1000 := by
      have h1 := ow1.1
      rw [tcells_length meE, List.length_append, List.length_map, List.length_take] at h1
      have h2 := HL0.out
      omega
    by_cases hlt : k < n1
    · obtain ⟨b, off, x, rfl, hx, q0⟩ := zget R1.out (HU.out.trans (HB1.out.mono HU.out.size)) hlt
      have hkS : k < s.length := by rw [T1.out]; exact hlt
      have HT : Hid (P0 ++ (s.take (k + 1)).map (fun x => ((3 : Int), x)) = P0 ++ (s.take k).map (fun x => ((3 : Int), x)) ++ [((3 : Int), x)]) := (by rw [gtake 0 hkS, hx.out, List.map_append, List.append_assoc]; rfl : _ = _)
      have i0 : (0 : Int) ≤ (k : Int) := by omega
      have i5 : (k : Int) < (n1 : Int) := by omega
      generalize hPP : P0 ++ (s.take k).map (fun x => ((3 : Int), x)) = PP at *
      have hb2 := HB1.out.alloc HB1.out.size (.cells #[.int .i64 3, .int .i64 x] 51)
      have hown2 := ow1.alloc (.cells #[.int .i64 3, .int .i64 x] 51)
      have hlit := lit_file wr 3 x
      clear hPP hx hkS
      go_wp2_with (at_builtin; go_must (refine append_tg fileE meE (w0 := U) (B := U.heap.size) rfl (.tmp 16) (.tmp 23) rfl _ n PP rfl hown2 (some ⟨wr.heap.size, 0, none⟩) 1 1 [((3 : Int), x)] rfl hlit (fun h => by cases h) (by omega) hb2 hb2.size ?_; intro a6 c6 w6 hg6 _ _ _ hown6 hb6 _))
      go_roundw
      case rel => exact ⟨k + 1, a6, n + 1, c6, by omega, by go_num, rfl, by rw [HT.out]; exact hown6, hb6⟩
      case measure => simp [intOf]; omega
    · obtain rfl : k = n1 := by omega
      rw [List.take_of_length_le (by rw [T1.out]; exact Nat.le_refl _)] at ow1
      obtain ⟨P1, hPe⟩ : ∃ P : List (Int × Int), P = P0 ++ s.map (fun x => ((3 : Int), x)) := ⟨_, rfl⟩
      rw [← hPe] at ow1
      have HPE1 : Hid (P1 = P0 ++ s.map (fun x => ((3 : Int), x))) := hPe
      have HL1 : Hid (P1.length ≤ 1000) := (by
        have h1 := ow1.1
        rw [tcells_length meE] at h1
        omega : _ ≤ _)
      clear hPe
      go_wp2
      go_loopw [3, 5] (fun v iv wr => ∃ (k : Nat) (a : Option Addr) (n c : Nat), k ≤ n2 ∧ iv = .int .i64 k ∧ v = .slice a n c ∧ wr.ownsRow U.heap.size 51 2 (.slice a n c) n (tcells me (P1 ++ (ms.take k).map (fun m => ((7 : Int), m.2)))) ∧ Hid (Below U.heap.size U wr)) (fun _ iv _ => n2 - (intOf iv).toNat)
      case atStart => exact ⟨0, _, _, _, by omega, rfl, rfl, by simpa using ow1, HB1⟩
      case round =>
        obtain ⟨k, a, n, c, hk, rfl, rfl, ow2, HB2⟩ := hrel
        clear ow1 j0 j1 j2 j3
        obtain ⟨j0, j1, j2, j3⟩ := HV.out wr HB2.out
        have hnn : n ≤ 2000 := by
          have h1 := ow2.1
          rw [tcells_length meE, List.length_append, List.length_map, List.length_take] at h1
          have h2 := HL1.out
          omega
        by_cases hlt : k < n2
        · obtain ⟨b, off, x, y, rfl, hx, q0, q1⟩ := mget R2.out (HU.out.trans (HB2.out.mono HU.out.size)) hlt
          have hkS : k < ms.length := by rw [T2.out]; exact hlt
          have HT : Hid (P1 ++ (ms.take (k + 1)).map (fun m => ((7 : Int), m.2)) = P1 ++ (ms.take k).map (fun m => ((7 : Int), m.2)) ++ [((7 : Int), y)]) := (by rw [gtake (0, 0) hkS, hx.out, List.map_append, List.append_assoc]; rfl : _ = _)
          have i0 : (0 : Int) ≤ (k : Int) := by omega
          have i5 : (k : Int) < (n2 : Int) := by omega
          generalize hPP : P1 ++ (ms.take k).map (fun m => ((7 : Int), m.2)) = PP at *
          have hb2 := HB2.out.alloc HB2.out.size (.cells #[.int .i64 7, .int .i64 y] 51)
          have hown2 := ow2.alloc (.cells #[.int .i64 7, .int .i64 y] 51)
          have hlit := lit_file wr 7 y
          clear hPP hx hkS
          go_wp2_with (at_builtin; go_must (refine append_tg fileE meE (w0 := U) (B := U.heap.size) rfl (.tmp 32) (.tmp 40) rfl _ n PP rfl hown2 (some ⟨wr.heap.size, 0, none⟩) 1 1 [((7 : Int), y)] rfl hlit (fun h => by cases h) (by omega) hb2 hb2.size ?_; intro a6 c6 w6 hg6 _ _ _ hown6 hb6 _))
          go_roundw
          case rel => exact ⟨k + 1, a6, n + 1, c6, by omega, by go_num, rfl, by rw [HT.out]; exact hown6, hb6⟩
          case measure => simp [intOf]; omega
        · obtain rfl : k = n2 := by omega
          rw [List.take_of_length_le (by rw [T2.out]; exact Nat.le_refl _)] at ow2
          obtain ⟨P2, hPe⟩ : ∃ P : List (Int × Int), P = P1 ++ ms.map (fun m => ((7 : Int), m.2)) := ⟨_, rfl⟩
          rw [← hPe] at ow2
          have HPE2 : Hid (P2 = P1 ++ ms.map (fun m => ((7 : Int), m.2))) := hPe
          have HL2 : Hid (P2.length ≤ 2000) := (by
            have h1 := ow2.1
            rw [tcells_length meE] at h1
            omega : _ ≤ _)
          clear hPe
          go_wp2
          go_loopw [3, 6] (fun v iv wr => ∃ (k : Nat) (a : Option Addr) (n c : Nat), k ≤ n3 ∧ iv = .int .i64 k ∧ v = .slice a n c ∧ wr.ownsRow U.heap.size 51 2 (.slice a n c) n (tcells me (P2 ++ (ts.take k).map (fun t => ((5 : Int), t.num)))) ∧ Hid (Below U.heap.size U wr)) (fun _ iv _ => n3 - (intOf iv).toNat)
          case atStart => exact ⟨0, _, _, _, by omega, rfl, rfl, by simpa using ow2, HB2⟩
          case round =>
            obtain ⟨k, a, n, c, hk, rfl, rfl, ow3, HB3⟩ := hrel
            clear ow2 j0 j1 j2 j3
            obtain ⟨j0, j1, j2, j3⟩ := HV.out wr HB3.out
            have hnn : n ≤ 3000 := by
              have h1 := ow3.1
              rw [tcells_length meE, List.length_append, List.length_map, List.length_take] at h1
              have h2 := HL2.out
              omega
            by_cases hlt : k < n3
            · obtain ⟨b, off, x1, x2, x3, x4, x5, rfl, hx, q0, q1, q2, q3, q4⟩ := lget R3.out (HU.out.trans (HB3.out.mono HU.out.size)) hlt
              have hkS : k < ts.length := by rw [T3.out]; exact hlt
              have HT : Hid (P2 ++ (ts.take (k + 1)).map (fun t => ((5 : Int), t.num)) = P2 ++ (ts.take k).map (fun t => ((5 : Int), t.num)) ++ [((5 : Int), x1)]) := (by rw [gtake Lv.zero hkS, hx.out, List.map_append, List.append_assoc]; rfl : _ = _)
              have i0 : (0 : Int) ≤ (k : Int) := by omega
              have i5 : (k : Int) < (n3 : Int) := by omega
              generalize hPP : P2 ++ (ts.take k).map (fun t => ((5 : Int), t.num)) = PP at *
              have hb2 := HB3.out.alloc HB3.out.size (.cells #[.int .i64 5, .int .i64 x1] 51)
              have hown2 := ow3.alloc (.cells #[.int .i64 5, .int .i64 x1] 51)
              have hlit := lit_file wr 5 x1
              clear hPP hx hkS
              go_wp2_with (at_builtin; go_must (refine append_tg fileE meE (w0 := U) (B := U.heap.size) rfl (.tmp 49) (.tmp 57) rfl _ n PP rfl hown2 (some ⟨wr.heap.size, 0, none⟩) 1 1 [((5 : Int), x1)] rfl hlit (fun h => by cases h) (by omega) hb2 hb2.size ?_; intro a6 c6 w6 hg6 _ _ _ hown6 hb6 _))
              go_roundw
              case rel => exact ⟨k + 1, a6, n + 1, c6, by omega, by go_num, rfl, by rw [HT.out]; exact hown6, hb6⟩
              case measure => simp [intOf]; omega
            · obtain rfl : k = n3 := by omega
              rw [List.take_of_length_le (by rw [T3.out]; exact Nat.le_refl _)] at ow3
              obtain ⟨P3, hPe⟩ : ∃ P : List (Int × Int), P = P2 ++ ts.map (fun t => ((5 : Int), t.num)) := ⟨_, rfl⟩
              rw [← hPe] at ow3
              have HPE3 : Hid (P3 = P2 ++ ts.map (fun t => ((5 : Int), t.num))) := hPe
              have HL3 : Hid (P3.length ≤ 3000) := (by
                have h1 := ow3.1
                rw [tcells_length meE] at h1
                omega : _ ≤ _)
              clear hPe
              go_wp2
              go_loopw [3, 7] (fun v iv wr => ∃ (k : Nat) (a : Option Addr) (n c : Nat), k ≤ n4 ∧ iv = .int .i64 k ∧ v = .slice a n c ∧ wr.ownsRow U.heap.size 51 2 (.slice a n c) n (tcells me (P3 ++ (ks.take k).map (fun k => ((6 : Int), k.1)))) ∧ Hid (Below U.heap.size U wr)) (fun _ iv _ => n4 - (intOf iv).toNat)
              case atStart => exact ⟨0, _, _, _, by omega, rfl, rfl, by simpa using ow3, HB3⟩
              case round =>
                obtain ⟨k, a, n, c, hk, rfl, rfl, ow4, HB4⟩ := hrel
                clear ow3 j0 j1 j2 j3
                obtain ⟨j0, j1, j2, j3⟩ := HV.out wr HB4.out
                have hnn : n ≤ 4000 := by
                  have h1 := ow4.1
                  rw [tcells_length meE, List.length_append, List.length_map, List.length_take] at h1
                  have h2 := HL3.out
                  omega
                by_cases hlt : k < n4
                · obtain ⟨b, off, x, y, z, rfl, hx, q0, q1, q2⟩ := kget R4.out (HU.out.trans (HB4.out.mono HU.out.size)) hlt
                  have hkS : k < ks.length := by rw [T4.out]; exact hlt
                  have HT : Hid (P3 ++ (ks.take (k + 1)).map (fun k => ((6 : Int), k.1)) = P3 ++ (ks.take k).map (fun k => ((6 : Int), k.1)) ++ [((6 : Int), x)]) := (by rw [gtake (0, 0, 0) hkS, hx.out, List.map_append, List.append_assoc]; rfl : _ = _)
                  have i0 : (0 : Int) ≤ (k : Int) := by omega
                  have i5 : (k : Int) < (n4 : Int) := by omega
                  generalize hPP : P3 ++ (ks.take k).map (fun k => ((6 : Int), k.1)) = PP at *
                  have hb2 := HB4.out.alloc HB4.out.size (.cells #[.int .i64 6, .int .i64 x] 51)
                  have hown2 := ow4.alloc (.cells #[.int .i64 6, .int .i64 x] 51)
                  have hlit := lit_file wr 6 x
                  clear hPP hx hkS
                  go_wp2_with (at_builtin; go_must (refine append_tg fileE meE (w0 := U) (B := U.heap.size) rfl (.tmp 66) (.tmp 74) rfl _ n PP rfl hown2 (some ⟨wr.heap.size, 0, none⟩) 1 1 [((6 : Int), x)] rfl hlit (fun h => by cases h) (by omega) hb2 hb2.size ?_; intro a6 c6 w6 hg6 _ _ _ hown6 hb6 _))
                  go_roundw
                  case rel => exact ⟨k + 1, a6, n + 1, c6, by omega, by go_num, rfl, by rw [HT.out]; exact hown6, hb6⟩
                  case measure => simp [intOf]; omega
                · obtain rfl : k = n4 := by omega
                  rw [List.take_of_length_le (by rw [T4.out]; exact Nat.le_refl _)] at ow4
                  obtain ⟨P4, hPe⟩ : ∃ P : List (Int × Int), P = P3 ++ ks.map (fun k => ((6 : Int), k.1)) := ⟨_, rfl⟩
                  rw [← hPe] at ow4
                  have HPE4 : Hid (P4 = P3 ++ ks.map (fun k => ((6 : Int), k.1))) := hPe
                  have HL4 : Hid (P4.length ≤ 4000) := (by
                    have h1 := ow4.1
                    rw [tcells_length meE] at h1
                    omega : _ ≤ _)
                  clear hPe
                  go_wp2
                  go_ret
                  have hF : P4 = s.map (fun x => ((3 : Int), x)) ++ (ms.map (·.2)).map (fun x => ((7 : Int), x)) ++ (ts.map (·.num)).map (fun x => ((5 : Int), x)) ++ (ks.map (·.1)).map (fun x => ((6 : Int), x)) := by
                    rw [HPE4.out, HPE3.out, HPE2.out, HPE1.out, HP0.out]
                    simp [List.map_map, Function.comp_def]
                  rw [hF] at ow4
                  exact fres_of ow4 HB4.out HU.out
end Go.Proofs.YtmodogmjfbcddaaGreat
