/- numbers of the program: of moves, tables, snapshots. -/
import Derived.Test.YtmodogmjfbcddaaGreatRB
import Derived.Test.YtmodogmjfbcddaaGreatSG
namespace Go.Proofs.YtmodogmjfbcddaaGreat
open Go.RowKit

theorem made_z (n : Nat) : (madeCells (Value.int .i64 0).cells (n * 1)).toList = tcells ze (List.replicate n 0) := by
  rw [← encz_cells, List.map_replicate]
  apply List.ext_getElem?
  intro j
  rw [List.getElem?_replicate]
  by_cases h : j < n <;> simp [madeCells, Value.cells, h, Nat.mod_one, encZ]
theorem set_z (l : List Int) (n j : Nat) (x : Int) (hj : j < n) (hl : l.length = n) (hx : l.getD j 0 = x) : (tcells ze (l.take j ++ List.replicate (n - j) 0)).set j (.int .i64 x) = tcells ze (l.take (j + 1) ++ List.replicate (n - (j + 1)) 0) := by
  have e1 : (l.take j).length = j := by rw [List.length_take]; omega
  have e2 : n - j = (n - (j + 1)) + 1 := by omega
  rw [e2, List.replicate_succ, gtake 0 (by omega), hx, ← encz_cells, ← encz_cells]
  simp only [List.map_append, List.map_cons, List.map_nil, List.append_assoc]
  rw [List.set_append_right _ _ (by rw [List.length_map]; omega), List.length_map, e1, Nat.sub_self]
  rfl
theorem at_z (l : List Int) (n j : Nat) (hj : j < n) (hl : l.length = n) : (tcells ze (l.take j ++ List.replicate (n - j) 0))[j]? = some (.int .i64 0) := by
  have e1 : (l.take j).length = j := by rw [List.length_take]; omega
  rw [← encz_cells, List.map_append, List.getElem?_append_right (by rw [List.length_map, e1]; exact Nat.le_refl _), List.length_map, e1, Nat.sub_self, show n - j = (n - (j + 1)) + 1 by omega, List.replicate_succ]
  rfl

set_option maxRecDepth 100000 in
set_option maxHeartbeats 1000000 in
theorem rnums_m (f : Int × Int → Int) (fid : Nat) (eg : ∀ args w, (callFunc fid args).run Tryz.prog w = .ok (.enter fid args) w)
    (hdo : ∀ (x y : Int) (W : World), Calls Tryz.prog fid #[.agg #[.int .i64 x, .int .i64 y]] W fun e W' => e = .returned (.int .i64 (f (x, y))) ∧ Below W.heap.size W W')
    (a : Option Addr) (n c : Nat) (l : List (Int × Int)) (w : World) (hn : n ≤ 1000000) (hr : MRow w a n l) :
    Calls Tryz.prog 41 #[.slice a n c, .func (.func fid) #[] #[]] w (ZRes w (l.map f)) := by
  have hll : Hid (l.length = n) := hr.1
  obtain ⟨L, hL⟩ : ∃ L, L = l.map f := ⟨_, rfl⟩
  have hLn : L.length = n := by rw [hL, List.length_map]; exact hr.1
  rw [← hL]
  unfold ZRes
  rw [hLn]
  have HL : Hid (L = l.map f) := hL
  have HN : Hid (L.length = n) := hLn
  clear hL hLn
  obtain ⟨i0, hi0, hz0, hz1, hz2⟩ := info_parts intZ.info
  go_enter Tryz.func41, Tryz.ntmps41
  go_wp2_with (at_make; go_must (refine make_full _ rfl _ _ 22 rfl w.heap.size 3 i0 _ 1 Tryz.underlying22 hi0 hz0 hz1 .i64 .i64 n rfl rfl (by rw [hz2]; omega) (by unfold maxLen; omega) (Nat.le_refl _) ?_; intro w3 hmade hb3; rw [made_z] at hmade))
  go_loopw [13] (fun iv wr => ∃ (j : Nat), j ≤ n ∧ iv = .int .i64 j ∧ wr.ownsRow w.heap.size 3 1 (.slice (some ⟨w.heap.size, 0, none⟩) n n) n (tcells ze (L.take j ++ List.replicate (n - j) 0)) ∧ Below w.heap.size w wr) (fun iv _ => n - (intOf iv).toNat)
  case atStart => exact ⟨0, by omega, rfl, hmade, hb3⟩
  case round =>
    obtain ⟨j, hj, rfl, hown, hbel⟩ := hrel
    clear hmade hb3
    by_cases hlt : j < n
    · obtain ⟨b, off, x, y, rfl, hx, q0, q1⟩ := mget hr hbel hlt
      have hj' : j < l.length := by rw [hll.out]; exact hlt
      have hg : L.getD j 0 = f (x, y) := by rw [HL.out, ← hx.out]; simp [hj']
      have HS : Hid ((tcells ze (L.take j ++ List.replicate (n - j) 0)).set j (.int .i64 (f (x, y))) = tcells ze (L.take (j + 1) ++ List.replicate (n - (j + 1)) 0)) := (set_z L n j _ hlt HN.out hg : _ = _)
      have hb2 := hbel.alloc hbel.size (.cells #[.int .i64 x, .int .i64 y] 53)
      have hown2 := hown.alloc (.cells #[.int .i64 x, .int .i64 y] 53)
      have hat := at_z L n j hlt HN.out
      have hd := fun W => hdo x y W
      generalize f (x, y) = y at *
      have i0 : (0 : Int) ≤ (j : Int) := by omega
      have i5 : (j : Int) < (n : Int) := by omega
      have c0 := cell_new wr #[.int .i64 x, .int .i64 y] 53
      clear hx hg
      go_wp2_with (go_at_fn fid; go_must (refine (hd _).mono ?_; rintro e w4 ⟨rfl, hb4⟩; have hown4 := own_keptB hown2 hb4; have hb5 := hb2.trans (hb4.mono hb2.size); obtain ⟨k1, k2⟩ := own_cells hown4 hat; clear hown2 hb2 hown))
      go_roundw
      case rel => exact ⟨j + 1, by omega, by go_num, by rw [← HS.out]; exact own_store hown4 j _, below_putB hb5 (Nat.le_refl _) _ _⟩
      case measure => simp [intOf]; omega
    · obtain rfl : j = n := by omega
      have HC : Hid (L.take j ++ List.replicate (j - j) 0 = L) := (by
        rw [List.take_of_length_le (by rw [HN.out]; exact Nat.le_refl _)]; simp : _ = _)
      go_wp2
      go_ret
      rw [HC.out] at hown
      exact ⟨some ⟨w.heap.size, 0, none⟩, j, rfl, hown, hbel⟩

set_option maxRecDepth 100000 in
set_option maxHeartbeats 1000000 in
theorem rnums_t (f : Lv.T → Int) (fid : Nat) (eg : ∀ args w, (callFunc fid args).run Tryz.prog w = .ok (.enter fid args) w)
    (hdo : ∀ (x1 x2 x3 : Int) (x4 x5 : ByteArray) (W : World), Calls Tryz.prog fid #[.agg #[.int .i64 x1, .int .i64 x2, .int .i64 x3, .string x4, .string x5]] W fun e W' => e = .returned (.int .i64 (f ⟨x1, x2, x3, x4, x5⟩)) ∧ Below W.heap.size W W')
    (a : Option Addr) (n c : Nat) (l : List (Lv.T)) (w : World) (hn : n ≤ 1000000) (hr : LRow w a n l) :
    Calls Tryz.prog 43 #[.slice a n c, .func (.func fid) #[] #[]] w (ZRes w (l.map f)) := by
  have hll : Hid (l.length = n) := hr.1
  obtain ⟨L, hL⟩ : ∃ L, L = l.map f := ⟨_, rfl⟩
  have hLn : L.length = n := by rw [hL, List.length_map]; exact hr.1
  rw [← hL]
  unfold ZRes
  rw [hLn]
  have HL : Hid (L = l.map f) := hL
  have HN : Hid (L.length = n) := hLn
  clear hL hLn
  obtain ⟨i0, hi0, hz0, hz1, hz2⟩ := info_parts intZ.info
  go_enter Tryz.func43, Tryz.ntmps43
  go_wp2_with (at_make; go_must (refine make_full _ rfl _ _ 22 rfl w.heap.size 3 i0 _ 1 Tryz.underlying22 hi0 hz0 hz1 .i64 .i64 n rfl rfl (by rw [hz2]; omega) (by unfold maxLen; omega) (Nat.le_refl _) ?_; intro w3 hmade hb3; rw [made_z] at hmade))
  go_loopw [13] (fun iv wr => ∃ (j : Nat), j ≤ n ∧ iv = .int .i64 j ∧ wr.ownsRow w.heap.size 3 1 (.slice (some ⟨w.heap.size, 0, none⟩) n n) n (tcells ze (L.take j ++ List.replicate (n - j) 0)) ∧ Below w.heap.size w wr) (fun iv _ => n - (intOf iv).toNat)
  case atStart => exact ⟨0, by omega, rfl, hmade, hb3⟩
  case round =>
    obtain ⟨j, hj, rfl, hown, hbel⟩ := hrel
    clear hmade hb3
    by_cases hlt : j < n
    · obtain ⟨b, off, x1, x2, x3, x4, x5, rfl, hx, q0, q1, q2, q3, q4⟩ := lget hr hbel hlt
      have hj' : j < l.length := by rw [hll.out]; exact hlt
      have hg : L.getD j 0 = f ⟨x1, x2, x3, x4, x5⟩ := by rw [HL.out, ← hx.out]; simp [hj']
      have HS : Hid ((tcells ze (L.take j ++ List.replicate (n - j) 0)).set j (.int .i64 (f ⟨x1, x2, x3, x4, x5⟩)) = tcells ze (L.take (j + 1) ++ List.replicate (n - (j + 1)) 0)) := (set_z L n j _ hlt HN.out hg : _ = _)
      have hb2 := hbel.alloc hbel.size (.cells #[.int .i64 x1, .int .i64 x2, .int .i64 x3, .string x4, .string x5] 44)
      have hown2 := hown.alloc (.cells #[.int .i64 x1, .int .i64 x2, .int .i64 x3, .string x4, .string x5] 44)
      have hat := at_z L n j hlt HN.out
      have hd := fun W => hdo x1 x2 x3 x4 x5 W
      generalize f ⟨x1, x2, x3, x4, x5⟩ = y at *
      have i0 : (0 : Int) ≤ (j : Int) := by omega
      have i5 : (j : Int) < (n : Int) := by omega
      have c0 := cell_new wr #[.int .i64 x1, .int .i64 x2, .int .i64 x3, .string x4, .string x5] 44
      clear hx hg
      go_wp2_with (go_at_fn fid; go_must (refine (hd _).mono ?_; rintro e w4 ⟨rfl, hb4⟩; have hown4 := own_keptB hown2 hb4; have hb5 := hb2.trans (hb4.mono hb2.size); obtain ⟨k1, k2⟩ := own_cells hown4 hat; clear hown2 hb2 hown))
      go_roundw
      case rel => exact ⟨j + 1, by omega, by go_num, by rw [← HS.out]; exact own_store hown4 j _, below_putB hb5 (Nat.le_refl _) _ _⟩
      case measure => simp [intOf]; omega
    · obtain rfl : j = n := by omega
      have HC : Hid (L.take j ++ List.replicate (j - j) 0 = L) := (by
        rw [List.take_of_length_le (by rw [HN.out]; exact Nat.le_refl _)]; simp : _ = _)
      go_wp2
      go_ret
      rw [HC.out] at hown
      exact ⟨some ⟨w.heap.size, 0, none⟩, j, rfl, hown, hbel⟩

set_option maxRecDepth 100000 in
set_option maxHeartbeats 1000000 in
theorem rnums_k (f : Int × Int × Int → Int) (fid : Nat) (eg : ∀ args w, (callFunc fid args).run Tryz.prog w = .ok (.enter fid args) w)
    (hdo : ∀ (x y z : Int) (W : World), Calls Tryz.prog fid #[.agg #[.int .i64 x, .int .i64 y, .int .i64 z]] W fun e W' => e = .returned (.int .i64 (f (x, y, z))) ∧ Below W.heap.size W W')
    (a : Option Addr) (n c : Nat) (l : List (Int × Int × Int)) (w : World) (hn : n ≤ 1000000) (hr : KRow w a n l) :
    Calls Tryz.prog 45 #[.slice a n c, .func (.func fid) #[] #[]] w (ZRes w (l.map f)) := by
  have hll : Hid (l.length = n) := hr.1
  obtain ⟨L, hL⟩ : ∃ L, L = l.map f := ⟨_, rfl⟩
  have hLn : L.length = n := by rw [hL, List.length_map]; exact hr.1
  rw [← hL]
  unfold ZRes
  rw [hLn]
  have HL : Hid (L = l.map f) := hL
  have HN : Hid (L.length = n) := hLn
  clear hL hLn
  obtain ⟨i0, hi0, hz0, hz1, hz2⟩ := info_parts intZ.info
  go_enter Tryz.func45, Tryz.ntmps45
  go_wp2_with (at_make; go_must (refine make_full _ rfl _ _ 22 rfl w.heap.size 3 i0 _ 1 Tryz.underlying22 hi0 hz0 hz1 .i64 .i64 n rfl rfl (by rw [hz2]; omega) (by unfold maxLen; omega) (Nat.le_refl _) ?_; intro w3 hmade hb3; rw [made_z] at hmade))
  go_loopw [13] (fun iv wr => ∃ (j : Nat), j ≤ n ∧ iv = .int .i64 j ∧ wr.ownsRow w.heap.size 3 1 (.slice (some ⟨w.heap.size, 0, none⟩) n n) n (tcells ze (L.take j ++ List.replicate (n - j) 0)) ∧ Below w.heap.size w wr) (fun iv _ => n - (intOf iv).toNat)
  case atStart => exact ⟨0, by omega, rfl, hmade, hb3⟩
  case round =>
    obtain ⟨j, hj, rfl, hown, hbel⟩ := hrel
    clear hmade hb3
    by_cases hlt : j < n
    · obtain ⟨b, off, x, y, z, rfl, hx, q0, q1, q2⟩ := kget hr hbel hlt
      have hj' : j < l.length := by rw [hll.out]; exact hlt
      have hg : L.getD j 0 = f (x, y, z) := by rw [HL.out, ← hx.out]; simp [hj']
      have HS : Hid ((tcells ze (L.take j ++ List.replicate (n - j) 0)).set j (.int .i64 (f (x, y, z))) = tcells ze (L.take (j + 1) ++ List.replicate (n - (j + 1)) 0)) := (set_z L n j _ hlt HN.out hg : _ = _)
      have hb2 := hbel.alloc hbel.size (.cells #[.int .i64 x, .int .i64 y, .int .i64 z] 67)
      have hown2 := hown.alloc (.cells #[.int .i64 x, .int .i64 y, .int .i64 z] 67)
      have hat := at_z L n j hlt HN.out
      have hd := fun W => hdo x y z W
      generalize f (x, y, z) = y at *
      have i0 : (0 : Int) ≤ (j : Int) := by omega
      have i5 : (j : Int) < (n : Int) := by omega
      have c0 := cell_new wr #[.int .i64 x, .int .i64 y, .int .i64 z] 67
      clear hx hg
      go_wp2_with (go_at_fn fid; go_must (refine (hd _).mono ?_; rintro e w4 ⟨rfl, hb4⟩; have hown4 := own_keptB hown2 hb4; have hb5 := hb2.trans (hb4.mono hb2.size); obtain ⟨k1, k2⟩ := own_cells hown4 hat; clear hown2 hb2 hown))
      go_roundw
      case rel => exact ⟨j + 1, by omega, by go_num, by rw [← HS.out]; exact own_store hown4 j _, below_putB hb5 (Nat.le_refl _) _ _⟩
      case measure => simp [intOf]; omega
    · obtain rfl : j = n := by omega
      have HC : Hid (L.take j ++ List.replicate (j - j) 0 = L) := (by
        rw [List.take_of_length_le (by rw [HN.out]; exact Nat.le_refl _)]; simp : _ = _)
      go_wp2
      go_ret
      rw [HC.out] at hown
      exact ⟨some ⟨w.heap.size, 0, none⟩, j, rfl, hown, hbel⟩

theorem rmsegs (a : Option Addr) (n c : Nat) (l : List (Int × Int)) (w : World) (hn : n ≤ 1000000) (hr : MRow w a n l) : Calls Tryz.prog 41 #[.slice a n c, .func (.func 60) #[] #[]] w (ZRes w (l.map (·.1))) :=
  rnums_m (·.1) _ (enters_of Tryz.func60 (by kernel_rfl) rfl) (fun x y W => rmseg_any x y W) a n c l w hn hr
theorem rmnums (a : Option Addr) (n c : Nat) (l : List (Int × Int)) (w : World) (hn : n ≤ 1000000) (hr : MRow w a n l) : Calls Tryz.prog 41 #[.slice a n c, .func (.func 42) #[] #[]] w (ZRes w (l.map (·.2))) :=
  rnums_m (·.2) _ (enters_of Tryz.func42 (by kernel_rfl) rfl) (fun x y W => rmnum_any x y W) a n c l w hn hr
theorem rtnums (a : Option Addr) (n c : Nat) (l : List Lv.T) (w : World) (hn : n ≤ 1000000) (hr : LRow w a n l) : Calls Tryz.prog 43 #[.slice a n c, .func (.func 44) #[] #[]] w (ZRes w (l.map (·.num))) :=
  rnums_t (·.num) _ (enters_of Tryz.func44 (by kernel_rfl) rfl) (fun x1 x2 x3 x4 x5 W => rtnum_any x1 x2 x3 x4 x5 W) a n c l w hn hr
theorem rknums (a : Option Addr) (n c : Nat) (l : List (Int × Int × Int)) (w : World) (hn : n ≤ 1000000) (hr : KRow w a n l) : Calls Tryz.prog 45 #[.slice a n c, .func (.func 46) #[] #[]] w (ZRes w (l.map (·.1))) :=
  rnums_k (·.1) _ (enters_of Tryz.func46 (by kernel_rfl) rfl) (fun x y z W => rknum_any x y z W) a n c l w hn hr
theorem rkidxs (a : Option Addr) (n c : Nat) (l : List (Int × Int × Int)) (w : World) (hn : n ≤ 1000000) (hr : KRow w a n l) : Calls Tryz.prog 45 #[.slice a n c, .func (.func 63) #[] #[]] w (ZRes w (l.map (·.2.1))) :=
  rnums_k (·.2.1) _ (enters_of Tryz.func63 (by kernel_rfl) rfl) (fun x y z W => rkidx_any x y z W) a n c l w hn hr
end Go.Proofs.YtmodogmjfbcddaaGreat
