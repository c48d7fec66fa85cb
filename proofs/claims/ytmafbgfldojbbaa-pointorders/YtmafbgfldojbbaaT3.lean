/- What slices' swapRange and rotate do to a block of points. -/
import Derived.Test.YtmafbgfldojbbaaT2
import Derived.BigRegion
namespace Go.Proofs.Ytmafbgfldojbbaa
open Go.RowKit

theorem getD_far (L1 L2 L3 : List Po.P) (x y : Po.P) (j : Nat) (hj : j = L1.length + 1 + L2.length) : (L1 ++ x :: (L2 ++ y :: L3)).getD j Po.zero = y := by
  have := getD_mid (L1 ++ x :: L2) L3 y
  rw [List.length_append, List.length_cons] at this
  rw [hj, show L1.length + 1 + L2.length = L1.length + (L2.length + 1) by omega, ← this]
  simp

set_option maxRecDepth 100000 in
set_option maxHeartbeats 1000000 in
theorem swaprange_any (g n c : Nat) (L1 U M V L3 : List Po.P) (a b k : Nat) (cv : Value) (w : World) (hn : n ≤ 1000000000) (h : PBlk w g n (L1 ++ U ++ M ++ V ++ L3)) (ha : a = L1.length) (hU : U.length = k) (hV : V.length = k) (hb : b = a + k + M.length) :
    Calls Try.prog 44 #[.slice (some ⟨g, 0, none⟩) n c, .int .i64 a, .int .i64 b, .int .i64 k, cv] w fun e w' => e = .returned (.tuple #[]) ∧ PBlk w' g n (L1 ++ V ++ M ++ U ++ L3) ∧ w.grownBy w' (some g) := by
  have hlen := h.len
  simp only [List.length_append] at hlen
  have hbn : b + k ≤ n := by omega
  have hab : a + k ≤ b := by omega
  have Ha : Hid (a = L1.length) := ha
  have HU : Hid (U.length = k) := hU
  have HV : Hid (V.length = k) := hV
  have Hb : Hid (b = a + k + M.length) := hb
  clear ha hU hV hb hlen
  go_enter Try.func44, Try.ntmps44
  go_wp2
  go_loopw [10] (fun v wr => ∃ t : Nat, t ≤ k ∧ v = .int .i64 t ∧ PBlk wr g n (L1 ++ V.take t ++ U.drop t ++ M ++ U.take t ++ V.drop t ++ L3) ∧ w.grownBy wr (some g)) (fun v _ => k - (intOf v).toNat)
  case atStart => exact ⟨0, by omega, rfl, by simpa using h, turned_refl w g⟩
  case round =>
    obtain ⟨t, ht, rfl, hblk, htu⟩ := hrel
    by_cases hlt : t < k
    · have hu : U.drop t = U.getD t Po.zero :: U.drop (t + 1) := by have := HU.out; rw [List.drop_eq_getElem_cons (by omega)]; simp [show t < U.length by omega]
      have hv : V.drop t = V.getD t Po.zero :: V.drop (t + 1) := by have := HV.out; rw [List.drop_eq_getElem_cons (by omega)]; simp [show t < V.length by omega]
      have hut : U.take (t + 1) = U.take t ++ [U.getD t Po.zero] := by have := HU.out; rw [List.take_succ_eq_append_getElem (by omega)]; simp [show t < U.length by omega]
      have hvt : V.take (t + 1) = V.take t ++ [V.getD t Po.zero] := by have := HV.out; rw [List.take_succ_eq_append_getElem (by omega)]; simp [show t < V.length by omega]
      have hnext : ∀ W, PBlk W g n ((L1 ++ V.take t) ++ V.getD t Po.zero :: ((U.drop (t + 1) ++ M ++ U.take t) ++ U.getD t Po.zero :: (V.drop (t + 1) ++ L3))) → PBlk W g n (L1 ++ V.take (t + 1) ++ U.drop (t + 1) ++ M ++ U.take (t + 1) ++ V.drop (t + 1) ++ L3) := fun W h => by
        rw [hut, hvt]; simpa using h
      have hrow : L1 ++ V.take t ++ U.drop t ++ M ++ U.take t ++ V.drop t ++ L3 = (L1 ++ V.take t) ++ U.getD t Po.zero :: ((U.drop (t + 1) ++ M ++ U.take t) ++ V.getD t Po.zero :: (V.drop (t + 1) ++ L3)) := by rw [hu, hv]; simp
      rw [hrow] at hblk
      have hx : a + t = (L1 ++ V.take t).length := by have := HV.out; have := Ha.out; rw [List.length_append, List.length_take]; omega
      have hy : b + t = (L1 ++ V.take t).length + 1 + (U.drop (t + 1) ++ M ++ U.take t).length := by
        rw [← hx]
        have := HU.out; have := Hb.out; simp only [List.length_append, List.length_take, List.length_drop]; omega
      have Hx : Hid (_) := hx
      have Hy : Hid (_) := hy
      have Hnext : Hid (_) := hnext
      clear hrow hu hv hut hvt hnext hx hy
      generalize U.getD t Po.zero = p at *
      generalize V.getD t Po.zero = y at *
      generalize L1 ++ V.take t = K1 at *
      generalize U.drop (t + 1) ++ M ++ U.take t = K2 at *
      generalize V.drop (t + 1) ++ L3 = K3 at *
      have fp : Po.Fits p := hblk.fits _ (by simp)
      have fy : Po.Fits y := hblk.fits _ (by simp)
      have hp := hblk.cell (a + t) (by omega)
      rw [show (K1 ++ p :: (K2 ++ y :: K3)).getD (a + t) Po.zero = p by rw [Hx.out]; exact getD_mid _ _ _] at hp
      have hq := hblk.cell (b + t) (by omega)
      rw [getD_far _ _ _ _ _ _ Hy.out] at hq
      have s0 : ∀ W5, PBlk W5 g n (((K1 ++ p :: (K2 ++ y :: K3)).set (a + t) y).set (b + t) p) → PBlk W5 g n (K1 ++ y :: (K2 ++ p :: K3)) := fun W5 h => by rw [swap_far _ _ _ _ _ _ _ Hx.out Hy.out] at h; exact h
      obtain ⟨ps, pa, pl, pm⟩ := p
      obtain ⟨ys, ya, yl, ym⟩ := y
      simp only [PCell] at hp hq
      obtain ⟨⟨p0, p1, p2, p3⟩, f0, f1, f2, f3⟩ := hp
      obtain ⟨⟨y0, y1, y2, y3⟩, z0, z1, z2, z3⟩ := hq
      have i0 : IntKind.i64.wrap ((a : Int) + (t : Int)) = (a : Int) + (t : Int) := by rw [IntKind.wrap_i64]; omega
      have i1 : IntKind.i64.wrap ((b : Int) + (t : Int)) = (b : Int) + (t : Int) := by rw [IntKind.wrap_i64]; omega
      have i2 : (0 : Int) ≤ (a : Int) + (t : Int) := by omega
      have i3 : (a : Int) + (t : Int) < (n : Int) := by omega
      have i4 : (0 : Int) ≤ (b : Int) + (t : Int) := by omega
      have i5 : (b : Int) + (t : Int) < (n : Int) := by omega
      have i6 : ((a : Int) + (t : Int)).toNat = a + t := by omega
      have i7 : ((b : Int) + (t : Int)).toNat = b + t := by omega
      go_wp2_with fail
      go_region
      have s1 := (hblk.store (a + t) (by omega) (ys, ya, yl, ym) fy).store (b + t) (by omega) (ps, pa, pl, pm) fp
      have s2 := (turned_four wr g ((a + t) * 4) ((a + t) * 4 + 1) ((a + t) * 4 + 2) ((a + t) * 4 + 3) (.int .i64 ys) (.int .i64 ya) (.int .i64 yl) (.int .u32 (ym : Nat))).trans (turned_four _ g ((b + t) * 4) ((b + t) * 4 + 1) ((b + t) * 4 + 2) ((b + t) * 4 + 3) (.int .i64 ps) (.int .i64 pa) (.int .i64 pl) (.int .u32 (pm : Nat)))
      have s3 := Hnext.out _ (s0 _ s1)
      clear p0 p1 p2 p3 f0 f1 f2 f3 y0 y1 y2 y3 z0 z1 z2 z3 s1 s0
      generalize (((((((wr.setCell ⟨g, (a + t) * 4, none⟩ (.int .i64 ys)).setCell ⟨g, (a + t) * 4 + 1, none⟩ (.int .i64 ya)).setCell ⟨g, (a + t) * 4 + 2, none⟩ (.int .i64 yl)).setCell ⟨g, (a + t) * 4 + 3, none⟩ (.int .u32 (ym : Nat))).setCell ⟨g, (b + t) * 4, none⟩ (.int .i64 ps)).setCell ⟨g, (b + t) * 4 + 1, none⟩ (.int .i64 pa)).setCell ⟨g, (b + t) * 4 + 2, none⟩ (.int .i64 pl)).setCell ⟨g, (b + t) * 4 + 3, none⟩ (.int .u32 (pm : Nat)) = W5 at *
      go_wp2
      go_roundw
      case rel => exact ⟨t + 1, by omega, by go_num, s3.of_block rfl, (htu.trans s2).trans (turned_drew _ _)⟩
      case measure => simp [intOf]; omega
    · obtain rfl : t = k := by omega
      have hU2 : U.take t = U := List.take_of_length_le (by have := HU.out; omega)
      have hV2 : V.take t = V := List.take_of_length_le (by have := HV.out; omega)
      have hU3 : U.drop t = [] := List.drop_of_length_le (by have := HU.out; omega)
      have hV3 : V.drop t = [] := List.drop_of_length_le (by have := HV.out; omega)
      rw [hU2, hV2, hU3, hV3, List.append_nil, List.append_nil] at hblk
      clear hU2 hV2 hU3 hV3
      go_wp2
      first | go_end0 | refine bodyPost_ret (results_none rfl _ _ _) rfl ?_
      exact ⟨rfl, hblk, htu⟩
end Go.Proofs.Ytmafbgfldojbbaa
