/- Rosters: the law's Light; First of the program; awake. -/
import Derived.Test.YtmodogmjfbcddaaGreatRS
import Derived.Test.YtmodogmjfbcddaaGreatOR
namespace Go.Proofs.YtmodogmjfbcddaaGreat
open Go.RowKit

def rlgt1 (t : Lv.T) : Bool := decide (t.first.size ≤ 200) && decide (t.last.size ≤ 200)
def rlgt (r : Ro.R) : Bool := (r.tabs.take 71).all rlgt1 && (decide (r.tabs.length ≤ 70) && (decide (r.segs.length ≤ 100) && (decide (r.moves.length ≤ 100) && decide (r.stills.length ≤ 100))))
theorem IsRos.rin {w : World} {a1 : Option Addr} {n1 c1 : Nat} {a2 : Option Addr} {n2 c2 : Nat} {a3 : Option Addr} {n3 c3 : Nat} {a4 : Option Addr} {n4 c4 : Nat} {r : Ro.R} (h : IsRos w a1 n1 c1 a2 n2 c2 a3 n3 c3 a4 n4 c4 r) (hl : rlgt r = true) : RIn w a1 n1 c1 a2 n2 c2 a3 n3 c3 a4 n4 c4 r := by
  simp only [rlgt, Bool.and_eq_true, decide_eq_true_eq] at hl
  obtain ⟨h1, h2, h3, h4, h5⟩ := hl
  have l1 := h.r1.1; have l2 := h.r2.1; have l3 := h.r3.1; have l4 := h.r4.1
  rw [List.take_of_length_le (by omega)] at h1
  refine ⟨h.r1, h.r2, h.r3, h.r4, h.z1, h.z2, h.z3, h.z4, by omega, by omega, by omega, by omega, h.c3, fun t ht => ?_⟩
  have := List.all_eq_true.mp h1 t ht
  simp only [rlgt1, Bool.and_eq_true, decide_eq_true_eq] at this
  omega
theorem rtake_drop {l : List Lv.T} {k : Nat} (hk : k < l.length) (h : k ≤ 70) : (l.take 71).drop k = l.getD k Lv.zero :: (l.take 71).drop (k + 1) := by
  have h : k < (l.take 71).length := by rw [List.length_take]; omega
  rw [List.drop_eq_getElem_cons h, List.getElem_take]
  simp [hk]

set_option maxRecDepth 100000 in
set_option maxHeartbeats 2000000 in
theorem rlight_any (s : List Int) (ms : List (Int × Int)) (ts : List Lv.T) (ks : List (Int × Int × Int)) (a1 : Option Addr) (n1 c1 : Nat) (a2 : Option Addr) (n2 c2 : Nat) (a3 : Option Addr) (n3 c3 : Nat) (a4 : Option Addr) (n4 c4 : Nat) (i1 i2 i3 i4 i5 i6 i7 : Int) (w : World) (h : IsRos w a1 n1 c1 a2 n2 c2 a3 n3 c3 a4 n4 c4 ⟨s, ms, ts, ks, i1, i2, i3, i4, i5, i6, i7⟩) (R : Bool) (hR : R = rlgt ⟨s, ms, ts, ks, i1, i2, i3, i4, i5, i6, i7⟩) :
    Calls Tryz.prog 7 #[.agg #[.slice a1 n1 c1, .slice a2 n2 c2, .slice a3 n3 c3, .slice a4 n4 c4, .int .i64 i1, .int .i64 i2, .int .i64 i3, .int .i64 i4, .int .i64 i5, .int .i64 i6, .int .i64 i7]] w fun e w' => e = .returned (.bool R) ∧ Below w.heap.size w w' := by
  have hll : Hid (ts.length = n3) := h.r3.1
  have l1 := h.r1.1; have l2 := h.r2.1; have l3 := h.r3.1; have l4 := h.r4.1
  have q1 := h.s1; have q2 := h.s2; have q3 := h.s3; have q4 := h.s4
  have HR : Hid (R = (((ts.take 71).drop 0).all rlgt1 && (decide ((n3 : Int) ≤ 70) && (decide ((n1 : Int) ≤ 100) && (decide ((n2 : Int) ≤ 100) && decide ((n4 : Int) ≤ 100)))))) := (by
    dsimp only at l1 l2 l3 l4
    rw [hR, rlgt]
    dsimp only
    rw [l1, l2, l3, l4]
    have g3 : decide ((n3 : Int) ≤ 70) = decide (n3 ≤ 70) := decide_eq_decide.mpr (by omega)
    have g1 : decide ((n1 : Int) ≤ 100) = decide (n1 ≤ 100) := decide_eq_decide.mpr (by omega)
    have g2 : decide ((n2 : Int) ≤ 100) = decide (n2 ≤ 100) := decide_eq_decide.mpr (by omega)
    have g4 : decide ((n4 : Int) ≤ 100) = decide (n4 ≤ 100) := decide_eq_decide.mpr (by omega)
    rw [g1, g2, g3, g4]; rfl : R = _)
  have R3 : Hid (LRow w a3 n3 ts) := h.r3
  obtain ⟨U, hU⟩ : ∃ U, U = w.alloc (.cells #[.slice a1 n1 c1, .slice a2 n2 c2, .slice a3 n3 c3, .slice a4 n4 c4, .int .i64 i1, .int .i64 i2, .int .i64 i3, .int .i64 i4, .int .i64 i5, .int .i64 i6, .int .i64 i7] 29) := ⟨_, rfl⟩
  have hbU : Below w.heap.size w U := by rw [hU]; exact below_alloc _ _
  have e0 : U.heap[w.heap.size]? = some (.cells #[.slice a1 n1 c1, .slice a2 n2 c2, .slice a3 n3 c3, .slice a4 n4 c4, .int .i64 i1, .int .i64 i2, .int .i64 i3, .int .i64 i4, .int .i64 i5, .int .i64 i6, .int .i64 i7] 29 (0, 0)) := by rw [hU]; exact heap_alloc_new _ _
  have ja0 := (blkc e0).1 0
  have ja1 := (blkc e0).1 1
  have ja2 := (blkc e0).1 2
  have ja3 := (blkc e0).1 3
  have ja4 := (blkc e0).1 4
  have ja5 := (blkc e0).1 5
  have ja6 := (blkc e0).1 6
  have ja7 := (blkc e0).1 7
  have ja8 := (blkc e0).1 8
  have ja9 := (blkc e0).1 9
  have ja10 := (blkc e0).1 10
  have HU : Hid (Below w.heap.size w U) := hbU
  have hUe : w.alloc (.cells #[.slice a1 n1 c1, .slice a2 n2 c2, .slice a3 n3 c3, .slice a4 n4 c4, .int .i64 i1, .int .i64 i2, .int .i64 i3, .int .i64 i4, .int .i64 i5, .int .i64 i6, .int .i64 i7] 29) = U := hU.symm
  clear hR l1 l2 l3 l4 h hU hbU e0
  go_enter Tryz.func7, Tryz.ntmps7
  go_wp2
  clear hUe
  go_loop [3] (fun i => ∃ k : Nat, k ≤ n3 ∧ k ≤ 71 ∧ i = .int .i64 k ∧ Hid (R = (((ts.take 71).drop k).all rlgt1 && (decide ((n3 : Int) ≤ 70) && (decide ((n1 : Int) ≤ 100) && (decide ((n2 : Int) ≤ 100) && decide ((n4 : Int) ≤ 100))))))) (fun i => n3 - (intOf i).toNat)
  case atStart => exact ⟨0, by omega, by omega, rfl, HR⟩
  case round =>
    obtain ⟨k, hk, hk71, rfl, H⟩ := hrel
    clear HR
    by_cases hlt : k < n3
    · by_cases h70 : k ≤ 70
      · obtain ⟨b, off, x1, x2, x3, x4, x5, rfl, hx, t0, t1, t2, t3, t4⟩ := lget R3.out HU.out hlt
        have HS : Hid (((ts.take 71).drop k).all rlgt1 = ((decide (x4.size ≤ 200) && decide (x5.size ≤ 200)) && ((ts.take 71).drop (k + 1)).all rlgt1)) := (by rw [rtake_drop (by rw [hll.out]; exact hlt) h70, hx.out]; rfl : _ = _)
        have i0 : (0 : Int) ≤ (k : Int) := by omega
        have i9 : (k : Int) < (n3 : Int) := by omega
        have i8 : (k : Int) ≤ 70 := by omega
        by_cases h4 : x4.size ≤ 200
        · by_cases h5 : x5.size ≤ 200
          · have H2 : Hid (R = (((ts.take 71).drop (k + 1)).all rlgt1 && (decide ((n3 : Int) ≤ 70) && (decide ((n1 : Int) ≤ 100) && (decide ((n2 : Int) ≤ 100) && decide ((n4 : Int) ≤ 100)))))) := (by rw [H.out, HS.out, decide_eq_true h4, decide_eq_true h5]; rfl : R = _)
            have d4 : ((x4.size : Nat) : Int) ≤ 200 := by omega
            have d5 : ((x5.size : Nat) : Int) ≤ 200 := by omega
            clear H HS hx
            go_wp2
            go_round
            case rel => exact ⟨k + 1, by omega, by omega, by go_num, H2⟩
            case measure => simp [intOf]; omega
          · have HE : Hid (R = false) := (by rw [H.out, HS.out, decide_eq_false h5]; simp : R = false)
            have d4 : ((x4.size : Nat) : Int) ≤ 200 := by omega
            have d5 : 200 < ((x5.size : Nat) : Int) := by omega
            clear H HS hx
            go_wp2
            go_ret
            obtain rfl := HE.out
            exact ⟨rfl, HU.out⟩
        · have HE : Hid (R = false) := (by rw [H.out, HS.out, decide_eq_false h4]; simp : R = false)
          have d4 : 200 < ((x4.size : Nat) : Int) := by omega
          clear H HS hx
          go_wp2
          go_ret
          obtain rfl := HE.out
          exact ⟨rfl, HU.out⟩
      · obtain rfl : k = 71 := by omega
        have HE : Hid (R = false) := (by rw [H.out, decide_eq_false (by omega), Bool.false_and, Bool.and_false] : R = false)
        have HL : 70 < (n3 : Int) := by omega
        have HL2 : decide ((n3 : Int) ≤ 70) = false := decide_eq_false (by omega)
        clear H
        go_wp2
        go_ret
        obtain rfl := HE.out
        exact ⟨rfl, HU.out⟩
    · obtain rfl : k = n3 := by omega
      have HE : Hid (R = (decide ((k : Int) ≤ 70) && (decide ((n1 : Int) ≤ 100) && (decide ((n2 : Int) ≤ 100) && decide ((n4 : Int) ≤ 100))))) := (by rw [H.out, List.drop_of_length_le (by rw [List.length_take, hll.out]; omega)]; rfl : R = _)
      clear H
      by_cases g3 : (k : Int) ≤ 70
      · by_cases g1 : (n1 : Int) ≤ 100
        · by_cases g2 : (n2 : Int) ≤ 100
          · have HF : Hid (R = decide ((n4 : Int) ≤ 100)) := (by rw [HE.out]; simp [g1, g2, g3] : R = _)
            have d3 : decide ((k : Int) ≤ 70) = true := by simpa using g3
            have d1 : decide ((n1 : Int) ≤ 100) = true := by simpa using g1
            have d2 : decide ((n2 : Int) ≤ 100) = true := by simpa using g2
            clear HE
            go_wp2
            go_ret
            obtain rfl := HF.out
            exact ⟨rfl, HU.out⟩
          · have HF : Hid (R = false) := (by rw [HE.out]; simp [g2] : R = _)
            have d3 : decide ((k : Int) ≤ 70) = true := by simpa using g3
            have d1 : decide ((n1 : Int) ≤ 100) = true := by simpa using g1
            have d2 : decide ((n2 : Int) ≤ 100) = false := by simpa using g2
            clear HE
            go_wp2
            go_ret
            obtain rfl := HF.out
            exact ⟨rfl, HU.out⟩
        · have HF : Hid (R = false) := (by rw [HE.out]; simp [g1] : R = _)
          have d3 : decide ((k : Int) ≤ 70) = true := by simpa using g3
          have d1 : decide ((n1 : Int) ≤ 100) = false := by simpa using g1
          clear HE
          go_wp2
          go_ret
          obtain rfl := HF.out
          exact ⟨rfl, HU.out⟩
      · have HF : Hid (R = false) := (by rw [HE.out]; simp [g3] : R = _)
        have d3 : decide ((k : Int) ≤ 70) = false := by simpa using g3
        clear HE
        go_wp2
        go_ret
        obtain rfl := HF.out
        exact ⟨rfl, HU.out⟩

theorem trow_cells {α : Type} {s : Nat} {enc : α → List Value} {d : α} (hE : Enc s enc) (w : World) (C : Array Value) (e : TypeId) (l : List α) (hl : l.length ≤ 1000000) (hC : C.toList = tcells enc l) {g : Nat} (hg : w.heap.size = g) : TRow s enc d (w.alloc (.cells C e)) (some ⟨g, 0, none⟩) l.length l := by
  subst hg
  refine ⟨rfl, by omega, .inr ⟨w.heap.size, 0, rfl, fun i hi j v hj => ?_⟩⟩
  have hjs : j < s := by have := (List.getElem?_eq_some_iff.mp hj).1; rwa [hE.len] at this
  have h1 := tcells_get (d := d) hE l i j hi hjs
  rw [hj, ← hC, Array.getElem?_toList] at h1
  rw [Nat.zero_add, cell_new]
  exact h1
theorem rin_first (w : World) : RIn w none 0 0 none 0 0 none 0 0 none 0 0 Ro.first := ⟨TRow.nil _ _, TRow.nil _ _, TRow.nil _ _, TRow.nil _ _, fun _ => ⟨rfl, rfl⟩, fun _ => ⟨rfl, rfl⟩, fun _ => ⟨rfl, rfl⟩, fun _ => ⟨rfl, rfl⟩, by omega, by omega, by omega, by omega, by omega, fun t ht => by cases ht⟩
theorem awake_math : Ro.apply Ro.first [⟨1, 1, 0, 0, 0, 0, 0, Lv.zero⟩, ⟨1, 2, 0, 0, 0, 0, 0, Lv.zero⟩, ⟨2, 5, 1, 0, 0, 0, 0, Lv.zero⟩] = (⟨[2], [(1, 5)], [], [], 1, 0, 0, 0, 0, 0, 0⟩, 0) := by
  have hz : Ed.tz Lv.zero = true := (Ed.tz_iff _).mpr rfl
  have hm : ([⟨1, 1, 0, 0, 0, 0, 0, Lv.zero⟩, ⟨1, 2, 0, 0, 0, 0, 0, Lv.zero⟩, ⟨2, 5, 1, 0, 0, 0, 0, Lv.zero⟩] : List Ed.E).all Ed.may = true := by simp [Ed.may, Ed.counts, Ed.cz, Ed.hz, hz]
  have hL : Lv.may [] = true := by decide
  rw [Ro.apply_fin (by rw [Ro.check_first, hm]; rfl), Ro.fin]
  have ht : Ro.turns Ro.first [⟨1, 1, 0, 0, 0, 0, 0, Lv.zero⟩, ⟨1, 2, 0, 0, 0, 0, 0, Lv.zero⟩, ⟨2, 5, 1, 0, 0, 0, 0, Lv.zero⟩] = some ⟨[2], [(1, 5)], [], [], 1, 0, 0, 0, 0, 0, 0⟩ := by
    simp [Ro.turns, Ro.turn, Ro.first, Ro.lastOf, Ro.ins]
  rw [ht]
  have hc : Ro.check ⟨[2], [(1, 5)], [], [], 1, 0, 0, 0, 0, 0, 0⟩ = true := by
    simp [Ro.check, Ro.segsMay, Ro.rise, Ro.riseGo, Ro.movesMay, Ro.stillsMay, Ro.restMay, Ro.placeMay, Ro.differ, Ro.sorted, Ro.cnt, Ro.cz, Ro.lastOf, hL]
  simp [hc]

set_option maxRecDepth 100000 in
set_option maxHeartbeats 1000000 in
theorem rfirst_any (w : World) : Calls Tryz.prog 16 #[] w fun e w' => e = .returned (.agg #[.slice none 0 0, .slice none 0 0, .slice none 0 0, .slice none 0 0, .int .i64 1, .int .i64 0, .int .i64 0, .int .i64 0, .int .i64 0, .int .i64 0, .int .i64 0]) ∧ Below w.heap.size w w' := by
  go_enter Tryz.func16, Tryz.ntmps16
  go_wp2
  have d0 := cell_new w #[.slice none 0 0, .slice none 0 0, .slice none 0 0, .slice none 0 0, .int .i64 1, .int .i64 0, .int .i64 0, .int .i64 0, .int .i64 0, .int .i64 0, .int .i64 0] 29 0
  have d1 := cell_new w #[.slice none 0 0, .slice none 0 0, .slice none 0 0, .slice none 0 0, .int .i64 1, .int .i64 0, .int .i64 0, .int .i64 0, .int .i64 0, .int .i64 0, .int .i64 0] 29 1
  have d2 := cell_new w #[.slice none 0 0, .slice none 0 0, .slice none 0 0, .slice none 0 0, .int .i64 1, .int .i64 0, .int .i64 0, .int .i64 0, .int .i64 0, .int .i64 0, .int .i64 0] 29 2
  have d3 := cell_new w #[.slice none 0 0, .slice none 0 0, .slice none 0 0, .slice none 0 0, .int .i64 1, .int .i64 0, .int .i64 0, .int .i64 0, .int .i64 0, .int .i64 0, .int .i64 0] 29 3
  have d4 := cell_new w #[.slice none 0 0, .slice none 0 0, .slice none 0 0, .slice none 0 0, .int .i64 1, .int .i64 0, .int .i64 0, .int .i64 0, .int .i64 0, .int .i64 0, .int .i64 0] 29 4
  have d5 := cell_new w #[.slice none 0 0, .slice none 0 0, .slice none 0 0, .slice none 0 0, .int .i64 1, .int .i64 0, .int .i64 0, .int .i64 0, .int .i64 0, .int .i64 0, .int .i64 0] 29 5
  have d6 := cell_new w #[.slice none 0 0, .slice none 0 0, .slice none 0 0, .slice none 0 0, .int .i64 1, .int .i64 0, .int .i64 0, .int .i64 0, .int .i64 0, .int .i64 0, .int .i64 0] 29 6
  have d7 := cell_new w #[.slice none 0 0, .slice none 0 0, .slice none 0 0, .slice none 0 0, .int .i64 1, .int .i64 0, .int .i64 0, .int .i64 0, .int .i64 0, .int .i64 0, .int .i64 0] 29 7
  have d8 := cell_new w #[.slice none 0 0, .slice none 0 0, .slice none 0 0, .slice none 0 0, .int .i64 1, .int .i64 0, .int .i64 0, .int .i64 0, .int .i64 0, .int .i64 0, .int .i64 0] 29 8
  have d9 := cell_new w #[.slice none 0 0, .slice none 0 0, .slice none 0 0, .slice none 0 0, .int .i64 1, .int .i64 0, .int .i64 0, .int .i64 0, .int .i64 0, .int .i64 0, .int .i64 0] 29 9
  have d10 := cell_new w #[.slice none 0 0, .slice none 0 0, .slice none 0 0, .slice none 0 0, .int .i64 1, .int .i64 0, .int .i64 0, .int .i64 0, .int .i64 0, .int .i64 0, .int .i64 0] 29 10
  refine bodyPost_ret (v := .agg #[.slice none 0 0, .slice none 0 0, .slice none 0 0, .slice none 0 0, .int .i64 1, .int .i64 0, .int .i64 0, .int .i64 0, .int .i64 0, .int .i64 0, .int .i64 0]) (by simp [results, Tryz.results16, go_sem, d0, d1, d2, d3, d4, d5, d6, d7, d8, d9, d10]) rfl ⟨rfl, below_alloc _ _⟩

set_option maxRecDepth 100000 in
set_option maxHeartbeats 2000000 in
theorem rawake_any (w : World) : Calls Tryz.prog 9 #[] w fun e w' => e = .returned (.bool true) ∧ Below w.heap.size w w' := by
  have hfi := rfirst_any w
  have hap := fun W (g : Nat) (hr : ERow W (some ⟨g, 0, none⟩) 3 [⟨1, 1, 0, 0, 0, 0, 0, Lv.zero⟩, ⟨1, 2, 0, 0, 0, 0, 0, Lv.zero⟩, ⟨2, 5, 1, 0, 0, 0, 0, Lv.zero⟩]) => rapply_any [] [] [] [] none 0 0 none 0 0 none 0 0 none 0 0 1 0 0 0 0 0 0 (some ⟨g, 0, none⟩) 3 3 [⟨1, 1, 0, 0, 0, 0, 0, Lv.zero⟩, ⟨1, 2, 0, 0, 0, 0, 0, Lv.zero⟩, ⟨2, 5, 1, 0, 0, 0, 0, Lv.zero⟩] W (rin_first W) hr (by omega)
  have hm := awake_math
  unfold Ro.first at hm
  rw [hm] at hap
  unfold ApRes at hap
  dsimp only at hap
  clear hm
  have hlit : ∀ W : World, ERow (W.alloc (.cells #[.int .i64 1, .int .i64 1, .int .i64 0, .int .i64 0, .int .i64 0, .int .i64 0, .int .i64 0, .int .i64 0, .int .i64 0, .int .i64 0, .string ⟨#[]⟩, .string ⟨#[]⟩, .int .i64 1, .int .i64 2, .int .i64 0, .int .i64 0, .int .i64 0, .int .i64 0, .int .i64 0, .int .i64 0, .int .i64 0, .int .i64 0, .string ⟨#[]⟩, .string ⟨#[]⟩, .int .i64 2, .int .i64 5, .int .i64 1, .int .i64 0, .int .i64 0, .int .i64 0, .int .i64 0, .int .i64 0, .int .i64 0, .int .i64 0, .string ⟨#[]⟩, .string ⟨#[]⟩] 46)) (some ⟨W.heap.size, 0, none⟩) 3 [⟨1, 1, 0, 0, 0, 0, 0, Lv.zero⟩, ⟨1, 2, 0, 0, 0, 0, 0, Lv.zero⟩, ⟨2, 5, 1, 0, 0, 0, 0, Lv.zero⟩] := fun W => trow_cells eeE W _ 46 [⟨1, 1, 0, 0, 0, 0, 0, Lv.zero⟩, ⟨1, 2, 0, 0, 0, 0, 0, Lv.zero⟩, ⟨2, 5, 1, 0, 0, 0, 0, Lv.zero⟩] (by simp) rfl rfl
  go_enter Tryz.func9, Tryz.ntmps9
  go_wp2_with (first
    | (go_at_call 16; go_must (refine hfi.mono ?_; rintro e w1 ⟨rfl, hb1⟩; have hb2 := hb1.alloc hb1.size (.cells #[.int .i64 1, .int .i64 1, .int .i64 0, .int .i64 0, .int .i64 0, .int .i64 0, .int .i64 0, .int .i64 0, .int .i64 0, .int .i64 0, .string ⟨#[]⟩, .string ⟨#[]⟩, .int .i64 1, .int .i64 2, .int .i64 0, .int .i64 0, .int .i64 0, .int .i64 0, .int .i64 0, .int .i64 0, .int .i64 0, .int .i64 0, .string ⟨#[]⟩, .string ⟨#[]⟩, .int .i64 2, .int .i64 5, .int .i64 1, .int .i64 0, .int .i64 0, .int .i64 0, .int .i64 0, .int .i64 0, .int .i64 0, .int .i64 0, .string ⟨#[]⟩, .string ⟨#[]⟩] 46)))
    | (go_at_call 10; go_must (refine (hap _ _ (hlit w1)).mono ?_; rintro e w3 ⟨a1, n1, c1, a2, n2, c2, a3, n3, c3, a4, n4, c4, rfl, hro, hb3⟩; have hb4 := hb2.trans (hb3.mono hb2.size); obtain ⟨l1, l2, l3, l4⟩ := hro.len; dsimp only [List.length_cons, List.length_nil] at l1 l2 l3 l4; subst l1 l2 l3 l4; obtain ⟨g1, rfl⟩ := town_blk hro.o1 (by omega); obtain ⟨g2, rfl⟩ := town_blk hro.o2 (by omega); obtain ⟨p0, _⟩ := own_cells hro.o1 (j := 0) rfl; obtain ⟨p1, _⟩ := own_cells hro.o2 (j := 0) rfl; obtain ⟨p2, _⟩ := own_cells hro.o2 (j := 1) rfl; have hb5 := hb4.alloc hb4.size; have k0 := fun o => (cell_past w3 o ⟨g1, 0, none⟩ (cell_lt p0)).trans p0; have k1 := fun o => (cell_past w3 o ⟨g2, 0, none⟩ (cell_lt p1)).trans p1; have k2 := fun o => (cell_past w3 o ⟨g2, 1, none⟩ (cell_lt p2)).trans p2)))
  go_ret
  exact ⟨by simp, hb5 _⟩
end Go.Proofs.YtmodogmjfbcddaaGreat
