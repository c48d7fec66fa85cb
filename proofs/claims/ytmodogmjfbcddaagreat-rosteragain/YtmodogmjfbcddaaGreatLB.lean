/- What of a table alone is asked. -/
import Derived.Test.YtmodogmjfbcddaaGreatLA
namespace Go.Proofs.YtmodogmjfbcddaaGreat
open Go.RowKit

/-- what of a table alone is asked, in the program's order -/
def oneP (x : Lv.T) : Bool := if x.num < 1 then false else if 2147483647 < x.num then false else if x.lev < 0 then false else if 4 < x.lev then false else if x.size < 0 then false else if 1073741824 < x.size then false else if Lv.key x.first = false then false else if Lv.key x.last = false then false else !Lv.slt x.last x.first
theorem oneP_one (x : Lv.T) : oneP x = Lv.one x := by
  obtain ⟨x1, x2, x3, x4, x5⟩ := x
  simp only [oneP, Lv.one]
  by_cases h1 : x1 < 1
  · have : ¬ 1 ≤ x1 := by omega
    simp only [h1, this, if_true, decide_false, Bool.false_and]
  have g1 : 1 ≤ x1 := by omega
  by_cases h2 : 2147483647 < x1
  · have : ¬ x1 ≤ 2147483647 := by omega
    simp only [h1, h2, this, g1, if_true, if_false, decide_true, decide_false, Bool.false_and, Bool.and_false]
  have g2 : x1 ≤ 2147483647 := by omega
  by_cases h3 : x2 < 0
  · have : ¬ 0 ≤ x2 := by omega
    simp only [h1, h2, h3, this, if_true, if_false, decide_false, Bool.false_and, Bool.and_false]
  have g3 : 0 ≤ x2 := by omega
  by_cases h4 : 4 < x2
  · have : ¬ x2 ≤ 4 := by omega
    simp only [h1, h2, h3, h4, this, if_true, if_false, decide_false, Bool.false_and, Bool.and_false]
  have g4 : x2 ≤ 4 := by omega
  by_cases h5 : x3 < 0
  · have : ¬ 0 ≤ x3 := by omega
    simp only [h1, h2, h3, h4, h5, this, if_true, if_false, decide_false, Bool.false_and, Bool.and_false]
  have g5 : 0 ≤ x3 := by omega
  by_cases h6 : 1073741824 < x3
  · have : ¬ x3 ≤ 1073741824 := by omega
    simp only [h1, h2, h3, h4, h5, h6, this, if_true, if_false, decide_false, Bool.false_and, Bool.and_false]
  have g6 : x3 ≤ 1073741824 := by omega
  simp only [h1, h2, h3, h4, h5, h6, g1, g2, g3, g4, g5, g6, if_false, decide_true, Bool.true_and]
  cases Lv.key x4 <;> cases Lv.key x5 <;> simp
set_option maxRecDepth 100000 in
set_option maxHeartbeats 4000000 in
theorem lmaybe_any (x1 x2 x3 : Int) (x4 x5 : ByteArray) (w : World) : Calls Tryz.prog 71 #[.agg #[.int .i64 x1, .int .i64 x2, .int .i64 x3, .string x4, .string x5]] w fun e w' => e = .returned (.bool (Lv.one ⟨x1, x2, x3, x4, x5⟩)) ∧ Below w.heap.size w w' := by
  have k := fun s W => liskey_any s W
  generalize hr : Lv.one ⟨x1, x2, x3, x4, x5⟩ = r
  rw [← oneP_one] at hr
  simp only [oneP] at hr
  have hb := below_alloc w (.cells #[.int .i64 x1, .int .i64 x2, .int .i64 x3, .string x4, .string x5] 44)
  have H : Hid (_ = r) := hr
  clear hr
  by_cases h1 : x1 < 1
  · have HR : Hid (r = false) := (by rw [← H.out]; simp only [h1, if_true] : r = false)
    clear H
    (go_enter Tryz.func71, Tryz.ntmps71; go_wp2_with (go_at_call 108; refine (k _ _).mono ?_; rintro e w2 ⟨rfl, rfl⟩); go_ret; obtain rfl := HR.out; exact ⟨rfl, hb⟩)
  have g1 : 1 ≤ x1 := by omega
  by_cases h2 : 2147483647 < x1
  · have HR : Hid (r = false) := (by rw [← H.out]; simp only [h1, h2, if_true, if_false] : r = false)
    clear H
    (go_enter Tryz.func71, Tryz.ntmps71; go_wp2_with (go_at_call 108; refine (k _ _).mono ?_; rintro e w2 ⟨rfl, rfl⟩); go_ret; obtain rfl := HR.out; exact ⟨rfl, hb⟩)
  have g2 : x1 ≤ 2147483647 := by omega
  by_cases h3 : x2 < 0
  · have HR : Hid (r = false) := (by rw [← H.out]; simp only [h1, h2, h3, if_true, if_false] : r = false)
    clear H
    (go_enter Tryz.func71, Tryz.ntmps71; go_wp2_with (go_at_call 108; refine (k _ _).mono ?_; rintro e w2 ⟨rfl, rfl⟩); go_ret; obtain rfl := HR.out; exact ⟨rfl, hb⟩)
  have g3 : 0 ≤ x2 := by omega
  by_cases h4 : 4 < x2
  · have HR : Hid (r = false) := (by rw [← H.out]; simp only [h1, h2, h3, h4, if_true, if_false] : r = false)
    clear H
    (go_enter Tryz.func71, Tryz.ntmps71; go_wp2_with (go_at_call 108; refine (k _ _).mono ?_; rintro e w2 ⟨rfl, rfl⟩); go_ret; obtain rfl := HR.out; exact ⟨rfl, hb⟩)
  have g4 : x2 ≤ 4 := by omega
  by_cases h5 : x3 < 0
  · have HR : Hid (r = false) := (by rw [← H.out]; simp only [h1, h2, h3, h4, h5, if_true, if_false] : r = false)
    clear H
    (go_enter Tryz.func71, Tryz.ntmps71; go_wp2_with (go_at_call 108; refine (k _ _).mono ?_; rintro e w2 ⟨rfl, rfl⟩); go_ret; obtain rfl := HR.out; exact ⟨rfl, hb⟩)
  have g5 : 0 ≤ x3 := by omega
  by_cases h6 : 1073741824 < x3
  · have HR : Hid (r = false) := (by rw [← H.out]; simp only [h1, h2, h3, h4, h5, h6, if_true, if_false] : r = false)
    clear H
    (go_enter Tryz.func71, Tryz.ntmps71; go_wp2_with (go_at_call 108; refine (k _ _).mono ?_; rintro e w2 ⟨rfl, rfl⟩); go_ret; obtain rfl := HR.out; exact ⟨rfl, hb⟩)
  have g6 : x3 ≤ 1073741824 := by omega
  have H2 : Hid (r = if Lv.key x4 = false then false else if Lv.key x5 = false then false else !Lv.slt x5 x4) := (by rw [← H.out]; simp only [h1, h2, h3, h4, h5, h6, if_false] : r = if Lv.key x4 = false then false else if Lv.key x5 = false then false else !Lv.slt x5 x4)
  clear H h1 h2 h3 h4 h5 h6
  by_cases k1 : Lv.key x4 = false
  · have HR : Hid (r = false) := (by rw [H2.out, if_pos k1] : r = false)
    clear H2
    (go_enter Tryz.func71, Tryz.ntmps71; go_wp2_with (go_at_call 108; refine (k _ _).mono ?_; rintro e w2 ⟨rfl, rfl⟩); go_ret; obtain rfl := HR.out; exact ⟨rfl, hb⟩)
  have k1' : Lv.key x4 = true := by simpa using k1
  by_cases k2 : Lv.key x5 = false
  · have HR : Hid (r = false) := (by rw [H2.out, if_neg k1, if_pos k2] : r = false)
    clear H2 k1
    (go_enter Tryz.func71, Tryz.ntmps71; go_wp2_with (go_at_call 108; refine (k _ _).mono ?_; rintro e w2 ⟨rfl, rfl⟩); go_ret; obtain rfl := HR.out; exact ⟨rfl, hb⟩)
  have k2' : Lv.key x5 = true := by simpa using k2
  have HR : Hid (r = (Op.bytesLess x4.toList x5.toList || x4.toList == x5.toList)) := (by rw [H2.out, if_neg k1, if_neg k2, bl_le] : r = (Op.bytesLess x4.toList x5.toList || x4.toList == x5.toList))
  clear H2 k1 k2
  (go_enter Tryz.func71, Tryz.ntmps71; go_wp2_with (go_at_call 108; refine (k _ _).mono ?_; rintro e w2 ⟨rfl, rfl⟩); go_ret; obtain rfl := HR.out; exact ⟨rfl, hb⟩)
end Go.Proofs.YtmodogmjfbcddaaGreat
