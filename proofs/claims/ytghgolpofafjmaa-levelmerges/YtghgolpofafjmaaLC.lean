/- Which of two tables is read earlier; the reference's question. -/
import Derived.Test.YtghgolpofafjmaaLA
import Derived.Test.YtghgolpofafjmaaQ4
import Derived.Test.YtghgolpofafjmaaShelf
import Derived.Test.YtghgolpofafjmaaLay
namespace Go.Proofs.Ytghgolpofafjmaa
open Go.RowKit
set_option maxRecDepth 100000 in
set_option maxHeartbeats 400000 in
theorem rahead_any (x1 x2 x3 : Int) (x4 x5 : ByteArray) (y1 y2 y3 : Int) (y4 y5 : ByteArray) (w : World) : Calls Try.prog 27 #[.agg #[.int .i64 x1, .int .i64 x2, .int .i64 x3, .string x4, .string x5], .agg #[.int .i64 y1, .int .i64 y2, .int .i64 y3, .string y4, .string y5]] w fun e w' => e = .returned (.bool (Lv.ahead ⟨x1, x2, x3, x4, x5⟩ ⟨y1, y2, y3, y4, y5⟩)) ∧ Below w.heap.size w w' := by
  generalize hr : Lv.ahead ⟨x1, x2, x3, x4, x5⟩ ⟨y1, y2, y3, y4, y5⟩ = r
  simp only [Lv.ahead] at hr
  rw [← bl_slt] at hr
  have hb := below_two w (.cells #[.int .i64 x1, .int .i64 x2, .int .i64 x3, .string x4, .string x5] 30) (.cells #[.int .i64 y1, .int .i64 y2, .int .i64 y3, .string y4, .string y5] 30)
  by_cases h1 : x2 = y2
  · by_cases h2 : x2 = 0
    · rw [if_neg (fun h => h h1), if_pos h2] at hr
      have HR : Hid (_ = r) := hr
      clear hr
      subst h1 h2
      go_enter Try.func27, Try.ntmps27
      go_wp2
      go_ret
      obtain rfl := HR.out
      exact ⟨rfl, hb⟩
    · rw [if_neg (fun h => h h1), if_neg h2] at hr
      have HR : Hid (_ = r) := hr
      clear hr
      subst h1
      have d2 : (x2 == 0) = false := by simp [h2]
      go_enter Try.func27, Try.ntmps27
      go_wp2
      go_ret
      obtain rfl := HR.out
      exact ⟨rfl, hb⟩
  · rw [if_pos h1] at hr
    have HR : Hid (_ = r) := hr
    clear hr
    have d1 : (x2 == y2) = false := by simp [h1]
    go_enter Try.func27, Try.ntmps27
    go_wp2
    go_ret
    obtain rfl := HR.out
    exact ⟨rfl, hb⟩

theorem cmp_lt : ∀ (a b : List UInt8), Lib.compareBytes a b < 0 ↔ Na.lt (a.map (·.toNat)) (b.map (·.toNat)) = true
  | [], [] => by simp [Lib.compareBytes, Na.lt]
  | [], _ :: _ => by simp [Lib.compareBytes, Na.lt]
  | _ :: _, [] => by simp [Lib.compareBytes, Na.lt]
  | a :: x, b :: y => by
    have ih := cmp_lt x y
    simp only [Lib.compareBytes, List.map_cons, Na.lt]
    by_cases h1 : a < b
    · have : a.toNat < b.toNat := h1
      simp [h1, this]
    · have h1' : ¬ a.toNat < b.toNat := h1
      by_cases h2 : b < a
      · have h2' : b.toNat < a.toNat := h2
        have h3 : ¬ a.toNat = b.toNat := by omega
        simp [h1, h2, h1', h3]
      · have h2' : ¬ b.toNat < a.toNat := h2
        have h3 : a.toNat = b.toNat := by omega
        simp [h1, h2, h3, ih]
/-- how two tables stand in the order of reading -/
def tcmp (x y : Lv.T) : Int := if x.lev ≠ y.lev then icmp x.lev y.lev else if x.lev = 0 then icmp y.num x.num else Lib.compareBytes x.first.data.toList y.first.data.toList
theorem icmp_lt0 {a b : Int} : icmp a b < 0 ↔ a < b := by unfold icmp; split <;> (try split) <;> omega
theorem tcmp_lt (x y : Lv.T) : ltOf tcmp x y = Lv.ahead x y := by
  unfold ltOf tcmp Lv.ahead
  split
  · exact decide_eq_decide.mpr icmp_lt0
  · split
    · exact decide_eq_decide.mpr icmp_lt0
    · rw [Bool.eq_iff_iff, decide_eq_true_eq]
      exact cmp_lt _ _
theorem tcmp_swo : Go.Sort.SWO (ltOf tcmp) where
  irrefl x := by rw [tcmp_lt]; exact Lv.ahead_irrefl x
  trans x y z h1 h2 := by rw [tcmp_lt] at *; exact Lv.ahead_trans h1 h2
  ntrans x y z h1 h2 := by rw [tcmp_lt] at *; exact Lv.ahead_ntrans h1 h2
set_option maxRecDepth 100000 in
set_option maxHeartbeats 400000 in
theorem learlier_any (x1 x2 x3 : Int) (x4 x5 : ByteArray) (y1 y2 y3 : Int) (y4 y5 : ByteArray) (w : World) : Calls Try.prog 36 #[.agg #[.int .i64 x1, .int .i64 x2, .int .i64 x3, .string x4, .string x5], .agg #[.int .i64 y1, .int .i64 y2, .int .i64 y3, .string y4, .string y5]] w fun e w' => e = .returned (.int .i64 (tcmp ⟨x1, x2, x3, x4, x5⟩ ⟨y1, y2, y3, y4, y5⟩)) ∧ w' = (w.alloc (.cells #[.int .i64 x1, .int .i64 x2, .int .i64 x3, .string x4, .string x5] 30)).alloc (.cells #[.int .i64 y1, .int .i64 y2, .int .i64 y3, .string y4, .string y5] 30) := by
  have hc := fun W => Try.strings_Compare x4 y4 W
  have hi := fun a b W => compare_any a b W
  generalize hr : tcmp ⟨x1, x2, x3, x4, x5⟩ ⟨y1, y2, y3, y4, y5⟩ = r
  simp only [tcmp] at hr
  by_cases h1 : x2 = y2
  · by_cases h2 : x2 = 0
    · rw [if_neg (fun h => h h1), if_pos h2] at hr
      have HR : Hid (_ = r) := hr
      clear hr
      subst h1 h2
      go_enter Try.func36, Try.ntmps36
      go_wp2_with (go_at_call 43; refine (hi _ _ _).mono ?_; rintro e w2 ⟨rfl, rfl⟩)
      go_ret
      obtain rfl := HR.out
      exact ⟨rfl, rfl⟩
    · rw [if_neg (fun h => h h1), if_neg h2] at hr
      have HR : Hid (_ = r) := hr
      clear hr
      subst h1
      have d2 : (x2 == 0) = false := by simp [h2]
      go_enter Try.func36, Try.ntmps36
      go_wp2_with (go_at_call 44; refine (hc _).mono ?_; rintro e w2 ⟨rfl, rfl⟩)
      go_ret
      obtain rfl := HR.out
      exact ⟨rfl, rfl⟩
  · rw [if_pos h1] at hr
    have HR : Hid (_ = r) := hr
    clear hr
    have d1 : (x2 == y2) = false := by simp [h1]
    go_enter Try.func36, Try.ntmps36
    go_wp2_with (go_at_call 43; refine (hi _ _ _).mono ?_; rintro e w2 ⟨rfl, rfl⟩)
    go_ret
    obtain rfl := HR.out
    exact ⟨rfl, rfl⟩
end Go.Proofs.Ytghgolpofafjmaa
