/- Rows of tables; which two meet, which may be beside each other, which is read earlier. -/
import Derived.Test.YtmodogmjfbcddaaGreatLvMath
namespace Go.Proofs.YtmodogmjfbcddaaGreat
open Go.RowKit

/-- a table's cells -/
def le (t : Lv.T) : List Value := [.int .i64 t.num, .int .i64 t.lev, .int .i64 t.size, .string t.first, .string t.last]
theorem leE : Enc 5 le := ⟨fun _ => rfl, fun x u hu => by simp only [le, List.mem_cons, List.not_mem_nil, or_false] at hu; rcases hu with h | h | h | h | h <;> (rw [h]; rfl)⟩
theorem tabE : Elem 24 44 5 56 (.agg #[.int .i64 0, .int .i64 0, .int .i64 0, .string ⟨#[]⟩, .string ⟨#[]⟩]) := ⟨Tryz.underlying24, by kernel_rfl, rfl, by decide, by decide⟩
abbrev LRow (w : World) (a : Option Addr) (n : Nat) (l : List Lv.T) : Prop := TRow 5 le Lv.zero w a n l
/-- a table as a value -/
abbrev lval (t : Lv.T) : Value := .agg #[.int .i64 t.num, .int .i64 t.lev, .int .i64 t.size, .string t.first, .string t.last]
abbrev lobj (t : Lv.T) : Obj := .cells #[.int .i64 t.num, .int .i64 t.lev, .int .i64 t.size, .string t.first, .string t.last] 44
theorem bl_slt (s t : ByteArray) : Op.bytesLess s.toList t.toList = Lv.slt s t := less_kb s t
theorem bl_le (s t : ByteArray) : (Op.bytesLess s.toList t.toList || s.toList == t.toList) = !Lv.slt t s := by
  rw [bl_slt]
  rcases Lv.slt_total s t with h | h | h
  · rw [h, Lv.slt_asymm h]; rfl
  · subst h; rw [Lv.slt_irrefl]; simp
  · have e : (s.toList == t.toList) = false := str_ne (fun e => by rw [kb_inj e, Lv.slt_irrefl] at h; cases h)
    rw [h, Lv.slt_asymm h, e]; rfl
theorem below_two (w : World) (o o' : Obj) : Below w.heap.size w ((w.alloc o).alloc o') := (below_alloc w o).alloc (by simp) _

set_option maxRecDepth 100000 in
set_option maxHeartbeats 400000 in
theorem lmeet_any (x1 x2 x3 : Int) (x4 x5 : ByteArray) (y1 y2 y3 : Int) (y4 y5 : ByteArray) (w : World) : Calls Tryz.prog 109 #[.agg #[.int .i64 x1, .int .i64 x2, .int .i64 x3, .string x4, .string x5], .agg #[.int .i64 y1, .int .i64 y2, .int .i64 y3, .string y4, .string y5]] w fun e w' => e = .returned (.bool (Lv.meet ⟨x1, x2, x3, x4, x5⟩ ⟨y1, y2, y3, y4, y5⟩)) ∧ Below w.heap.size w w' := by
  have e1 := bl_slt x5 y4
  have e2 := bl_slt y5 x4
  obtain ⟨r, hr⟩ : ∃ r, Lv.meet ⟨x1, x2, x3, x4, x5⟩ ⟨y1, y2, y3, y4, y5⟩ = r := ⟨_, rfl⟩
  rw [hr]
  simp only [Lv.meet] at hr
  generalize Lv.slt x5 y4 = b1 at e1 hr
  generalize Lv.slt y5 x4 = b2 at e2 hr
  have hb := below_two w (.cells #[.int .i64 x1, .int .i64 x2, .int .i64 x3, .string x4, .string x5] 44) (.cells #[.int .i64 y1, .int .i64 y2, .int .i64 y3, .string y4, .string y5] 44)
  cases b1 <;> cases b2 <;> simp only [Bool.not_true, Bool.not_false, Bool.and_true, Bool.and_false] at hr <;> subst hr <;>
    (go_enter Tryz.func109, Tryz.ntmps109; go_wp2; go_ret; exact ⟨rfl, hb⟩)
set_option maxRecDepth 100000 in
set_option maxHeartbeats 400000 in
theorem rmeet_any (x1 x2 x3 : Int) (x4 x5 : ByteArray) (y1 y2 y3 : Int) (y4 y5 : ByteArray) (w : World) : Calls Tryz.prog 76 #[.agg #[.int .i64 x1, .int .i64 x2, .int .i64 x3, .string x4, .string x5], .agg #[.int .i64 y1, .int .i64 y2, .int .i64 y3, .string y4, .string y5]] w fun e w' => e = .returned (.bool (Lv.meet ⟨x1, x2, x3, x4, x5⟩ ⟨y1, y2, y3, y4, y5⟩)) ∧ Below w.heap.size w w' := by
  have e1 := bl_slt x5 y4
  have e2 := bl_slt y5 x4
  obtain ⟨r, hr⟩ : ∃ r, Lv.meet ⟨x1, x2, x3, x4, x5⟩ ⟨y1, y2, y3, y4, y5⟩ = r := ⟨_, rfl⟩
  rw [hr]
  simp only [Lv.meet] at hr
  generalize Lv.slt x5 y4 = b1 at e1 hr
  generalize Lv.slt y5 x4 = b2 at e2 hr
  have hb := below_two w (.cells #[.int .i64 x1, .int .i64 x2, .int .i64 x3, .string x4, .string x5] 44) (.cells #[.int .i64 y1, .int .i64 y2, .int .i64 y3, .string y4, .string y5] 44)
  cases b1 <;> cases b2 <;> simp only [Bool.not_true, Bool.not_false, Bool.and_true, Bool.and_false] at hr <;> subst hr <;>
    (go_enter Tryz.func76, Tryz.ntmps76; go_wp2; go_ret; exact ⟨rfl, hb⟩)

set_option maxRecDepth 100000 in
set_option maxHeartbeats 400000 in
theorem liskey_any (s : ByteArray) (w : World) : Calls Tryz.prog 108 #[.string s] w fun e w' => e = .returned (.bool (Lv.key s)) ∧ w' = w := by
  obtain ⟨r, hr⟩ : ∃ r, Lv.key s = r := ⟨_, rfl⟩
  rw [hr]
  have H : Hid ((decide (1 ≤ s.size) && decide (s.size ≤ 64)) = r) := hr
  clear hr
  by_cases h1 : 1 ≤ s.size
  · have HR : Hid (r = decide (((s.size : Nat) : Int) ≤ 64)) := (by rw [← H.out]; simp only [h1, decide_true, Bool.true_and]; exact decide_eq_decide.mpr (by omega) : r = decide (((s.size : Nat) : Int) ≤ 64))
    clear H
    go_enter Tryz.func108, Tryz.ntmps108
    go_wp2
    go_ret
    obtain rfl := HR.out
    exact ⟨rfl, rfl⟩
  · have HR : Hid (r = false) := (by rw [← H.out]; simp only [h1, decide_false, Bool.false_and] : r = false)
    clear H
    go_enter Tryz.func108, Tryz.ntmps108
    go_wp2
    go_ret
    obtain rfl := HR.out
    exact ⟨rfl, rfl⟩
set_option maxRecDepth 100000 in
set_option maxHeartbeats 400000 in
theorem lclash_any (x1 x2 x3 : Int) (x4 x5 : ByteArray) (y1 y2 y3 : Int) (y4 y5 : ByteArray) (w : World) : Calls Tryz.prog 72 #[.agg #[.int .i64 x1, .int .i64 x2, .int .i64 x3, .string x4, .string x5], .agg #[.int .i64 y1, .int .i64 y2, .int .i64 y3, .string y4, .string y5]] w fun e w' => e = .returned (.bool (Lv.clash ⟨x1, x2, x3, x4, x5⟩ ⟨y1, y2, y3, y4, y5⟩)) ∧ Below w.heap.size w w' := by
  have hm := fun W => lmeet_any x1 x2 x3 x4 x5 y1 y2 y3 y4 y5 W
  generalize hr : Lv.clash ⟨x1, x2, x3, x4, x5⟩ ⟨y1, y2, y3, y4, y5⟩ = r
  simp only [Lv.clash] at hr
  generalize Lv.meet ⟨x1, x2, x3, x4, x5⟩ ⟨y1, y2, y3, y4, y5⟩ = m at *
  have hb := below_two w (.cells #[.int .i64 x1, .int .i64 x2, .int .i64 x3, .string x4, .string x5] 44) (.cells #[.int .i64 y1, .int .i64 y2, .int .i64 y3, .string y4, .string y5] 44)
  have H : Hid (((decide (x1 = y1) || (decide (x2 = y2) && decide (0 < x2) && m))) = r) := hr
  clear hr
  by_cases h1 : x1 = y1
  · have d1 : (x1 == y1) = true := by simp [h1]
    have HR : Hid (r = true) := (by rw [← H.out]; simp [h1] : r = true)
    clear H h1
    go_enter Tryz.func72, Tryz.ntmps72
    go_wp2
    go_ret
    obtain rfl := HR.out
    exact ⟨rfl, hb⟩
  · have d1 : (x1 == y1) = false := by simp [h1]
    by_cases h2 : x2 = y2
    · have d2 : (x2 == y2) = true := by simp [h2]
      by_cases h3 : 0 < x2
      · have d3 : decide (0 < x2) = true := by simp [h3]
        have HR : Hid (r = m) := (by rw [← H.out]; simp only [h1, h2, decide_true, decide_false, Bool.false_or, Bool.true_and]; rw [← h2]; simp only [h3, decide_true, Bool.true_and] : r = m)
        clear H h1 h2 h3
        go_enter Tryz.func72, Tryz.ntmps72
        go_wp2_with (go_at_call 109; refine (hm _).mono ?_; rintro e w2 ⟨rfl, hb2⟩)
        go_ret
        obtain rfl := HR.out
        exact ⟨rfl, hb.trans (hb2.mono hb.size)⟩
      · have d3 : decide (0 < x2) = false := by simp [h3]
        have HR : Hid (r = false) := (by rw [← H.out]; simp [h1, h3] : r = false)
        clear H h1 h2 h3
        go_enter Tryz.func72, Tryz.ntmps72
        go_wp2
        go_ret
        obtain rfl := HR.out
        exact ⟨rfl, hb⟩
    · have d2 : (x2 == y2) = false := by simp [h2]
      have HR : Hid (r = false) := (by rw [← H.out]; simp [h1, h2] : r = false)
      clear H h1 h2
      go_enter Tryz.func72, Tryz.ntmps72
      go_wp2
      go_ret
      obtain rfl := HR.out
      exact ⟨rfl, hb⟩
end Go.Proofs.YtmodogmjfbcddaaGreat
