/- Rows of tables; which two meet, which may be beside each other, which is read earlier. -/
import Derived.Test.YtfogodbbgbnhkaaGreatDoorRoMath
namespace Go.Proofs.YtfogodbbgbnhkaaGreatDoor
open Go.RowKit

/-- a table's cells -/
def le (t : Lv.T) : List Value := [.int .i64 t.num, .int .i64 t.lev, .int .i64 t.size, .string t.first, .string t.last]
theorem leE : Enc 5 le := ⟨fun _ => rfl, fun x u hu => by simp only [le, List.mem_cons, List.not_mem_nil, or_false] at hu; rcases hu with h | h | h | h | h <;> (rw [h]; rfl)⟩
theorem tabE : Elem 29 50 5 56 (.agg #[.int .i64 0, .int .i64 0, .int .i64 0, .string ⟨#[]⟩, .string ⟨#[]⟩]) := ⟨Tryz.underlying29, by kernel_rfl, rfl, by decide, by decide⟩
abbrev LRow (w : World) (a : Option Addr) (n : Nat) (l : List Lv.T) : Prop := TRow 5 le Lv.zero w a n l
theorem bl_slt (s t : ByteArray) : Op.bytesLess s.toList t.toList = Lv.slt s t := less_kb s t
theorem bl_le (s t : ByteArray) : (Op.bytesLess s.toList t.toList || s.toList == t.toList) = !Lv.slt t s := by
  rw [bl_slt]
  rcases Lv.slt_total s t with h | h | h
  · rw [h, Lv.slt_asymm h]; rfl
  · subst h; rw [Lv.slt_irrefl]; simp
  · have e : (s.toList == t.toList) = false := str_ne (fun e => by rw [kb_inj e, Lv.slt_irrefl] at h; cases h)
    rw [h, Lv.slt_asymm h, e]; rfl
theorem below_two (w : World) (o o' : Obj) : Below w.heap.size w ((w.alloc o).alloc o') := (below_alloc w o).alloc (by simp) _

set_option maxRecDepth 100000 in
set_option maxHeartbeats 400000 in
theorem lmeet_any (x1 x2 x3 : Int) (x4 x5 : ByteArray) (y1 y2 y3 : Int) (y4 y5 : ByteArray) (w : World) : Calls Tryz.prog 163 #[.agg #[.int .i64 x1, .int .i64 x2, .int .i64 x3, .string x4, .string x5], .agg #[.int .i64 y1, .int .i64 y2, .int .i64 y3, .string y4, .string y5]] w fun e w' => e = .returned (.bool (Lv.meet ⟨x1, x2, x3, x4, x5⟩ ⟨y1, y2, y3, y4, y5⟩)) ∧ Below w.heap.size w w' := by
  have e1 := bl_slt x5 y4
  have e2 := bl_slt y5 x4
  obtain ⟨r, hr⟩ : ∃ r, Lv.meet ⟨x1, x2, x3, x4, x5⟩ ⟨y1, y2, y3, y4, y5⟩ = r := ⟨_, rfl⟩
  rw [hr]
  simp only [Lv.meet] at hr
  generalize Lv.slt x5 y4 = b1 at e1 hr
  generalize Lv.slt y5 x4 = b2 at e2 hr
  have hb := below_two w (.cells #[.int .i64 x1, .int .i64 x2, .int .i64 x3, .string x4, .string x5] 50) (.cells #[.int .i64 y1, .int .i64 y2, .int .i64 y3, .string y4, .string y5] 50)
  cases b1 <;> cases b2 <;> simp only [Bool.not_true, Bool.not_false, Bool.and_true, Bool.and_false] at hr <;> subst hr <;>
    (go_enter Tryz.func163, Tryz.ntmps163; go_wp2; go_ret; exact ⟨rfl, hb⟩)

set_option maxRecDepth 100000 in
set_option maxHeartbeats 400000 in
theorem liskey_any (s : ByteArray) (w : World) : Calls Tryz.prog 162 #[.string s] w fun e w' => e = .returned (.bool (Lv.key s)) ∧ w' = w := by
  obtain ⟨r, hr⟩ : ∃ r, Lv.key s = r := ⟨_, rfl⟩
  rw [hr]
  have H : Hid ((decide (1 ≤ s.size) && decide (s.size ≤ 64)) = r) := hr
  clear hr
  by_cases h1 : 1 ≤ s.size
  · have HR : Hid (r = decide (((s.size : Nat) : Int) ≤ 64)) := (by rw [← H.out]; simp only [h1, decide_true, Bool.true_and]; exact decide_eq_decide.mpr (by omega) : r = decide (((s.size : Nat) : Int) ≤ 64))
    clear H
    go_enter Tryz.func162, Tryz.ntmps162
    go_wp2
    go_ret
    obtain rfl := HR.out
    exact ⟨rfl, rfl⟩
  · have HR : Hid (r = false) := (by rw [← H.out]; simp only [h1, decide_false, Bool.false_and] : r = false)
    clear H
    go_enter Tryz.func162, Tryz.ntmps162
    go_wp2
    go_ret
    obtain rfl := HR.out
    exact ⟨rfl, rfl⟩
set_option maxRecDepth 100000 in
set_option maxHeartbeats 400000 in
theorem lclash_any (x1 x2 x3 : Int) (x4 x5 : ByteArray) (y1 y2 y3 : Int) (y4 y5 : ByteArray) (w : World) : Calls Tryz.prog 118 #[.agg #[.int .i64 x1, .int .i64 x2, .int .i64 x3, .string x4, .string x5], .agg #[.int .i64 y1, .int .i64 y2, .int .i64 y3, .string y4, .string y5]] w fun e w' => e = .returned (.bool (Lv.clash ⟨x1, x2, x3, x4, x5⟩ ⟨y1, y2, y3, y4, y5⟩)) ∧ Below w.heap.size w w' := by
  have hm := fun W => lmeet_any x1 x2 x3 x4 x5 y1 y2 y3 y4 y5 W
  generalize hr : Lv.clash ⟨x1, x2, x3, x4, x5⟩ ⟨y1, y2, y3, y4, y5⟩ = r
  simp only [Lv.clash] at hr
  generalize Lv.meet ⟨x1, x2, x3, x4, x5⟩ ⟨y1, y2, y3, y4, y5⟩ = m at *
  have hb := below_two w (.cells #[.int .i64 x1, .int .i64 x2, .int .i64 x3, .string x4, .string x5] 50) (.cells #[.int .i64 y1, .int .i64 y2, .int .i64 y3, .string y4, .string y5] 50)
  have H : Hid (((decide (x1 = y1) || (decide (x2 = y2) && decide (0 < x2) && m))) = r) := hr
  clear hr
  by_cases h1 : x1 = y1
  · have d1 : (x1 == y1) = true := by simp [h1]
    have HR : Hid (r = true) := (by rw [← H.out]; simp [h1] : r = true)
    clear H h1
    go_enter Tryz.func118, Tryz.ntmps118
    go_wp2
    go_ret
    obtain rfl := HR.out
    exact ⟨rfl, hb⟩
  · have d1 : (x1 == y1) = false := by simp [h1]
    by_cases h2 : x2 = y2
    · have d2 : (x2 == y2) = true := by simp [h2]
      by_cases h3 : 0 < x2
      · have d3 : decide (0 < x2) = true := by simp [h3]
        have HR : Hid (r = m) := (by rw [← H.out]; simp only [h1, h2, decide_true, decide_false, Bool.false_or, Bool.true_and]; rw [← h2]; simp only [h3, decide_true, Bool.true_and] : r = m)
        clear H h1 h2 h3
        go_enter Tryz.func118, Tryz.ntmps118
        go_wp2_with (go_at_call 163; refine (hm _).mono ?_; rintro e w2 ⟨rfl, hb2⟩)
        go_ret
        obtain rfl := HR.out
        exact ⟨rfl, hb.trans (hb2.mono hb.size)⟩
      · have d3 : decide (0 < x2) = false := by simp [h3]
        have HR : Hid (r = false) := (by rw [← H.out]; simp [h1, h3] : r = false)
        clear H h1 h2 h3
        go_enter Tryz.func118, Tryz.ntmps118
        go_wp2
        go_ret
        obtain rfl := HR.out
        exact ⟨rfl, hb⟩
    · have d2 : (x2 == y2) = false := by simp [h2]
      have HR : Hid (r = false) := (by rw [← H.out]; simp [h1, h2] : r = false)
      clear H h1 h2
      go_enter Tryz.func118, Tryz.ntmps118
      go_wp2
      go_ret
      obtain rfl := HR.out
      exact ⟨rfl, hb⟩
end Go.Proofs.YtfogodbbgbnhkaaGreatDoor

/- Reading a row of tables. -/
namespace Go.Proofs.YtfogodbbgbnhkaaGreatDoor
open Go.RowKit

theorem lget {w wr : World} {a : Option Addr} {n k : Nat} {l : List Lv.T} (h : LRow w a n l) (hb : Below w.heap.size w wr) (hk : k < n) :
    ∃ b off x1 x2 x3 x4 x5, a = some ⟨b, off, none⟩ ∧ Hid (l.getD k Lv.zero = ⟨x1, x2, x3, x4, x5⟩) ∧ wr.cell? ⟨b, off + k * 5, none⟩ = some (.int .i64 x1) ∧ wr.cell? ⟨b, off + k * 5 + 1, none⟩ = some (.int .i64 x2) ∧ wr.cell? ⟨b, off + k * 5 + 2, none⟩ = some (.int .i64 x3) ∧ wr.cell? ⟨b, off + k * 5 + 3, none⟩ = some (.string x4) ∧ wr.cell? ⟨b, off + k * 5 + 4, none⟩ = some (.string x5) := by
  obtain ⟨b, off, rfl, hc⟩ := h.at (by omega)
  have hr := hc k hk
  generalize hx : l.getD k Lv.zero = x at hr
  obtain ⟨x1, x2, x3, x4, x5⟩ := x
  refine ⟨b, off, x1, x2, x3, x4, x5, rfl, (rfl : _ = _), ?_, ?_, ?_, ?_, ?_⟩
  · have := hr 0 _ rfl; exact (hb.cell (p := ⟨b, off + k * 5, none⟩) (cell_lt this)).trans this
  · have := hr 1 _ rfl; exact (hb.cell (p := ⟨b, off + k * 5 + 1, none⟩) (cell_lt this)).trans this
  · have := hr 2 _ rfl; exact (hb.cell (p := ⟨b, off + k * 5 + 2, none⟩) (cell_lt this)).trans this
  · have := hr 3 _ rfl; exact (hb.cell (p := ⟨b, off + k * 5 + 3, none⟩) (cell_lt this)).trans this
  · have := hr 4 _ rfl; exact (hb.cell (p := ⟨b, off + k * 5 + 4, none⟩) (cell_lt this)).trans this
theorem ldrop {l : List Lv.T} {k : Nat} (hk : k < l.length) : l.drop k = l.getD k Lv.zero :: l.drop (k + 1) := by
  rw [List.drop_eq_getElem_cons hk]; simp [hk]
theorem lowns_base {w : World} {B B' e size n : Nat} {v : Value} {xs : List Value} (h : w.ownsRow B e size v n xs) (hB : B' ≤ B) : w.ownsRow B' e size v n xs := by
  refine ⟨h.1, ?_⟩
  rcases h.2 with hn | ⟨g, cap, cur, rfl, hg, rest⟩
  · exact .inl hn
  · exact .inr ⟨g, cap, cur, rfl, Nat.le_trans hB hg, rest⟩
theorem lit_tab (w : World) (x1 x2 x3 : Int) (x4 x5 : ByteArray) {g : Nat} (hg : w.heap.size = g) : LRow (w.alloc (.cells #[.int .i64 x1, .int .i64 x2, .int .i64 x3, .string x4, .string x5] 50)) (some ⟨g, 0, none⟩) 1 [⟨x1, x2, x3, x4, x5⟩] :=
  trow_lit w _ _ _ hg (fun j v hj => by
    match j, hj with
    | 0, hj | 1, hj | 2, hj | 3, hj | 4, hj => exact hj
    | j + 5, hj => simp [le] at hj)
abbrev otab (x1 x2 x3 : Int) (x4 x5 : ByteArray) : Obj := .cells #[.int .i64 x1, .int .i64 x2, .int .i64 x3, .string x4, .string x5] 50

theorem tab_past {w w2 : World} {x1 x2 x3 : Int} {x4 x5 : ByteArray} {B : Nat} (hb : Below B (w.alloc (otab x1 x2 x3 x4 x5)) w2) (hB : w.heap.size < B) :
    w2.cell? ⟨w.heap.size, 0, none⟩ = some (.int .i64 x1) ∧ w2.cell? ⟨w.heap.size, 1, none⟩ = some (.int .i64 x2) ∧ w2.cell? ⟨w.heap.size, 2, none⟩ = some (.int .i64 x3) ∧ w2.cell? ⟨w.heap.size, 3, none⟩ = some (.string x4) ∧ w2.cell? ⟨w.heap.size, 4, none⟩ = some (.string x5) := by
  refine ⟨?_, ?_, ?_, ?_, ?_⟩ <;> exact (hb.cell (p := ⟨w.heap.size, _, none⟩) hB).trans (cell_new _ _ _ _)

def L5 (w : World) (b o : Nat) (x : Lv.T) : Prop := w.cell? ⟨b, o, none⟩ = some (.int .i64 x.num) ∧ w.cell? ⟨b, o + 1, none⟩ = some (.int .i64 x.lev) ∧ w.cell? ⟨b, o + 2, none⟩ = some (.int .i64 x.size) ∧ w.cell? ⟨b, o + 3, none⟩ = some (.string x.first) ∧ w.cell? ⟨b, o + 4, none⟩ = some (.string x.last)
theorem L5.of {w : World} {b o : Nat} {x : Lv.T} (h : TAt le w b o x) : L5 w b o x := ⟨h 0 _ rfl, h 1 _ rfl, h 2 _ rfl, h 3 _ rfl, h 4 _ rfl⟩
theorem L5.below {w w' : World} {B b o : Nat} {x : Lv.T} (h : L5 w b o x) (hb : Below B w w') (hB : w.heap.size ≤ B) : L5 w' b o x := by
  obtain ⟨h0, h1, h2, h3, h4⟩ := h
  have hlt : b < B := Nat.lt_of_lt_of_le (cell_lt h0) hB
  exact ⟨(hb.cell (p := ⟨b, o, none⟩) hlt).trans h0, (hb.cell (p := ⟨b, o + 1, none⟩) hlt).trans h1, (hb.cell (p := ⟨b, o + 2, none⟩) hlt).trans h2, (hb.cell (p := ⟨b, o + 3, none⟩) hlt).trans h3, (hb.cell (p := ⟨b, o + 4, none⟩) hlt).trans h4⟩
end Go.Proofs.YtfogodbbgbnhkaaGreatDoor

/- What of a table alone is asked. -/
namespace Go.Proofs.YtfogodbbgbnhkaaGreatDoor
open Go.RowKit

/-- what of a table alone is asked, in the program's order -/
def oneP (x : Lv.T) : Bool := if x.num < 1 then false else if 2147483647 < x.num then false else if x.lev < 0 then false else if 4 < x.lev then false else if x.size < 0 then false else if 1073741824 < x.size then false else if Lv.key x.first = false then false else if Lv.key x.last = false then false else !Lv.slt x.last x.first
theorem oneP_one (x : Lv.T) : oneP x = Lv.one x := by
  obtain ⟨x1, x2, x3, x4, x5⟩ := x
  simp only [oneP, Lv.one]
  by_cases h1 : x1 < 1
  · have : ¬ 1 ≤ x1 := by omega
    simp only [h1, this, if_true, decide_false, Bool.false_and]
  have g1 : 1 ≤ x1 := by omega
  by_cases h2 : 2147483647 < x1
  · have : ¬ x1 ≤ 2147483647 := by omega
    simp only [h1, h2, this, g1, if_true, if_false, decide_true, decide_false, Bool.false_and, Bool.and_false]
  have g2 : x1 ≤ 2147483647 := by omega
  by_cases h3 : x2 < 0
  · have : ¬ 0 ≤ x2 := by omega
    simp only [h1, h2, h3, this, if_true, if_false, decide_false, Bool.false_and, Bool.and_false]
  have g3 : 0 ≤ x2 := by omega
  by_cases h4 : 4 < x2
  · have : ¬ x2 ≤ 4 := by omega
    simp only [h1, h2, h3, h4, this, if_true, if_false, decide_false, Bool.false_and, Bool.and_false]
  have g4 : x2 ≤ 4 := by omega
  by_cases h5 : x3 < 0
  · have : ¬ 0 ≤ x3 := by omega
    simp only [h1, h2, h3, h4, h5, this, if_true, if_false, decide_false, Bool.false_and, Bool.and_false]
  have g5 : 0 ≤ x3 := by omega
  by_cases h6 : 1073741824 < x3
  · have : ¬ x3 ≤ 1073741824 := by omega
    simp only [h1, h2, h3, h4, h5, h6, this, if_true, if_false, decide_false, Bool.false_and, Bool.and_false]
  have g6 : x3 ≤ 1073741824 := by omega
  simp only [h1, h2, h3, h4, h5, h6, g1, g2, g3, g4, g5, g6, if_false, decide_true, Bool.true_and]
  cases Lv.key x4 <;> cases Lv.key x5 <;> simp
set_option maxRecDepth 100000 in
set_option maxHeartbeats 4000000 in
theorem lmaybe_any (x1 x2 x3 : Int) (x4 x5 : ByteArray) (w : World) : Calls Tryz.prog 117 #[.agg #[.int .i64 x1, .int .i64 x2, .int .i64 x3, .string x4, .string x5]] w fun e w' => e = .returned (.bool (Lv.one ⟨x1, x2, x3, x4, x5⟩)) ∧ Below w.heap.size w w' := by
  have k := fun s W => liskey_any s W
  generalize hr : Lv.one ⟨x1, x2, x3, x4, x5⟩ = r
  rw [← oneP_one] at hr
  simp only [oneP] at hr
  have hb := below_alloc w (.cells #[.int .i64 x1, .int .i64 x2, .int .i64 x3, .string x4, .string x5] 50)
  have H : Hid (_ = r) := hr
  clear hr
  by_cases h1 : x1 < 1
  · have HR : Hid (r = false) := (by rw [← H.out]; simp only [h1, if_true] : r = false)
    clear H
    (go_enter Tryz.func117, Tryz.ntmps117; go_wp2_with (go_at_call 162; refine (k _ _).mono ?_; rintro e w2 ⟨rfl, rfl⟩); go_ret; obtain rfl := HR.out; exact ⟨rfl, hb⟩)
  have g1 : 1 ≤ x1 := by omega
  by_cases h2 : 2147483647 < x1
  · have HR : Hid (r = false) := (by rw [← H.out]; simp only [h1, h2, if_true, if_false] : r = false)
    clear H
    (go_enter Tryz.func117, Tryz.ntmps117; go_wp2_with (go_at_call 162; refine (k _ _).mono ?_; rintro e w2 ⟨rfl, rfl⟩); go_ret; obtain rfl := HR.out; exact ⟨rfl, hb⟩)
  have g2 : x1 ≤ 2147483647 := by omega
  by_cases h3 : x2 < 0
  · have HR : Hid (r = false) := (by rw [← H.out]; simp only [h1, h2, h3, if_true, if_false] : r = false)
    clear H
    (go_enter Tryz.func117, Tryz.ntmps117; go_wp2_with (go_at_call 162; refine (k _ _).mono ?_; rintro e w2 ⟨rfl, rfl⟩); go_ret; obtain rfl := HR.out; exact ⟨rfl, hb⟩)
  have g3 : 0 ≤ x2 := by omega
  by_cases h4 : 4 < x2
  · have HR : Hid (r = false) := (by rw [← H.out]; simp only [h1, h2, h3, h4, if_true, if_false] : r = false)
    clear H
    (go_enter Tryz.func117, Tryz.ntmps117; go_wp2_with (go_at_call 162; refine (k _ _).mono ?_; rintro e w2 ⟨rfl, rfl⟩); go_ret; obtain rfl := HR.out; exact ⟨rfl, hb⟩)
  have g4 : x2 ≤ 4 := by omega
  by_cases h5 : x3 < 0
  · have HR : Hid (r = false) := (by rw [← H.out]; simp only [h1, h2, h3, h4, h5, if_true, if_false] : r = false)
    clear H
    (go_enter Tryz.func117, Tryz.ntmps117; go_wp2_with (go_at_call 162; refine (k _ _).mono ?_; rintro e w2 ⟨rfl, rfl⟩); go_ret; obtain rfl := HR.out; exact ⟨rfl, hb⟩)
  have g5 : 0 ≤ x3 := by omega
  by_cases h6 : 1073741824 < x3
  · have HR : Hid (r = false) := (by rw [← H.out]; simp only [h1, h2, h3, h4, h5, h6, if_true, if_false] : r = false)
    clear H
    (go_enter Tryz.func117, Tryz.ntmps117; go_wp2_with (go_at_call 162; refine (k _ _).mono ?_; rintro e w2 ⟨rfl, rfl⟩); go_ret; obtain rfl := HR.out; exact ⟨rfl, hb⟩)
  have g6 : x3 ≤ 1073741824 := by omega
  have H2 : Hid (r = if Lv.key x4 = false then false else if Lv.key x5 = false then false else !Lv.slt x5 x4) := (by rw [← H.out]; simp only [h1, h2, h3, h4, h5, h6, if_false] : r = if Lv.key x4 = false then false else if Lv.key x5 = false then false else !Lv.slt x5 x4)
  clear H h1 h2 h3 h4 h5 h6
  by_cases k1 : Lv.key x4 = false
  · have HR : Hid (r = false) := (by rw [H2.out, if_pos k1] : r = false)
    clear H2
    (go_enter Tryz.func117, Tryz.ntmps117; go_wp2_with (go_at_call 162; refine (k _ _).mono ?_; rintro e w2 ⟨rfl, rfl⟩); go_ret; obtain rfl := HR.out; exact ⟨rfl, hb⟩)
  have k1' : Lv.key x4 = true := by simpa using k1
  by_cases k2 : Lv.key x5 = false
  · have HR : Hid (r = false) := (by rw [H2.out, if_neg k1, if_pos k2] : r = false)
    clear H2 k1
    (go_enter Tryz.func117, Tryz.ntmps117; go_wp2_with (go_at_call 162; refine (k _ _).mono ?_; rintro e w2 ⟨rfl, rfl⟩); go_ret; obtain rfl := HR.out; exact ⟨rfl, hb⟩)
  have k2' : Lv.key x5 = true := by simpa using k2
  have HR : Hid (r = (Op.bytesLess x4.toList x5.toList || x4.toList == x5.toList)) := (by rw [H2.out, if_neg k1, if_neg k2, bl_le] : r = (Op.bytesLess x4.toList x5.toList || x4.toList == x5.toList))
  clear H2 k1 k2
  (go_enter Tryz.func117, Tryz.ntmps117; go_wp2_with (go_at_call 162; refine (k _ _).mono ?_; rintro e w2 ⟨rfl, rfl⟩); go_ret; obtain rfl := HR.out; exact ⟨rfl, hb⟩)
end Go.Proofs.YtfogodbbgbnhkaaGreatDoor

/- What the program's Check does. -/
namespace Go.Proofs.YtfogodbbgbnhkaaGreatDoor
open Go.RowKit

theorem may_step {l : List Lv.T} {k : Nat} (hk : k < l.length) : Lv.mayGo (l.take k) (l.drop k) = (Lv.one (l.getD k Lv.zero) && ((l.take k).all (fun y => !Lv.clash (l.getD k Lv.zero) y) && Lv.mayGo (l.take (k + 1)) (l.drop (k + 1)))) := by
  rw [ldrop hk, Lv.mayGo]
  congr 3
  rw [List.take_succ_eq_append_getElem hk]; simp [hk]
theorem all_take {l : List Lv.T} {p : Lv.T → Bool} {m : Nat} (h : ∀ j, j < m → p (l.getD j Lv.zero) = true) : (l.take m).all p = true := by
  rw [List.all_eq_true]
  intro x hx
  obtain ⟨j, hj, rfl⟩ := List.getElem_of_mem hx
  rw [List.length_take] at hj
  have := h j (by omega)
  rw [List.getElem_take]
  have hj' : j < l.length := by omega
  simpa [hj'] using this
theorem all_take_not {l : List Lv.T} {p : Lv.T → Bool} {m j : Nat} (hm : m ≤ l.length) (hj : j < m) (h : p (l.getD j Lv.zero) = false) : (l.take m).all p = false := by
  rw [List.all_eq_false]
  have hj' : j < l.length := by omega
  refine ⟨l.getD j Lv.zero, ?_, by rw [h]; simp⟩
  rw [show l.getD j Lv.zero = l[j] by simp [hj']]
  exact List.mem_take_iff_getElem.mpr ⟨j, by omega, rfl⟩

set_option maxRecDepth 100000 in
set_option maxHeartbeats 1000000 in
theorem lcheck_any (a : Option Addr) (len cap : Nat) (l : List Lv.T) (w : World) (hlc : len ≤ cap) (hr : LRow w a len l) (R : Int) (hR : R = if Lv.may l = true then 0 else 1) :
    Calls Tryz.prog 60 #[.slice a len cap] w fun e w' => e = .returned (.int .i64 R) ∧ Below w.heap.size w w' := by
  have hll : Hid (l.length = len) := hr.1
  have hone := fun x1 x2 x3 x4 x5 V => lmaybe_any x1 x2 x3 x4 x5 V
  have hcla := fun x1 x2 x3 x4 x5 y1 y2 y3 y4 y5 V => lclash_any x1 x2 x3 x4 x5 y1 y2 y3 y4 y5 V
  by_cases h64 : 64 < len
  · have HR : Hid (R = 1) := (by rw [hR, if_neg]; intro h; have := ((Lv.may_iff l).mp h).len; rw [hll.out] at this; omega : R = 1)
    clear hR
    go_enter Tryz.func60, Tryz.ntmps60
    go_wp2
    go_ret
    obtain rfl := HR.out
    exact ⟨rfl, Below.refl _ _⟩
  have HM : Hid (R = if Lv.mayGo [] l = true then 0 else 1) := (by
    rw [hR, Lv.may, hll.out, decide_eq_true (by omega), Bool.true_and] : R = if Lv.mayGo [] l = true then 0 else 1)
  clear hR
  go_enter Tryz.func60, Tryz.ntmps60
  go_wp2
  go_loopw [12] (fun i wr => ∃ k : Nat, k ≤ len ∧ i = .int .i64 k ∧ Hid (R = if Lv.mayGo (l.take k) (l.drop k) = true then 0 else 1) ∧ Below w.heap.size w wr) (fun i _ => len - (intOf i).toNat)
  case atStart => exact ⟨0, by omega, rfl, (by simpa using HM.out : R = if Lv.mayGo (l.take 0) (l.drop 0) = true then 0 else 1), Below.refl _ _⟩
  case round =>
    obtain ⟨k, hk, rfl, H, hbel⟩ := hrel
    obtain ⟨W1, rfl⟩ : ∃ W1, W1 = wr := ⟨_, rfl⟩
    by_cases hlt : k < len
    · obtain ⟨b, off, x1, x2, x3, x4, x5, rfl, hx, q0, q1, q2, q3, q4⟩ := lget hr hbel hlt
      have hk' : k < l.length := by rw [hll.out]; exact hlt
      have i0 : (0 : Int) ≤ (k : Int) := by omega
      have i1 : (k : Int) < (len : Int) := by omega
      have hb2 := hbel.alloc hbel.size (otab x1 x2 x3 x4 x5)
      have HS : Hid (Lv.mayGo (l.take k) (l.drop k) = (Lv.one ⟨x1, x2, x3, x4, x5⟩ && ((l.take k).all (fun y => !Lv.clash ⟨x1, x2, x3, x4, x5⟩ y) && Lv.mayGo (l.take (k + 1)) (l.drop (k + 1))))) := (hx.out ▸ may_step hk' : Lv.mayGo (l.take k) (l.drop k) = _)
      cases ho : Lv.one ⟨x1, x2, x3, x4, x5⟩ with
      | false =>
        have HR : Hid (R = 1) := (by rw [H.out, HS.out, ho]; rfl : R = 1)
        clear H HS HM hx
        go_wp2_with (go_at_call 117; go_must (refine (hone _ _ _ _ _ _).mono ?_; rintro e w2 ⟨rfl, hbm⟩))
        go_ret
        obtain rfl := HR.out
        exact ⟨rfl, hb2.trans (hbm.mono hb2.size)⟩
      | true =>
        have H2 : Hid (R = if ((l.take k).all (fun y => !Lv.clash ⟨x1, x2, x3, x4, x5⟩ y) && Lv.mayGo (l.take (k + 1)) (l.drop (k + 1))) = true then 0 else 1) := (by rw [H.out, HS.out, ho, Bool.true_and] : R = _)
        clear H HS HM hx
        have hkc : (k : Int) ≤ (cap : Int) := by omega
        go_wp2_with (go_at_call 117; go_must (refine (hone _ _ _ _ _ _).mono ?_; rintro e w2 ⟨rfl, hbm⟩; obtain ⟨t0, t1, t2, t3, t4⟩ := tab_past hbm (by simp)))
        go_loopw [24] (fun j wy => ∃ m : Nat, m ≤ k ∧ j = .int .i64 m ∧ Hid (∀ j, j < m → (!Lv.clash ⟨x1, x2, x3, x4, x5⟩ (l.getD j Lv.zero)) = true) ∧ Below (W1.heap.size + 1) (W1.alloc (otab x1 x2 x3 x4 x5)) wy) (fun j _ => k - (intOf j).toNat)
        case atStart => exact ⟨0, by omega, rfl, (fun j hj => by omega : ∀ j, j < 0 → (!Lv.clash ⟨x1, x2, x3, x4, x5⟩ (l.getD j Lv.zero)) = true), by simpa using hbm⟩
        case round =>
          obtain ⟨m, hm, rfl, HA, hby⟩ := hrel
          have hys : W1.heap.size + 1 ≤ wr.heap.size := by have := hby.size; simp at this; omega
          have hbw : Below w.heap.size w wr := hb2.trans (hby.mono (by have := hbel.size; omega))
          by_cases hmlt : m < k
          · obtain ⟨b', off', y1, y2, y3, y4, y5, e', hy, p0, p1, p2, p3, p4⟩ := lget hr hbw (Nat.lt_trans hmlt hlt)
            simp only [Option.some.injEq, Addr.mk.injEq] at e'
            obtain ⟨rfl, rfl, _⟩ := e'
            obtain ⟨s0, s1, s2, s3, s4⟩ := tab_past (hby.alloc hys (otab y1 y2 y3 y4 y5)) (Nat.lt_succ_self _)
            have j0 : (0 : Int) ≤ (m : Int) := by omega
            have j1 : (m : Int) < (k : Int) := by omega
            clear q0 q1 q2 q3 q4 t0 t1 t2 t3 t4
            cases hc : Lv.clash ⟨x1, x2, x3, x4, x5⟩ ⟨y1, y2, y3, y4, y5⟩ with
            | true =>
              have HR : Hid (R = 1) := (by rw [H2.out, all_take_not (by omega) hmlt (by rw [hy.out, hc]; rfl), Bool.false_and]; rfl : R = 1)
              clear H2 HA hy
              go_wp2_with (go_at_call 118; go_must (refine (hcla _ _ _ _ _ _ _ _ _ _ _).mono ?_; rintro e w3 ⟨rfl, hbc⟩))
              go_ret
              obtain rfl := HR.out
              have hb4 := hbw.alloc hbw.size (otab y1 y2 y3 y4 y5)
              exact ⟨rfl, hb4.trans (hbc.mono hb4.size)⟩
            | false =>
              have HA2 : Hid (∀ j, j < m + 1 → (!Lv.clash ⟨x1, x2, x3, x4, x5⟩ (l.getD j Lv.zero)) = true) := (by
                intro j hj
                rcases Nat.lt_or_ge j m with h | h
                · exact HA.out j h
                · obtain rfl : j = m := by omega
                  rw [hy.out, hc]; rfl : ∀ j, j < m + 1 → (!Lv.clash ⟨x1, x2, x3, x4, x5⟩ (l.getD j Lv.zero)) = true)
              clear HA hy
              go_wp2_with (go_at_call 118; go_must (refine (hcla _ _ _ _ _ _ _ _ _ _ _).mono ?_; rintro e w3 ⟨rfl, hbc⟩))
              go_roundw
              case rel => exact ⟨m + 1, by omega, by go_num, HA2, (hby.alloc hys _).trans (hbc.mono (by simp; omega))⟩
              case measure => simp [intOf]; omega
          · obtain rfl : m = k := by omega
            have H3 : Hid (R = if Lv.mayGo (l.take (m + 1)) (l.drop (m + 1)) = true then 0 else 1) := (by rw [H2.out, all_take HA.out, Bool.true_and] : R = _)
            clear HA H2
            go_wp2
            go_roundw
            case rel => exact ⟨m + 1, by omega, by go_num, H3, hbw⟩
            case measure => simp [intOf]; omega
    · obtain rfl : k = len := by omega
      have HE : Hid (R = 0) := (by rw [H.out, List.drop_of_length_le (by rw [hll.out]; omega)]; rfl : R = 0)
      clear H HM
      go_wp2
      go_ret
      obtain rfl := HE.out
      exact ⟨rfl, hbel⟩
end Go.Proofs.YtfogodbbgbnhkaaGreatDoor
