/- What the program's spanOf does. -/
import Derived.Test.YtghgolpofafjmaaLH
import Derived.Test.YtghgolpofafjmaaLI
import Derived.Deep.QuietTactic
import Derived.BigQuiet
namespace Go.Proofs.Ytghgolpofafjmaa
open Go.RowKit
theorem blk_lt {W : World} {g : Nat} {x : Obj} (h : W.heap[g]? = some x) : g < W.heap.size := by
  rcases Nat.lt_or_ge g W.heap.size with h1 | h1
  · exact h1
  · rw [Array.getElem?_eq_none h1] at h; cases h
theorem blk_alloc {W : World} {g : Nat} {x : Obj} (h : W.heap[g]? = some x) (o : Obj) : (W.alloc o).heap[g]? = some x := by
  rw [Below.heap_alloc W o g (blk_lt h)]
  exact h
theorem blk_set {W : World} {g : Nat} {x : Obj} (h : W.heap[g]? = some x) {k : Nat} (hk : k ≠ g) (i : Nat) (v : Value) : (W.setCell ⟨k, i, none⟩ v).heap[g]? = some x := (Below.heap_setCell W ⟨k, i, none⟩ v g (fun e => hk e.symm)).trans h
theorem blk5 {W : World} {g : Nat} {x1 x2 x3 : Int} {x4 x5 : ByteArray} (h : W.heap[g]? = some (otab x1 x2 x3 x4 x5)) :
    (W.cell? ⟨g, 0, none⟩ = some (.int .i64 x1) ∧ W.cell? ⟨g, 1, none⟩ = some (.int .i64 x2) ∧ W.cell? ⟨g, 2, none⟩ = some (.int .i64 x3) ∧ W.cell? ⟨g, 3, none⟩ = some (.string x4) ∧ W.cell? ⟨g, 4, none⟩ = some (.string x5)) ∧ ∀ i, W.frozen? ⟨g, i, none⟩ = false := by
  refine ⟨⟨?_, ?_, ?_, ?_, ?_⟩, fun i => ?_⟩
  · simp only [World.cell?, h]; rfl
  · simp only [World.cell?, h]; rfl
  · simp only [World.cell?, h]; rfl
  · simp only [World.cell?, h]; rfl
  · simp only [World.cell?, h]; rfl
  · simp only [World.frozen?, h]; simp
theorem blk_first {W : World} {g : Nat} {x1 x2 x3 : Int} {x4 x5 : ByteArray} (h : W.heap[g]? = some (otab x1 x2 x3 x4 x5)) (y : ByteArray) : (W.setCell ⟨g, 3, none⟩ (.string y)).heap[g]? = some (otab x1 x2 x3 y x5) := by
  rw [Go.Joins.block_setCell (i := 3) h]; rfl
theorem blk_last {W : World} {g : Nat} {x1 x2 x3 : Int} {x4 x5 : ByteArray} (h : W.heap[g]? = some (otab x1 x2 x3 x4 x5)) (y : ByteArray) : (W.setCell ⟨g, 4, none⟩ (.string y)).heap[g]? = some (otab x1 x2 x3 x4 y) := by
  rw [Go.Joins.block_setCell (i := 4) h]; rfl
theorem below_set {w W : World} {B g : Nat} (h : Below B w W) (hg : B ≤ g) (i : Nat) (v : Value) : Below B w (W.setCell ⟨g, i, none⟩ v) :=
  ⟨h.os, h.tape, h.output, by simpa using h.size, fun k hk => (Below.heap_setCell W ⟨g, i, none⟩ v k (fun e => by have : k = g := e; omega)).trans (h.block k hk)⟩
theorem run_min_str (P : Program) (w : World) (ts : Array TypeId) (t : TypeId) (x y : ByteArray) : Sem.run P (Builtin.min_ ts t #[.string x, .string y]) w = .ok (.string (if Lv.slt y x = true then y else x)) w := by
  have e := bl_le x y
  cases h : Lv.slt y x with
  | true => rw [h] at e; simp [Builtin.min_, Builtin.min2, Op.stringOp, go_sem, e]
  | false => rw [h] at e; simp [Builtin.min_, Builtin.min2, Op.stringOp, go_sem, e]
theorem run_max_str (P : Program) (w : World) (ts : Array TypeId) (t : TypeId) (x y : ByteArray) : Sem.run P (Builtin.max_ ts t #[.string x, .string y]) w = .ok (.string (if Lv.slt x y = true then y else x)) w := by
  have e := bl_slt x y
  cases h : Lv.slt x y with
  | true => rw [h] at e; simp [Builtin.max_, Builtin.max2, Op.stringOp, go_sem, e]
  | false => rw [h] at e; simp [Builtin.max_, Builtin.max2, Op.stringOp, go_sem, e]
abbrev oz : Obj := otab 0 0 0 ⟨#[]⟩ ⟨#[]⟩
set_option maxRecDepth 100000 in
set_option maxHeartbeats 1000000 in
theorem lspan_any (a : Option Addr) (len cap : Nat) (x : Lv.T) (r : List Lv.T) (w : World) (hlen : len ≤ 1000) (hcap : len + 1 ≤ cap) (hc1 : cap ≠ 1) (hr : LRow w a (len + 1) (x :: r)) :
    Calls Try.prog 38 #[.slice a (len + 1) cap] w fun e w' => e = .returned (lval (Lv.span (x :: r))) ∧ Below w.heap.size w w' := by
  obtain ⟨b, off, x1, x2, x3, x4, x5, rfl, hx, q0, q1, q2, q3, q4⟩ := lget (k := 0) hr (Below.refl _ _) (by omega)
  simp only [Nat.zero_mul, Nat.add_zero] at q0 q1 q2 q3 q4
  obtain rfl : x = ⟨x1, x2, x3, x4, x5⟩ := hx.out
  clear hx
  have hlr : Hid (r.length = len) := (by have := hr.1; simpa using this : r.length = len)
  obtain ⟨LO, hLO⟩ : ∃ LO, LO = Lv.loF x4 r := ⟨_, rfl⟩
  obtain ⟨HI, hHI⟩ : ∃ HI, HI = Lv.hiL x5 r := ⟨_, rfl⟩
  have HL : Hid (LO = Lv.loF x4 (r.drop 0)) := hLO
  have HH : Hid (HI = Lv.hiL x5 (r.drop 0)) := hHI
  have eS : lval (Lv.span (⟨x1, x2, x3, x4, x5⟩ :: r)) = .agg #[.int .i64 0, .int .i64 0, .int .i64 0, .string LO, .string HI] := by rw [hLO, hHI]; rfl
  rw [eS]
  clear eS hLO hHI
  have z3 := (cell_past w oz ⟨b, off + 3, none⟩ (cell_lt q3)).trans q3
  have z4 := (cell_past w oz ⟨b, off + 4, none⟩ (cell_lt q4)).trans q4
  have c1 : 1 < cap := by omega
  clear hcap
  have hb0 := below_two w oz (otab 0 0 0 x4 x5)
  have g0 : ((w.alloc oz).alloc (otab 0 0 0 x4 x5)).heap[w.heap.size]? = some oz := blk_alloc (heap_alloc_new w _) _
  have g1 : ((w.alloc oz).alloc (otab 0 0 0 x4 x5)).heap[w.heap.size + 1]? = some (otab 0 0 0 x4 x5) := by
    have := heap_alloc_new (w.alloc oz) (otab 0 0 0 x4 x5)
    simpa using this
  go_enter Try.func38, Try.ntmps38
  go_wp2_with fail
  go_region_held3 (fun w' => w'.cell? ⟨b, off + 3, none⟩ = some (.string x4) ∧ w'.cell? ⟨b, off + 4, none⟩ = some (.string x5)) (first | go_keep | (refine ⟨?_, ?_⟩ <;> assumption)) (fail)
  go_wp2
  go_loopw [18] (fun i wr => ∃ (k : Nat) (lo hi : ByteArray), k ≤ len ∧ i = .int .i64 k ∧ Hid (LO = Lv.loF lo (r.drop k)) ∧ Hid (HI = Lv.hiL hi (r.drop k)) ∧ wr.heap[w.heap.size]? = some oz ∧ wr.heap[w.heap.size + 1]? = some (otab 0 0 0 lo hi) ∧ Below w.heap.size w wr) (fun i _ => len - (intOf i).toNat)
  case atStart => exact ⟨0, x4, x5, by omega, rfl, HL, HH, g0, g1, hb0.drew⟩
  case round =>
    obtain ⟨k, lo, hi, hk, rfl, HL2, HH2, g2, g3, hbel⟩ := hrel
    clear HL HH g0 g1 hb0 z3 z4 q0 q1 q2 q3 q4
    obtain ⟨⟨n0, n1, n2, n3, n4⟩, nf⟩ := blk5 g3
    have f3 := nf 3
    have f4 := nf 4
    by_cases hlt : k < len
    · obtain ⟨b', off', y1, y2, y3, y4, y5, e', hy, p0, p1, p2, p3, p4⟩ := lget (k := k + 1) hr hbel (by omega)
      simp only [Option.some.injEq, Addr.mk.injEq] at e'
      obtain ⟨rfl, rfl, _⟩ := e'
      have eo : off + (k + 1) * 5 = off + 5 + k * 5 := by omega
      rw [eo] at p0 p1 p2 p3 p4
      have k0 : (0 : Int) ≤ (k : Int) := by omega
      have k1 : (k : Int) < (len : Int) := by omega
      have g4 := blk_alloc g3 (otab y1 y2 y3 y4 y5)
      obtain ⟨⟨m0, m1, m2, m3, m4⟩, mf⟩ := blk5 g4
      have mf3 := mf 3
      have mf4 := mf 4
      clear n0 n1 n2 n3 n4 nf f3 f4 mf
      obtain ⟨lo', hlo'⟩ : ∃ lo', lo' = if Lv.slt y4 lo = true then y4 else lo := ⟨_, rfl⟩
      obtain ⟨hi', hhi'⟩ : ∃ hi', hi' = if Lv.slt hi y5 = true then y5 else hi := ⟨_, rfl⟩
      have hk' : k < r.length := by rw [hlr.out]; exact hlt
      have hyr : Hid (r.getD k Lv.zero = ⟨y1, y2, y3, y4, y5⟩) := (by have := hy.out; simpa using this : r.getD k Lv.zero = ⟨y1, y2, y3, y4, y5⟩)
      have HL3 : Hid (LO = Lv.loF lo' (r.drop (k + 1))) := (by rw [HL2.out, ldrop hk', hyr.out, hlo']; rfl : LO = Lv.loF lo' (r.drop (k + 1)))
      have HH3 : Hid (HI = Lv.hiL hi' (r.drop (k + 1))) := (by rw [HH2.out, ldrop hk', hyr.out, hhi']; rfl : HI = Lv.hiL hi' (r.drop (k + 1)))
      have g5 := blk_alloc g2 (otab y1 y2 y3 y4 y5)
      have hb3 := hbel.alloc hbel.size (otab y1 y2 y3 y4 y5)
      have hmin : ∀ W, Sem.run Try.prog (Builtin.min_ #[9, 9] 9 #[.string lo, .string y4]) W = .ok (.string lo') W := fun W => by rw [run_min_str, hlo']
      have hmax : ∀ W, Sem.run Try.prog (Builtin.max_ #[9, 9] 9 #[.string hi, .string y5]) W = .ok (.string hi') W := fun W => by rw [run_max_str, hhi']
      clear HL2 HH2 hy hyr hlo' hhi'
      go_wp2
      go_roundw
      case rel => exact ⟨k + 1, lo', hi', by omega, by go_num, HL3, HH3, blk_set (blk_set g5 (by omega) _ _) (by omega) _ _, blk_last (blk_first g4 _) _, below_set (below_set hb3 (by omega) _ _) (by omega) _ _⟩
      case measure => simp [intOf]; omega
    · obtain rfl : k = len := by omega
      have HE : Hid (LO = lo) := (by rw [HL2.out, List.drop_of_length_le (by rw [hlr.out]; omega)]; rfl : LO = lo)
      have HF : Hid (HI = hi) := (by rw [HH2.out, List.drop_of_length_le (by rw [hlr.out]; omega)]; rfl : HI = hi)
      obtain ⟨⟨m0, m1, m2, m3, m4⟩, mf⟩ := blk5 g2
      have mf0 := mf 0
      have mf1 := mf 1
      have mf2 := mf 2
      have mf3 := mf 3
      have mf4 := mf 4
      clear HL2 HH2 nf mf
      go_wp2
      obtain rfl := HE.out
      obtain rfl := HF.out
      exact bodyPost_ret (v := .agg #[.int .i64 0, .int .i64 0, .int .i64 0, .string LO, .string HI]) (by simp [results, Try.results38, go_sem, m0, m1, m2, m3, m4]) rfl ⟨rfl, below_set (below_set (below_set (below_set (below_set hbel (by omega) _ _) (by omega) _ _) (by omega) _ _) (by omega) _ _) (by omega) _ _⟩
set_option maxRecDepth 100000 in
set_option maxHeartbeats 1000000 in
theorem lspan_one (a : Option Addr) (x : Lv.T) (w : World) (hr : LRow w a 1 [x]) :
    Calls Try.prog 38 #[.slice a 1 1] w fun e w' => e = .returned (lval (Lv.span [x])) ∧ Below w.heap.size w w' := by
  obtain ⟨b, off, x1, x2, x3, x4, x5, rfl, hx, q0, q1, q2, q3, q4⟩ := lget (k := 0) hr (Below.refl _ _) (by omega)
  simp only [Nat.zero_mul, Nat.add_zero] at q0 q1 q2 q3 q4
  obtain rfl : x = ⟨x1, x2, x3, x4, x5⟩ := hx.out
  clear hx
  have eS : lval (Lv.span [⟨x1, x2, x3, x4, x5⟩]) = .agg #[.int .i64 0, .int .i64 0, .int .i64 0, .string x4, .string x5] := rfl
  rw [eS]
  clear eS
  have z3 := (cell_past w oz ⟨b, off + 3, none⟩ (cell_lt q3)).trans q3
  have z4 := (cell_past w oz ⟨b, off + 4, none⟩ (cell_lt q4)).trans q4
  have hb0 := below_two w oz (otab 0 0 0 x4 x5)
  have g0 : ((w.alloc oz).alloc (otab 0 0 0 x4 x5)).heap[w.heap.size]? = some oz := blk_alloc (heap_alloc_new w _) _
  have g1 : ((w.alloc oz).alloc (otab 0 0 0 x4 x5)).heap[w.heap.size + 1]? = some (otab 0 0 0 x4 x5) := by
    have := heap_alloc_new (w.alloc oz) (otab 0 0 0 x4 x5)
    simpa using this
  go_enter Try.func38, Try.ntmps38
  go_wp2_with fail
  go_region_held3 (fun w' => w'.cell? ⟨b, off + 3, none⟩ = some (.string x4) ∧ w'.cell? ⟨b, off + 4, none⟩ = some (.string x5)) (first | go_keep | (refine ⟨?_, ?_⟩ <;> assumption)) (fail)
  go_wp2
  go_loopw [18] (fun i wr => i = .int .i64 (0 : Nat) ∧ wr.heap[w.heap.size]? = some oz ∧ wr.heap[w.heap.size + 1]? = some (otab 0 0 0 x4 x5) ∧ Below w.heap.size w wr) (fun i _ => 0)
  case atStart => exact ⟨rfl, g0, g1, hb0.drew⟩
  case round =>
    obtain ⟨rfl, g2, g3, hbel⟩ := hrel
    clear g0 g1 hb0 z3 z4 q0 q1 q2 q3 q4
    obtain ⟨⟨n0, n1, n2, n3, n4⟩, nf⟩ := blk5 g3
    obtain ⟨⟨m0, m1, m2, m3, m4⟩, mf⟩ := blk5 g2
    have mf0 := mf 0
    have mf1 := mf 1
    have mf2 := mf 2
    have mf3 := mf 3
    have mf4 := mf 4
    clear nf mf
    go_wp2
    exact bodyPost_ret (v := .agg #[.int .i64 0, .int .i64 0, .int .i64 0, .string x4, .string x5]) (by simp [results, Try.results38, go_sem, m0, m1, m2, m3, m4]) rfl ⟨rfl, below_set (below_set (below_set (below_set (below_set hbel (by omega) _ _) (by omega) _ _) (by omega) _ _) (by omega) _ _) (by omega) _ _⟩
theorem lspan_all (a : Option Addr) (n c : Nat) (l : List Lv.T) (w : World) (hn : n ≤ 1000) (hc : n ≤ c) (h0 : 0 < n) (hr : LRow w a n l) :
    Calls Try.prog 38 #[.slice a n c] w fun e w' => e = .returned (lval (Lv.span l)) ∧ Below w.heap.size w w' := by
  obtain ⟨m, rfl⟩ : ∃ m, n = m + 1 := ⟨n - 1, by omega⟩
  have hl := hr.1
  cases l with
  | nil => simp at hl
  | cons x r =>
    by_cases h1 : c = 1
    · subst h1
      obtain rfl : m = 0 := by omega
      obtain rfl : r = [] := List.length_eq_zero_iff.mp (by simpa using hl)
      exact lspan_one a x w hr
    · exact lspan_any a m c x r w (by omega) hc h1 hr
end Go.Proofs.Ytghgolpofafjmaa
