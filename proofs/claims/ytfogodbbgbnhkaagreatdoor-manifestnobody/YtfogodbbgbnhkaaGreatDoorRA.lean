/- Rows of numbers, moves, snapshots; the program's rise, last, lastMoved, counts. -/
import Derived.Test.YtfogodbbgbnhkaaGreatDoorRoMath
import Derived.Test.YtfogodbbgbnhkaaGreatDoorLCk
namespace Go.Proofs.YtfogodbbgbnhkaaGreatDoor
open Go.RowKit

def ze (z : Int) : List Value := [.int .i64 z]
theorem zeE : Enc 1 ze := ⟨fun _ => rfl, fun x u hu => by simp only [ze, List.mem_cons, List.not_mem_nil, or_false] at hu; rw [hu]; rfl⟩
theorem intZ : Elem 27 3 1 8 (.int .i64 0) := ⟨Tryz.underlying27, by kernel_rfl, rfl, by decide, by decide⟩
abbrev ZRow (w : World) (a : Option Addr) (n : Nat) (l : List Int) : Prop := TRow 1 ze 0 w a n l
def me (m : Int × Int) : List Value := [.int .i64 m.1, .int .i64 m.2]
theorem meE : Enc 2 me := ⟨fun _ => rfl, fun x u hu => by simp only [me, List.mem_cons, List.not_mem_nil, or_false] at hu; rcases hu with h | h <;> (rw [h]; rfl)⟩
theorem moveE : Elem 28 64 2 16 (.agg #[.int .i64 0, .int .i64 0]) := ⟨Tryz.underlying28, by kernel_rfl, rfl, by decide, by decide⟩
abbrev MRow (w : World) (a : Option Addr) (n : Nat) (l : List (Int × Int)) : Prop := TRow 2 me (0, 0) w a n l
def ke (k : Int × Int × Int) : List Value := [.int .i64 k.1, .int .i64 k.2.1, .int .i64 k.2.2]
theorem keE : Enc 3 ke := ⟨fun _ => rfl, fun x u hu => by simp only [ke, List.mem_cons, List.not_mem_nil, or_false] at hu; rcases hu with h | h | h <;> (rw [h]; rfl)⟩
theorem stillE : Elem 30 66 3 24 (.agg #[.int .i64 0, .int .i64 0, .int .i64 0]) := ⟨Tryz.underlying30, by kernel_rfl, rfl, by decide, by decide⟩
abbrev KRow (w : World) (a : Option Addr) (n : Nat) (l : List (Int × Int × Int)) : Prop := TRow 3 ke (0, 0, 0) w a n l

theorem zget {w wr : World} {a : Option Addr} {n k : Nat} {l : List Int} (h : ZRow w a n l) (hb : Below w.heap.size w wr) (hk : k < n) :
    ∃ b off x, a = some ⟨b, off, none⟩ ∧ Hid (l.getD k 0 = x) ∧ wr.cell? ⟨b, off + k, none⟩ = some (.int .i64 x) := by
  obtain ⟨b, off, rfl, hc⟩ := h.at (by omega)
  have h0 : w.cell? ⟨b, off + k, none⟩ = some (.int .i64 (l.getD k 0)) := by
    have := hc k hk 0 _ rfl
    rw [Nat.mul_one] at this
    exact this
  exact ⟨b, off, _, rfl, (rfl : _ = _), (hb.cell (p := ⟨b, off + k, none⟩) (cell_lt h0)).trans h0⟩
theorem mget {w wr : World} {a : Option Addr} {n k : Nat} {l : List (Int × Int)} (h : MRow w a n l) (hb : Below w.heap.size w wr) (hk : k < n) :
    ∃ b off x y, a = some ⟨b, off, none⟩ ∧ Hid (l.getD k (0, 0) = (x, y)) ∧ wr.cell? ⟨b, off + k * 2, none⟩ = some (.int .i64 x) ∧ wr.cell? ⟨b, off + k * 2 + 1, none⟩ = some (.int .i64 y) := by
  obtain ⟨b, off, rfl, hc⟩ := h.at (by omega)
  have hr := hc k hk
  generalize hx : l.getD k (0, 0) = x at hr
  obtain ⟨x, y⟩ := x
  refine ⟨b, off, x, y, rfl, (rfl : _ = _), ?_, ?_⟩
  · have := hr 0 _ rfl; exact (hb.cell (p := ⟨b, off + k * 2, none⟩) (cell_lt this)).trans this
  · have := hr 1 _ rfl; exact (hb.cell (p := ⟨b, off + k * 2 + 1, none⟩) (cell_lt this)).trans this
theorem kget {w wr : World} {a : Option Addr} {n k : Nat} {l : List (Int × Int × Int)} (h : KRow w a n l) (hb : Below w.heap.size w wr) (hk : k < n) :
    ∃ b off x y z, a = some ⟨b, off, none⟩ ∧ Hid (l.getD k (0, 0, 0) = (x, y, z)) ∧ wr.cell? ⟨b, off + k * 3, none⟩ = some (.int .i64 x) ∧ wr.cell? ⟨b, off + k * 3 + 1, none⟩ = some (.int .i64 y) ∧ wr.cell? ⟨b, off + k * 3 + 2, none⟩ = some (.int .i64 z) := by
  obtain ⟨b, off, rfl, hc⟩ := h.at (by omega)
  have hr := hc k hk
  generalize hx : l.getD k (0, 0, 0) = x at hr
  obtain ⟨x, y, z⟩ := x
  refine ⟨b, off, x, y, z, rfl, (rfl : _ = _), ?_, ?_, ?_⟩
  · have := hr 0 _ rfl; exact (hb.cell (p := ⟨b, off + k * 3, none⟩) (cell_lt this)).trans this
  · have := hr 1 _ rfl; exact (hb.cell (p := ⟨b, off + k * 3 + 1, none⟩) (cell_lt this)).trans this
  · have := hr 2 _ rfl; exact (hb.cell (p := ⟨b, off + k * 3 + 2, none⟩) (cell_lt this)).trans this
theorem gdrop {α : Type} {l : List α} {k : Nat} (d : α) (hk : k < l.length) : l.drop k = l.getD k d :: l.drop (k + 1) := by
  rw [List.drop_eq_getElem_cons hk]; simp [hk]
theorem gtake {α : Type} {l : List α} {k : Nat} (d : α) (hk : k < l.length) : l.take (k + 1) = l.take k ++ [l.getD k d] := by
  rw [List.take_succ_eq_append_getElem hk]; simp [hk]

set_option maxRecDepth 100000 in
set_option maxHeartbeats 1000000 in
theorem rrise_any (a : Option Addr) (n c : Nat) (l : List Int) (w : World) (hn : n ≤ 1000000) (hr : ZRow w a n l) (R : Bool) (hR : R = Ro.rise l) :
    Calls Tryz.prog 111 #[.slice a n c] w fun e w' => e = .returned (.bool R) ∧ Below w.heap.size w w' := by
  have hll : Hid (l.length = n) := hr.1
  have HR : Hid (R = Ro.riseGo 0 (l.drop 0)) := (hR : R = Ro.riseGo 0 (l.drop 0))
  clear hR
  go_enter Tryz.func111, Tryz.ntmps111
  go_wp2
  go_loopw [3, 8] (fun v i wr => ∃ (k : Nat) (z : Int), k ≤ n ∧ i = .int .i64 k ∧ v = .int .i64 z ∧ Hid (R = Ro.riseGo z (l.drop k)) ∧ Below w.heap.size w wr)
    (fun _ i _ => n - (intOf i).toNat)
  case atStart => exact ⟨0, 0, by omega, rfl, rfl, HR, Below.refl _ _⟩
  case round =>
    obtain ⟨k, z, hk, rfl, rfl, H, hbel⟩ := hrel
    by_cases hlt : k < n
    · obtain ⟨b, off, x, rfl, hx, q0⟩ := zget hr hbel hlt
      have hk' : k < l.length := by rw [hll.out]; exact hlt
      have H2 : Hid (R = ((decide (z < x) && decide (x ≤ 2147483647)) && Ro.riseGo x (l.drop (k + 1)))) := (by rw [H.out, gdrop 0 hk', hx.out]; rfl : R = _)
      have i0 : (0 : Int) ≤ (k : Int) := by omega
      have i1 : (k : Int) < (n : Int) := by omega
      clear hx H HR
      by_cases h1 : x ≤ z
      · have HF : Hid (R = false) := (by rw [H2.out]; simp [Int.not_lt.mpr h1] : R = false)
        have d1 : decide (x ≤ z) = true := by simpa using h1
        clear H2
        go_wp2
        go_ret
        rw [HF.out]
        exact ⟨rfl, hbel⟩
      · have d1 : decide (x ≤ z) = false := by simpa using h1
        by_cases h2 : 2147483647 < x
        · have HF : Hid (R = false) := (by rw [H2.out]; simp [Int.not_le.mpr h2] : R = false)
          clear H2
          go_wp2
          go_ret
          rw [HF.out]
          exact ⟨rfl, hbel⟩
        · have H3 : Hid (R = Ro.riseGo x (l.drop (k + 1))) := (by rw [H2.out]; simp [Int.not_le.mp h1, Int.not_lt.mp h2] : R = _)
          have d2 : decide (2147483647 < x) = false := by simpa using h2
          clear H2
          go_wp2
          go_roundw
          case rel => exact ⟨k + 1, x, by omega, by go_num, rfl, H3, hbel⟩
          case measure => simp [intOf]; omega
    · obtain rfl : k = n := by omega
      have HE : Hid (R = true) := (by rw [H.out, List.drop_of_length_le (by rw [hll.out]; exact Nat.le_refl _)]; rfl : R = true)
      clear H HR
      go_wp2
      go_ret
      rw [HE.out]
      exact ⟨rfl, hbel⟩

theorem last_get {l : List Int} {n : Nat} (hl : l.length = n + 1) : Ro.lastOf l = l.getD n 0 := by
  rcases List.eq_nil_or_concat l with rfl | ⟨l', x, rfl⟩
  · simp at hl
  · simp at hl; simp [Ro.lastOf, ← hl]

set_option maxRecDepth 100000 in
set_option maxHeartbeats 1000000 in
theorem rlast_any (a : Option Addr) (n c : Nat) (l : List Int) (w : World) (hn : n ≤ 1000000) (hr : ZRow w a n l) (x : Int) (hx : x = Ro.lastOf l) :
    Calls Tryz.prog 113 #[.slice a n c] w fun e w' => e = .returned (.int .i64 x) ∧ Below w.heap.size w w' := by
  have HX : Hid (x = Ro.lastOf l) := hx
  clear hx
  cases n with
  | zero =>
    have hl : l = [] := List.length_eq_zero_iff.mp hr.1
    subst hl
    go_enter Tryz.func113, Tryz.ntmps113
    go_wp2
    go_ret
    rw [HX.out]
    exact ⟨rfl, Below.refl _ _⟩
  | succ n =>
    have hg := last_get hr.1
    obtain ⟨b, off, y, rfl, hy, q0⟩ := zget hr (Below.refl _ _) (Nat.lt_succ_self n)
    have HY : Hid (x = y) := (by rw [HX.out, hg, hy.out] : x = y)
    obtain ⟨N, hN⟩ : ∃ N, N = n + 1 := ⟨_, rfl⟩
    rw [← hN] at hr ⊢
    have j1 : IntKind.i64.wrap ((N : Int) - 1) = (n : Int) := by rw [IntKind.wrap_i64]; omega
    have j1' : wrap64 ((N : Int) - 1) = (n : Int) := by unfold wrap64; omega
    have j2 : ((N : Int) == 0) = false := by simp; omega
    have j3 : (n : Int) < (N : Int) := by omega
    have j4 : (0 : Int) ≤ (n : Int) := by omega
    clear hg hy HX hN
    go_enter Tryz.func113, Tryz.ntmps113
    go_wp2
    go_ret
    rw [HY.out]
    exact ⟨rfl, Below.refl _ _⟩

set_option maxRecDepth 100000 in
theorem rmseg_any (x y : Int) (w : World) : Calls Tryz.prog 73 #[.agg #[.int .i64 x, .int .i64 y]] w fun e w' => e = .returned (.int .i64 x) ∧ Below w.heap.size w w' := by
  have c0 := cell_new w #[.int .i64 x, .int .i64 y] 64 0
  go_enter Tryz.func73, Tryz.ntmps73
  go_wp2
  go_ret
  exact ⟨rfl, below_alloc _ _⟩
set_option maxRecDepth 100000 in
theorem rmnum_any (x y : Int) (w : World) : Calls Tryz.prog 116 #[.agg #[.int .i64 x, .int .i64 y]] w fun e w' => e = .returned (.int .i64 y) ∧ Below w.heap.size w w' := by
  have c0 := cell_new w #[.int .i64 x, .int .i64 y] 64 1
  go_enter Tryz.func116, Tryz.ntmps116
  go_wp2
  go_ret
  exact ⟨rfl, below_alloc _ _⟩
set_option maxRecDepth 100000 in
theorem rknum_any (x y z : Int) (w : World) : Calls Tryz.prog 121 #[.agg #[.int .i64 x, .int .i64 y, .int .i64 z]] w fun e w' => e = .returned (.int .i64 x) ∧ Below w.heap.size w w' := by
  have c0 := cell_new w #[.int .i64 x, .int .i64 y, .int .i64 z] 66 0
  go_enter Tryz.func121, Tryz.ntmps121
  go_wp2
  go_ret
  exact ⟨rfl, below_alloc _ _⟩
set_option maxRecDepth 100000 in
theorem rkidx_any (x y z : Int) (w : World) : Calls Tryz.prog 77 #[.agg #[.int .i64 x, .int .i64 y, .int .i64 z]] w fun e w' => e = .returned (.int .i64 y) ∧ Below w.heap.size w w' := by
  have c0 := cell_new w #[.int .i64 x, .int .i64 y, .int .i64 z] 66 1
  go_enter Tryz.func77, Tryz.ntmps77
  go_wp2
  go_ret
  exact ⟨rfl, below_alloc _ _⟩
set_option maxRecDepth 100000 in
theorem rtnum_any (x1 x2 x3 : Int) (x4 x5 : ByteArray) (w : World) : Calls Tryz.prog 75 #[.agg #[.int .i64 x1, .int .i64 x2, .int .i64 x3, .string x4, .string x5]] w fun e w' => e = .returned (.int .i64 x1) ∧ Below w.heap.size w w' := by
  have c0 := cell_new w #[.int .i64 x1, .int .i64 x2, .int .i64 x3, .string x4, .string x5] 50 0
  go_enter Tryz.func75, Tryz.ntmps75
  go_wp2
  go_ret
  exact ⟨rfl, below_alloc _ _⟩

set_option maxRecDepth 100000 in
set_option maxHeartbeats 1000000 in
theorem rlastm_any (a : Option Addr) (n c : Nat) (l : List (Int × Int)) (w : World) (hn : n ≤ 1000000) (hr : MRow w a n l) (x : Int) (hx : x = Ro.lastOf (l.map (·.1))) :
    Calls Tryz.prog 127 #[.slice a n c] w fun e w' => e = .returned (.int .i64 x) ∧ Below w.heap.size w w' := by
  have HX : Hid (x = Ro.lastOf (l.map (·.1))) := hx
  clear hx
  cases n with
  | zero =>
    have hl : l = [] := List.length_eq_zero_iff.mp hr.1
    subst hl
    go_enter Tryz.func127, Tryz.ntmps127
    go_wp2
    go_ret
    rw [HX.out]
    exact ⟨rfl, Below.refl _ _⟩
  | succ n =>
    have hg := last_get (l := l.map (·.1)) (n := n) (by rw [List.length_map]; exact hr.1)
    have hg2 : (l.map (·.1)).getD n 0 = (l.getD n (0, 0)).1 := by
      have : n < l.length := by rw [hr.1]; omega
      simp [this]
    obtain ⟨b, off, y, z, rfl, hy, q0, q1⟩ := mget hr (Below.refl _ _) (Nat.lt_succ_self n)
    have HY : Hid (x = y) := (by rw [HX.out, hg, hg2, hy.out] : x = y)
    obtain ⟨N, hN⟩ : ∃ N, N = n + 1 := ⟨_, rfl⟩
    rw [← hN] at hr ⊢
    have j1 : IntKind.i64.wrap ((N : Int) - 1) = (n : Int) := by rw [IntKind.wrap_i64]; omega
    have j1' : wrap64 ((N : Int) - 1) = (n : Int) := by unfold wrap64; omega
    have j2 : ((N : Int) == 0) = false := by simp; omega
    have j3 : (n : Int) < (N : Int) := by omega
    have j4 : (0 : Int) ≤ (n : Int) := by omega
    have hm := fun V => rmseg_any y z V
    clear hg hg2 hy HX hN
    go_enter Tryz.func127, Tryz.ntmps127
    go_wp2_with (go_at_call 73; go_must (refine (hm _).mono ?_; rintro e w1 ⟨rfl, hb1⟩))
    go_ret
    rw [HY.out]
    exact ⟨rfl, hb1⟩

set_option maxRecDepth 100000 in
theorem rcnt_any (n : Int) (R : Bool) (hR : R = Ro.cnt n) (w : World) : Calls Tryz.prog 119 #[.int .i64 n] w fun e w' => e = .returned (.bool R) ∧ w' = w := by
  have HR : Hid (R = Ro.cnt n) := hR
  clear hR
  by_cases h1 : 1 ≤ n
  · by_cases h2 : n ≤ 2147483647
    · have d1 : decide (1 ≤ n) = true := by simpa using h1
      go_enter Tryz.func119, Tryz.ntmps119
      go_wp2
      go_ret
      exact ⟨by rw [HR.out]; simp [Ro.cnt, h1, h2], rfl⟩
    · have d1 : decide (1 ≤ n) = true := by simpa using h1
      go_enter Tryz.func119, Tryz.ntmps119
      go_wp2
      go_ret
      exact ⟨by rw [HR.out]; simp [Ro.cnt, h1, h2], rfl⟩
  · have d1 : decide (1 ≤ n) = false := by simpa using h1
    go_enter Tryz.func119, Tryz.ntmps119
    go_wp2
    go_ret
    exact ⟨by rw [HR.out]; simp [Ro.cnt]; omega, rfl⟩
set_option maxRecDepth 100000 in
theorem rcz_any (n : Int) (R : Bool) (hR : R = Ro.cz n) (w : World) : Calls Tryz.prog 122 #[.int .i64 n] w fun e w' => e = .returned (.bool R) ∧ w' = w := by
  have HR : Hid (R = Ro.cz n) := hR
  have hc := fun V => rcnt_any n _ rfl V
  clear hR
  by_cases h : n = 0
  · have d1 : (n == 0) = true := by simpa using h
    go_enter Tryz.func122, Tryz.ntmps122
    go_wp2_with (go_at_call 119; go_must (refine (hc _).mono ?_; rintro e w1 ⟨rfl, rfl⟩))
    go_ret
    exact ⟨by rw [HR.out]; simp [Ro.cz, h], rfl⟩
  · have d1 : (n == 0) = false := by simpa using h
    go_enter Tryz.func122, Tryz.ntmps122
    go_wp2_with (go_at_call 119; go_must (refine (hc _).mono ?_; rintro e w1 ⟨rfl, rfl⟩))
    go_ret
    exact ⟨by rw [HR.out]; simp [Ro.cz, h], rfl⟩
end Go.Proofs.YtfogodbbgbnhkaaGreatDoor
