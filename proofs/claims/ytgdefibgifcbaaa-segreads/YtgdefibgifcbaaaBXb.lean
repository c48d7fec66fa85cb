/- What the program's Put of a cell does. -/
import Derived.Test.YtgdefibgifcbaaaX1
import Derived.Test.YtgdefibgifcbaaaBXa
namespace Go.Proofs.Ytgdefibgifcbaaa
open Go.RowKit

theorem row_at (k : IntKind) (w : World) (e : TypeId) (z : Int) (x : Nat) {b : Nat} (hb : w.heap.size = b) (hz : z = (x : Nat)) (hx : x < lim k) : Row k (w.alloc (.cells #[.int k z] e)) (some ⟨b, 0, none⟩) 1 [x] := by
  subst hb
  exact row_newz k w e z x hz hx
theorem cell_at (w : World) (cs : Array Value) (e : TypeId) (i : Nat) {b : Nat} (hb : w.heap.size = b) {v : Value} (h : cs[i]? = some v) : (w.alloc (.cells cs e)).cell? ⟨b, i, none⟩ = some v := by
  subst hb
  rw [cell_new, h]

end Go.Proofs.Ytgdefibgifcbaaa


/- The program's Put, Near and Far of cells, as the laws ask for them. -/
namespace Go.Proofs.Ytgdefibgifcbaaa
open Go.RowKit

def CNearRes (n : Nat) (z : Int) (vs : List Nat) (w : World) (e : Ending) (w' : World) : Prop :=
  (((n : Int) ≤ z ∧ n ≤ 32) ∧ ∃ a' c', e = .returned (.tuple #[cv false a' n c' Po.zero, .bool true]) ∧ Row .u8 w' a' n vs ∧ Below w.heap.size w w') ∨
  (¬ ((n : Int) ≤ z ∧ n ≤ 32) ∧ ∃ a' c', e = .returned (.tuple #[cv false a' 0 c' Po.zero, .bool false]) ∧ Below w.heap.size w w')

/-- two blocks of the call's own: a result of six cells, a point -/
theorem both_keep {w W : World} {c0 c1 c2 c3 c4 c5 d0 d1 d2 d3 : Value} {e e' : TypeId} (h : Below ((w.alloc (.cells #[c0, c1, c2, c3, c4, c5] e)).alloc (.cells #[d0, d1, d2, d3] e')).heap.size ((w.alloc (.cells #[c0, c1, c2, c3, c4, c5] e)).alloc (.cells #[d0, d1, d2, d3] e')) W) :
    ((W.cell? ⟨w.heap.size, 0, none⟩ = some c0 ∧ W.cell? ⟨w.heap.size, 1, none⟩ = some c1 ∧ W.cell? ⟨w.heap.size, 2, none⟩ = some c2 ∧ W.cell? ⟨w.heap.size, 3, none⟩ = some c3 ∧ W.cell? ⟨w.heap.size, 4, none⟩ = some c4 ∧ W.cell? ⟨w.heap.size, 5, none⟩ = some c5) ∧
    (W.frozen? ⟨w.heap.size, 0, none⟩ = false ∧ W.frozen? ⟨w.heap.size, 1, none⟩ = false ∧ W.frozen? ⟨w.heap.size, 2, none⟩ = false ∧ W.frozen? ⟨w.heap.size, 3, none⟩ = false ∧ W.frozen? ⟨w.heap.size, 4, none⟩ = false ∧ W.frozen? ⟨w.heap.size, 5, none⟩ = false) ∧ Below w.heap.size w W ∧ w.heap.size < W.heap.size) ∧
    (W.cell? ⟨w.heap.size + 1, 0, none⟩ = some d0 ∧ W.cell? ⟨w.heap.size + 1, 1, none⟩ = some d1 ∧ W.cell? ⟨w.heap.size + 1, 2, none⟩ = some d2 ∧ W.cell? ⟨w.heap.size + 1, 3, none⟩ = some d3) ∧ W.frozen? ⟨w.heap.size + 1, 3, none⟩ = false := by
  have hs : (w.alloc (.cells #[c0, c1, c2, c3, c4, c5] e)).heap.size = w.heap.size + 1 := by simp
  have hl : (w.alloc (.cells #[c0, c1, c2, c3, c4, c5] e)).heap.size < ((w.alloc (.cells #[c0, c1, c2, c3, c4, c5] e)).alloc (.cells #[d0, d1, d2, d3] e')).heap.size := by simp
  refine ⟨res_keep ((below_alloc _ _).trans (h.mono (by simp))), ?_⟩
  have k : ∀ i, W.cell? ⟨(w.alloc (.cells #[c0, c1, c2, c3, c4, c5] e)).heap.size, i, none⟩ = #[d0, d1, d2, d3][i]? := fun i => (h.cell (p := ⟨_, i, none⟩) hl).trans (cell_new _ _ e' i)
  have f : ∀ i, W.frozen? ⟨(w.alloc (.cells #[c0, c1, c2, c3, c4, c5] e)).heap.size, i, none⟩ = false := fun i => (h.frozen (p := ⟨_, i, none⟩) hl).trans (frozen_new _ _ e' i)
  rw [hs] at k f
  exact ⟨⟨k 0, k 1, k 2, k 3⟩, f 3⟩

def CFarRes (s y : Int) (n : Nat) (vs : List Nat) (w : World) (e : Ending) (w' : World) : Prop :=
  (Po.may (s, y, (n : Int), 0) = true ∧ ∃ a' c', e = .returned (.tuple #[cv true a' 0 c' (s, y, (n : Int), Crc.more 0 vs), .int .i64 0]) ∧ Below w.heap.size w w') ∨
  (Po.may (s, y, (n : Int), 0) = false ∧ ∃ a' c', e = .returned (.tuple #[cv false a' 0 c' Po.zero, .int .i64 1]) ∧ Below w.heap.size w w')

set_option maxRecDepth 100000 in
set_option maxHeartbeats 1000000 in
theorem cfar_any (s y : Int) (a : Option Addr) (n c : Nat) (vs : List Nat) (w : World) (hn : n ≤ 5000) (hs : -9223372036854775808 ≤ s ∧ s ≤ 9223372036854775807) (hy : -9223372036854775808 ≤ y ∧ y ≤ 9223372036854775807) (hr : Row .u8 w a n vs) : Calls Try.prog 24 #[.int .i64 s, .int .i64 y, .slice a n c] w (CFarRes s y n vs w) := by
  have hb0 := below_alloc w (.cells #[.bool false, .slice none 0 0, .int .i64 0, .int .i64 0, .int .i64 0, .int .u32 0] 56)
  have hkeep : Hid (∀ W, Below ((w.alloc (.cells #[.bool false, .slice none 0 0, .int .i64 0, .int .i64 0, .int .i64 0, .int .u32 0] 56)).alloc (.cells #[.int .i64 s, .int .i64 y, .int .i64 (n : Nat), .int .u32 0] 32)).heap.size ((w.alloc (.cells #[.bool false, .slice none 0 0, .int .i64 0, .int .i64 0, .int .i64 0, .int .u32 0] 56)).alloc (.cells #[.int .i64 s, .int .i64 y, .int .i64 (n : Nat), .int .u32 0] 32)) W → _) := (fun W h => both_keep (w := w) (W := W) h)
  have hck := fun W => pcheckC (s, y, (n : Int), 0) W ⟨hs, hy, (by show -9223372036854775808 ≤ (n : Int) ∧ (n : Int) ≤ 9223372036854775807; omega), (by show 0 < 4294967296; omega)⟩
  have hof := fun W (h : Below w.heap.size w W) => of_any a n c vs W (hr.below h (Nat.le_refl _))
  simp only [pv] at hck
  clear hr
  by_cases hm : Po.may (s, y, (n : Int), 0) = true
  · have Hm : Hid (Po.may (s, y, (n : Int), 0) = true) := hm
    rw [if_pos hm] at hck
    have hck2 : ∀ W, Calls Try.prog 30 #[.agg #[.int .i64 s, .int .i64 y, .int .i64 n, .int .u32 0]] W fun e w' => e = .returned (.int .i64 0) ∧ Below W.heap.size W w' := hck
    clear hm hck
    obtain ⟨S, hS⟩ : ∃ S, S = Crc.more 0 vs := ⟨_, rfl⟩
    rw [← hS] at hof
    have HS : Hid (S = Crc.more 0 vs) := hS
    clear hS
    go_enter Try.func24, Try.ntmps24
    go_wp2_with (first
      | (go_at_call 30; go_must (refine (hck2 _).mono ?_; rintro e w1 ⟨rfl, hbel1⟩; obtain ⟨⟨⟨m0, m1, m2, m3, m4, m5⟩, ⟨g0, g1, g2, g3, g4, g5⟩, hb1, hs1⟩, ⟨q0, q1, q2, q3⟩, q4⟩ := hkeep.out w1 hbel1))
      | (go_at_call 38; go_must (refine (hof _ hb1).mono ?_; rintro e w2 ⟨rfl, hw⟩; obtain rfl : w1 = w2 := hw.symm)))
    have hb3 := hb1.setCell (p := ⟨w.heap.size + 1, 3, none⟩) (Nat.le_succ _) (.int .u32 (S : Nat))
    exact bodyPost_ret (v := .tuple #[cv true none 0 0 (s, y, (n : Int), S), .int .i64 0]) (by simp [cv, results, Try.results24, go_sem, m0, m1, m2, m3, m4, m5]) rfl (.inl ⟨Hm.out, none, 0, by rw [HS.out], below_six hb3 _ _ _ _ _ _⟩)
  · have Hm : Hid (Po.may (s, y, (n : Int), 0) = false) := (by simpa using hm : Po.may (s, y, (n : Int), 0) = false)
    rw [if_neg hm] at hck
    have hck2 : ∀ W, Calls Try.prog 30 #[.agg #[.int .i64 s, .int .i64 y, .int .i64 n, .int .u32 0]] W fun e w' => e = .returned (.int .i64 1) ∧ Below W.heap.size W w' := hck
    clear hm hck hof
    go_enter Try.func24, Try.ntmps24
    go_wp2_with (go_at_call 30; go_must (refine (hck2 _).mono ?_; rintro e w1 ⟨rfl, hbel1⟩; obtain ⟨⟨⟨m0, m1, m2, m3, m4, m5⟩, ⟨g0, g1, g2, g3, g4, g5⟩, hb1, hs1⟩, ⟨q0, q1, q2, q3⟩, q4⟩ := hkeep.out w1 hbel1))
    exact bodyPost_ret (v := .tuple #[cv false none 0 0 Po.zero, .int .i64 1]) (by simp [cv, Po.zero, results, Try.results24, go_sem, m0, m1, m2, m3, m4, m5]) rfl (.inr ⟨Hm.out, none, 0, rfl, below_six hb1 _ _ _ _ _ _⟩)
theorem cfarC : CFarC := fun s y a n c vs w hn hs hy hr => (cfar_any s y a n c vs w hn hs hy hr).mono fun _ _ h => h
end Go.Proofs.Ytgdefibgifcbaaa

/- What the program's Get of a cell does. -/
namespace Go.Proofs.Ytgdefibgifcbaaa
open Go.RowKit

theorem get_near {bs : List Nat} (h0 : bs.length ≠ 0) (h : bs.getD 0 0 = 0) : Ce.get bs = if (nearOf (bs.drop 1)).2 = 0 then (Ce.zero, 0) else ((false, (nearOf (bs.drop 1)).1, Po.zero), 1 + (nearOf (bs.drop 1)).2) := by
  unfold Ce.get
  rw [if_neg (by omega), if_neg (by omega)]
  by_cases hc : (Va.get (bs.drop 1)).2 = 0 ∨ 32 < (Va.get (bs.drop 1)).1 ∨ bs.length < 1 + (Va.get (bs.drop 1)).2 + (Va.get (bs.drop 1)).1
  · have e : nearOf (bs.drop 1) = ([], 0) := by unfold nearOf; rw [if_pos (by rw [List.length_drop]; omega)]
    rw [if_pos hc, e, if_pos rfl]
  · have e : nearOf (bs.drop 1) = (((bs.drop 1).drop (Va.get (bs.drop 1)).2).take (Va.get (bs.drop 1)).1, (Va.get (bs.drop 1)).2 + (Va.get (bs.drop 1)).1) := by unfold nearOf; rw [if_neg (by rw [List.length_drop]; omega)]
    rw [if_neg hc, e, if_neg (by simp only; omega), List.drop_drop, Nat.add_assoc]
theorem get_far {bs : List Nat} (h0 : bs.length ≠ 0) (h : bs.getD 0 0 = 1) : Ce.get bs = if (Po.get (bs.drop 1)).2 = 0 then (Ce.zero, 0) else ((true, [], (Po.get (bs.drop 1)).1), 1 + (Po.get (bs.drop 1)).2) := by
  unfold Ce.get
  rw [if_neg (by omega), if_pos h, Nat.add_comm 1]
theorem get_none {bs : List Nat} (h : bs.length = 0 ∨ 1 < bs.getD 0 0) : Ce.get bs = (Ce.zero, 0) := by
  unfold Ce.get; rw [if_pos h]

/-- as CGetRes, and that the row of a near cell is the call's own -/
def CGetOwn (w : World) (R : Ce.C × Nat) (e : Ending) (w' : World) : Prop :=
  ∃ a c, e = .returned (.tuple #[cv R.1.1 a R.1.2.1.length c R.1.2.2, .int .i64 (R.2 : Nat), .int .i64 (code R.2 : Nat)]) ∧ Row .u8 w' a R.1.2.1.length R.1.2.1 ∧ (a = none → R.1.2.1.length = 0 ∧ c = 0) ∧ w'.ownsRow w.heap.size 5 1 (.slice a R.1.2.1.length c) R.1.2.1.length (kcells .u8 R.1.2.1) ∧ Below w.heap.size w w'

theorem cgres_zero {w W : World} {G : Ce.C × Nat} (hG : G = (Ce.zero, 0)) (hb : Below w.heap.size w W) : CGetOwn w G (.returned (.tuple #[cv false none 0 0 Po.zero, .int .i64 0, .int .i64 2])) W := by
  subst hG
  exact ⟨none, 0, rfl, ⟨rfl, by simp [Ce.zero], by simp [Ce.zero], .inl rfl⟩, fun _ => ⟨rfl, rfl⟩, ⟨rfl, .inl ⟨rfl, rfl⟩⟩, hb⟩
theorem cgres_far {w W : World} {G : Ce.C × Nat} {p : Po.P} {n : Nat} (hG : G = ((true, [], p), 1 + n)) (hb : Below w.heap.size w W) : CGetOwn w G (.returned (.tuple #[cv true none 0 0 p, .int .i64 ((1 + n : Nat) : Int), .int .i64 0])) W := by
  subst hG
  have hc : code (1 + n) = 0 := by unfold code; rw [if_neg (by omega)]
  refine ⟨none, 0, ?_, ⟨rfl, by simp, by simp, .inl rfl⟩, fun _ => ⟨rfl, rfl⟩, ⟨rfl, .inl ⟨rfl, rfl⟩⟩, hb⟩
  simp only [hc]; rfl
theorem cgres_near {w W : World} {G : Ce.C × Nat} {v : List Nat} {u n c : Nat} {a : Option Addr} (hG : G = ((false, v, Po.zero), 1 + n)) (hu : v.length = u) (hr : Row .u8 W a u v) (hnil : a = none → u = 0 ∧ c = 0) (hown : W.ownsRow w.heap.size 5 1 (.slice a u c) u (kcells .u8 v)) (hb : Below w.heap.size w W) : CGetOwn w G (.returned (.tuple #[cv false a u c Po.zero, .int .i64 ((1 + n : Nat) : Int), .int .i64 0])) W := by
  subst hG; subst hu
  have hc : code (1 + n) = 0 := by unfold code; rw [if_neg (by omega)]
  refine ⟨a, c, ?_, hr, hnil, hown, hb⟩
  simp only [hc]; rfl

/-- two blocks of six cells of the call's own -/
theorem twelve_keep {w W : World} {c0 c1 c2 c3 c4 c5 d0 d1 d2 d3 d4 d5 : Value} {e e' : TypeId} (h : Below ((w.alloc (.cells #[c0, c1, c2, c3, c4, c5] e)).alloc (.cells #[d0, d1, d2, d3, d4, d5] e')).heap.size ((w.alloc (.cells #[c0, c1, c2, c3, c4, c5] e)).alloc (.cells #[d0, d1, d2, d3, d4, d5] e')) W) :
    ((W.cell? ⟨w.heap.size, 0, none⟩ = some c0 ∧ W.cell? ⟨w.heap.size, 1, none⟩ = some c1 ∧ W.cell? ⟨w.heap.size, 2, none⟩ = some c2 ∧ W.cell? ⟨w.heap.size, 3, none⟩ = some c3 ∧ W.cell? ⟨w.heap.size, 4, none⟩ = some c4 ∧ W.cell? ⟨w.heap.size, 5, none⟩ = some c5) ∧
    (W.frozen? ⟨w.heap.size, 0, none⟩ = false ∧ W.frozen? ⟨w.heap.size, 1, none⟩ = false ∧ W.frozen? ⟨w.heap.size, 2, none⟩ = false ∧ W.frozen? ⟨w.heap.size, 3, none⟩ = false ∧ W.frozen? ⟨w.heap.size, 4, none⟩ = false ∧ W.frozen? ⟨w.heap.size, 5, none⟩ = false) ∧ Below w.heap.size w W ∧ w.heap.size < W.heap.size) ∧
    (W.cell? ⟨w.heap.size + 1, 0, none⟩ = some d0 ∧ W.cell? ⟨w.heap.size + 1, 1, none⟩ = some d1 ∧ W.cell? ⟨w.heap.size + 1, 2, none⟩ = some d2 ∧ W.cell? ⟨w.heap.size + 1, 3, none⟩ = some d3 ∧ W.cell? ⟨w.heap.size + 1, 4, none⟩ = some d4 ∧ W.cell? ⟨w.heap.size + 1, 5, none⟩ = some d5) ∧
    (W.frozen? ⟨w.heap.size + 1, 0, none⟩ = false ∧ W.frozen? ⟨w.heap.size + 1, 1, none⟩ = false ∧ W.frozen? ⟨w.heap.size + 1, 2, none⟩ = false ∧ W.frozen? ⟨w.heap.size + 1, 3, none⟩ = false ∧ W.frozen? ⟨w.heap.size + 1, 4, none⟩ = false ∧ W.frozen? ⟨w.heap.size + 1, 5, none⟩ = false) ∧ w.heap.size + 1 < W.heap.size := by
  have hs : (w.alloc (.cells #[c0, c1, c2, c3, c4, c5] e)).heap.size = w.heap.size + 1 := by simp
  have k := res_keep h
  rw [hs] at k
  exact ⟨res_keep ((below_alloc _ _).trans (h.mono (by simp))), k.1, k.2.1, k.2.2.2⟩

end Go.Proofs.Ytgdefibgifcbaaa
