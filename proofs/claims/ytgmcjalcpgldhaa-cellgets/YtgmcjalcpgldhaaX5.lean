/- The program's Put, Near and Far of cells, as the laws ask for them. -/
import Derived.Test.YtgmcjalcpgldhaaX3
import Derived.Test.YtgmcjalcpgldhaaX4
namespace Go.Proofs.Ytgmcjalcpgldhaa
open Go.RowKit

theorem cputC : CPutC := by
  intro f a n c bs p w hr hnil hf
  by_cases h : Ce.may (f, bs, p) = true
  · cases f with
    | true =>
      obtain ⟨rfl, hp⟩ := Ce.may_far.mp h
      obtain rfl : n = 0 := hr.1.symm
      have e : Ce.put (true, [], p) = 1 :: Po.put p := by simp [Ce.put]
      refine (cput_far a c p w hf hp).mono ?_
      rintro E w' ⟨a', c', rfl, hown, hbel⟩
      refine .inl ⟨h, a', c', ?_⟩
      rw [e]
      exact ⟨rfl, hown, hbel⟩
    | false =>
      obtain ⟨hl, rfl⟩ := Ce.may_near.mp h
      obtain rfl : bs.length = n := hr.1
      have e : Ce.put (false, bs, Po.zero) = 0 :: (Va.one bs.length ++ bs) := by simp [Ce.put]
      have e2 : (Ce.put (false, bs, Po.zero)).length = (Va.one bs.length).length + bs.length + 1 := by rw [e]; simp
      refine (cput_near a bs.length c bs w hl hr hnil).mono ?_
      rintro E w' ⟨a', c', rfl, hown, hbel⟩
      refine .inl ⟨h, a', c', ?_⟩
      rw [e2, e]
      exact ⟨rfl, hown, hbel⟩
  · have h : Ce.may (f, bs, p) = false := by simpa using h
    refine (cput_no f a n c bs p w hr hf h).mono ?_
    rintro E w' hx
    exact .inr ⟨h, hx⟩

def CNearRes (n : Nat) (z : Int) (vs : List Nat) (w : World) (e : Ending) (w' : World) : Prop :=
  (((n : Int) ≤ z ∧ n ≤ 32) ∧ ∃ a' c', e = .returned (.tuple #[cv false a' n c' Po.zero, .bool true]) ∧ Row .u8 w' a' n vs ∧ Below w.heap.size w w') ∨
  (¬ ((n : Int) ≤ z ∧ n ≤ 32) ∧ ∃ a' c', e = .returned (.tuple #[cv false a' 0 c' Po.zero, .bool false]) ∧ Below w.heap.size w w')

set_option maxRecDepth 100000 in
set_option maxHeartbeats 1000000 in
theorem cnear_any (a : Option Addr) (n c : Nat) (z : Int) (vs : List Nat) (w : World) (hn : n ≤ 5000) (hr : Row .u8 w a n vs) (hnil : a = none → n = 0 ∧ c = 0) : Calls Try.prog 17 #[.slice a n c, .int .i64 z] w (CNearRes n z vs w) := by
  have hb0 := below_alloc w (.cells #[.bool false, .slice none 0 0, .int .i64 0, .int .i64 0, .int .i64 0, .int .u32 0] 27)
  have hkeep : Hid (∀ W, Below (w.alloc (.cells #[.bool false, .slice none 0 0, .int .i64 0, .int .i64 0, .int .i64 0, .int .u32 0] 27)).heap.size (w.alloc (.cells #[.bool false, .slice none 0 0, .int .i64 0, .int .i64 0, .int .i64 0, .int .u32 0] 27)) W → _) := (fun W h => res_keep (w := w) (W := W) h)
  have hcp := fun W (hW : Below w.heap.size w W) => copy_any a n c vs W (by omega) (hr.below hW (Nat.le_refl _)) hnil
  clear hr hnil
  by_cases h : (n : Int) ≤ z ∧ n ≤ 32
  · obtain ⟨h1, h2⟩ := h
    have Hf : Hid ((n : Int) ≤ z ∧ n ≤ 32) := (⟨h1, h2⟩ : (n : Int) ≤ z ∧ n ≤ 32)
    by_cases hz : z ≤ 32
    · go_enter Try.func17, Try.ntmps17
      go_wp2_with (go_at_call 34; go_must (refine (hcp _ hb0).mono ?_; rintro e w2 ⟨a2, c2, rfl, r2, n2, nw2, hbel2⟩; obtain ⟨⟨m0, m1, m2, m3, m4, m5⟩, ⟨g0, g1, g2, g3, g4, g5⟩, hb2, hs2⟩ := hkeep.out w2 hbel2))
      exact bodyPost_ret (v := .tuple #[cv false a2 n c2 Po.zero, .bool true]) (by simp [cv, Po.zero, results, Try.results17, go_sem, m0, m1, m2, m3, m4, m5]) rfl (.inl ⟨Hf.out, a2, c2, rfl, row_six r2 (fun b o e => Nat.lt_of_lt_of_le (by simp) (nw2 b o e)) _ _ _ _ _ _, below_six hb2 _ _ _ _ _ _⟩)
    · go_enter Try.func17, Try.ntmps17
      go_wp2_with (go_at_call 34; go_must (refine (hcp _ hb0).mono ?_; rintro e w2 ⟨a2, c2, rfl, r2, n2, nw2, hbel2⟩; obtain ⟨⟨m0, m1, m2, m3, m4, m5⟩, ⟨g0, g1, g2, g3, g4, g5⟩, hb2, hs2⟩ := hkeep.out w2 hbel2))
      exact bodyPost_ret (v := .tuple #[cv false a2 n c2 Po.zero, .bool true]) (by simp [cv, Po.zero, results, Try.results17, go_sem, m0, m1, m2, m3, m4, m5]) rfl (.inl ⟨Hf.out, a2, c2, rfl, row_six r2 (fun b o e => Nat.lt_of_lt_of_le (by simp) (nw2 b o e)) _ _ _ _ _ _, below_six hb2 _ _ _ _ _ _⟩)
  · have Hf : Hid (¬ ((n : Int) ≤ z ∧ n ≤ 32)) := h
    obtain ⟨⟨m0, m1, m2, m3, m4, m5⟩, ⟨g0, g1, g2, g3, g4, g5⟩, hb2, hs2⟩ := hkeep.out _ (Below.refl _ _)
    by_cases hz : z ≤ 32
    · have hlt : z < (n : Int) := by omega
      clear h
      go_enter Try.func17, Try.ntmps17
      go_wp2
      exact bodyPost_ret (v := .tuple #[cv false none 0 0 Po.zero, .bool false]) (by simp [cv, Po.zero, results, Try.results17, go_sem, m0, m1, m2, m3, m4, m5]) rfl (.inr ⟨Hf.out, none, 0, rfl, hb0⟩)
    · have hlt : 32 < (n : Int) := by omega
      clear h
      go_enter Try.func17, Try.ntmps17
      go_wp2
      exact bodyPost_ret (v := .tuple #[cv false none 0 0 Po.zero, .bool false]) (by simp [cv, Po.zero, results, Try.results17, go_sem, m0, m1, m2, m3, m4, m5]) rfl (.inr ⟨Hf.out, none, 0, rfl, hb0⟩)
theorem cnearC : CNearC := fun a n c z vs w hn hr hnil => (cnear_any a n c z vs w hn hr hnil).mono fun _ _ h => h

/-- two blocks of the call's own: a result of six cells, a point -/
theorem both_keep {w W : World} {c0 c1 c2 c3 c4 c5 d0 d1 d2 d3 : Value} {e e' : TypeId} (h : Below ((w.alloc (.cells #[c0, c1, c2, c3, c4, c5] e)).alloc (.cells #[d0, d1, d2, d3] e')).heap.size ((w.alloc (.cells #[c0, c1, c2, c3, c4, c5] e)).alloc (.cells #[d0, d1, d2, d3] e')) W) :
    ((W.cell? ⟨w.heap.size, 0, none⟩ = some c0 ∧ W.cell? ⟨w.heap.size, 1, none⟩ = some c1 ∧ W.cell? ⟨w.heap.size, 2, none⟩ = some c2 ∧ W.cell? ⟨w.heap.size, 3, none⟩ = some c3 ∧ W.cell? ⟨w.heap.size, 4, none⟩ = some c4 ∧ W.cell? ⟨w.heap.size, 5, none⟩ = some c5) ∧
    (W.frozen? ⟨w.heap.size, 0, none⟩ = false ∧ W.frozen? ⟨w.heap.size, 1, none⟩ = false ∧ W.frozen? ⟨w.heap.size, 2, none⟩ = false ∧ W.frozen? ⟨w.heap.size, 3, none⟩ = false ∧ W.frozen? ⟨w.heap.size, 4, none⟩ = false ∧ W.frozen? ⟨w.heap.size, 5, none⟩ = false) ∧ Below w.heap.size w W ∧ w.heap.size < W.heap.size) ∧
    (W.cell? ⟨w.heap.size + 1, 0, none⟩ = some d0 ∧ W.cell? ⟨w.heap.size + 1, 1, none⟩ = some d1 ∧ W.cell? ⟨w.heap.size + 1, 2, none⟩ = some d2 ∧ W.cell? ⟨w.heap.size + 1, 3, none⟩ = some d3) ∧ W.frozen? ⟨w.heap.size + 1, 3, none⟩ = false := by
  have hs : (w.alloc (.cells #[c0, c1, c2, c3, c4, c5] e)).heap.size = w.heap.size + 1 := by simp
  have hl : (w.alloc (.cells #[c0, c1, c2, c3, c4, c5] e)).heap.size < ((w.alloc (.cells #[c0, c1, c2, c3, c4, c5] e)).alloc (.cells #[d0, d1, d2, d3] e')).heap.size := by simp
  refine ⟨res_keep ((below_alloc _ _).trans (h.mono (by simp))), ?_⟩
  have k : ∀ i, W.cell? ⟨(w.alloc (.cells #[c0, c1, c2, c3, c4, c5] e)).heap.size, i, none⟩ = #[d0, d1, d2, d3][i]? := fun i => (h.cell (p := ⟨_, i, none⟩) hl).trans (cell_new _ _ e' i)
  have f : ∀ i, W.frozen? ⟨(w.alloc (.cells #[c0, c1, c2, c3, c4, c5] e)).heap.size, i, none⟩ = false := fun i => (h.frozen (p := ⟨_, i, none⟩) hl).trans (frozen_new _ _ e' i)
  rw [hs] at k f
  exact ⟨⟨k 0, k 1, k 2, k 3⟩, f 3⟩

def CFarRes (s y : Int) (n : Nat) (vs : List Nat) (w : World) (e : Ending) (w' : World) : Prop :=
  (Po.may (s, y, (n : Int), 0) = true ∧ ∃ a' c', e = .returned (.tuple #[cv true a' 0 c' (s, y, (n : Int), Crc.more 0 vs), .int .i64 0]) ∧ Below w.heap.size w w') ∨
  (Po.may (s, y, (n : Int), 0) = false ∧ ∃ a' c', e = .returned (.tuple #[cv false a' 0 c' Po.zero, .int .i64 1]) ∧ Below w.heap.size w w')

set_option maxRecDepth 100000 in
set_option maxHeartbeats 1000000 in
theorem cfar_any (s y : Int) (a : Option Addr) (n c : Nat) (vs : List Nat) (w : World) (hn : n ≤ 5000) (hs : -9223372036854775808 ≤ s ∧ s ≤ 9223372036854775807) (hy : -9223372036854775808 ≤ y ∧ y ≤ 9223372036854775807) (hr : Row .u8 w a n vs) : Calls Try.prog 20 #[.int .i64 s, .int .i64 y, .slice a n c] w (CFarRes s y n vs w) := by
  have hb0 := below_alloc w (.cells #[.bool false, .slice none 0 0, .int .i64 0, .int .i64 0, .int .i64 0, .int .u32 0] 27)
  have hkeep : Hid (∀ W, Below ((w.alloc (.cells #[.bool false, .slice none 0 0, .int .i64 0, .int .i64 0, .int .i64 0, .int .u32 0] 27)).alloc (.cells #[.int .i64 s, .int .i64 y, .int .i64 (n : Nat), .int .u32 0] 25)).heap.size ((w.alloc (.cells #[.bool false, .slice none 0 0, .int .i64 0, .int .i64 0, .int .i64 0, .int .u32 0] 27)).alloc (.cells #[.int .i64 s, .int .i64 y, .int .i64 (n : Nat), .int .u32 0] 25)) W → _) := (fun W h => both_keep (w := w) (W := W) h)
  have hck := fun W => pcheckC (s, y, (n : Int), 0) W ⟨hs, hy, (by show -9223372036854775808 ≤ (n : Int) ∧ (n : Int) ≤ 9223372036854775807; omega), (by show 0 < 4294967296; omega)⟩
  have hof := fun W (h : Below w.heap.size w W) => of_any a n c vs W (hr.below h (Nat.le_refl _))
  simp only [pv] at hck
  clear hr
  by_cases hm : Po.may (s, y, (n : Int), 0) = true
  · have Hm : Hid (Po.may (s, y, (n : Int), 0) = true) := hm
    rw [if_pos hm] at hck
    have hck2 : ∀ W, Calls Try.prog 26 #[.agg #[.int .i64 s, .int .i64 y, .int .i64 n, .int .u32 0]] W fun e w' => e = .returned (.int .i64 0) ∧ Below W.heap.size W w' := hck
    clear hm hck
    obtain ⟨S, hS⟩ : ∃ S, S = Crc.more 0 vs := ⟨_, rfl⟩
    rw [← hS] at hof
    have HS : Hid (S = Crc.more 0 vs) := hS
    clear hS
    go_enter Try.func20, Try.ntmps20
    go_wp2_with (first
      | (go_at_call 26; go_must (refine (hck2 _).mono ?_; rintro e w1 ⟨rfl, hbel1⟩; obtain ⟨⟨⟨m0, m1, m2, m3, m4, m5⟩, ⟨g0, g1, g2, g3, g4, g5⟩, hb1, hs1⟩, ⟨q0, q1, q2, q3⟩, q4⟩ := hkeep.out w1 hbel1))
      | (go_at_call 35; go_must (refine (hof _ hb1).mono ?_; rintro e w2 ⟨rfl, hw⟩; obtain rfl : w1 = w2 := hw.symm)))
    have hb3 := hb1.setCell (p := ⟨w.heap.size + 1, 3, none⟩) (Nat.le_succ _) (.int .u32 (S : Nat))
    exact bodyPost_ret (v := .tuple #[cv true none 0 0 (s, y, (n : Int), S), .int .i64 0]) (by simp [cv, results, Try.results20, go_sem, m0, m1, m2, m3, m4, m5]) rfl (.inl ⟨Hm.out, none, 0, by rw [HS.out], below_six hb3 _ _ _ _ _ _⟩)
  · have Hm : Hid (Po.may (s, y, (n : Int), 0) = false) := (by simpa using hm : Po.may (s, y, (n : Int), 0) = false)
    rw [if_neg hm] at hck
    have hck2 : ∀ W, Calls Try.prog 26 #[.agg #[.int .i64 s, .int .i64 y, .int .i64 n, .int .u32 0]] W fun e w' => e = .returned (.int .i64 1) ∧ Below W.heap.size W w' := hck
    clear hm hck hof
    go_enter Try.func20, Try.ntmps20
    go_wp2_with (go_at_call 26; go_must (refine (hck2 _).mono ?_; rintro e w1 ⟨rfl, hbel1⟩; obtain ⟨⟨⟨m0, m1, m2, m3, m4, m5⟩, ⟨g0, g1, g2, g3, g4, g5⟩, hb1, hs1⟩, ⟨q0, q1, q2, q3⟩, q4⟩ := hkeep.out w1 hbel1))
    exact bodyPost_ret (v := .tuple #[cv false none 0 0 Po.zero, .int .i64 1]) (by simp [cv, Po.zero, results, Try.results20, go_sem, m0, m1, m2, m3, m4, m5]) rfl (.inr ⟨Hm.out, none, 0, rfl, below_six hb1 _ _ _ _ _ _⟩)
theorem cfarC : CFarC := fun s y a n c vs w hn hs hy hr => (cfar_any s y a n c vs w hn hs hy hr).mono fun _ _ h => h
end Go.Proofs.Ytgmcjalcpgldhaa
