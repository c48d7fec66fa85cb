/- What is asked of the program's own functions over points; the laws PointPuts, PointGets, PointReads, given that. -/
import Derived.Test.YtmafbgfldojbbaaS3
namespace Go.Proofs.Ytmafbgfldojbbaa
open Go.RowKit

def PPutRes (w : World) (p : Po.P) (e : Ending) (w' : World) : Prop :=
  (Po.may p = true ∧ ∃ a c, e = .returned (.tuple #[.slice a (Po.put p).length c, .int .i64 0]) ∧ w'.ownsRow w.heap.size 5 1 (.slice a (Po.put p).length c) (Po.put p).length (kcells .u8 (Po.put p)) ∧ Below w.heap.size w w') ∨
  (Po.may p = false ∧ ∃ a c, e = .returned (.tuple #[.slice a 0 c, .int .i64 1]) ∧ Below w.heap.size w w')
def PCheckC : Prop := ∀ (p : Po.P) (w : World), Po.Fits p → Calls Try.prog 9 #[pv p] w fun e w' => e = .returned (.int .i64 (if Po.may p = true then 0 else 1 : Nat)) ∧ Below w.heap.size w w'
def PPutC : Prop := ∀ (p : Po.P) (w : World), Po.Fits p → Calls Try.prog 7 #[pv p] w (PPutRes w p)
def PGetC : Prop := ∀ (a : Option Addr) (len cap : Nat) (bs : List Nat) (w : World), Shape a len cap → len ≤ cap → len ≤ 100000 → Row .u8 w a len bs → Calls Try.prog 13 #[.slice a len cap] w fun e w' => e = .returned (.tuple #[pv (Po.get bs).1, .int .i64 ((Po.get bs).2 : Nat), .int .i64 (code (Po.get bs).2 : Nat)]) ∧ Below w.heap.size w w'
def PLessC : Prop := ∀ (f g : Po.P) (w : World), Po.Fits f → Po.Fits g → Calls Try.prog 15 #[pv f, pv g] w fun e w' => e = .returned (.bool (Po.less f g)) ∧ Below w.heap.size w w'

theorem po1234 : Po.put (1, 2, 3, 4) = [1, 2, 3, 4, 0, 0, 0] := by
  have h1 : Va.one 1 = [1] := Va.one_lo (by omega)
  have h2 : Va.one 2 = [2] := Va.one_lo (by omega)
  have h3 : Va.one 3 = [3] := Va.one_lo (by omega)
  simp [Po.put, Po.nums, Va.put, h1, h2, h3, Fr.le4]

set_option maxRecDepth 100000 in
set_option maxHeartbeats 1000000 in
theorem poawake (hP : PPutC) (w : World) : Calls Try.prog 10 #[] w fun e w' => e = .returned (.bool true) ∧ Below w.heap.size w w' := by
  have hp := hP (1, 2, 3, 4) w ⟨by decide, by decide, by decide, by decide⟩
  unfold PPutRes at hp
  rw [po1234] at hp
  have hp2 : Calls Try.prog 7 #[.agg #[.int .i64 1, .int .i64 2, .int .i64 3, .int .u32 4]] w fun e w' => ∃ a c, e = .returned (.tuple #[.slice a 7 c, .int .i64 0]) ∧ w'.ownsRow w.heap.size 5 1 (.slice a 7 c) 7 (kcells .u8 [1, 2, 3, 4, 0, 0, 0]) ∧ Below w.heap.size w w' := by
    refine hp.mono ?_
    rintro e w' (⟨_, h⟩ | ⟨h, _⟩)
    · exact h
    · exact absurd h (by decide)
  clear hp
  have hsm : ∀ x ∈ [1, 2, 3, 4, 0, 0, 0], x < lim .u8 := by intro x hx; simp at hx; show x < 256; omega
  go_enter Try.func10, Try.ntmps10
  go_wp2_with (first
    | (go_at_call 7; go_must (refine hp2.mono ?_; rintro e w1 ⟨a1, c1, rfl, hown1, hbel1⟩; obtain ⟨r1, _, _⟩ := row_of_owns hown1 hsm (by omega)))
    | (go_at_call 11; go_must (refine (bytes_any _ _ _ [1, 2, 3, 4, 0, 0, 0] _ _ _ [1, 2, 3, 4, 0, 0, 0] _ (r1.below (below_alloc _ _) (Nat.le_refl _)) (row_lit .u8 w1 5 _ [1, 2, 3, 4, 0, 0, 0] 7 rfl rfl hsm (by omega))).mono ?_; rintro e w2 ⟨rfl, n2, rfl⟩)))
  go_ret
  exact ⟨rfl, ((hbel1.alloc hbel1.size _)).trans (below_drewN _ _ _)⟩

set_option maxRecDepth 100000 in
set_option maxHeartbeats 1000000 in
theorem poputs_any (hP : PPutC) (hC : PCheckC) (p : Po.P) (w : World) (hf : Po.Fits p) : Calls Try.prog 3 #[pv p] w fun e w' => e = .returned (.bool true) ∧ Below w.heap.size w w' := by
  have hA := fun w => poawake hP w
  have hp := fun W => hP p W hf
  have hc := fun W => hC p W hf
  obtain ⟨s, a, l, m⟩ := p
  have hm := fun W => pomay_any s a l m W
  simp only [pv] at hp hc ⊢
  have hkeep : Hid (∀ W, Below (w.alloc (.cells #[.int .i64 s, .int .i64 a, .int .i64 l, .int .u32 m] 24)).heap.size (w.alloc (.cells #[.int .i64 s, .int .i64 a, .int .i64 l, .int .u32 m] 24)) W → W.cell? ⟨w.heap.size, 0, none⟩ = some (.int .i64 s) ∧ W.cell? ⟨w.heap.size, 1, none⟩ = some (.int .i64 a) ∧ W.cell? ⟨w.heap.size, 2, none⟩ = some (.int .i64 l) ∧ W.cell? ⟨w.heap.size, 3, none⟩ = some (.int .u32 m) ∧ Below w.heap.size w W ∧ w.heap.size < W.heap.size) := by
    refine (fun W h => ?_ : ∀ W, Below (w.alloc (.cells #[.int .i64 s, .int .i64 a, .int .i64 l, .int .u32 m] 24)).heap.size (w.alloc (.cells #[.int .i64 s, .int .i64 a, .int .i64 l, .int .u32 m] 24)) W → _)
    obtain ⟨k0, k1, k2, k3⟩ := cell_four w (.int .i64 s) (.int .i64 a) (.int .i64 l) (.int .u32 m) 24 rfl
    have hl : w.heap.size < (w.alloc (.cells #[.int .i64 s, .int .i64 a, .int .i64 l, .int .u32 m] 24)).heap.size := by simp
    exact ⟨(h.cell (p := ⟨w.heap.size, 0, none⟩) hl).trans k0, (h.cell (p := ⟨w.heap.size, 1, none⟩) hl).trans k1, (h.cell (p := ⟨w.heap.size, 2, none⟩) hl).trans k2, (h.cell (p := ⟨w.heap.size, 3, none⟩) hl).trans k3, (below_alloc _ _).trans (h.mono (by simp)), Nat.lt_of_lt_of_le hl h.size⟩
  by_cases hmay : Po.may (s, a, l, m) = true
  · rw [if_pos hmay] at hc
    rw [hmay] at hm
    have hb := (Po.may_iff _).mp hmay
    have hm4 : m < 4294967296 := hf.2.2.2
    simp only at hb
    obtain ⟨x, rfl⟩ : ∃ x : Nat, s = (x : Int) := ⟨s.toNat, by omega⟩
    obtain ⟨y, rfl⟩ : ∃ y : Nat, a = (y : Int) := ⟨a.toNat, by omega⟩
    obtain ⟨z, rfl⟩ : ∃ z : Nat, l = (z : Int) := ⟨l.toNat, by omega⟩
    have hrp := fun W => porefput_any x y z m W (by omega) (by omega) (by omega) hm4
    have he : Va.put [x, y, z] ++ Fr.le4 m = Po.put ((x : Int), (y : Int), (z : Int), m) := rfl
    rw [he] at hrp
    have hsm : ∀ u ∈ Po.put ((x : Int), (y : Int), (z : Int), m), u < lim .u8 := Po.put_small
    have hql := Po.put_len hmay
    have hp2 : ∀ W, Calls Try.prog 7 #[.agg #[.int .i64 x, .int .i64 y, .int .i64 z, .int .u32 m]] W (Made .u8 5 W (Po.put ((x : Int), (y : Int), (z : Int), m)) |> fun M e w' => ∃ a c, e = .returned (.tuple #[.slice a (Po.put ((x : Int), (y : Int), (z : Int), m)).length c, .int .i64 0]) ∧ M (.returned (.slice a (Po.put ((x : Int), (y : Int), (z : Int), m)).length c)) w' ∧ w'.ownsRow W.heap.size 5 1 (.slice a (Po.put ((x : Int), (y : Int), (z : Int), m)).length c) (Po.put ((x : Int), (y : Int), (z : Int), m)).length (kcells .u8 (Po.put ((x : Int), (y : Int), (z : Int), m))) ∧ Below W.heap.size W w') := fun W => by
      refine (hp W).mono ?_
      rintro e w' (⟨_, a, c, h1, h2, h3⟩ | ⟨h, _⟩)
      · exact ⟨a, c, h1, ⟨a, c, rfl, h2, h3⟩, h2, h3⟩
      · rw [hmay] at h; cases h
    have hc2 : ∀ W, Calls Try.prog 9 #[.agg #[.int .i64 x, .int .i64 y, .int .i64 z, .int .u32 m]] W fun e w' => e = .returned (.int .i64 0) ∧ Below W.heap.size W w' := hc
    clear hp hc he hmay hb
    generalize Po.put ((x : Int), (y : Int), (z : Int), m) = q at *
    go_enter Try.func3, Try.ntmps3
    go_wp2_with (first
      | (go_at_call 10; go_must (have := hown5; refine (hA _).mono ?_; rintro e w7 ⟨rfl, hbel7⟩))
      | (go_at_call 11; go_must (have := hown5; refine (bytes_any _ _ _ q _ _ _ q _ ((row_of_owns (owns_below hown3 hbel5) hsm (by omega)).1) ((row_of_owns hown5 hsm (by omega)).1)).mono ?_; rintro e w6 ⟨rfl, n6, rfl⟩))
      | (go_at_call 12; go_must (have := v0; refine (hrp _).mono ?_; rintro e w5 ⟨a5, c5, rfl, hown5, hbel5⟩))
      | (go_at_call 9; go_must (have := t0; refine (hc2 _).mono ?_; rintro e w3 ⟨rfl, hbel3⟩; have hown3 := owns_below hown2 hbel3; have hB3 := hB2.trans (hbel3.mono hB2.size); obtain ⟨v0, v1, v2, v3, hb3, hs3⟩ := hkeep.out w3 hB3))
      | (go_at_call 8; go_must (have := r0; refine (hm _).mono ?_; rintro e w2 ⟨rfl, hbel2⟩; have hown2 := owns_below hown1 hbel2; have hB2 := hbel1.trans (hbel2.mono hbel1.size); obtain ⟨t0, t1, t2, t3, hb2, hs2⟩ := hkeep.out w2 hB2))
      | (go_at_call 7; go_must (refine (hp2 _).mono ?_; rintro e w1 ⟨a1, c1, rfl, _, hown1, hbel1⟩; obtain ⟨r0, r1, r2, r3, hb1, hs1⟩ := hkeep.out w1 hbel1)))
    have hb5 := hb3.trans (hbel5.mono hb3.size)
    have hb6 := hb5.trans (below_drewN w.heap.size w5 n6)
    go_ret
    exact ⟨by simp, hb6.trans (hbel7.mono hb6.size)⟩
  · have hmay : Po.may (s, a, l, m) = false := by simpa using hmay
    rw [hmay] at hm hc
    have hp2 : ∀ W, Calls Try.prog 7 #[.agg #[.int .i64 s, .int .i64 a, .int .i64 l, .int .u32 m]] W fun e w' => ∃ a c, e = .returned (.tuple #[.slice a 0 c, .int .i64 1]) ∧ Below W.heap.size W w' := fun W => by
      refine (hp W).mono ?_
      rintro e w' (⟨h, _⟩ | ⟨_, h⟩)
      · rw [hmay] at h; cases h
      · exact h
    have hc2 : ∀ W, Calls Try.prog 9 #[.agg #[.int .i64 s, .int .i64 a, .int .i64 l, .int .u32 m]] W fun e w' => e = .returned (.int .i64 1) ∧ Below W.heap.size W w' := hc
    clear hp hc
    go_enter Try.func3, Try.ntmps3
    go_wp2_with (first
      | (go_at_call 10; refine (hA _).mono ?_; rintro e w4 ⟨rfl, hbel4⟩)
      | (go_at_call 9; go_must (have := t0; refine (hc2 _).mono ?_; rintro e w3 ⟨rfl, hbel3⟩))
      | (go_at_call 8; go_must (have := r0; refine (hm _).mono ?_; rintro e w2 ⟨rfl, hbel2⟩; obtain ⟨t0, t1, t2, t3, hb2, hs2⟩ := hkeep.out w2 (hbel1.trans (hbel2.mono hbel1.size))))
      | (go_at_call 7; go_must (refine (hp2 _).mono ?_; rintro e w1 ⟨a1, c1, rfl, hbel1⟩; obtain ⟨r0, r1, r2, r3, hb1, hs1⟩ := hkeep.out w1 hbel1)))
    go_ret
    exact ⟨rfl, (hb2.trans (hbel3.mono hb2.size)).trans (hbel4.mono (Nat.le_trans hb2.size hbel3.size))⟩
end Go.Proofs.Ytmafbgfldojbbaa
