/- What the program's sieves do with each bit: told, looked at, set. -/
import Derived.Test.YtfcijbplfokinaaSW1
import Derived.StillTailTactics
namespace Go.Proofs.Ytfcijbplfokinaa
open Go.RowKit Go.Shelf

theorem own_same {w w' : World} {B e size n : Nat} {v : Value} {xs : List Value} (h : w.ownsRow B e size v n xs) (hk : ∀ k, B ≤ k → k < w.heap.size → w'.heap[k]? = w.heap[k]?) : w'.ownsRow B e size v n xs := by
  refine ⟨h.1, h.2.imp id ?_⟩
  rintro ⟨g, cap, cur, e1, hB, hg, hn, hm, hs, ht⟩
  exact ⟨g, cap, cur, e1, hB, (hk g hB (Array.getElem?_eq_some_iff.1 hg).1).trans hg, hn, hm, hs, ht⟩

/-- the box of a list of bits, half way -/
structure BSt (w : World) (V : World) (L : List Nat) (a : Option Addr) (k c : Nat) : Prop where
  below : Below w.heap.size w V
  box : V.heap[w.heap.size]? = some (.cells #[.slice a k c] 25 (0, 0))
  own : V.ownsRow (w.heap.size + 1) 3 1 (.slice a k c) k (tcells ie L)
theorem BSt.lt {w V : World} {L : List Nat} {a : Option Addr} {k c : Nat} (h : BSt w V L a k c) : w.heap.size < V.heap.size := (Array.getElem?_eq_some_iff.1 h.box).1
theorem BSt.on {w V V' : World} {L : List Nat} {a : Option Addr} {k c : Nat} (h : BSt w V L a k c) (hb : Below V.heap.size V V') : BSt w V' L a k c :=
  ⟨h.below.trans (hb.mono h.below.size), (hb.block _ h.lt).trans h.box, owns_below h.own hb⟩

set_option maxRecDepth 100000 in
set_option maxHeartbeats 1000000 in
theorem tell_any (w V : World) (L : List Nat) (a : Option Addr) (k c B : Nat) (h : BSt w V L a k c) (hk : k ≤ 1000) :
    Calls Try.prog 17 #[.int .i64 B, .pointer (some ⟨w.heap.size, 0, none⟩)] V fun e V' => e = .returned (.bool true) ∧ ∃ a' c', BSt w V' (L ++ [B]) a' (k + 1) c' := by
  have c0 : V.cell? ⟨w.heap.size, 0, none⟩ = some (.slice a k c) := (Go.Joins.cell_of_block h.box _).trans rfl
  have f0 := Go.Joins.unfrozen_of_block h.box 0
  have hlt := h.lt
  have hb1 := below_alloc V (.cells #[.int .i64 (B : Int)] 3)
  have hown1 := owns_below h.own hb1
  have HFIN : Hid (∀ w3 a' c', Below (w.heap.size + 1) V w3 → w3.ownsRow (w.heap.size + 1) 3 1 (.slice a' (k + 1) c') (k + 1) (tcells ie (L ++ [B])) → BSt w (w3.setCell ⟨w.heap.size, 0, none⟩ (.slice a' (k + 1) c')) (L ++ [B]) a' (k + 1) c') := (fun w3 a' c' hb ho => by
    have hbl := hb.block w.heap.size (by omega)
    refine ⟨(h.below.trans (hb.mono (by omega))).setCell (Nat.le_refl _) _, Go.Joins.block_setCell (i := 0) (hbl.trans h.box) _, own_same ho (fun q hq _ => Below.heap_setCell w3 ⟨w.heap.size, 0, none⟩ _ q (by show q ≠ w.heap.size; omega))⟩ : _)
  have HFZ : Hid (∀ w3, Below (w.heap.size + 1) V w3 → w3.frozen? ⟨w.heap.size, 0, none⟩ = false ∧ w3.cell? ⟨w.heap.size, 0, none⟩ = some (.slice a k c)) := (fun w3 hb => by
    have hbl := (hb.block w.heap.size (by omega)).trans h.box
    exact ⟨Go.Joins.unfrozen_of_block hbl 0, (Go.Joins.cell_of_block hbl _).trans rfl⟩ : _)
  have hB1 : Below (w.heap.size + 1) V (V.alloc (.cells #[.int .i64 (B : Int)] 3)) := hb1.mono (by omega)
  have hB2 : w.heap.size + 1 ≤ (V.alloc (.cells #[.int .i64 (B : Int)] 3)).heap.size := by simp; omega
  clear h
  go_enter Try.func17, Try.ntmps17
  go_wp2_with (at_builtin; go_must (refine append_t intE ieE (w0 := V) (B := w.heap.size + 1) rfl (.tmp 4) (.tmp 6) rfl _ k L rfl hown1 (some ⟨V.heap.size, 0, none⟩) 1 1 [B] rfl (lit_int V B rfl) (fun h => by cases h) (by omega) hB1 hB2 ?_; intro a2 c2 w2 hc2 hn2 _ hown2 hb2 _; obtain ⟨z1, z2⟩ := HFZ.out w2 hb2; have HF := HFIN.out w2 a2 c2 hb2 hown2))
  go_ret
  exact ⟨rfl, a2, c2, HF⟩

theorem and_bit (x k : Nat) : x.testBit k = !(((x &&& 2 ^ k : Nat) : Int) == 0) := by
  cases h : x.testBit k with
  | true =>
    have : (x &&& 2 ^ k).testBit k = true := by simp [Nat.testBit_and, h]
    have hne : x &&& 2 ^ k ≠ 0 := fun e => by rw [e] at this; simp at this
    simp
    omega
  | false =>
    have : x &&& 2 ^ k = 0 := Nat.eq_of_testBit_eq fun i => by
      rw [Nat.testBit_and, Nat.zero_testBit]
      by_cases hi : k = i
      · subst hi; rw [h]; rfl
      · rw [Nat.testBit_two_pow_of_ne hi, Bool.and_false]
    rw [this]; rfl

set_option maxRecDepth 100000 in
set_option maxHeartbeats 1000000 in
theorem look_any (p : Nat) (V : World) (b off n c : Nat) (bs : List Nat) (B : Nat) (hbox : V.heap[p]? = some (.cells #[.slice (some ⟨b, off, none⟩) n c] 29 (0, 0))) (hr : Row .u8 V (some ⟨b, off, none⟩) n bs) (hB : B < 8 * n) (hn : n ≤ 1048576) :
    Calls Try.prog 23 #[.int .i64 B, .pointer (some ⟨p, 0, none⟩)] V fun e V' => e = .returned (.bool (Sv.isSet bs B)) ∧ Below V.heap.size V V' := by
  have c0 : V.cell? ⟨p, 0, none⟩ = some (.slice (some ⟨b, off, none⟩) n c) := (Go.Joins.cell_of_block hbox _).trans rfl
  obtain ⟨Y, hY⟩ : ∃ Y, Y = B / 8 := ⟨_, rfl⟩
  have j1 : (B : Int) / 8 = (Y : Int) := by omega
  have hYn : Y < n := by omega
  have q1 := hr.cell Y hYn
  have hX : bs.getD Y 0 < 256 := by
    have hY' : Y < bs.length := by rw [hr.1]; exact hYn
    rw [show bs.getD Y 0 = bs[Y] by simp [hY']]
    exact hr.2.2.1 _ (List.getElem_mem _)
  have hmk := fun W => mask_any B W (by omega)
  have hand : bits .and .u8 ((bs.getD Y 0 : Nat) : Int) ((2 ^ (B % 8) : Nat) : Int) = ((bs.getD Y 0 &&& 2 ^ (B % 8) : Nat) : Int) := u8_and_nat _ _ hX (Nat.lt_of_le_of_lt (Nat.pow_le_pow_right (by decide) (by omega : B % 8 ≤ 7)) (by decide))
  have hset : Hid (Sv.isSet bs B = !(((bs.getD Y 0 &&& 2 ^ (B % 8) : Nat) : Int) == 0)) := (by
    unfold Sv.isSet
    rw [← hY]
    generalize bs.getD Y 0 = X
    rw [← Nat.testBit_eq_decide_div_mod_eq]
    exact and_bit X (B % 8) : Sv.isSet bs B = !(((bs.getD Y 0 &&& 2 ^ (B % 8) : Nat) : Int) == 0))
  generalize hZ : bs.getD Y 0 &&& 2 ^ (B % 8) = Z at *
  generalize 2 ^ (B % 8) = M at *
  generalize bs.getD Y 0 = X at *
  have i0 : (0 : Int) ≤ (Y : Int) := by omega
  have i1 : (Y : Int) < (n : Int) := by omega
  have i2 : IntKind.i64.wrap (Y : Int) = (Y : Int) := by rw [IntKind.wrap_i64]; omega
  clear hr hbox hY hZ
  have hm : Try.prog.follows .mixedOrders = true := by kernel_rfl
  have hmk' := hmk V.drew
  go_enter Try.func23, Try.ntmps23
  go_wp2
  refine wp_region_still_lit hm (by kernel_rfl) ?_
  repeat still_step
  still_call hmk'
  repeat still_step
  refine wpStill_nil ?_
  go_wp2
  go_ret
  exact ⟨ret_bool hset.out.symm, (Below.refl _ _).drew⟩

set_option maxRecDepth 100000 in
set_option maxHeartbeats 1000000 in
theorem set_any (p g : Nat) (V : World) (base n : Nat) (L : List Nat) (B : Nat) (hbox : V.heap[p]? = some (.cells #[.slice (some ⟨g, 0, none⟩) n n] 29 (0, 0))) (ho : V.ownsRow base 5 1 (.slice (some ⟨g, 0, none⟩) n n) n (tcells be L)) (hL : ∀ x ∈ L, x < 256) (hB : B < 8 * n) (hn : n ≤ 1048576) :
    Calls Try.prog 20 #[.int .i64 B, .pointer (some ⟨p, 0, none⟩)] V fun e V' => e = .returned (.bool true) ∧ V' = (V.setCell ⟨g, B / 8, none⟩ (.int .u8 ((L.getD (B / 8) 0 ||| 2 ^ (B % 8) : Nat) : Int))).drew := by
  have c0 : V.cell? ⟨p, 0, none⟩ = some (.slice (some ⟨g, 0, none⟩) n n) := (Go.Joins.cell_of_block hbox _).trans rfl
  have hm : Try.prog.follows .mixedOrders = true := by kernel_rfl
  obtain ⟨Y, hY⟩ : ∃ Y, Y = B / 8 := ⟨_, rfl⟩
  have j1 : (B : Int) / 8 = (Y : Int) := by omega
  have hYn : Y < n := by omega
  have hlen : L.length = n := by have := ho.1; rw [tcells_length beE, Nat.mul_one, Nat.mul_one] at this; exact this
  have hget : (tcells be L)[Y]? = some (.int .u8 ((L.getD Y 0 : Nat) : Int)) := by
    have := tcells_get (d := 0) beE L Y 0 (by omega) (by decide)
    rw [Nat.mul_one, Nat.add_zero] at this
    rw [this]; rfl
  obtain ⟨q1, q2⟩ := own_cells ho hget
  have hX : L.getD Y 0 < 256 := by
    have hY' : Y < L.length := by omega
    rw [show L.getD Y 0 = L[Y] by simp [hY']]
    exact hL _ (List.getElem_mem _)
  have hmk := fun W => mask_any B W (by omega)
  have hor : bits .or .u8 ((L.getD Y 0 : Nat) : Int) ((2 ^ (B % 8) : Nat) : Int) = ((L.getD Y 0 ||| 2 ^ (B % 8) : Nat) : Int) := u8_or_nat _ _ hX (Nat.lt_of_le_of_lt (Nat.pow_le_pow_right (by decide) (by omega : B % 8 ≤ 7)) (by decide))
  rw [← hY]
  generalize L.getD Y 0 ||| 2 ^ (B % 8) = Z at *
  generalize 2 ^ (B % 8) = M at *
  generalize L.getD Y 0 = X at *
  have i0 : (0 : Int) ≤ (Y : Int) := by omega
  have i1 : (Y : Int) < (n : Int) := by omega
  have i2 : IntKind.i64.wrap (Y : Int) = (Y : Int) := by rw [IntKind.wrap_i64]; omega
  have hmk' := hmk V.drew
  clear ho hbox hY hget
  go_enter Try.func20, Try.ntmps20
  go_wp2
  refine wp_region_still_tail 9 hm (by kernel_rfl) ?_
  simp only [List.take_succ_cons, List.take_zero, List.drop_succ_cons, List.drop_zero]
  repeat still_step
  still_call hmk'
  repeat still_step
  refine wpStill_nil ?_
  go_wp2
  go_ret
  exact ⟨rfl, rfl⟩
end Go.Proofs.Ytfcijbplfokinaa
