/- The program's own sieves: RotateLeft32 by 17, mask, each. -/
import Derived.Test.YtikieblokfjphaaGreatSV5
import Derived.Shelf.Abstract
import Derived.BigQuiet
import Derived.StillTailTactics
namespace Go.Proofs.YtikieblokfjphaaGreat
open Go.RowKit Go.Shelf

theorem Sv.odd_or (e : Nat) : e ||| 1 = Sv.odd e := by
  have h : e = 2 * (e / 2) + e % 2 := by omega
  unfold Sv.odd
  have key : ∀ q : Nat, 2 * q ||| 1 = 2 * q + 1 := fun q => by
    have := Nat.two_pow_add_eq_or_of_lt (i := 1) (b := 1) (by decide) q
    simpa using this.symm
  rcases Nat.mod_two_eq_zero_or_one e with h0 | h0
  · rw [if_pos h0]
    rw [h0, Nat.add_zero] at h
    rw [h]; exact key _
  · rw [if_neg (by omega)]
    rw [h0] at h
    rw [h, ← key, Nat.or_assoc, Nat.or_self]
theorem Sv.rot_or (h : Nat) (hh : h < 4294967296) : h * 131072 % 4294967296 ||| h / 32768 = h * 131072 % 4294967296 + h / 32768 := by
  have e : h * 131072 % 4294967296 = 2 ^ 17 * (h % 32768) := by omega
  rw [e]
  exact (Nat.two_pow_add_eq_or_of_lt (i := 17) (b := h / 32768) (by omega) (h % 32768)).symm

theorem Sv.turnd_lt (h : Nat) (hh : h < 4294967296) : Sv.turnd h < 4294967296 := by
  have e : h * 131072 % 4294967296 = 131072 * (h % 32768) := by omega
  have e2 : h / 32768 < 131072 := by omega
  have e3 : h % 32768 < 32768 := by omega
  have key : ∀ a b, a < 32768 → b < 131072 → Sv.odd (131072 * a + b) < 4294967296 := fun a b ha hb => by
    unfold Sv.odd
    by_cases hp : (131072 * a + b) % 2 = 0
    · rw [if_pos hp]; omega
    · rw [if_neg hp]; omega
  unfold Sv.turnd
  rw [e]
  exact key _ _ e3 e2

set_option maxRecDepth 100000 in
set_option maxHeartbeats 1000000 in
theorem rot_any (h : Nat) (w : World) (hh : h < 4294967296) : Calls Tryz.prog 89 #[.int .u32 h, .int .i64 17] w fun e w' => e = .returned (.int .u32 ((h * 131072 % 4294967296 + h / 32768 : Nat) : Int)) ∧ w' = w := by
  have k17 : bits BinOp.and IntKind.u64 17 31 = 17 := by decide
  go_enter Tryz.func89, Tryz.ntmps89
  go_wp2
  go_ret
  refine ⟨ret_int ?_, rfl⟩
  have := u32_or_nat (h * 131072 % 4294967296) (h / 32768) (by omega) (by omega)
  rw [Sv.rot_or h hh] at this
  rw [← this]
  have e1 : ((h * 131072 % 4294967296 : Nat) : Int) = (h : Int) * 131072 % 4294967296 := by omega
  have e2 : ((h / 32768 : Nat) : Int) = (h : Int) / 32768 := by omega
  rw [e1, e2]
set_option maxRecDepth 100000 in
set_option maxHeartbeats 1000000 in
theorem mask_any (b : Nat) (w : World) (hh : b < 4294967296) : Calls Tryz.prog 69 #[.int .i64 b] w fun e w' => e = .returned (.int .u8 ((2 ^ (b % 8) : Nat) : Int)) ∧ w' = w := by
  go_enter Tryz.func69, Tryz.ntmps69
  go_wp2
  go_ret
  refine ⟨ret_int ?_, rfl⟩
  have h8 : b % 8 < 8 := by omega
  have : (2 : Nat) ^ (b % 8) < 256 := Nat.lt_of_le_of_lt (Nat.pow_le_pow_right (by decide) (by omega : b % 8 ≤ 7)) (by decide)
  have h2 : ((2 : Int) ^ (b % 8)) = ((2 ^ (b % 8) : Nat) : Int) := by push_cast; rfl
  rw [h2]
  generalize (2 : Nat) ^ (b % 8) = m at *
  omega

set_option maxRecDepth 100000 in
set_option maxHeartbeats 2000000 in
/-- a key's bits, one behind the other: what is wanted is done with each, as long as it is true -/
theorem each_any (n : Nat) (s : ByteArray) (w : World) (hn : 1 ≤ n ∧ n ≤ 1048576) (hs : s.size ≤ 1000000) (fid : Nat) (caps : Array Value) (I : Nat → World → Prop) (J : World → Prop)
    (eg : ∀ args w, (callFunc fid args).run Tryz.prog w = .ok (.enter fid args) w)
    (hI : ∀ k V V', I k V → Below V.heap.size V V' → I k V')
    (hdo : ∀ (k : Nat) (V : World), k < 6 → I k V → Calls Tryz.prog fid (#[.int .i64 ((Sv.bit n (Sv.sum (kb s)) k : Nat) : Int)] ++ caps) V fun e V' => ∃ b : Bool, e = .returned (.bool b) ∧ (b = true → I (k + 1) V') ∧ (b = false → J V'))
    (h0 : I 0 w) :
    Calls Tryz.prog 70 #[.int .i64 n, .string s, .func (.func fid) #[] caps] w fun e w' => ∃ b : Bool, e = .returned (.bool b) ∧ (b = true → I 6 w') ∧ (b = false → J w') := by
  obtain ⟨C, cap, hconv, hrow⟩ := conv_row8 s w hs
  have hb0 : Below w.heap.size w (w.alloc (.cells C 5 (C.size, C.size + 1))) := below_alloc _ _
  have hof := fun W (h : Below (w.alloc (.cells C 5 (C.size, C.size + 1))).heap.size (w.alloc (.cells C 5 (C.size, C.size + 1))) W) => of_any _ s.size cap (kb s) W (hrow.below h (Nat.le_refl _))
  have hH : Crc.more 0 (kb s) < 4294967296 := Crc.more_lt (s := 0) (kb s) (by omega) (fun x hx => kb_small s x hx)
  unfold Sv.sum at hdo
  generalize Crc.more 0 (kb s) = H at *
  have hrot := fun W => rot_any H W hH
  have hor : bits .or .u32 (((H * 131072 % 4294967296 + H / 32768 : Nat) : Int)) 1 = ((Sv.turnd H : Nat) : Int) := by
    have := u32_or_nat (H * 131072 % 4294967296 + H / 32768) 1 (by omega) (by omega)
    rw [Sv.odd_or] at this
    exact this
  generalize H * 131072 % 4294967296 + H / 32768 = R at *
  have hD := Sv.turnd_lt H hH
  have Hbit : Hid (∀ k, Sv.bit n H k = (H + k * Sv.turnd H) % 4294967296 % (8 * n)) := (fun k => by rw [Sv.bit] : ∀ k, Sv.bit n H k = (H + k * Sv.turnd H) % 4294967296 % (8 * n))
  generalize Sv.turnd H = D at *
  obtain ⟨M, hM⟩ : ∃ M, M = 8 * n := ⟨_, rfl⟩
  have m1 : (n : Int) * 8 = (M : Int) := by omega
  have m2 : (M : Int) % 4294967296 = (M : Int) := by omega
  rw [← hM] at Hbit
  have d1 : decide ((n : Int) < 1) = false := by simp; omega
  have d2 : decide ((1048576 : Int) < (n : Int)) = false := by simp; omega
  have hM0 : 0 < M := by omega
  have hM8 : M ≤ 8388608 := by omega
  clear hM hn
  go_enter Tryz.func70, Tryz.ntmps70
  go_wp2_with (first
    | (go_at_call 89; go_must (refine (hrot _).mono ?_; rintro e w2 ⟨rfl, rfl⟩))
    | (go_at_call 61; go_must (refine (hof _ (Below.refl _ _).drew).mono ?_; rintro e w1 ⟨rfl, rfl⟩)))
  have h0' : I 0 (w.alloc (.cells C 5 (C.size, C.size + 1))).drew := hI 0 w _ h0 hb0.drew
  generalize (w.alloc (.cells C 5 (C.size, C.size + 1))).drew = w2 at *
  clear hconv hrow hof hb0 hrot hor m1 m2 d1 d2 h0
  go_loopw [7, 25] (fun v i wr => ∃ (k P : Nat), k ≤ 6 ∧ i = .int .i64 k ∧ v = .int .u32 P ∧ P < 4294967296 ∧ Hid (P = (H + k * D) % 4294967296) ∧ I k wr) (fun _ i _ => 6 - (intOf i).toNat)
  case atStart => exact ⟨0, H, by omega, rfl, rfl, hH, (by omega : H = (H + 0 * D) % 4294967296), h0'⟩
  case round =>
    obtain ⟨k, P, hk, rfl, rfl, hP, HP, hIk⟩ := hrel
    by_cases hlt : k < 6
    · have hd := hdo k wr hlt hIk
      have HB := Hbit.out k
      rw [← HP.out] at HB
      obtain ⟨B, hB⟩ : ∃ B, B = Sv.bit n H k := ⟨_, rfl⟩
      rw [← hB] at hd HB
      have hBM : B < M := by rw [HB]; exact Nat.mod_lt _ hM0
      have HP2 : Hid ((P + D) % 4294967296 = (H + (k + 1) * D) % 4294967296) := (by
        rw [HP.out, Nat.succ_mul]; omega : (P + D) % 4294967296 = (H + (k + 1) * D) % 4294967296)
      have b1 : (P : Int) % (M : Int) = (B : Int) := by rw [HB]; omega
      have b2 : ((M : Int) == 0) = false := by simp; omega
      have b3 : wrap64 (B : Int) = (B : Int) := by unfold wrap64; omega
      have hB8 : B < 8388608 := by omega
      clear HB hB HP Hbit
      go_wp2_with (go_at_fn fid; go_must (refine hd.mono ?_; rintro e w3 ⟨b, rfl, hT, hF⟩))
      · rename_i hb
        go_ret
        exact ⟨false, rfl, (fun h => by cases h), fun _ => hF (by simpa using hb)⟩
      · rename_i hb
        go_roundw
        case rel => exact ⟨k + 1, (P + D) % 4294967296, by omega, by go_num, val_int (by omega), by omega, HP2, hT (by simpa using hb)⟩
        case measure => simp [intOf]; omega
    · obtain rfl : k = 6 := by omega
      go_wp2
      go_ret
      exact ⟨true, rfl, (fun _ => hIk), (fun h => by cases h)⟩

set_option maxRecDepth 100000 in
set_option maxHeartbeats 1000000 in
theorem each_none (n : Int) (s : ByteArray) (w : World) (hn : ¬ (1 ≤ n ∧ n ≤ 1048576)) (v : Value) :
    Calls Tryz.prog 70 #[.int .i64 n, .string s, v] w fun e w' => e = .returned (.bool true) ∧ w' = w := by
  by_cases h : n < 1
  · have d1 : decide (n < 1) = true := decide_eq_true h
    go_enter Tryz.func70, Tryz.ntmps70
    go_wp2
    go_ret
    exact ⟨rfl, rfl⟩
  · have d1 : decide (n < 1) = false := decide_eq_false h
    have d2 : decide (1048576 < n) = true := decide_eq_true (by omega)
    go_enter Tryz.func70, Tryz.ntmps70
    go_wp2
    go_ret
    exact ⟨rfl, rfl⟩
end Go.Proofs.YtikieblokfjphaaGreat

/- What the program's sieves do with each bit: told, looked at, set. -/
namespace Go.Proofs.YtikieblokfjphaaGreat
open Go.RowKit Go.Shelf

theorem own_same {w w' : World} {B e size n : Nat} {v : Value} {xs : List Value} (h : w.ownsRow B e size v n xs) (hk : ∀ k, B ≤ k → k < w.heap.size → w'.heap[k]? = w.heap[k]?) : w'.ownsRow B e size v n xs := by
  refine ⟨h.1, h.2.imp id ?_⟩
  rintro ⟨g, cap, cur, e1, hB, hg, hn, hm, hs, ht⟩
  exact ⟨g, cap, cur, e1, hB, (hk g hB (Array.getElem?_eq_some_iff.1 hg).1).trans hg, hn, hm, hs, ht⟩

/-- the box of a list of bits, half way -/
structure BSt (w : World) (V : World) (L : List Nat) (a : Option Addr) (k c : Nat) : Prop where
  below : Below w.heap.size w V
  box : V.heap[w.heap.size]? = some (.cells #[.slice a k c] 42 (0, 0))
  own : V.ownsRow (w.heap.size + 1) 3 1 (.slice a k c) k (tcells ie L)
theorem BSt.lt {w V : World} {L : List Nat} {a : Option Addr} {k c : Nat} (h : BSt w V L a k c) : w.heap.size < V.heap.size := (Array.getElem?_eq_some_iff.1 h.box).1
theorem BSt.on {w V V' : World} {L : List Nat} {a : Option Addr} {k c : Nat} (h : BSt w V L a k c) (hb : Below V.heap.size V V') : BSt w V' L a k c :=
  ⟨h.below.trans (hb.mono h.below.size), (hb.block _ h.lt).trans h.box, owns_below h.own hb⟩

theorem and_bit (x k : Nat) : x.testBit k = !(((x &&& 2 ^ k : Nat) : Int) == 0) := by
  cases h : x.testBit k with
  | true =>
    have : (x &&& 2 ^ k).testBit k = true := by simp [Nat.testBit_and, h]
    have hne : x &&& 2 ^ k ≠ 0 := fun e => by rw [e] at this; simp at this
    simp
    omega
  | false =>
    have : x &&& 2 ^ k = 0 := Nat.eq_of_testBit_eq fun i => by
      rw [Nat.testBit_and, Nat.zero_testBit]
      by_cases hi : k = i
      · subst hi; rw [h]; rfl
      · rw [Nat.testBit_two_pow_of_ne hi, Bool.and_false]
    rw [this]; rfl

set_option maxRecDepth 100000 in
set_option maxHeartbeats 1000000 in
theorem set_any (p g : Nat) (V : World) (base n : Nat) (L : List Nat) (B : Nat) (hbox : V.heap[p]? = some (.cells #[.slice (some ⟨g, 0, none⟩) n n] 22 (0, 0))) (ho : V.ownsRow base 5 1 (.slice (some ⟨g, 0, none⟩) n n) n (tcells be L)) (hL : ∀ x ∈ L, x < 256) (hB : B < 8 * n) (hn : n ≤ 1048576) :
    Calls Tryz.prog 68 #[.int .i64 B, .pointer (some ⟨p, 0, none⟩)] V fun e V' => e = .returned (.bool true) ∧ V' = (V.setCell ⟨g, B / 8, none⟩ (.int .u8 ((L.getD (B / 8) 0 ||| 2 ^ (B % 8) : Nat) : Int))).drew := by
  have c0 : V.cell? ⟨p, 0, none⟩ = some (.slice (some ⟨g, 0, none⟩) n n) := (Go.Joins.cell_of_block hbox _).trans rfl
  have hm : Tryz.prog.follows .mixedOrders = true := by kernel_rfl
  obtain ⟨Y, hY⟩ : ∃ Y, Y = B / 8 := ⟨_, rfl⟩
  have j1 : (B : Int) / 8 = (Y : Int) := by omega
  have hYn : Y < n := by omega
  have hlen : L.length = n := by have := ho.1; rw [tcells_length beE, Nat.mul_one, Nat.mul_one] at this; exact this
  have hget : (tcells be L)[Y]? = some (.int .u8 ((L.getD Y 0 : Nat) : Int)) := by
    have := tcells_get (d := 0) beE L Y 0 (by omega) (by decide)
    rw [Nat.mul_one, Nat.add_zero] at this
    rw [this]; rfl
  obtain ⟨q1, q2⟩ := own_cells ho hget
  have hX : L.getD Y 0 < 256 := by
    have hY' : Y < L.length := by omega
    rw [show L.getD Y 0 = L[Y] by simp [hY']]
    exact hL _ (List.getElem_mem _)
  have hmk := fun W => mask_any B W (by omega)
  have hor : bits .or .u8 ((L.getD Y 0 : Nat) : Int) ((2 ^ (B % 8) : Nat) : Int) = ((L.getD Y 0 ||| 2 ^ (B % 8) : Nat) : Int) := u8_or_nat _ _ hX (Nat.lt_of_le_of_lt (Nat.pow_le_pow_right (by decide) (by omega : B % 8 ≤ 7)) (by decide))
  rw [← hY]
  generalize L.getD Y 0 ||| 2 ^ (B % 8) = Z at *
  generalize 2 ^ (B % 8) = M at *
  generalize L.getD Y 0 = X at *
  have i0 : (0 : Int) ≤ (Y : Int) := by omega
  have i1 : (Y : Int) < (n : Int) := by omega
  have i2 : IntKind.i64.wrap (Y : Int) = (Y : Int) := by rw [IntKind.wrap_i64]; omega
  have hmk' := hmk V.drew
  clear ho hbox hY hget
  go_enter Tryz.func68, Tryz.ntmps68
  go_wp2
  refine wp_region_still_tail 9 hm (by kernel_rfl) ?_
  simp only [List.take_succ_cons, List.take_zero, List.drop_succ_cons, List.drop_zero]
  repeat still_step
  still_call hmk'
  repeat still_step
  refine wpStill_nil ?_
  go_wp2
  go_ret
  exact ⟨rfl, rfl⟩
end Go.Proofs.YtikieblokfjphaaGreat

/- The program's Bits, Has and Of: all that is asked of it. -/
namespace Go.Proofs.YtikieblokfjphaaGreat
open Go.RowKit Go.Shelf

/-- bytes of which just these bits are set -/
structure Sv.Ok (n : Nat) (L S : List Nat) : Prop where
  len : L.length = n
  small : ∀ x ∈ L, x < 256
  bits : ∀ j, j < 8 * n → Sv.isSet L j = decide (j ∈ S)
theorem Sv.isSet_bit (L : List Nat) (j : Nat) : Sv.isSet L j = (L.getD (j / 8) 0).testBit (j % 8) := by
  unfold Sv.isSet
  rw [Nat.testBit_eq_decide_div_mod_eq]
theorem Sv.ok_nil (n : Nat) : Sv.Ok n (List.replicate n 0) [] := ⟨by simp, (fun x hx => by rw [List.mem_replicate] at hx; omega), fun j hj => by
  rw [Sv.isSet_bit]
  have h : j / 8 < n := by omega
  have : (List.replicate n 0).getD (j / 8) 0 = 0 := by simp [h]
  rw [this]; simp⟩
theorem Sv.ok_put {n : Nat} {L S : List Nat} (h : Sv.Ok n L S) {b : Nat} (hb : b < 8 * n) : Sv.Ok n (L.set (b / 8) (L.getD (b / 8) 0 ||| 2 ^ (b % 8))) (S ++ [b]) := by
  have hl := h.len
  have hb8 : b / 8 < n := by omega
  refine ⟨by rw [List.length_set]; exact hl, ?_, ?_⟩
  · intro x hx
    rcases List.mem_or_eq_of_mem_set hx with h1 | rfl
    · exact h.small x h1
    · have h1 : L.getD (b / 8) 0 < 2 ^ 8 := by
        have h' : b / 8 < L.length := by omega
        rw [show L.getD (b / 8) 0 = L[b / 8] by simp [h']]
        exact h.small _ (List.getElem_mem _)
      have h2 : 2 ^ (b % 8) < 2 ^ 8 := Nat.pow_lt_pow_right (by decide) (by omega)
      exact Nat.or_lt_two_pow h1 h2
  · intro j hj
    have h1 := h.bits j hj
    rw [Sv.isSet_bit] at h1 ⊢
    have hj8 : j / 8 < n := by omega
    by_cases e : j / 8 = b / 8
    · have e1 : (L.set (b / 8) (L.getD (b / 8) 0 ||| 2 ^ (b % 8))).getD (j / 8) 0 = L.getD (j / 8) 0 ||| 2 ^ (b % 8) := by
        rw [e]
        have h' : b / 8 < L.length := by omega
        simp [h']
      rw [e1, Nat.testBit_or, h1]
      by_cases e2 : j = b
      · subst e2
        rw [Nat.testBit_two_pow_self]
        simp
      · rw [Nat.testBit_two_pow_of_ne (by omega)]
        simp [e2]
    · have e1 : (L.set (b / 8) (L.getD (b / 8) 0 ||| 2 ^ (b % 8))).getD (j / 8) 0 = L.getD (j / 8) 0 := by
        simp only [List.getD_eq_getElem?_getD]
        rw [List.getElem?_set_ne (by omega)]
      rw [e1, h1]
      have : j ≠ b := fun e' => e (by rw [e'])
      simp [this]
theorem Sv.ok_of {keys : List (List Nat)} {L : List Nat} (h : Sv.Ok (Sv.size keys.length) L (keys.flatMap (Sv.bits (Sv.size keys.length)))) : L = Sv.of keys := by
  refine List.ext_getElem (by rw [h.len, Sv.of_length]) fun i h1 h2 => ?_
  have hi : i < Sv.size keys.length := by rw [← h.len]; exact h1
  have e : (Sv.of keys)[i] = Sv.byte keys (Sv.size keys.length) i := by simp [Sv.of]
  rw [e]
  refine Nat.eq_of_testBit_eq fun k => ?_
  have hs1 : L[i] < 2 ^ 8 := h.small _ (List.getElem_mem _)
  have hs2 : Sv.byte keys (Sv.size keys.length) i < 2 ^ 8 := Sv.byte_lt _ _ _
  rcases Nat.lt_or_ge k 8 with hk | hk
  · have hb := h.bits (8 * i + k) (by omega)
    rw [Sv.isSet_bit, show (8 * i + k) / 8 = i by omega, show (8 * i + k) % 8 = k by omega, show L.getD i 0 = L[i] by simp [h1]] at hb
    rw [hb, Nat.testBit_eq_decide_div_mod_eq, Sv.byte, Sv.byteGo_bit _ 8 0 k hk]
    have hset : Sv.set keys (Sv.size keys.length) (8 * i + k) = decide (8 * i + k ∈ keys.flatMap (Sv.bits (Sv.size keys.length))) := by
      unfold Sv.set
      rw [Bool.eq_iff_iff, List.any_eq_true, decide_eq_true_eq, List.mem_flatMap]
      simp
    simp only [hset]
    by_cases hm : 8 * i + k ∈ keys.flatMap (Sv.bits (Sv.size keys.length))
    · simp [hm]
    · simp [hm]
  · have hp : 2 ^ 8 ≤ 2 ^ k := Nat.pow_le_pow_right (by decide) hk
    rw [Nat.testBit_lt_two_pow (Nat.lt_of_lt_of_le hs1 hp), Nat.testBit_lt_two_pow (Nat.lt_of_lt_of_le hs2 hp)]

theorem tcells_be_set (L : List Nat) (i x : Nat) : (tcells be L).set i (.int .u8 (x : Int)) = tcells be (L.set i x) := by
  have e : ∀ l : List Nat, tcells be l = l.map (fun x => Value.int .u8 ((x : Nat) : Int)) := fun l => by
    unfold tcells
    induction l with
    | nil => rfl
    | cons y l ih => rw [List.flatMap_cons, ih]; rfl
  rw [e, e, List.map_set]
theorem tcells_be_k (l : List Nat) : tcells be l = kcells .u8 l := by
  unfold tcells kcells
  induction l with
  | nil => rfl
  | cons x l ih => rw [List.flatMap_cons, List.map_cons, ih]; rfl
theorem tcells_be_zero (n : Nat) : (madeCells (Value.int .u8 0).cells (n * 1)).toList = tcells be (List.replicate n 0) := by
  have e : ∀ l : List Nat, tcells be l = l.map (fun x => Value.int .u8 ((x : Nat) : Int)) := fun l => by
    unfold tcells
    induction l with
    | nil => rfl
    | cons y l ih => rw [List.flatMap_cons, ih]; rfl
  rw [e, List.map_replicate, Nat.mul_one]
  refine List.ext_getElem (by simp [size_madeCells]) fun i h1 h2 => ?_
  simp [madeCells, Value.cells, Nat.mod_one]

/-- a sieve half made -/
structure OSt (w : World) (p : Nat) (V : World) (n : Nat) (L : List Nat) : Prop where
  below : Below w.heap.size w V
  own : V.ownsRow w.heap.size 5 1 (.slice (some ⟨w.heap.size, 0, none⟩) n n) n (tcells be L)
  box : V.heap[p]? = some (.cells #[.slice (some ⟨w.heap.size, 0, none⟩) n n] 22 (0, 0))
  lt : w.heap.size < p
theorem OSt.on {w V V' : World} {n p : Nat} {L : List Nat} (h : OSt w p V n L) (hb : Below V.heap.size V V') : OSt w p V' n L :=
  ⟨h.below.trans (hb.mono h.below.size), owns_below h.own hb, (hb.block _ (Array.getElem?_eq_some_iff.1 h.box).1).trans h.box, h.lt⟩
theorem OSt.put {w V : World} {n p : Nat} {L : List Nat} (h : OSt w p V n L) (i x : Nat) : OSt w p (V.setCell ⟨w.heap.size, i, none⟩ (.int .u8 (x : Int))) n (L.set i x) :=
  ⟨h.below.setCell (Nat.le_refl _) _, by rw [← tcells_be_set]; exact own_store h.own i _, (Below.heap_setCell V ⟨w.heap.size, i, none⟩ _ p (by have := h.lt; show p ≠ w.heap.size; omega)).trans h.box, h.lt⟩

theorem Sv.bits_take (n : Nat) (key : List Nat) (k : Nat) : (List.range (k + 1)).map (Sv.bit n (Sv.sum key)) = (List.range k).map (Sv.bit n (Sv.sum key)) ++ [Sv.bit n (Sv.sum key) k] := by
  rw [List.range_succ, List.map_append]; rfl
theorem Sv.bit_lt' {n : Nat} (hn : 0 < n) (h k : Nat) : Sv.bit n h k < 8 * n := Nat.mod_lt _ (by omega)

set_option maxRecDepth 100000 in
set_option maxHeartbeats 2000000 in
theorem vof_own (a : Option Addr) (n c : Nat) (ks : List ByteArray) (w : World) (hn : n ≤ 16384) (hks : ∀ s ∈ ks, s.size ≤ 1000) (hr : InT w a n c ks) : Calls Tryz.prog 37 #[.slice a n c] w (Made .u8 5 w (Sv.of (ks.map kb))) := by
  obtain ⟨N, hN⟩ : ∃ N, N = Sv.size n := ⟨_, rfl⟩
  have hN1 : 1 ≤ N ∧ N ≤ 1048576 := by rw [hN]; unfold Sv.size; omega
  have hNe : (n : Int) + (n : Int) / 10 + 1 = (N : Int) := by rw [hN]; unfold Sv.size; omega
  have hlk := hr.1.1
  obtain ⟨L0, hL0⟩ : ∃ L0, L0 = Sv.of (ks.map kb) := ⟨_, rfl⟩
  have HL : Hid (∀ L, Sv.Ok N L (ks.flatMap fun s => Sv.bits N (kb s)) → L = L0 ∧ L0.length = N) := (fun L h => by
    have e : Sv.size (ks.map kb).length = N := by rw [List.length_map, hlk, hN]
    have h' : L = L0 := by
      rw [hL0]
      refine Sv.ok_of ?_
      rw [e, List.flatMap_map]
      exact h
    exact ⟨h', by rw [hL0, Sv.of_length, e]⟩ : _)
  rw [← hL0]
  obtain ⟨i0, hi0, hz0, hz1, hz2⟩ := info_parts Tryz.info5
  have d1 : decide ((65536 : Int) < (n : Int)) = false := by simp; omega
  clear hL0 hN
  go_enter Tryz.func37, Tryz.ntmps37
  go_wp2_with (at_make; go_must (refine make_full _ rfl _ _ 22 rfl w.heap.size 5 i0 _ 1 Tryz.underlying22 hi0 hz0 hz1 .i64 .i64 N rfl rfl (by rw [hz2]; omega) (by unfold maxLen; omega) (Nat.le_refl _) ?_; intro w2 hmade hbel2))
  rw [tcells_be_zero] at hmade
  have hlt2 := (own_lt hmade).1
  have hst : OSt w w2.heap.size (w2.alloc (.cells #[.slice (some ⟨w.heap.size, 0, none⟩) N N] 22)) N (List.replicate N 0) := ⟨hbel2.alloc hbel2.size _, owns_below hmade (below_alloc _ _), heap_alloc_new _ _, hlt2⟩
  clear hmade hNe d1 hi0 hz0 hz1 hz2
  generalize w2.heap.size = p at *
  generalize w2.alloc (.cells #[.slice (some ⟨w.heap.size, 0, none⟩) N N] 22) = w3 at *
  go_loopw [21] (fun i wr => ∃ (k : Nat) (L : List Nat), k ≤ n ∧ i = .int .i64 k ∧ OSt w p wr N L ∧ Hid (Sv.Ok N L ((ks.take k).flatMap fun s => Sv.bits N (kb s)))) (fun i _ => n - (intOf i).toNat)
  case atStart => exact ⟨0, _, by omega, rfl, hst, (by rw [List.take_zero]; exact Sv.ok_nil N : Sv.Ok N (List.replicate N 0) ((ks.take 0).flatMap fun s => Sv.bits N (kb s)))⟩
  case round =>
    obtain ⟨k, L, hk, rfl, hS, HO⟩ := hrel
    have c0 : wr.cell? ⟨p, 0, none⟩ = some (.slice (some ⟨w.heap.size, 0, none⟩) N N) := (Go.Joins.cell_of_block hS.box _).trans rfl
    by_cases hlt : k < n
    · obtain ⟨bb, off, rfl, hc⟩ := hr.1.cell (by omega)
      have p0 := (hS.below.cell (p := ⟨bb, off + k, none⟩) (cell_lt (hc k hlt))).trans (hc k hlt)
      have hmem : ks.getD k ⟨#[]⟩ ∈ ks := by
        have h' : k < ks.length := by omega
        rw [show ks.getD k ⟨#[]⟩ = ks[k] by simp [h']]
        exact List.getElem_mem _
      have hsz := hks _ hmem
      have HT : Hid (((ks.take (k + 1)).flatMap fun s => Sv.bits N (kb s)) = ((ks.take k).flatMap fun s => Sv.bits N (kb s)) ++ Sv.bits N (kb (ks.getD k ⟨#[]⟩))) := (by
        have h' : k < ks.length := by omega
        rw [List.take_succ_eq_append_getElem h', List.flatMap_append, show ks.getD k ⟨#[]⟩ = ks[k] by simp [h']]
        simp : ((ks.take (k + 1)).flatMap fun s => Sv.bits N (kb s)) = ((ks.take k).flatMap fun s => Sv.bits N (kb s)) ++ Sv.bits N (kb (ks.getD k ⟨#[]⟩)))
      generalize ks.getD k ⟨#[]⟩ = s at *
      generalize ((ks.take k).flatMap fun s => Sv.bits N (kb s)) = S0 at *
      have he := each_any N s wr hN1 (by omega) 68 #[.pointer (some ⟨p, 0, none⟩)]
        (fun j V => ∃ L, OSt w p V N L ∧ Sv.Ok N L (S0 ++ (List.range j).map (Sv.bit N (Sv.sum (kb s))))) (fun _ => False) (enters_of Tryz.func68 (by kernel_rfl) rfl)
        (fun j V V' ⟨L, h1, h2⟩ hb => ⟨L, h1.on hb, h2⟩)
        (fun j V hj ⟨L, h1, h2⟩ => (set_any p w.heap.size V w.heap.size N L (Sv.bit N (Sv.sum (kb s)) j) h1.box h1.own h2.small (Sv.bit_lt' (by omega) _ _) hN1.2).mono fun e V' ⟨h3, h4⟩ => ⟨true, h3, (fun _ => ⟨L.set (Sv.bit N (Sv.sum (kb s)) j / 8) (L.getD (Sv.bit N (Sv.sum (kb s)) j / 8) 0 ||| 2 ^ (Sv.bit N (Sv.sum (kb s)) j % 8)), by
          rw [h4]
          exact (h1.put _ _).on (Below.refl _ _).drew, by
          rw [Sv.bits_take, ← List.append_assoc]
          exact Sv.ok_put h2 (Sv.bit_lt' (by omega) _ _)⟩), fun h => by cases h⟩) ⟨L, hS, by simpa using HO.out⟩
      have i0 : (0 : Int) ≤ (k : Int) := by omega
      have i1 : (k : Int) < (n : Int) := by omega
      have HE : Hid (∀ L, Sv.Ok N L (S0 ++ (List.range 6).map (Sv.bit N (Sv.sum (kb s)))) → Sv.Ok N L ((ks.take (k + 1)).flatMap fun s => Sv.bits N (kb s))) := (fun L h => by rw [HT.out]; exact h : _)
      clear HT hst HO hmem
      go_wp2_with (go_at_call 70; go_must (refine he.mono ?_; rintro e w1 ⟨b, rfl, hT, hF⟩; obtain ⟨L1, hS1, hO1⟩ := hT (by cases b with | true => rfl | false => exact absurd rfl hF)))
      go_roundw
      case rel => exact ⟨k + 1, L1, by omega, by go_num, hS1, HE.out L1 hO1⟩
      case measure => simp [intOf]; omega
    · obtain rfl : k = n := by omega
      have h1 : Sv.Ok N L (ks.flatMap fun s => Sv.bits N (kb s)) := by
        have := HO.out
        rw [← hlk, List.take_length] at this
        exact this
      obtain ⟨rfl, h2⟩ := HL.out L h1
      clear HO h1 HL hst
      go_wp2
      go_ret
      rw [Made, h2]
      exact ⟨_, N, rfl, tcells_be_k L ▸ hS.own, hS.below⟩

theorem vofC : VOfC := fun a n c ks w hn hks hr => by
  refine (vof_own a n c ks w hn hks hr).mono ?_
  rintro e w' ⟨a', c', rfl, hown, hb⟩
  obtain ⟨r1, r2, r3⟩ := row_of_owns hown (fun x hx => by
    obtain ⟨i, _, rfl⟩ := List.mem_map.mp hx
    exact Sv.byte_lt _ _ _) (by have := hr.1.1; rw [Sv.of_length, List.length_map, this]; unfold Sv.size; omega)
  exact ⟨a', c', rfl, r3, r2, r1, hb⟩

end Go.Proofs.YtikieblokfjphaaGreat
