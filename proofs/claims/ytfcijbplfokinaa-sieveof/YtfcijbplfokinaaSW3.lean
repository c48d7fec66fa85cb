/- The program's Bits, Has and Of: all that is asked of it. -/
import Derived.Test.YtfcijbplfokinaaSW2
namespace Go.Proofs.Ytfcijbplfokinaa
open Go.RowKit Go.Shelf

/-- bytes of which just these bits are set -/
structure Sv.Ok (n : Nat) (L S : List Nat) : Prop where
  len : L.length = n
  small : ∀ x ∈ L, x < 256
  bits : ∀ j, j < 8 * n → Sv.isSet L j = decide (j ∈ S)
theorem Sv.isSet_bit (L : List Nat) (j : Nat) : Sv.isSet L j = (L.getD (j / 8) 0).testBit (j % 8) := by
  unfold Sv.isSet
  rw [Nat.testBit_eq_decide_div_mod_eq]
theorem Sv.ok_nil (n : Nat) : Sv.Ok n (List.replicate n 0) [] := ⟨by simp, (fun x hx => by rw [List.mem_replicate] at hx; omega), fun j hj => by
  rw [Sv.isSet_bit]
  have h : j / 8 < n := by omega
  have : (List.replicate n 0).getD (j / 8) 0 = 0 := by simp [h]
  rw [this]; simp⟩
theorem Sv.ok_put {n : Nat} {L S : List Nat} (h : Sv.Ok n L S) {b : Nat} (hb : b < 8 * n) : Sv.Ok n (L.set (b / 8) (L.getD (b / 8) 0 ||| 2 ^ (b % 8))) (S ++ [b]) := by
  have hl := h.len
  have hb8 : b / 8 < n := by omega
  refine ⟨by rw [List.length_set]; exact hl, ?_, ?_⟩
  · intro x hx
    rcases List.mem_or_eq_of_mem_set hx with h1 | rfl
    · exact h.small x h1
    · have h1 : L.getD (b / 8) 0 < 2 ^ 8 := by
        have h' : b / 8 < L.length := by omega
        rw [show L.getD (b / 8) 0 = L[b / 8] by simp [h']]
        exact h.small _ (List.getElem_mem _)
      have h2 : 2 ^ (b % 8) < 2 ^ 8 := Nat.pow_lt_pow_right (by decide) (by omega)
      exact Nat.or_lt_two_pow h1 h2
  · intro j hj
    have h1 := h.bits j hj
    rw [Sv.isSet_bit] at h1 ⊢
    have hj8 : j / 8 < n := by omega
    by_cases e : j / 8 = b / 8
    · have e1 : (L.set (b / 8) (L.getD (b / 8) 0 ||| 2 ^ (b % 8))).getD (j / 8) 0 = L.getD (j / 8) 0 ||| 2 ^ (b % 8) := by
        rw [e]
        have h' : b / 8 < L.length := by omega
        simp [h']
      rw [e1, Nat.testBit_or, h1]
      by_cases e2 : j = b
      · subst e2
        rw [Nat.testBit_two_pow_self]
        simp
      · rw [Nat.testBit_two_pow_of_ne (by omega)]
        simp [e2]
    · have e1 : (L.set (b / 8) (L.getD (b / 8) 0 ||| 2 ^ (b % 8))).getD (j / 8) 0 = L.getD (j / 8) 0 := by
        simp only [List.getD_eq_getElem?_getD]
        rw [List.getElem?_set_ne (by omega)]
      rw [e1, h1]
      have : j ≠ b := fun e' => e (by rw [e'])
      simp [this]
theorem Sv.ok_of {keys : List (List Nat)} {L : List Nat} (h : Sv.Ok (Sv.size keys.length) L (keys.flatMap (Sv.bits (Sv.size keys.length)))) : L = Sv.of keys := by
  refine List.ext_getElem (by rw [h.len, Sv.of_length]) fun i h1 h2 => ?_
  have hi : i < Sv.size keys.length := by rw [← h.len]; exact h1
  have e : (Sv.of keys)[i] = Sv.byte keys (Sv.size keys.length) i := by simp [Sv.of]
  rw [e]
  refine Nat.eq_of_testBit_eq fun k => ?_
  have hs1 : L[i] < 2 ^ 8 := h.small _ (List.getElem_mem _)
  have hs2 : Sv.byte keys (Sv.size keys.length) i < 2 ^ 8 := Sv.byte_lt _ _ _
  rcases Nat.lt_or_ge k 8 with hk | hk
  · have hb := h.bits (8 * i + k) (by omega)
    rw [Sv.isSet_bit, show (8 * i + k) / 8 = i by omega, show (8 * i + k) % 8 = k by omega, show L.getD i 0 = L[i] by simp [h1]] at hb
    rw [hb, Nat.testBit_eq_decide_div_mod_eq, Sv.byte, Sv.byteGo_bit _ 8 0 k hk]
    have hset : Sv.set keys (Sv.size keys.length) (8 * i + k) = decide (8 * i + k ∈ keys.flatMap (Sv.bits (Sv.size keys.length))) := by
      unfold Sv.set
      rw [Bool.eq_iff_iff, List.any_eq_true, decide_eq_true_eq, List.mem_flatMap]
      simp
    simp only [hset]
    by_cases hm : 8 * i + k ∈ keys.flatMap (Sv.bits (Sv.size keys.length))
    · simp [hm]
    · simp [hm]
  · have hp : 2 ^ 8 ≤ 2 ^ k := Nat.pow_le_pow_right (by decide) hk
    rw [Nat.testBit_lt_two_pow (Nat.lt_of_lt_of_le hs1 hp), Nat.testBit_lt_two_pow (Nat.lt_of_lt_of_le hs2 hp)]

theorem tcells_be_set (L : List Nat) (i x : Nat) : (tcells be L).set i (.int .u8 (x : Int)) = tcells be (L.set i x) := by
  have e : ∀ l : List Nat, tcells be l = l.map (fun x => Value.int .u8 ((x : Nat) : Int)) := fun l => by
    unfold tcells
    induction l with
    | nil => rfl
    | cons y l ih => rw [List.flatMap_cons, ih]; rfl
  rw [e, e, List.map_set]
theorem tcells_be_zero (n : Nat) : (madeCells (Value.int .u8 0).cells (n * 1)).toList = tcells be (List.replicate n 0) := by
  have e : ∀ l : List Nat, tcells be l = l.map (fun x => Value.int .u8 ((x : Nat) : Int)) := fun l => by
    unfold tcells
    induction l with
    | nil => rfl
    | cons y l ih => rw [List.flatMap_cons, ih]; rfl
  rw [e, List.map_replicate, Nat.mul_one]
  refine List.ext_getElem (by simp [size_madeCells]) fun i h1 h2 => ?_
  simp [madeCells, Value.cells, Nat.mod_one]

/-- a sieve half made -/
structure OSt (w : World) (p : Nat) (V : World) (n : Nat) (L : List Nat) : Prop where
  below : Below w.heap.size w V
  own : V.ownsRow w.heap.size 5 1 (.slice (some ⟨w.heap.size, 0, none⟩) n n) n (tcells be L)
  box : V.heap[p]? = some (.cells #[.slice (some ⟨w.heap.size, 0, none⟩) n n] 29 (0, 0))
  lt : w.heap.size < p
theorem OSt.on {w V V' : World} {n p : Nat} {L : List Nat} (h : OSt w p V n L) (hb : Below V.heap.size V V') : OSt w p V' n L :=
  ⟨h.below.trans (hb.mono h.below.size), owns_below h.own hb, (hb.block _ (Array.getElem?_eq_some_iff.1 h.box).1).trans h.box, h.lt⟩
theorem OSt.put {w V : World} {n p : Nat} {L : List Nat} (h : OSt w p V n L) (i x : Nat) : OSt w p (V.setCell ⟨w.heap.size, i, none⟩ (.int .u8 (x : Int))) n (L.set i x) :=
  ⟨h.below.setCell (Nat.le_refl _) _, by rw [← tcells_be_set]; exact own_store h.own i _, (Below.heap_setCell V ⟨w.heap.size, i, none⟩ _ p (by have := h.lt; show p ≠ w.heap.size; omega)).trans h.box, h.lt⟩

theorem Sv.bits_take (n : Nat) (key : List Nat) (k : Nat) : (List.range (k + 1)).map (Sv.bit n (Sv.sum key)) = (List.range k).map (Sv.bit n (Sv.sum key)) ++ [Sv.bit n (Sv.sum key) k] := by
  rw [List.range_succ, List.map_append]; rfl
theorem Sv.bit_lt' {n : Nat} (hn : 0 < n) (h k : Nat) : Sv.bit n h k < 8 * n := Nat.mod_lt _ (by omega)

set_option maxRecDepth 100000 in
set_option maxHeartbeats 1000000 in
theorem vbitsC : VBitsC := fun n s w hn hs => by
  have hb0 := below_alloc w (.cells #[.slice none 0 0] 25)
  by_cases h : 1 ≤ n ∧ n ≤ 1048576
  · obtain ⟨m, rfl⟩ := Int.eq_ofNat_of_zero_le (by omega : 0 ≤ n)
    have hm : 1 ≤ m ∧ m ≤ 1048576 := by omega
    have hst : BSt w (w.alloc (.cells #[.slice none 0 0] 25)) [] none 0 0 := ⟨hb0, heap_alloc_new _ _, ⟨rfl, .inl ⟨rfl, rfl⟩⟩⟩
    have he := each_any m s (w.alloc (.cells #[.slice none 0 0] 25)) hm (by omega) 17 #[.pointer (some ⟨w.heap.size, 0, none⟩)]
      (fun k V => ∃ a c, BSt w V ((List.range k).map (Sv.bit m (Sv.sum (kb s)))) a k c) (fun _ => False) (enters_of Try.func17 (by kernel_rfl) rfl)
      (fun k V V' ⟨a, c, h1⟩ hb => ⟨a, c, h1.on hb⟩)
      (fun k V hk ⟨a, c, h1⟩ => (tell_any w V _ a k c (Sv.bit m (Sv.sum (kb s)) k) h1 (by omega)).mono fun e V' ⟨h2, a', c', h3⟩ => ⟨true, h2, (fun _ => ⟨a', c', by rw [Sv.bits_take]; exact h3⟩), fun h => by cases h⟩) ⟨none, 0, hst⟩
    have hL : Sv.bitsR (m : Int) (kb s) = (List.range 6).map (Sv.bit m (Sv.sum (kb s))) := by unfold Sv.bitsR; rw [if_pos h]; rfl
    have hl6 : ((List.range 6).map (Sv.bit m (Sv.sum (kb s)))).length = 6 := by simp
    rw [hL, hl6]
    generalize (List.range 6).map (Sv.bit m (Sv.sum (kb s))) = L at *
    clear hst hL
    go_enter Try.func8, Try.ntmps8
    go_wp2_with (go_at_call 16; go_must (refine he.mono ?_; rintro e w1 ⟨b, rfl, hT, hF⟩; obtain ⟨a, c, hB⟩ := hT (by cases b with | true => rfl | false => exact absurd rfl hF); have c0 : w1.cell? ⟨w.heap.size, 0, none⟩ = some (.slice a 6 c) := (Go.Joins.cell_of_block hB.box _).trans rfl))
    go_ret
    exact ⟨a, c, rfl, trow_of_owns ieE hB.own (by decide) (by decide), hB.below⟩
  · have he := each_none n s (w.alloc (.cells #[.slice none 0 0] 25)) h (.func (.func 17) #[] #[.pointer (some ⟨w.heap.size, 0, none⟩)])
    have hL : Sv.bitsR n (kb s) = [] := by unfold Sv.bitsR; rw [if_neg h]
    rw [hL]
    clear hL
    go_enter Try.func8, Try.ntmps8
    go_wp2_with (go_at_call 16; go_must (refine he.mono ?_; rintro e w1 ⟨rfl, hw⟩; rw [hw]; clear hw w1))
    go_ret
    exact ⟨none, 0, rfl, TRow.nil _ _, hb0⟩

set_option maxRecDepth 100000 in
set_option maxHeartbeats 1000000 in
theorem vhasC : VHasC := fun a n c bs s w hn hs hr hnil hnc => by
  have hb0 := below_alloc w (.cells #[.slice a n c] 29)
  by_cases h : 1 ≤ n
  · obtain ⟨b, off, rfl, _⟩ := hr.at (by omega)
    have hbox : (w.alloc (.cells #[.slice (some ⟨b, off, none⟩) n c] 29)).heap[w.heap.size]? = some (.cells #[.slice (some ⟨b, off, none⟩) n c] 29 (0, 0)) := heap_alloc_new _ _
    have he := each_any n s (w.alloc (.cells #[.slice (some ⟨b, off, none⟩) n c] 29)) ⟨h, by omega⟩ (by omega) 23 #[.pointer (some ⟨w.heap.size, 0, none⟩)]
      (fun k V => Below (w.alloc (.cells #[.slice (some ⟨b, off, none⟩) n c] 29)).heap.size (w.alloc (.cells #[.slice (some ⟨b, off, none⟩) n c] 29)) V ∧ ∀ j, j < k → Sv.isSet bs (Sv.bit n (Sv.sum (kb s)) j) = true)
      (fun V => Below (w.alloc (.cells #[.slice (some ⟨b, off, none⟩) n c] 29)).heap.size (w.alloc (.cells #[.slice (some ⟨b, off, none⟩) n c] 29)) V ∧ ∃ j, j < 6 ∧ Sv.isSet bs (Sv.bit n (Sv.sum (kb s)) j) = false) (enters_of Try.func23 (by kernel_rfl) rfl)
      (fun k V V' ⟨h1, h2⟩ hb => ⟨h1.trans (hb.mono h1.size), h2⟩)
      (fun k V hk ⟨h1, h2⟩ => (look_any w.heap.size V b off n c bs (Sv.bit n (Sv.sum (kb s)) k) ((h1.block _ (by simp)).trans hbox) ((hr.below hb0 (Nat.le_refl _)).below h1 (Nat.le_refl _)) (Sv.bit_lt' (by omega) _ _) (by omega)).mono fun e V' ⟨h3, h4⟩ => ⟨_, h3, (fun h5 => ⟨h1.trans (h4.mono h1.size), fun j hj => by
        rcases Nat.lt_or_ge j k with h6 | h6
        · exact h2 j h6
        · obtain rfl : j = k := by omega
          exact h5⟩), fun h5 => ⟨h1.trans (h4.mono h1.size), k, hk, h5⟩⟩) ⟨Below.refl _ _, fun j hj => by omega⟩
    have hT : (∀ j, j < 6 → Sv.isSet bs (Sv.bit n (Sv.sum (kb s)) j) = true) → Sv.has bs (kb s) = true := fun h1 => by
      unfold Sv.has
      rw [hr.1, if_neg (by omega), List.all_eq_true]
      intro x hx
      simp only [Sv.bits, List.mem_map, List.mem_range] at hx
      obtain ⟨j, hj, rfl⟩ := hx
      exact h1 j hj
    have hF : (∃ j, j < 6 ∧ Sv.isSet bs (Sv.bit n (Sv.sum (kb s)) j) = false) → Sv.has bs (kb s) = false := fun ⟨j, hj, h1⟩ => by
      unfold Sv.has
      rw [hr.1, if_neg (by omega), List.all_eq_false]
      exact ⟨_, List.mem_map.mpr ⟨j, List.mem_range.mpr hj, rfl⟩, by rw [h1]; simp⟩
    have HE : Hid (∀ (r : Bool) (w1 : World), (r = true → Below (w.alloc (.cells #[.slice (some ⟨b, off, none⟩) n c] 29)).heap.size (w.alloc (.cells #[.slice (some ⟨b, off, none⟩) n c] 29)) w1 ∧ ∀ j, j < 6 → Sv.isSet bs (Sv.bit n (Sv.sum (kb s)) j) = true) → (r = false → Below (w.alloc (.cells #[.slice (some ⟨b, off, none⟩) n c] 29)).heap.size (w.alloc (.cells #[.slice (some ⟨b, off, none⟩) n c] 29)) w1 ∧ ∃ j, j < 6 ∧ Sv.isSet bs (Sv.bit n (Sv.sum (kb s)) j) = false) → Below w.heap.size w w1 ∧ r = Sv.has bs (kb s)) := (fun r w1 h1 h2 => by
      cases r with
      | true => exact ⟨hb0.trans ((h1 rfl).1.mono hb0.size), (hT (h1 rfl).2).symm⟩
      | false => exact ⟨hb0.trans ((h2 rfl).1.mono hb0.size), (hF (h2 rfl).2).symm⟩ : _)
    clear hT hF hr hbox
    go_enter Try.func14, Try.ntmps14
    go_wp2_with (go_at_call 16; go_must (refine he.mono ?_; rintro e w1 ⟨r, rfl, h1, h2⟩; obtain ⟨h3, h4⟩ := HE.out r w1 h1 h2))
    go_ret
    first | exact ⟨ret_bool h4, h3⟩ | exact ⟨rfl, h3⟩
  · obtain rfl : n = 0 := by omega
    have he := each_none 0 s (w.alloc (.cells #[.slice a 0 c] 29)) (by omega) (.func (.func 23) #[] #[.pointer (some ⟨w.heap.size, 0, none⟩)])
    have hL : Sv.has bs (kb s) = true := by unfold Sv.has; rw [hr.1, if_pos (.inl rfl)]
    rw [hL]
    clear hL hr
    go_enter Try.func14, Try.ntmps14
    go_wp2_with (go_at_call 16; go_must (refine he.mono ?_; rintro e w1 ⟨rfl, hw⟩; rw [hw]; clear hw w1))
    go_ret
    exact ⟨rfl, hb0⟩

set_option maxRecDepth 100000 in
set_option maxHeartbeats 2000000 in
theorem vofC : VOfC := fun a n c ks w hn hks hr => by
  obtain ⟨N, hN⟩ : ∃ N, N = Sv.size n := ⟨_, rfl⟩
  have hN1 : 1 ≤ N ∧ N ≤ 1048576 := by rw [hN]; unfold Sv.size; omega
  have hNe : (n : Int) + (n : Int) / 10 + 1 = (N : Int) := by rw [hN]; unfold Sv.size; omega
  have hlk := hr.1.1
  obtain ⟨L0, hL0⟩ : ∃ L0, L0 = Sv.of (ks.map kb) := ⟨_, rfl⟩
  have HL : Hid (∀ L, Sv.Ok N L (ks.flatMap fun s => Sv.bits N (kb s)) → L = L0 ∧ L0.length = N) := (fun L h => by
    have e : Sv.size (ks.map kb).length = N := by rw [List.length_map, hlk, hN]
    have h' : L = L0 := by
      rw [hL0]
      refine Sv.ok_of ?_
      rw [e, List.flatMap_map]
      exact h
    exact ⟨h', by rw [hL0, Sv.of_length, e]⟩ : _)
  rw [← hL0]
  obtain ⟨i0, hi0, hz0, hz1, hz2⟩ := info_parts Try.info5
  have d1 : decide ((65536 : Int) < (n : Int)) = false := by simp; omega
  clear hL0 hN
  go_enter Try.func12, Try.ntmps12
  go_wp2_with (at_make; go_must (refine make_full _ rfl _ _ 29 rfl w.heap.size 5 i0 _ 1 Try.underlying29 hi0 hz0 hz1 .i64 .i64 N rfl rfl (by rw [hz2]; omega) (by unfold maxLen; omega) (Nat.le_refl _) ?_; intro w2 hmade hbel2))
  rw [tcells_be_zero] at hmade
  have hlt2 := (own_lt hmade).1
  have hst : OSt w w2.heap.size (w2.alloc (.cells #[.slice (some ⟨w.heap.size, 0, none⟩) N N] 29)) N (List.replicate N 0) := ⟨hbel2.alloc hbel2.size _, owns_below hmade (below_alloc _ _), heap_alloc_new _ _, hlt2⟩
  clear hmade hNe d1 hi0 hz0 hz1 hz2
  generalize w2.heap.size = p at *
  generalize w2.alloc (.cells #[.slice (some ⟨w.heap.size, 0, none⟩) N N] 29) = w3 at *
  go_loopw [21] (fun i wr => ∃ (k : Nat) (L : List Nat), k ≤ n ∧ i = .int .i64 k ∧ OSt w p wr N L ∧ Hid (Sv.Ok N L ((ks.take k).flatMap fun s => Sv.bits N (kb s)))) (fun i _ => n - (intOf i).toNat)
  case atStart => exact ⟨0, _, by omega, rfl, hst, (by rw [List.take_zero]; exact Sv.ok_nil N : Sv.Ok N (List.replicate N 0) ((ks.take 0).flatMap fun s => Sv.bits N (kb s)))⟩
  case round =>
    obtain ⟨k, L, hk, rfl, hS, HO⟩ := hrel
    have c0 : wr.cell? ⟨p, 0, none⟩ = some (.slice (some ⟨w.heap.size, 0, none⟩) N N) := (Go.Joins.cell_of_block hS.box _).trans rfl
    by_cases hlt : k < n
    · obtain ⟨bb, off, rfl, hc⟩ := hr.1.cell (by omega)
      have p0 := (hS.below.cell (p := ⟨bb, off + k, none⟩) (cell_lt (hc k hlt))).trans (hc k hlt)
      have hmem : ks.getD k ⟨#[]⟩ ∈ ks := by
        have h' : k < ks.length := by omega
        rw [show ks.getD k ⟨#[]⟩ = ks[k] by simp [h']]
        exact List.getElem_mem _
      have hsz := hks _ hmem
      have HT : Hid (((ks.take (k + 1)).flatMap fun s => Sv.bits N (kb s)) = ((ks.take k).flatMap fun s => Sv.bits N (kb s)) ++ Sv.bits N (kb (ks.getD k ⟨#[]⟩))) := (by
        have h' : k < ks.length := by omega
        rw [List.take_succ_eq_append_getElem h', List.flatMap_append, show ks.getD k ⟨#[]⟩ = ks[k] by simp [h']]
        simp : ((ks.take (k + 1)).flatMap fun s => Sv.bits N (kb s)) = ((ks.take k).flatMap fun s => Sv.bits N (kb s)) ++ Sv.bits N (kb (ks.getD k ⟨#[]⟩)))
      generalize ks.getD k ⟨#[]⟩ = s at *
      generalize ((ks.take k).flatMap fun s => Sv.bits N (kb s)) = S0 at *
      have he := each_any N s wr hN1 (by omega) 20 #[.pointer (some ⟨p, 0, none⟩)]
        (fun j V => ∃ L, OSt w p V N L ∧ Sv.Ok N L (S0 ++ (List.range j).map (Sv.bit N (Sv.sum (kb s))))) (fun _ => False) (enters_of Try.func20 (by kernel_rfl) rfl)
        (fun j V V' ⟨L, h1, h2⟩ hb => ⟨L, h1.on hb, h2⟩)
        (fun j V hj ⟨L, h1, h2⟩ => (set_any p w.heap.size V w.heap.size N L (Sv.bit N (Sv.sum (kb s)) j) h1.box h1.own h2.small (Sv.bit_lt' (by omega) _ _) hN1.2).mono fun e V' ⟨h3, h4⟩ => ⟨true, h3, (fun _ => ⟨L.set (Sv.bit N (Sv.sum (kb s)) j / 8) (L.getD (Sv.bit N (Sv.sum (kb s)) j / 8) 0 ||| 2 ^ (Sv.bit N (Sv.sum (kb s)) j % 8)), by
          rw [h4]
          exact (h1.put _ _).on (Below.refl _ _).drew, by
          rw [Sv.bits_take, ← List.append_assoc]
          exact Sv.ok_put h2 (Sv.bit_lt' (by omega) _ _)⟩), fun h => by cases h⟩) ⟨L, hS, by simpa using HO.out⟩
      have i0 : (0 : Int) ≤ (k : Int) := by omega
      have i1 : (k : Int) < (n : Int) := by omega
      have HE : Hid (∀ L, Sv.Ok N L (S0 ++ (List.range 6).map (Sv.bit N (Sv.sum (kb s)))) → Sv.Ok N L ((ks.take (k + 1)).flatMap fun s => Sv.bits N (kb s))) := (fun L h => by rw [HT.out]; exact h : _)
      clear HT hst HO hmem
      go_wp2_with (go_at_call 16; go_must (refine he.mono ?_; rintro e w1 ⟨b, rfl, hT, hF⟩; obtain ⟨L1, hS1, hO1⟩ := hT (by cases b with | true => rfl | false => exact absurd rfl hF)))
      go_roundw
      case rel => exact ⟨k + 1, L1, by omega, by go_num, hS1, HE.out L1 hO1⟩
      case measure => simp [intOf]; omega
    · obtain rfl : k = n := by omega
      have h1 : Sv.Ok N L (ks.flatMap fun s => Sv.bits N (kb s)) := by
        have := HO.out
        rw [← hlk, List.take_length] at this
        exact this
      obtain ⟨rfl, h2⟩ := HL.out L h1
      have hsm := h1.small
      clear HO h1 HL hst
      go_wp2
      go_ret
      rw [SieveRes, h2]
      exact ⟨_, N, rfl, Nat.le_refl _, (fun h => by cases h), BRow.row (trow_of_owns beE hS.own (by decide) (by omega)) hsm, hS.below⟩
theorem sieveC : SieveC := ⟨vbitsC, vofC, vhasC⟩
end Go.Proofs.Ytfcijbplfokinaa
