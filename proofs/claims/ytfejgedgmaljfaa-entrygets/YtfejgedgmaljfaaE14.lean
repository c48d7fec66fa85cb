/- awake and Light of the laws of entries. -/
import Derived.Test.YtfejgedgmaljfaaE14d
import Derived.Test.YtfejgedgmaljfaaBEd
import Derived.Test.YtfejgedgmaljfaaE10
import Derived.Test.YtfejgedgmaljfaaE8
namespace Go.Proofs.Ytfejgedgmaljfaa
open Go.RowKit

/-- the law's own entry -/
def enK : En.E := (3, 2, 1, [107], false, [9], Po.zero)
theorem enK_batch : En.batch [enK] = true := by
  have h : Ce.may (false, [9], Po.zero) = true := Ce.may_near.mpr ⟨by decide, rfl⟩
  simp [En.batch, En.may, En.chain, enK, h]
theorem enK_put : En.put [enK] = [1, 3, 2, 1, 1, 107, 0, 1, 9] := by
  have h1 : Va.one 1 = [1] := Va.one_lo (by omega)
  have h2 : Va.one 2 = [2] := Va.one_lo (by omega)
  have h3 : Va.one 3 = [3] := Va.one_lo (by omega)
  simp [En.put, En.put1, enK, Va.put, Ce.put, h1, h2, h3]
theorem enK_light : ELight [enK] := ⟨by decide, by intro e he; obtain rfl := List.mem_singleton.mp he; exact ⟨by decide, by decide⟩⟩
theorem enK_row (W : World) : ERow ((W.alloc (.cells #[.int .u8 9] 5)).alloc (.cells #[.int .i64 3, .int .i64 2, .int .i64 1, .string ⟨#[107]⟩, .bool false, .slice (some ⟨W.heap.size, 0, none⟩) 1 1, .int .i64 0, .int .i64 0, .int .i64 0, .int .u32 0] 34)) (some ⟨W.heap.size + 1, 0, none⟩) 1 [enK] := by
  refine ⟨rfl, by omega, .inr ⟨_, 0, rfl, fun i hi => ?_⟩⟩
  obtain rfl : i = 0 := by omega
  have hE := heap_alloc_new (W.alloc (.cells #[.int .u8 9] 5)) (.cells #[.int .i64 3, .int .i64 2, .int .i64 1, .string ⟨#[107]⟩, .bool false, .slice (some ⟨W.heap.size, 0, none⟩) 1 1, .int .i64 0, .int .i64 0, .int .i64 0, .int .u32 0] 34)
  rw [World.size_alloc] at hE
  obtain ⟨p0, p1, p2, p3, p4, p5, p6, p7, p8, p9⟩ := ent_cells hE
  have hrow : Row .u8 ((W.alloc (.cells #[.int .u8 9] 5)).alloc (.cells #[.int .i64 3, .int .i64 2, .int .i64 1, .string ⟨#[107]⟩, .bool false, .slice (some ⟨W.heap.size, 0, none⟩) 1 1, .int .i64 0, .int .i64 0, .int .i64 0, .int .u32 0] 34)) (some ⟨W.heap.size, 0, none⟩) 1 [9] := (row_newz .u8 W 5 9 9 rfl (by decide)).below (below_alloc _ _) (by simp)
  exact ⟨⟨#[107]⟩, some ⟨W.heap.size, 0, none⟩, 1, 1, p0, p1, p2, p3, p4, p5, p6, p7, p8, p9, rfl, by decide, hrow, (fun h => by cases h), by decide, by decide, by decide, by decide, by decide, by decide, by decide⟩
theorem erow_nil (w : World) (a : Option Addr) : ERow w a 0 [] := ⟨rfl, by omega, .inl rfl⟩

set_option maxRecDepth 100000 in
set_option maxHeartbeats 1000000 in
theorem enawake (hP : EPutC) (hB : EBatchC) (w : World) : Calls Try.prog 7 #[] w fun e w' => e = .returned (.bool true) ∧ Below w.heap.size w w' := by
  have hp : ∀ W : World, Calls Try.prog 10 #[.slice (some ⟨W.heap.size + 1, 0, none⟩) 1 1] ((W.alloc (.cells #[.int .u8 9] 5)).alloc (.cells #[.int .i64 3, .int .i64 2, .int .i64 1, .string ⟨#[107]⟩, .bool false, .slice (some ⟨W.heap.size, 0, none⟩) 1 1, .int .i64 0, .int .i64 0, .int .i64 0, .int .u32 0] 34)) fun e w' => ∃ a c, e = .returned (.tuple #[.slice a 9 c, .int .i64 0]) ∧ w'.ownsRow ((W.alloc (.cells #[.int .u8 9] 5)).alloc (.cells #[.int .i64 3, .int .i64 2, .int .i64 1, .string ⟨#[107]⟩, .bool false, .slice (some ⟨W.heap.size, 0, none⟩) 1 1, .int .i64 0, .int .i64 0, .int .i64 0, .int .u32 0] 34)).heap.size 5 1 (.slice a 9 c) 9 (kcells .u8 [1, 3, 2, 1, 1, 107, 0, 1, 9]) ∧ Below ((W.alloc (.cells #[.int .u8 9] 5)).alloc (.cells #[.int .i64 3, .int .i64 2, .int .i64 1, .string ⟨#[107]⟩, .bool false, .slice (some ⟨W.heap.size, 0, none⟩) 1 1, .int .i64 0, .int .i64 0, .int .i64 0, .int .u32 0] 34)).heap.size ((W.alloc (.cells #[.int .u8 9] 5)).alloc (.cells #[.int .i64 3, .int .i64 2, .int .i64 1, .string ⟨#[107]⟩, .bool false, .slice (some ⟨W.heap.size, 0, none⟩) 1 1, .int .i64 0, .int .i64 0, .int .i64 0, .int .u32 0] 34)) w' := fun W => by
    refine (hP _ 1 1 [enK] _ enK_light (enK_row W) (fun h => by cases h)).mono ?_
    rintro e w' (⟨_, a, c, h⟩ | ⟨h, _⟩)
    · rw [enK_put] at h; exact ⟨a, c, h⟩
    · rw [enK_batch] at h; cases h
  have hbn : ∀ W : World, Calls Try.prog 12 #[.slice none 0 0] W fun e w' => e = .returned (.int .i64 1) ∧ Below W.heap.size W w' := fun W => hB none 0 0 [] W ⟨by simp, by simp⟩ (erow_nil W none) (fun _ => ⟨rfl, rfl⟩)
  have hsm : ∀ x ∈ [1, 3, 2, 1, 1, 107, 0, 1, 9], x < lim .u8 := by intro x hx; simp at hx; show x < 256; omega
  have hb0 : Below w.heap.size w ((w.alloc (.cells #[.int .u8 9] 5)).alloc (.cells #[.int .i64 3, .int .i64 2, .int .i64 1, .string ⟨#[107]⟩, .bool false, .slice (some ⟨w.heap.size, 0, none⟩) 1 1, .int .i64 0, .int .i64 0, .int .i64 0, .int .u32 0] 34)) := (below_alloc _ _).alloc (by simp) _
  go_enter Try.func7, Try.ntmps7
  go_wp2_with (first
    | (go_at_call 12; go_must (have := hown1; refine (hbn _).mono ?_; rintro e w3 ⟨rfl, hbel3⟩))
    | (go_at_call 13; go_must (have := hown1; refine (bytes_any _ _ _ [1, 3, 2, 1, 1, 107, 0, 1, 9] _ _ _ [1, 3, 2, 1, 1, 107, 0, 1, 9] _ ((row_of_owns hown1 hsm (by omega)).1.below (below_alloc _ _) (Nat.le_refl _)) (row_lit .u8 w1 5 _ [1, 3, 2, 1, 1, 107, 0, 1, 9] 9 rfl rfl hsm (by omega))).mono ?_; rintro e w2 ⟨rfl, n2, rfl⟩))
    | (go_at_call 10; go_must (refine (hp _).mono ?_; rintro e w1 ⟨a1, c1, rfl, hown1, hbel1⟩)))
  have hb1 := hb0.trans (hbel1.mono hb0.size)
  have hb2 := (hb1.alloc hb1.size (.cells #[.int .u8 1, .int .u8 3, .int .u8 2, .int .u8 1, .int .u8 1, .int .u8 107, .int .u8 0, .int .u8 1, .int .u8 9] 5)).trans (below_drewN _ _ n2)
  go_ret
  exact ⟨by simp, hb2.trans (hbel3.mono hb2.size)⟩

set_option maxRecDepth 100000 in
set_option maxHeartbeats 1000000 in
theorem enlight_any (a : Option Addr) (l c : Nat) (es : List En.E) (w : World) (hr : ERow w a l es) (r : Bool) (hR : r = true ↔ ELight es) :
    Calls Try.prog 6 #[.slice a l c] w fun e w' => e = .returned (.bool r) ∧ Below w.heap.size w w' := by
  have hlen := hr.1
  have HF : Hid (∀ j, j < l → ¬ ((es.getD j En.zero).2.2.2.1.length ≤ 200 ∧ (es.getD j En.zero).2.2.2.2.2.1.length ≤ 200) → r = false) := (by
    intro j hj h
    cases r with
    | false => rfl
    | true =>
      have hj' : j < es.length := by rw [hlen]; exact hj
      refine absurd ((hR.mp rfl).2 _ ?_) h
      rw [show es.getD j En.zero = es[j] by simp [hj']]
      exact List.getElem_mem hj' : ∀ j, j < l → ¬ ((es.getD j En.zero).2.2.2.1.length ≤ 200 ∧ (es.getD j En.zero).2.2.2.2.2.1.length ≤ 200) → r = false)
  have HT : Hid ((∀ j, j < l → (es.getD j En.zero).2.2.2.1.length ≤ 200 ∧ (es.getD j En.zero).2.2.2.2.2.1.length ≤ 200) → l ≤ 40 → r = true) := (by
    intro h hl
    refine hR.mpr ⟨by rw [hlen]; exact hl, fun e he => ?_⟩
    obtain ⟨j, hj, rfl⟩ := List.mem_iff_getElem.mp he
    have := h j (by rw [← hlen]; exact hj)
    rw [show es.getD j En.zero = es[j] by simp [hj]] at this
    exact this : (∀ j, j < l → (es.getD j En.zero).2.2.2.1.length ≤ 200 ∧ (es.getD j En.zero).2.2.2.2.2.1.length ≤ 200) → l ≤ 40 → r = true)
  have HL : Hid (¬ l ≤ 40 → r = false) := (by
    intro h
    cases r with
    | false => rfl
    | true => exact absurd (by rw [← hlen]; exact (hR.mp rfl).1) h : ¬ l ≤ 40 → r = false)
  clear hR
  rcases Nat.eq_zero_or_pos l with h0 | h0
  · have he : Hid (r = true) := HT.out (fun j hj => by omega) (by omega)
    subst h0
    go_enter Try.func6, Try.ntmps6
    go_wp2
    go_loop [3] (fun i => i = .int .i64 (0 : Nat)) (fun _ => 0)
    case atStart => rfl
    case round =>
      subst hrel
      go_wp2
      go_ret
      exact ⟨by rw [he.out]; rfl, Below.refl _ _⟩
  · obtain ⟨b, o, rfl, hc⟩ := hr.at h0
    have hb := hr.2.1
    clear hr
    go_enter Try.func6, Try.ntmps6
    go_wp2
    go_loopw [3] (fun i wr => ∃ k : Nat, k ≤ l ∧ k ≤ 41 ∧ i = .int .i64 k ∧ Below w.heap.size w wr ∧ Hid (∀ j, j < k → (es.getD j En.zero).2.2.2.1.length ≤ 200 ∧ (es.getD j En.zero).2.2.2.2.2.1.length ≤ 200)) (fun i _ => l - (intOf i).toNat)
    case atStart => exact ⟨0, by omega, by omega, rfl, Below.refl _ _, (fun j hj => by omega : ∀ j, j < 0 → (es.getD j En.zero).2.2.2.1.length ≤ 200 ∧ (es.getD j En.zero).2.2.2.2.2.1.length ≤ 200)⟩
    case round =>
      obtain ⟨k, hk, hk41, rfl, hbel, hall⟩ := hrel
      have i0 : (0 : Int) ≤ (k : Int) := Int.natCast_nonneg _
      by_cases hlt : k < l ∧ k ≤ 40
      · obtain ⟨hlt, h40⟩ := hlt
        have i1 : (k : Int) < (l : Int) := by omega
        have i2 : (k : Int) ≤ 40 := by omega
        obtain ⟨s1, A1, L1, C1, p0, p1, p2, p3, p4, p5, p6, p7, p8, p9, hk1, hz1, r1, t1, ff1⟩ := (hc k hlt).below hbel (Nat.le_refl _)
        have hkl : Hid ((es.getD k En.zero).2.2.2.1.length = s1.size) := (by rw [← hk1, kb_len] : (es.getD k En.zero).2.2.2.1.length = s1.size)
        have hbl : Hid ((es.getD k En.zero).2.2.2.2.2.1.length = L1) := r1.1
        have hL1 := r1.2.1
        have hs18 : s1.size ≤ 9223372036854775807 := by unfold maxLen at hz1; omega
        clear hc hk1 r1 t1 ff1 p0 p1 p2 p4 p6 p7 p8 p9 hz1
        by_cases h1 : s1.size ≤ 200
        · by_cases h2 : L1 ≤ 200
          · have H : Hid (∀ j, j < k + 1 → (es.getD j En.zero).2.2.2.1.length ≤ 200 ∧ (es.getD j En.zero).2.2.2.2.2.1.length ≤ 200) := (by
              intro j hj
              rcases Nat.lt_or_ge j k with h | h
              · exact hall.out j h
              · obtain rfl : j = k := by omega
                rw [hkl.out, hbl.out]; exact ⟨h1, h2⟩ : ∀ j, j < k + 1 → (es.getD j En.zero).2.2.2.1.length ≤ 200 ∧ (es.getD j En.zero).2.2.2.2.2.1.length ≤ 200)
            have d1 : decide ((200 : Int) < (s1.size : Int)) = false := by simp; omega
            have d2 : decide ((200 : Int) < (L1 : Int)) = false := by simp; omega
            clear HF HT HL hall hkl hbl
            go_wp2
            go_roundw
            case rel => exact ⟨k + 1, by omega, by omega, by go_num, hbel, H⟩
            case measure => simp [intOf]; omega
          · have he : Hid (r = false) := HF.out k hlt (by rw [hkl.out, hbl.out]; exact fun h => h2 h.2)
            have d1 : decide ((200 : Int) < (s1.size : Int)) = false := by simp; omega
            have d2 : decide ((200 : Int) < (L1 : Int)) = true := by simp; omega
            clear HF HT HL hall hkl hbl
            go_wp2
            go_ret
            exact ⟨by rw [he.out]; rfl, hbel⟩
        · have he : Hid (r = false) := HF.out k hlt (by rw [hkl.out, hbl.out]; exact fun h => h1 h.1)
          have d1 : decide ((200 : Int) < (s1.size : Int)) = true := by simp; omega
          clear HF HT HL hall hkl hbl
          go_wp2
          go_ret
          exact ⟨by rw [he.out]; rfl, hbel⟩
      · by_cases hl40 : l ≤ 40
        · obtain rfl : k = l := by omega
          have he : Hid (r = true) := HT.out hall.out hl40
          have d3 : decide ((k : Int) ≤ 40) = true := by simp; omega
          clear HF HT HL hall hlt
          go_wp2
          go_ret
          exact ⟨by rw [he.out]; rfl, hbel⟩
        · have he : Hid (r = false) := HL.out hl40
          have d3 : decide ((l : Int) ≤ 40) = false := by simp; omega
          by_cases hkk : k < l
          · obtain rfl : k = 41 := by omega
            clear HF HT HL hall hlt
            go_wp2
            go_ret
            exact ⟨by rw [he.out]; rfl, hbel⟩
          · obtain rfl : k = l := by omega
            clear HF HT HL hall hlt
            go_wp2
            go_ret
            exact ⟨by rw [he.out]; rfl, hbel⟩
end Go.Proofs.Ytfejgedgmaljfaa
