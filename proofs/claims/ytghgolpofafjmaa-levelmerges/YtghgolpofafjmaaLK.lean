/- What the reference's Nums, Has and meets do. -/
import Derived.Test.YtghgolpofafjmaaLJ
import Derived.Deep.QuietTactic
import Derived.BigQuiet
namespace Go.Proofs.Ytghgolpofafjmaa
open Go.RowKit

set_option maxRecDepth 100000 in
set_option maxHeartbeats 1000000 in
theorem rnums_any (a : Option Addr) (len cap : Nat) (l : List Lv.T) (w : World) (hlen : len ≤ 100000) (hr : LRow w a len l) (h0 : ∀ x ∈ l, 0 ≤ x.num) :
    Calls Try.prog 15 #[.slice a len cap] w (NRes w (nm l)) := by
  have hll : Hid (l.length = len) := hr.1
  obtain ⟨L, hL⟩ : ∃ L, L = nm l := ⟨_, rfl⟩
  rw [← hL]
  have HL : Hid (L = nm l) := hL
  clear hL
  have hm0 := made_t (s := 1) (enc := ie) w (B := w.heap.size) (E := 3) (Nat.le_refl _) rfl
  have hb0 := below_alloc w (.cells #[] 3)
  go_enter Try.func15, Try.ntmps15
  go_wp2
  go_loopw [3, 4] (fun v i wr => ∃ (k c : Nat) (g : Option Addr) (O : List Nat), k ≤ len ∧ i = .int .i64 k ∧ v = .slice g k c ∧ Hid (L = O ++ nm (l.drop k)) ∧ Hid (O.length = k) ∧ wr.ownsRow w.heap.size 3 1 (.slice g k c) k (tcells ie O) ∧ Below w.heap.size w wr)
    (fun _ i _ => len - (intOf i).toNat)
  case atStart => exact ⟨0, 0, _, [], by omega, rfl, rfl, (HL.out : L = [] ++ nm (l.drop 0)), (rfl : ([] : List Nat).length = 0), hm0, hb0⟩
  case round =>
    obtain ⟨k, c, g, O, hk, rfl, rfl, H, HO, hown, hbel⟩ := hrel
    clear hm0 hb0
    by_cases hlt : k < len
    · obtain ⟨b, off, x1, x2, x3, x4, x5, rfl, hx, q0, q1, q2, q3, q4⟩ := lget hr hbel hlt
      have hk' : k < l.length := by rw [hll.out]; exact hlt
      have hx0 : 0 ≤ x1 := by
        have := h0 (l.getD k Lv.zero) (by simp [hk'])
        rw [hx.out] at this; exact this
      obtain ⟨y, rfl⟩ := Int.eq_ofNat_of_zero_le hx0
      have H2 : Hid (L = (O ++ [y]) ++ nm (l.drop (k + 1))) := (by rw [H.out, ldrop hk', hx.out]; simp [nm] : L = (O ++ [y]) ++ nm (l.drop (k + 1)))
      have HO2 : Hid ((O ++ [y]).length = k + 1) := (by rw [List.length_append, HO.out]; rfl : (O ++ [y]).length = k + 1)
      have i0 : (0 : Int) ≤ (k : Int) := by omega
      have i1 : (k : Int) < (len : Int) := by omega
      have hls := lit_int wr y rfl
      clear hx H HO hx0
      go_wp2_with (at_builtin; go_must (refine append_t intE ieE (w0 := w) (B := w.heap.size) rfl (.tmp 12) (.tmp 18) rfl _ _ _ rfl (hown.alloc _) (some ⟨wr.heap.size, 0, none⟩) 1 1 [y] rfl hls (fun h => by cases h) (by omega) (hbel.alloc hbel.size _) (hbel.alloc hbel.size _).size ?_; intro a3 c3 w3 _ _ _ hown3 hb3 _))
      go_roundw
      case rel => exact ⟨k + 1, c3, a3, _, by omega, by go_num, rfl, H2, HO2, hown3, hb3⟩
      case measure => simp [intOf]; omega
    · obtain rfl : k = len := by omega
      have HE : Hid (L = O) := (by rw [H.out, List.drop_of_length_le (by rw [hll.out]; omega)]; simp [nm] : L = O)
      clear H HL
      go_wp2
      go_ret
      obtain rfl := HE.out
      obtain rfl := HO.out
      exact ⟨g, c, rfl, hown, hbel⟩

set_option maxRecDepth 100000 in
set_option maxHeartbeats 1000000 in
theorem rhas_any (a : Option Addr) (len cap : Nat) (l : List Nat) (x : Nat) (w : World) (hlen : len ≤ 100000) (hr : IRow w a len l) :
    Calls Try.prog 21 #[.slice a len cap, .int .i64 (x : Int)] w fun e w' => e = .returned (.bool (l.contains x)) ∧ w' = w := by
  have hll : Hid (l.length = len) := hr.1
  obtain ⟨R, hR⟩ : ∃ R, R = l.contains x := ⟨_, rfl⟩
  rw [← hR]
  have HR : Hid (R = (l.drop 0).contains x) := hR
  clear hR
  go_enter Try.func21, Try.ntmps21
  go_wp2
  go_loop [5] (fun i => ∃ k : Nat, k ≤ len ∧ i = .int .i64 k ∧ Hid (R = (l.drop k).contains x)) (fun i => len - (intOf i).toNat)
  case atStart => exact ⟨0, by omega, rfl, HR⟩
  case round =>
    obtain ⟨k, hk, rfl, H⟩ := hrel
    by_cases hlt : k < len
    · obtain ⟨b, off, rfl, hc⟩ := hr.cell (by omega)
      have q0 := hc k hlt
      have hk' : k < l.length := by rw [hll.out]; exact hlt
      have HS : Hid ((l.drop k).contains x = (decide (l.getD k 0 = x) || (l.drop (k + 1)).contains x)) := (by
        rw [List.drop_eq_getElem_cons hk', List.contains_cons]
        rw [show l.getD k 0 = l[k] by simp [hk']]
        congr 1
        rw [Bool.eq_iff_iff, beq_iff_eq, decide_eq_true_eq]
        exact eq_comm : (l.drop k).contains x = (decide (l.getD k 0 = x) || (l.drop (k + 1)).contains x))
      generalize l.getD k 0 = y at *
      have i0 : (0 : Int) ≤ (k : Int) := by omega
      have i1 : (k : Int) < (len : Int) := by omega
      by_cases hy : y = x
      · have d0 : ((y : Int) == (x : Int)) = true := by simp [hy]
        have HE : Hid (R = true) := (by rw [H.out, HS.out, decide_eq_true hy, Bool.true_or] : R = true)
        clear H HS HR hc hy
        go_wp2
        go_ret
        obtain rfl := HE.out
        exact ⟨rfl, rfl⟩
      · have d0 : ((y : Int) == (x : Int)) = false := by simp; omega
        have HE : Hid (R = (l.drop (k + 1)).contains x) := (by rw [H.out, HS.out, decide_eq_false hy, Bool.false_or] : R = (l.drop (k + 1)).contains x)
        clear H HS HR hc hy
        go_wp2
        go_round
        case rel => exact ⟨k + 1, by omega, by go_num, HE⟩
        case measure => simp [intOf]; omega
    · obtain rfl : k = len := by omega
      have HE : Hid (R = false) := (by rw [H.out, List.drop_of_length_le (by rw [hll.out]; omega)]; rfl : R = false)
      clear H HR
      go_wp2
      go_ret
      obtain rfl := HE.out
      exact ⟨rfl, rfl⟩

set_option maxRecDepth 100000 in
set_option maxHeartbeats 1000000 in
theorem rmeets_any (t1 t2 t3 : Int) (t4 t5 : ByteArray) (a : Option Addr) (len cap : Nat) (l : List Lv.T) (w : World) (hlen : len ≤ 100000) (hr : LRow w a len l) :
    Calls Try.prog 33 #[.agg #[.int .i64 t1, .int .i64 t2, .int .i64 t3, .string t4, .string t5], .slice a len cap] w fun e w' => e = .returned (.bool (l.any (Lv.meet ⟨t1, t2, t3, t4, t5⟩))) ∧ Below w.heap.size w w' := by
  have hll : Hid (l.length = len) := hr.1
  obtain ⟨W, hW⟩ : ∃ W, W = w.alloc (otab t1 t2 t3 t4 t5) := ⟨_, rfl⟩
  have hWs : W.heap.size = w.heap.size + 1 := by rw [hW]; simp
  have hbW : Below w.heap.size w W := hW ▸ below_alloc _ _
  have hrW : LRow W a len l := hr.below hbW (Nat.le_refl _)
  have hWL : L5 W w.heap.size 0 ⟨t1, t2, t3, t4, t5⟩ := by rw [hW]; exact ⟨cell_new _ _ _ _, cell_new _ _ _ _, cell_new _ _ _ _, cell_new _ _ _ _, cell_new _ _ _ _⟩
  have hm := fun x1 x2 x3 x4 x5 V => rmeet_any t1 t2 t3 t4 t5 x1 x2 x3 x4 x5 V
  obtain ⟨p, hp⟩ : ∃ p : Lv.T → Bool, p = Lv.meet ⟨t1, t2, t3, t4, t5⟩ := ⟨_, rfl⟩
  rw [← hp] at hm ⊢
  clear hp
  obtain ⟨R, hR⟩ : ∃ R, R = l.any p := ⟨_, rfl⟩
  rw [← hR]
  have HR : Hid (R = (l.drop 0).any p) := hR
  clear hR
  go_enter Try.func33, Try.ntmps33
  go_wp2
  have e0 : w.alloc (.cells #[.int .i64 t1, .int .i64 t2, .int .i64 t3, .string t4, .string t5] 30) = W := hW.symm
  rw [e0]
  clear e0
  go_loopw [5] (fun i wr => ∃ k : Nat, k ≤ len ∧ i = .int .i64 k ∧ Hid (R = (l.drop k).any p) ∧ Below W.heap.size W wr) (fun i _ => len - (intOf i).toNat)
  case atStart => exact ⟨0, by omega, rfl, HR, Below.refl _ _⟩
  case round =>
    obtain ⟨k, hk, rfl, H, hbel⟩ := hrel
    by_cases hlt : k < len
    · obtain ⟨b, off, x1, x2, x3, x4, x5, rfl, hx, q0, q1, q2, q3, q4⟩ := lget hrW hbel hlt
      have hk' : k < l.length := by rw [hll.out]; exact hlt
      obtain ⟨z0, z1, z2, z3, z4⟩ := hWL.below hbel (Nat.le_refl _)
      simp only [Nat.zero_add] at z0 z1 z2 z3 z4
      have i0 : (0 : Int) ≤ (k : Int) := by omega
      have i1 : (k : Int) < (len : Int) := by omega
      have HS : Hid ((l.drop k).any p = (p ⟨x1, x2, x3, x4, x5⟩ || (l.drop (k + 1)).any p)) := (by rw [ldrop hk', hx.out]; rfl : (l.drop k).any p = (p ⟨x1, x2, x3, x4, x5⟩ || (l.drop (k + 1)).any p))
      have hmx := hm x1 x2 x3 x4 x5
      cases hz : p ⟨x1, x2, x3, x4, x5⟩ with
      | true =>
        rw [hz] at hmx
        have HE : Hid (R = true) := (by rw [H.out, HS.out, hz, Bool.true_or] : R = true)
        clear H HS HR hx hm
        go_wp2_with fail
        go_region_held3 (fun w' => w'.cell? ⟨w.heap.size, 0, none⟩ = some (.int .i64 t1) ∧ w'.cell? ⟨w.heap.size, 1, none⟩ = some (.int .i64 t2) ∧ w'.cell? ⟨w.heap.size, 2, none⟩ = some (.int .i64 t3) ∧ w'.cell? ⟨w.heap.size, 3, none⟩ = some (.string t4) ∧ w'.cell? ⟨w.heap.size, 4, none⟩ = some (.string t5) ∧ w'.cell? ⟨b, off + k * 5, none⟩ = some (.int .i64 x1) ∧ w'.cell? ⟨b, off + k * 5 + 1, none⟩ = some (.int .i64 x2) ∧ w'.cell? ⟨b, off + k * 5 + 2, none⟩ = some (.int .i64 x3) ∧ w'.cell? ⟨b, off + k * 5 + 3, none⟩ = some (.string x4) ∧ w'.cell? ⟨b, off + k * 5 + 4, none⟩ = some (.string x5)) (first | go_keep | (refine ⟨?_, ?_, ?_, ?_, ?_, ?_, ?_, ?_, ?_, ?_⟩ <;> assumption))
          ((go_at_call 11; refine (hmx _).mono ?_; rintro e w2 ⟨rfl, hbel2⟩; have hb2 : Below wr.heap.size wr w2 := below_of_drew hbel2; obtain ⟨u0, u1, u2, u3, u4⟩ := L5.below (x := ⟨t1, t2, t3, t4, t5⟩) (o := 0) ⟨z0, z1, z2, z3, z4⟩ hb2 (Nat.le_refl _); obtain ⟨v0, v1, v2, v3, v4⟩ := L5.below (x := ⟨x1, x2, x3, x4, x5⟩) ⟨q0, q1, q2, q3, q4⟩ hb2 (Nat.le_refl _); simp only [Nat.zero_add] at u0 u1 u2 u3 u4 v0 v1 v2 v3 v4))
        go_wp2
        go_ret
        obtain rfl := HE.out
        exact ⟨rfl, (hbW.trans (hbel.mono (by omega))).trans (hb2.mono (by have := hbel.size; omega))⟩
      | false =>
        rw [hz] at hmx
        have HE : Hid (R = (l.drop (k + 1)).any p) := (by rw [H.out, HS.out, hz, Bool.false_or] : R = (l.drop (k + 1)).any p)
        clear H HS HR hx hm
        go_wp2_with fail
        go_region_held3 (fun w' => w'.cell? ⟨w.heap.size, 0, none⟩ = some (.int .i64 t1) ∧ w'.cell? ⟨w.heap.size, 1, none⟩ = some (.int .i64 t2) ∧ w'.cell? ⟨w.heap.size, 2, none⟩ = some (.int .i64 t3) ∧ w'.cell? ⟨w.heap.size, 3, none⟩ = some (.string t4) ∧ w'.cell? ⟨w.heap.size, 4, none⟩ = some (.string t5) ∧ w'.cell? ⟨b, off + k * 5, none⟩ = some (.int .i64 x1) ∧ w'.cell? ⟨b, off + k * 5 + 1, none⟩ = some (.int .i64 x2) ∧ w'.cell? ⟨b, off + k * 5 + 2, none⟩ = some (.int .i64 x3) ∧ w'.cell? ⟨b, off + k * 5 + 3, none⟩ = some (.string x4) ∧ w'.cell? ⟨b, off + k * 5 + 4, none⟩ = some (.string x5)) (first | go_keep | (refine ⟨?_, ?_, ?_, ?_, ?_, ?_, ?_, ?_, ?_, ?_⟩ <;> assumption))
          ((go_at_call 11; refine (hmx _).mono ?_; rintro e w2 ⟨rfl, hbel2⟩; have hb2 : Below wr.heap.size wr w2 := below_of_drew hbel2; obtain ⟨u0, u1, u2, u3, u4⟩ := L5.below (x := ⟨t1, t2, t3, t4, t5⟩) (o := 0) ⟨z0, z1, z2, z3, z4⟩ hb2 (Nat.le_refl _); obtain ⟨v0, v1, v2, v3, v4⟩ := L5.below (x := ⟨x1, x2, x3, x4, x5⟩) ⟨q0, q1, q2, q3, q4⟩ hb2 (Nat.le_refl _); simp only [Nat.zero_add] at u0 u1 u2 u3 u4 v0 v1 v2 v3 v4))
        go_wp2
        go_roundw
        case rel => exact ⟨k + 1, by omega, by go_num, HE, hbel.trans (hb2.mono hbel.size)⟩
        case measure => simp [intOf]; omega
    · obtain rfl : k = len := by omega
      have HE : Hid (R = false) := (by rw [H.out, List.drop_of_length_le (by rw [hll.out]; omega)]; rfl : R = false)
      clear H HR
      go_wp2
      go_ret
      obtain rfl := HE.out
      exact ⟨rfl, hbW.trans (hbel.mono (by omega))⟩
end Go.Proofs.Ytghgolpofafjmaa
