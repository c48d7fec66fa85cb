/- What the program's Walk of layer 19 does. -/
import Derived.Test.YtnoknmnbfkdccaaGreatDoorSGa
import Derived.Test.YtnoknmnbfkdccaaGreatDoorS4
namespace Go.Proofs.YtnoknmnbfkdccaaGreatDoor
open Go.RowKit

/-- a point's cells -/
def pve (p : Po.P) : List Value := [.int .i64 p.1, .int .i64 p.2.1, .int .i64 p.2.2.1, .int .u32 (p.2.2.2 : Nat)]
theorem pvE : Enc 4 pve := ⟨fun _ => rfl, fun x u hu => by simp only [pve, List.mem_cons, List.not_mem_nil, or_false] at hu; rcases hu with rfl | rfl | rfl | rfl <;> rfl⟩
theorem pntE : Elem 35 42 4 32 (.agg #[.int .i64 0, .int .i64 0, .int .i64 0, .int .u32 0]) := ⟨Tryz.underlying35, by kernel_rfl, rfl, by decide, by decide⟩
def SWalkRes (w : World) (R : List Po.P × Nat) (e : Ending) (w' : World) : Prop :=
  ∃ a' c', e = .returned (.tuple #[.slice a' R.1.length c', .int .i64 (R.2 : Nat)]) ∧ w'.ownsRow w.heap.size 42 4 (.slice a' R.1.length c') R.1.length (pcells R.1) ∧ Below w.heap.size w w'
theorem Sg.may_seg (s : Int) (z n : Nat) (hz : z ≤ 1000000000) (hn : n ≤ 4096) : Po.may (s, ((z + Sg.head n : Nat) : Int), (n : Int), 0) = decide (1 ≤ s ∧ s ≤ 2147483647) := by
  have := Fr.one3 (n := n) (by omega)
  have h1 : Sg.head n ≤ 4 := by unfold Sg.head; omega
  unfold Po.may
  simp only [decide_eq_decide]
  omega

set_option maxRecDepth 100000 in
set_option maxHeartbeats 2000000 in
theorem swalk_any (s : Int) (hs1 : 1 ≤ s) (hs2 : s ≤ 2147483647) (a : Option Addr) (len cap : Nat) (bs : List Nat) (w : World) (hbig : len ≤ 100000) (hshape : Shape a len cap) (hr : Row .u8 w a len bs) :
    Calls Tryz.prog 56 #[.int .i64 s, .slice a len cap] w (SWalkRes w (Sg.pts s 0 (Sg.walk bs).1, (Sg.walk bs).2)) := by
  have hlen : Hid (bs.length = len) := hr.1
  obtain ⟨R, hR⟩ : ∃ R, R = Sg.walk bs := ⟨_, rfl⟩
  rw [← hR]
  have HR : Hid (len + 1 ≤ (len + 1) + 0 ∧ R = Sg.wk (len + 1) bs 0 []) := (⟨by omega, by rw [hR, Sg.walk, hlen.out]⟩ : len + 1 ≤ (len + 1) + 0 ∧ R = Sg.wk (len + 1) bs 0 [])
  clear hR
  have hl0 := World.ownsRow_nil w w.heap.size 42 4
  have hmd : decide ((4194304 : Int) < (len : Int)) = false := by simp; omega
  have hmd2 : decide (4194304 < len) = false := by simp; omega
  go_enter Tryz.func56, Tryz.ntmps56
  go_wp2
  go_loopw [6, 7] (fun v t wr => ∃ (k at' m : Nat) (vs : List (List Nat)) (a1 : Option Addr) (c1 : Nat), k ≤ at' ∧ at' ≤ len ∧ t = .int .i64 at' ∧ v = .slice a1 k c1 ∧
      wr.ownsRow w.heap.size 42 4 (.slice a1 k c1) k (pcells (Sg.pts s 0 vs)) ∧ Below w.heap.size w wr ∧ Hid (vs.length = k) ∧ Hid (at' = (Sg.put vs).length) ∧ Hid (len + 1 ≤ m + at' ∧ R = Sg.wk m bs at' vs))
    (fun _ t _ => len + 1 - (intOf t).toNat)
  case atStart => exact ⟨0, 0, len + 1, [], _, _, by omega, by omega, rfl, rfl, hl0, Below.refl _ _, (rfl : [].length = 0), (rfl : 0 = (Sg.put []).length), HR⟩
  case round =>
    obtain ⟨k, at', m, vs, a1, c1, hka, hat, rfl, rfl, hl, hbel, hvk, hpk, H⟩ := hrel
    clear hl0 HR
    have hsz := hbel.size
    have hr' := hr.below hbel (Nat.le_refl _)
    have H0 := H.out.2
    obtain ⟨m', hm'⟩ : ∃ m', m = m' + 1 := ⟨m - 1, by have := H.out.1; omega⟩
    rw [hm'] at H0
    have hfl := Fr.first_le (bs.drop at')
    rw [List.length_drop, hlen.out] at hfl
    obtain ⟨R1, hR1⟩ : ∃ R1, Fr.first (bs.drop at') = R1 := ⟨_, rfl⟩
    have hok := fun h => Fr.first_ok (bs := bs.drop at') h
    have hsize := fun h => Fr.first_size (bs := bs.drop at') (drop_small hr.2.2.1 _) h
    rw [hR1] at hfl hok hsize
    obtain ⟨⟨x, y⟩, rn, rc⟩ := R1
    simp only at hfl hok hsize
    have hend : ∀ w1, Below wr.heap.size wr w1 → ∀ o o2, R = (vs, at') → SWalkRes w (Sg.pts s 0 R.1, R.2) (.returned (.tuple #[.slice a1 k c1, .int .i64 at'])) (w1.alloc o) ∧ SWalkRes w (Sg.pts s 0 R.1, R.2) (.returned (.tuple #[.slice a1 k c1, .int .i64 at'])) ((w1.alloc o).alloc o2) := by
      intro w1 hb1 o o2 h2
      have e : (Sg.pts s 0 vs).length = k := by rw [Sg.pts_length, hvk.out]
      have hB1 := hbel.trans (hb1.mono hsz)
      have hB2 := hB1.alloc hB1.size o
      rw [h2]
      refine ⟨⟨a1, c1, by simp only [e], by simp only [e]; exact (owns_below hl hb1).alloc _, hB2⟩, ⟨a1, c1, by simp only [e], by simp only [e]; exact ((owns_below hl hb1).alloc _).alloc _, hB2.alloc hB2.size o2⟩⟩
    rcases hshape with ⟨rfl, rfl⟩ | ⟨b, off, rfl, hc⟩
    · have hrow := hr'.take 0 (by omega)
      obtain rfl : at' = 0 := by omega
      have hbs0 : bs = [] := List.length_eq_zero_iff.mp hlen.out
      have hcz : ¬ rc = 0 := by
        have : Fr.first (bs.drop 0) = ((0, []), 0, 5) := by rw [hbs0]; exact Fr.first_nil
        rw [hR1] at this
        simp at this; omega
      rw [show bs.take 0 = bs.drop 0 by rw [hbs0]; rfl] at hrow
      have hcall := fun c (_ : 0 ≤ c) => first_any a 0 c (bs.drop 0) wr (by omega) (by omega) hrow
      rw [hR1] at hcall
      clear hr hr' hrow hok hsize
      have H2 : Hid (R = (vs, 0)) := (by rw [H0, Sg.wk_no (by rw [hR1]; simp [hcz])] : R = (vs, 0))
      clear H0
      have hR1' : Hid (_ = _) := hR1
      clear hR1
      have hcb : ((rc : Int) != 0) = true := by simp; omega
      go_wp2_with (go_at_call 88; refine (hcall _ (by omega)).mono ?_; rintro e w1 ⟨A, C, rfl, hown1, hbel1⟩; have hs1 := hbel1.size)
      go_ret2
      exact (hend w1 hbel1 _ (.cells #[] 0) H2.out).1
    · by_cases hcap : cap = at'
      · have hrow : Row .u8 wr (some ⟨b, off, none⟩) (len - at') (bs.drop at') := by
          have h1 := hr'.drop at' hat
          exact ⟨h1.1, h1.2.1, h1.2.2.1, .inl (by omega)⟩
        have hcz : ¬ rc = 0 := by
          have : Fr.first (bs.drop at') = ((0, []), 0, 5) := by rw [List.drop_of_length_le (by rw [hlen.out]; omega)]; exact Fr.first_nil
          rw [hR1] at this
          simp at this; omega
        have hcall := fun c (h : len - at' ≤ c) => first_any (some ⟨b, off, none⟩) (len - at') c (bs.drop at') wr h (by omega) hrow
        rw [hR1] at hcall
        clear hr hr' hrow hok hsize
        have H2 : Hid (R = (vs, at')) := (by rw [H0, Sg.wk_no (by rw [hR1]; simp [hcz])] : R = (vs, at'))
        clear H0
        have hR1' : Hid (_ = _) := hR1
        clear hR1
        have hcb : ((rc : Int) != 0) = true := by simp; omega
        go_wp2_with (go_at_call 88; refine (hcall _ (by omega)).mono ?_; rintro e w1 ⟨A, C, rfl, hown1, hbel1⟩; have hs1 := hbel1.size)
        go_ret2
        exact (hend w1 hbel1 _ (.cells #[] 0) H2.out).1
      · have hrow := hr'.drop at' hat
        have hcall := fun c (h : len - at' ≤ c) => first_any (some ⟨b, off + at', none⟩) (len - at') c (bs.drop at') wr h (by omega) hrow
        rw [hR1] at hcall
        by_cases hcz : rc = 0
        · subst hcz
          obtain ⟨o1, o2, o3, o4, o5⟩ := hok rfl
          have hys : ∀ z ∈ y, z < 256 := by
            rw [o3]; exact take_small (drop_small (drop_small hr.2.2.1 _) _) _
          obtain ⟨hy20, hrn⟩ := hsize rfl
          clear o3 hok hsize hr' hrow hr
          by_cases hx : x = 2
          · subst hx
            have hys8 : ∀ z ∈ y, z < lim .u8 := hys
            have hyl : y.length ≤ 100000 := by omega
            have hnx := fun W ad C (h : Row .u8 W ad y.length y) => snext_any s at' ad y.length C y W (by omega) (by omega) ⟨by omega, by omega⟩ h
            have hrw : ∀ (w1 : World) (A : Option Addr) (C : Nat) (o : Obj), w1.ownsRow wr.heap.size 5 1 (.slice A y.length C) y.length (kcells .u8 y) → Row .u8 (w1.alloc o) A y.length y := by
              intro w1 A C o h
              have h1 := (row_of_owns h hys8 (by omega)).1
              exact h1.below (below_alloc w1 o) (Nat.le_refl _)
            by_cases hy4 : y.length ≤ 4096
            · have hN : Sg.next s at' y = (Sg.pt s at' y, 0) := by
                rw [Sg.next, if_neg (by omega), if_pos (by rw [Sg.may_seg s at' _ (by omega) hy4]; simp; omega)]
              rw [hN] at hnx
              have H2 : Hid (len + 1 ≤ m' + (at' + rn) ∧ R = Sg.wk m' bs (at' + rn) (vs ++ [y])) := (⟨by have := H.out.1; omega, by rw [H0, Sg.wk_ok (by rw [hR1]) (by rw [hR1]; simp [Sg.good, hy4]), hR1]⟩ : len + 1 ≤ m' + (at' + rn) ∧ R = Sg.wk m' bs (at' + rn) (vs ++ [y]))
              have Hat : Hid (at' + rn = (Sg.put (vs ++ [y])).length) := (by rw [Sg.put_snoc_len, ← hpk.out, hrn] : at' + rn = (Sg.put (vs ++ [y])).length)
              have Hp : Hid (Sg.pts s 0 (vs ++ [y]) = Sg.pts s 0 vs ++ [Sg.pt s at' y]) := (by rw [Sg.pts_snoc, ← hpk.out] : Sg.pts s 0 (vs ++ [y]) = Sg.pts s 0 vs ++ [Sg.pt s at' y])
              have Hrn : Hid (rn = Fr.size y.length) := hrn
              have hR1' : Hid (_ = _) := hR1
              clear H0 H hR1 hm' hN hrn
              generalize Sg.pt s at' y = P at *
              obtain ⟨P0, P1, P2, P3⟩ := P
              simp only [pv] at hnx
              have hlit : ∀ (j : Nat) (v : Value), (pve (P0, P1, P2, P3))[j]? = some v → (#[.int .i64 P0, .int .i64 P1, .int .i64 P2, .int .u32 (P3 : Nat)] : Array Value)[j]? = some v := by
                intro j v h
                simpa [pve] using h
              go_wp2_with (first
                | (at_builtin; have := hl2; go_must (refine append_t (w0 := w) (B := w.heap.size) (d := Po.zero) pntE pvE rfl (.tmp 44) (.tmp 46) rfl _ k (Sg.pts s 0 vs) rfl ((hl2.alloc _).alloc _) _ 1 1 [(P0, P1, P2, P3)] rfl (trow_lit (w2.alloc _) _ _ (P0, P1, P2, P3) (by simp) hlit) (fun h => by cases h) (by omega) ((hB2.alloc hs2 _).alloc (by simp; omega) _) (by simp; omega) ?_; intro a3 c3 w3 _ _ _ hl3 hB3 hs3))
                | (go_at_call 37; go_must (refine (hnx _ A C hrow1).mono ?_; rintro e w2 ⟨rfl, hbel2⟩; have hb2 := hb1.trans (hbel2.mono hb1.size); have hl2 := owns_below hl1 hbel2; have hB2 := hbel.trans (hb2.mono hsz); have hs2 := hB2.size))
                | (go_at_call 88; go_must (refine (hcall _ (by omega)).mono ?_; rintro e w1 ⟨A, C, rfl, hown1, hbel1⟩; have hs1 := hbel1.size; have hrow1 := hrw w1 A C (.cells #[.int .i64 2, .slice A y.length C] 113) hown1; have hb1 := hbel1.alloc hs1 (.cells #[.int .i64 2, .slice A y.length C] 113); have hl1 := (owns_below hl hbel1).alloc (.cells #[.int .i64 2, .slice A y.length C] 113))))
              go_roundw
              case rel => exact ⟨k + 1, at' + rn, m', vs ++ [y], a3, c3, by omega, by omega, val_int (by omega), rfl, (by rw [Hp.out]; exact hl3), hB3, (by rw [List.length_append, hvk.out]; rfl : (vs ++ [y]).length = k + 1), Hat, H2⟩
              case measure => simp [intOf]; omega
            · have H2 : Hid (R = (vs, at')) := (by rw [H0, Sg.wk_no (by rw [hR1]; simp [Sg.good]; omega)] : R = (vs, at'))
              have hN : Sg.next s at' y = (Po.zero, 6) := by rw [Sg.next, if_pos (by omega)]
              rw [hN] at hnx
              have hR1' : Hid (_ = _) := hR1
              clear H0 H hR1 hm' hN
              simp only [pv, Po.zero] at hnx
              go_wp2_with (first
                | (go_at_call 37; go_must (refine (hnx _ A C hrow1).mono ?_; rintro e w2 ⟨rfl, hbel2⟩; have hb2 := hb1.trans (hbel2.mono hb1.size); have hl2 := owns_below hl1 hbel2; have hB2 := hbel.trans (hb2.mono hsz); have hs2 := hB2.size))
                | (go_at_call 88; go_must (refine (hcall _ (by omega)).mono ?_; rintro e w1 ⟨A, C, rfl, hown1, hbel1⟩; have hs1 := hbel1.size; have hrow1 := hrw w1 A C (.cells #[.int .i64 2, .slice A y.length C] 113) hown1; have hb1 := hbel1.alloc hs1 (.cells #[.int .i64 2, .slice A y.length C] 113); have hl1 := (owns_below hl hbel1).alloc (.cells #[.int .i64 2, .slice A y.length C] 113))))
              go_ret2
              exact (hend w2 hb2 _ (.cells #[] 0) H2.out).1
          · have H2 : Hid (R = (vs, at')) := (by rw [H0, Sg.wk_no (by rw [hR1]; simp [Sg.good, hx])] : R = (vs, at'))
            clear H0
            have hR1' : Hid (_ = _) := hR1
            clear hR1
            have hxb : ((x : Int) != 2) = true := by simp [hx]
            go_wp2_with (go_at_call 88; refine (hcall _ (by omega)).mono ?_; rintro e w1 ⟨A, C, rfl, hown1, hbel1⟩; have hs1 := hbel1.size)
            go_ret2
            exact (hend w1 hbel1 _ (.cells #[] 0) H2.out).1
        · have hr' := hr
          clear hr hr' hrow hok hsize
          have H2 : Hid (R = (vs, at')) := (by rw [H0, Sg.wk_no (by rw [hR1]; simp [hcz])] : R = (vs, at'))
          clear H0
          have hR1' : Hid (_ = _) := hR1
          clear hR1
          have hcb : ((rc : Int) != 0) = true := by simp; omega
          go_wp2_with (go_at_call 88; refine (hcall _ (by omega)).mono ?_; rintro e w1 ⟨A, C, rfl, hown1, hbel1⟩; have hs1 := hbel1.size)
          go_ret2
          exact (hend w1 hbel1 _ (.cells #[] 0) H2.out).1

set_option maxRecDepth 100000 in
set_option maxHeartbeats 2000000 in
/-- of a segment that may not be there is nothing -/
theorem swalk_bad (s : Int) (hs : -9223372036854775808 ≤ s ∧ s ≤ 9223372036854775807) (hno : ¬ (1 ≤ s ∧ s ≤ 2147483647)) (a : Option Addr) (len cap : Nat) (bs : List Nat) (w : World) (hbig : len ≤ 100000) (hshape : Shape a len cap) (hr : Row .u8 w a len bs) :
    Calls Tryz.prog 56 #[.int .i64 s, .slice a len cap] w (SWalkRes w ([], 0)) := by
  have hlen : Hid (bs.length = len) := hr.1
  have hmd : decide ((4194304 : Int) < (len : Int)) = false := by simp; omega
  have hmd2 : decide (4194304 < len) = false := by simp; omega
  go_enter Tryz.func56, Tryz.ntmps56
  go_wp2
  go_loopw [6, 7] (fun v t wr => t = .int .i64 (0 : Nat) ∧ v = .slice none 0 0 ∧ Below w.heap.size w wr) (fun _ t _ => 0)
  case atStart => exact ⟨rfl, rfl, Below.refl _ _⟩
  case round =>
    obtain ⟨rfl, rfl, hbel⟩ := hrel
    have hsz := hbel.size
    have hr' := hr.below hbel (Nat.le_refl _)
    have hlc : len ≤ cap := by rcases hshape with ⟨rfl, rfl⟩ | ⟨_, _, _, h⟩ <;> omega
    have hrow : ∃ b off, Row .u8 wr a len bs ∧ (a = some ⟨b, off, none⟩ ∨ len = 0 ∧ cap = 0) := by
      rcases hshape with ⟨h1, h2⟩ | ⟨b, off, e, _⟩
      · exact ⟨0, 0, hr', .inr ⟨h1, h2⟩⟩
      · exact ⟨b, off, hr', .inl e⟩
    obtain ⟨R1, hR1⟩ : ∃ R1, Fr.first bs = R1 := ⟨_, rfl⟩
    have hsize := fun h => Fr.first_size (bs := bs) hr.2.2.1 h
    have hfl := Fr.first_le bs
    have hok := fun h => Fr.first_ok (bs := bs) h
    rw [hR1] at hsize hfl hok
    obtain ⟨⟨x, y⟩, rn, rc⟩ := R1
    simp only at hsize hfl hok
    rw [hlen.out] at hfl
    have hcall := fun c (h : len ≤ c) => first_any a len c bs wr h (by omega) hr'
    rw [hR1] at hcall
    have hend : ∀ w1, Below wr.heap.size wr w1 → ∀ o o2, SWalkRes w ([], 0) (.returned (.tuple #[.slice none 0 0, .int .i64 0])) (w1.alloc o) ∧ SWalkRes w ([], 0) (.returned (.tuple #[.slice none 0 0, .int .i64 0])) ((w1.alloc o).alloc o2) := by
      intro w1 hb1 o o2
      have hB1 := hbel.trans (hb1.mono hsz)
      have hB2 := hB1.alloc hB1.size o
      exact ⟨⟨none, 0, rfl, World.ownsRow_nil _ _ _ _, hB2⟩, ⟨none, 0, rfl, World.ownsRow_nil _ _ _ _, hB2.alloc hB2.size o2⟩⟩
    have hys : rc = 0 → ∀ z ∈ y, z < lim .u8 := by
      intro h
      have := (hok h).2.2.1
      rw [this]; exact take_small (drop_small hr.2.2.1 _) _
    have hyl : rc = 0 → y.length + 5 ≤ len := by
      intro h
      have := (hok h).2.1
      omega
    clear hr hr' hok hrow
    by_cases hcz : rc = 0
    · subst hcz
      have hys8 := hys rfl
      obtain ⟨hy20, hrn⟩ := hsize rfl
      have hyl := hyl rfl
      clear hys hsize
      have hRs : Hid (_ = _) := hR1
      clear hR1
      by_cases hx : x = 2
      · subst hx
        have hN : ∃ P : Nat, P ≠ 0 ∧ Sg.next s 0 y = (Po.zero, P) := by
          rw [Sg.next]
          by_cases hy4 : 4096 < y.length
          · exact ⟨6, by omega, by rw [if_pos hy4]⟩
          · exact ⟨1, by omega, by rw [if_neg hy4, if_neg (by rw [Sg.may_seg s 0 _ (by omega) (by omega)]; simpa using hno)]⟩
        obtain ⟨P, hP, hN⟩ := hN
        have hnx := fun W ad C (h : Row .u8 W ad y.length y) => snext_any s 0 ad y.length C y W (by omega) (by omega) hs h
        rw [hN] at hnx
        have hrw : ∀ (w1 : World) (A : Option Addr) (C : Nat) (o : Obj), w1.ownsRow wr.heap.size 5 1 (.slice A y.length C) y.length (kcells .u8 y) → Row .u8 (w1.alloc o) A y.length y := by
          intro w1 A C o h
          have h1 := (row_of_owns h hys8 (by omega)).1
          exact h1.below (below_alloc w1 o) (Nat.le_refl _)
        clear hN
        simp only [pv, Po.zero] at hnx
        have hPb : ((P : Int) != 0) = true := by simp; omega
        rcases hshape with ⟨rfl, rfl⟩ | ⟨b, off, rfl, hc⟩
        · exact absurd hyl (by omega)
        · by_cases hcap : cap = 0
          · omega
          · go_wp2_with (first
              | (go_at_call 37; go_must (refine (hnx _ A C hrow1).mono ?_; rintro e w2 ⟨rfl, hbel2⟩; have hb2 := hb1.trans (hbel2.mono hb1.size)))
              | (go_at_call 88; go_must (refine (hcall _ (by omega)).mono ?_; rintro e w1 ⟨A, C, rfl, hown1, hbel1⟩; have hs1 := hbel1.size; have hrow1 := hrw w1 A C (.cells #[.int .i64 2, .slice A y.length C] 113) hown1; have hb1 := hbel1.alloc hs1 (.cells #[.int .i64 2, .slice A y.length C] 113))))
            go_ret2
            exact (hend w2 hb2 _ (.cells #[] 0)).1
      · have hxb : ((x : Int) != 2) = true := by simp [hx]
        rcases hshape with ⟨rfl, rfl⟩ | ⟨b, off, rfl, hc⟩
        · exact absurd hyl (by omega)
        · go_wp2_with (go_at_call 88; refine (hcall _ (by omega)).mono ?_; rintro e w1 ⟨A, C, rfl, hown1, hbel1⟩; have hs1 := hbel1.size)
          go_ret2
          exact (hend w1 hbel1 _ (.cells #[] 0)).1
    · have hcb : ((rc : Int) != 0) = true := by simp; omega
      clear hys hsize hyl
      have hRs : Hid (_ = _) := hR1
      clear hR1
      rcases hshape with ⟨rfl, rfl⟩ | ⟨b, off, rfl, hc⟩
      · go_wp2_with (go_at_call 88; refine (hcall _ (by omega)).mono ?_; rintro e w1 ⟨A, C, rfl, hown1, hbel1⟩; have hs1 := hbel1.size)
        go_ret2
        exact (hend w1 hbel1 _ (.cells #[] 0)).1
      · go_wp2_with (go_at_call 88; refine (hcall _ (by omega)).mono ?_; rintro e w1 ⟨A, C, rfl, hown1, hbel1⟩; have hs1 := hbel1.size)
        go_ret2
        exact (hend w1 hbel1 _ (.cells #[] 0)).1
end Go.Proofs.YtnoknmnbfkdccaaGreatDoor
