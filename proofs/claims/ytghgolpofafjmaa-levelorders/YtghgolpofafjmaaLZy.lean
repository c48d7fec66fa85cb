/- LevelOrders at tables that may be. -/
import Derived.Test.YtghgolpofafjmaaLZ
namespace Go.Proofs.Ytghgolpofafjmaa
open Go.RowKit
set_option maxRecDepth 100000 in
set_option maxHeartbeats 2000000 in
theorem levelorders_yes (a : Option Addr) (n c : Nat) (l : List Lv.T) (key : ByteArray) (u : Int) (w : World) (hi : IsTabs w a n c l) (hu : (Lit.int .u8 u).wf = true) (hL : lgt l = true) (hk : key.size ≤ 200) (hm : Lv.May l) :
    Calls Try.prog 3 #[.slice a n c, .string key, .int .u8 u] w fun e w' => e = .returned (.bool true) ∧ Below w.heap.size w w' := by
  obtain ⟨hr, hnil, hnc, hn⟩ := hi
  obtain ⟨u, rfl, hu2⟩ := u8_nat hu
  have hli := light_level a n c l w hr hn
  have haw := awake_level
  rw [hL] at hli
  have h80 : n ≤ 80 := by have := lgt_len hL; rw [hr.1] at this; exact this
  have d0 : ((key.size : Nat) : Int) ≤ 200 := by omega
  have hmay := fun V (hV : Below w.heap.size w V) => rmay_any a n c l V (by omega) (hr.below hV (Nat.le_refl _))
  have hchk := fun V (hV : Below w.heap.size w V) => lcheck_any a n c l V hnc (hr.below hV (Nat.le_refl _)) 0 (by rw [((Lv.may_iff l).mpr hm)]; rfl)
  rw [((Lv.may_iff l).mpr hm)] at hmay
  have hord := fun V (hV : Below w.heap.size w V) => lorder_yes a n c l V hnc (hr.below hV (Nat.le_refl _)) hnil hm
  have hfin := fun V (hV : Below w.heap.size w V) => lfind_yes a n c l key V hnc (hr.below hV (Nat.le_refl _)) hnil hm
  have hmo := hm.perm (Lv.ord_perm l)
  have hmF := hmo.sub (List.filter_sublist (p := Lv.has key))
  have hs1 := nm_small (fun x hx => hmo.one x hx)
  have hs2 := nm_small (fun x hx => hmF.one x hx)
  have hlnD : (nm (Lv.ord l)).length ≤ n := by rw [nm_ord_len, hr.1]; exact Nat.le_refl _
  have hlnF : (nm ((Lv.ord l).filter (Lv.has key))).length ≤ n := by rw [nm, List.length_map]; exact Nat.le_trans (List.length_filter_le ..) (by rw [lord_length, hr.1]; exact Nat.le_refl _)
  have hro := fun V (hV : Below w.heap.size w V) => rord_any a n c l V (by omega) (hr.below hV (Nat.le_refl _))
  have hrf := fun V (hV : Below w.heap.size w V) => rfind_any a n c l key V (by omega) (hr.below hV (Nat.le_refl _))
  rw [Lv.iord_ord hm] at hro hrf
  have hn1 := fun A C V r => rnums_any A (Lv.ord l).length C (Lv.ord l) V (by rw [lord_length, hr.1]; omega) r (fun x hx => by have := (hmo.one x hx).n1; omega)
  have hn2 := fun A C V r => rnums_any A ((Lv.ord l).filter (Lv.has key)).length C ((Lv.ord l).filter (Lv.has key)) V (by have := hmF.len; omega) r (fun x hx => by have := (hmF.one x hx).n1; omega)
  clear hmo hmF
  clear hL hu
  go_enter Try.func3, Try.ntmps3
  go_wp2_with (first | (go_at_call 6; go_must (refine hli.mono ?_; rintro e w2 ⟨rfl, rfl⟩)) | (go_at_call 8; go_must (refine (hord _ (Below.refl _ _)).mono ?_; rintro e w3 ⟨g3, c3, rfl, hown3, hb3⟩)) | (go_at_call 9; go_must (refine (hfin _ hb3).mono ?_; rintro e w4 ⟨g4, c4, rfl, hown4, hb4⟩)))
  have hB4 := hb3.trans (hb4.mono hb3.size)
  skip
  go_loopw [9] (fun i wr => ∃ k : Nat, k ≤ n ∧ i = .int .i64 k ∧ Below w4.heap.size w4 wr) (fun i _ => n - (intOf i).toNat)
  case atStart => exact ⟨0, by omega, rfl, Below.refl _ _⟩
  case round =>
    obtain ⟨k, hk2, rfl, hbel⟩ := hrel
    have hBr := hB4.trans (hbel.mono hB4.size)
    by_cases hlt : k < n
    · obtain ⟨m, hme⟩ : ∃ m, m = (u + 3 * k) % n := ⟨_, rfl⟩
      have hmn : m < n := by rw [hme]; exact Nat.mod_lt _ (by omega)
      obtain ⟨b, off, x1, x2, x3, x4, x5, rfl, hx, q0, q1, q2, q3, q4⟩ := lget hr hBr hlt
      obtain ⟨b', off', y1, y2, y3, y4, y5, e', hy, p0, p1, p2, p3, p4⟩ := lget hr hBr hmn
      simp only [Option.some.injEq, Addr.mk.injEq] at e'
      obtain ⟨rfl, rfl, _⟩ := e'
      have i0 : (0 : Int) ≤ (k : Int) := by omega
      have i1 : (k : Int) < (n : Int) := by omega
      have i2 : (0 : Int) ≤ (m : Int) := by omega
      have i3 : (m : Int) < (n : Int) := by omega
      have i4 : IntKind.i64.wrap (3 * (k : Int)) = 3 * (k : Int) := by rw [IntKind.wrap_i64]; omega
      have i5 : IntKind.i64.wrap ((u : Int) + 3 * (k : Int)) = (u : Int) + 3 * (k : Int) := by rw [IntKind.wrap_i64]; omega
      have i6 : Int.tmod ((u : Int) + 3 * (k : Int)) (n : Int) = (m : Int) := by rw [hme, ← tmod_nat]; congr 1
      have i7 : ((n : Int) == 0) = false := by simp; omega
      have i8 : ¬ (n : Int) = 0 := by omega
      have i9 : IntKind.i64.wrap (m : Int) = (m : Int) := by rw [IntKind.wrap_i64]; omega
      have i10 : IntKind.i64.wrap (u : Int) = (u : Int) := by rw [IntKind.wrap_i64]; omega
      have hm1 := fun V => lmeet_any x1 x2 x3 x4 x5 y1 y2 y3 y4 y5 V
      have hm2 := fun V => rmeet_any x1 x2 x3 x4 x5 y1 y2 y3 y4 y5 V
      generalize Lv.meet ⟨x1, x2, x3, x4, x5⟩ ⟨y1, y2, y3, y4, y5⟩ = R at *
      clear hme hx hy
      go_wp2_with fail
      skip
      go_region_held3 (fun w' => w'.cell? ⟨b, off + k * 5, none⟩ = some (.int .i64 x1) ∧ w'.cell? ⟨b, off + k * 5 + 1, none⟩ = some (.int .i64 x2) ∧ w'.cell? ⟨b, off + k * 5 + 2, none⟩ = some (.int .i64 x3) ∧ w'.cell? ⟨b, off + k * 5 + 3, none⟩ = some (.string x4) ∧ w'.cell? ⟨b, off + k * 5 + 4, none⟩ = some (.string x5) ∧ w'.cell? ⟨b, off + m * 5, none⟩ = some (.int .i64 y1) ∧ w'.cell? ⟨b, off + m * 5 + 1, none⟩ = some (.int .i64 y2) ∧ w'.cell? ⟨b, off + m * 5 + 2, none⟩ = some (.int .i64 y3) ∧ w'.cell? ⟨b, off + m * 5 + 3, none⟩ = some (.string y4) ∧ w'.cell? ⟨b, off + m * 5 + 4, none⟩ = some (.string y5)) (first | go_keep | (refine ⟨?_, ?_, ?_, ?_, ?_, ?_, ?_, ?_, ?_, ?_⟩ <;> assumption))
          ((first | (go_at_call 10; refine (hm1 _).mono ?_; rintro e w5 ⟨rfl, hbel5⟩; have hb5 : Below wr.heap.size wr w5 := (by first | exact hbel5 | exact below_of_drew hbel5); obtain ⟨u0, u1, u2, u3, u4⟩ := L5.below (x := ⟨x1, x2, x3, x4, x5⟩) ⟨q0, q1, q2, q3, q4⟩ hb5 (Nat.le_refl _); obtain ⟨v0, v1, v2, v3, v4⟩ := L5.below (x := ⟨y1, y2, y3, y4, y5⟩) ⟨p0, p1, p2, p3, p4⟩ hb5 (Nat.le_refl _); simp only at u0 u1 u2 u3 u4 v0 v1 v2 v3 v4) | (go_at_call 11; refine (hm2 _).mono ?_; rintro e w6 ⟨rfl, hbel6⟩; have hb6 : Below w5.heap.size w5 w6 := (by first | exact hbel6 | exact below_of_drew hbel6); have hb7 := hb5.trans (hb6.mono hb5.size); obtain ⟨r0, r1, r2, r3, r4⟩ := L5.below (x := ⟨x1, x2, x3, x4, x5⟩) ⟨q0, q1, q2, q3, q4⟩ hb7 (Nat.le_refl _); obtain ⟨t0, t1, t2, t3, t4⟩ := L5.below (x := ⟨y1, y2, y3, y4, y5⟩) ⟨p0, p1, p2, p3, p4⟩ hb7 (Nat.le_refl _); simp only at r0 r1 r2 r3 r4 t0 t1 t2 t3 t4)))
      go_wp2
      go_roundw
      case rel => exact ⟨k + 1, by omega, by go_num, hbel.trans (hb7.mono hbel.size)⟩
      case measure => simp [intOf]; omega
    · obtain rfl : k = n := by omega
      have hmy := hmay wr hBr
      have hck := fun V hV => hchk V hV
      have hI3 : ∀ V, Below w4.heap.size w4 V → IRow V g3 (nm (Lv.ord l)).length (nm (Lv.ord l)) := fun V hV => ((nrow hown3 (by have := hlnD; omega)).below hb4 (Nat.le_refl _)).below hV (Nat.le_refl _)
      have hI4 : ∀ V, Below w4.heap.size w4 V → IRow V g4 (nm ((Lv.ord l).filter (Lv.has key))).length (nm ((Lv.ord l).filter (Lv.has key))) := fun V hV => (nrow hown4 (by have := hlnF; omega)).below hV (Nat.le_refl _)
      have hint3 := fun g cc V (hV : Below w4.heap.size w4 V) (h : IRow V g (nm (Lv.ord l)).length (nm (Lv.ord l))) => ints_any g3 (nm (Lv.ord l)).length c3 (nm (Lv.ord l)) g (nm (Lv.ord l)).length cc (nm (Lv.ord l)) V ((hI3 V hV).row hs1) (h.row hs1)
      have hint4 := fun g cc V (hV : Below w4.heap.size w4 V) (h : IRow V g (nm ((Lv.ord l).filter (Lv.has key))).length (nm ((Lv.ord l).filter (Lv.has key)))) => ints_any g4 (nm ((Lv.ord l).filter (Lv.has key))).length c4 (nm ((Lv.ord l).filter (Lv.has key))) g (nm ((Lv.ord l).filter (Lv.has key))).length cc (nm ((Lv.ord l).filter (Lv.has key))) V ((hI4 V hV).row hs2) (h.row hs2)
      simp only [decide_true] at hint3 hint4
      have tok1 : Hid (0 = 0) := (rfl : 0 = 0)
      have tok2 : Hid (0 = 0) := (rfl : 0 = 0)
      have ln1 : (nm (Lv.ord l)).length ≤ 1000 := by omega
      have ln2 : (nm ((Lv.ord l).filter (Lv.has key))).length ≤ 1000 := by omega
      have ln3 : (Lv.ord l).length ≤ 1000 := by rw [lord_length, hr.1]; omega
      have ln4 : ((Lv.ord l).filter (Lv.has key)).length ≤ 1000 := Nat.le_trans (List.length_filter_le ..) ln3
      clear hI3 hI4 hown3 hown4 hs1 hs2 hlnD hlnF hord hfin hmay hchk
      generalize (Lv.ord l).filter (Lv.has key) = F at *
      generalize Lv.ord l = D at *
      generalize nm F = NF at *
      generalize nm D = ND at *
      go_wp2_with (first | (go_at_call 12; go_must (refine hmy.mono ?_; rintro e w5 ⟨rfl, hb5⟩; have hB5 := hBr.trans (hb5.mono hBr.size))) | (go_at_call 13; go_must (refine (hck _ hB5).mono ?_; rintro e w6 ⟨rfl, hb6⟩; have hB6 := hB5.trans (hb6.mono hB5.size); have hF5 := hbel.trans (hb5.mono hbel.size); have hF6 := hF5.trans (hb6.mono hF5.size))) | (go_at_call 16; go_must (refine (hro _ hB6).mono ?_; rintro e w7 ⟨A7, C7, rfl, hown7, hb7⟩; have hF7 := hF6.trans (hb7.mono hF6.size); have hB7 := hB6.trans (hb7.mono hB6.size))) | (go_at_call 15; first | (clear tok1; go_must (refine (hn1 _ _ _ (lrowD hown7 ln3)).mono ?_; rintro e w8 ⟨A8, C8, rfl, hown8, hb8⟩; have hF8 := hF7.trans (hb8.mono hF7.size); have hB8 := hB7.trans (hb8.mono hB7.size))) | go_must (refine (hn2 _ _ _ (lrowD hown10 ln4)).mono ?_; rintro e w11 ⟨A11, C11, rfl, hown11, hb11⟩; have hF11 := hF10.trans (hb11.mono hF10.size); have hB11 := hB10.trans (hb11.mono hB10.size))) | (go_at_call 14; first | (clear tok2; go_must (refine (hint3 _ _ _ hF8 (nrow hown8 ln1)).mono ?_; rintro e w9 ⟨rfl, n9, rfl⟩; have hF9 := hF8.trans (below_drewN _ _ n9); have hB9 := hB8.trans (below_drewN _ _ n9))) | go_must (refine (hint4 _ _ _ hF11 (nrow hown11 ln2)).mono ?_; rintro e w12 ⟨rfl, n12, rfl⟩; have hB12 := hB11.trans (below_drewN _ _ n12))) | (go_at_call 17; go_must (refine (hrf _ hB9).mono ?_; rintro e w10 ⟨A10, C10, rfl, hown10, hb10⟩; have hF10 := hF9.trans (hb10.mono hF9.size); have hB10 := hB9.trans (hb10.mono hB9.size))) | (go_at_call 7; go_must (refine (haw _).mono ?_; rintro e w13 ⟨rfl, hb13⟩)))
      go_ret
      exact ⟨rfl, hB12.trans (hb13.mono hB12.size)⟩

theorem levelorders_any (a : Option Addr) (n c : Nat) (l : List Lv.T) (key : ByteArray) (u : Int) (w : World) (hi : IsTabs w a n c l) (hu : (Lit.int .u8 u).wf = true) :
    Calls Try.prog 3 #[.slice a n c, .string key, .int .u8 u] w fun e w' => e = .returned (.bool true) ∧ Below w.heap.size w w' := by
  cases hL : lgt l with
  | false => exact levelorders_far a n c l key u w hi (.inl hL)
  | true =>
    by_cases hk : 200 < key.size
    · exact levelorders_far a n c l key u w hi (.inr hk)
    · cases hm : Lv.may l with
      | false => exact levelorders_no a n c l key u w hi hu hL (by omega) hm
      | true => exact levelorders_yes a n c l key u w hi hu hL (by omega) ((Lv.may_iff l).mp hm)
end Go.Proofs.Ytghgolpofafjmaa
