/- A log's Get. -/
import Derived.Test.YtnoknmnbfkdccaaGreatDoorVLe
import Derived.Test.YtnoknmnbfkdccaaGreatDoorSGc
namespace Go.Proofs.YtnoknmnbfkdccaaGreatDoor
open Go.RowKit Go.Shelf

theorem vobr {W : World} {g B n s e e' : Nat} {v : Value} {cs : Array Value} {xs : List Value} {fz : Nat × Nat} (h : W.heap[g]? = some (.cells cs e' fz)) (hown : W.ownsRow B e s v n xs) (hne : e' ≠ e) : some g ≠ v.ownBlock := by
  intro hk
  rcases hown.2 with ⟨rfl, _⟩ | ⟨g', cap, cur, rfl, _, hg, _⟩
  · cases hk
  · have : g = g' := by simpa [Value.ownBlock] using hk
    subst this
    rw [h] at hg
    exact hne (Obj.cells.inj (Option.some.inj hg)).2.1
/-- the value that a point tells -/
def Vl.get (D : Dk.D) (segs : List Int) (q : Po.P) : List Nat × Nat :=
  if Po.may q = true then if segs.contains q.1 = true then Sg.value (Vl.by' D (vname q.1)) q else ([], 3) else ([], 1)
theorem Sg.value_nil (q : Po.P) (h : Po.may q = true) : (Sg.value [] q).2 = 0 ∨ (Sg.value [] q).2 = 3 := by
  unfold Sg.value
  rw [if_pos h]
  split
  · exact .inr rfl
  · split
    · exact .inl rfl
    · exact .inr rfl
theorem Sg.value_bad (bs : List Nat) (q : Po.P) (h : ¬ Po.may q = true) : Sg.value bs q = ([], 1) := by unfold Sg.value; rw [if_neg h]
theorem row_nil8 (w : World) : Row .u8 w none 0 [] := ⟨rfl, by omega, fun _ h => absurd h (by simp), .inl rfl⟩
theorem Sg.value_cut (bs : List Nat) (s : Int) (t k mm : Nat) (hm : Po.may (s, (t : Int), (k : Int), mm) = true) (h : t + k ≤ bs.length) :
    Sg.value ((bs.drop t).take k) (s, 0, (k : Int), mm) = Sg.value bs (s, (t : Int), (k : Int), mm) := by
  have hm2 : Po.may (s, 0, (k : Int), mm) = true := by simp only [Po.may, decide_eq_true_eq] at hm ⊢; omega
  have hl : ((bs.drop t).take k).length = k := by rw [List.length_take, List.length_drop]; omega
  have h1 : ¬ ((((bs.drop t).take k).length : Int) < (0 : Int) + (k : Int)) := by omega
  have h2 : ¬ ((bs.length : Int) < (t : Int) + (k : Int)) := by omega
  have h3 : (((bs.drop t).take k).drop 0).take k = (bs.drop t).take k := by rw [List.drop_zero, List.take_of_length_le (by omega)]
  unfold Sg.value
  rw [if_pos hm, if_pos hm2]
  simp only [Int.toNat_natCast, Int.toNat_zero]
  rw [if_neg h1, if_neg h2, h3]
  rfl
section
variable {B : Nat} {w : World} {m p : Nat} {D : Dk.D} {a : Option Addr} {n c : Nat} {segs : List Int}
set_option maxRecDepth 100000 in
set_option maxHeartbeats 2000000 in
theorem vget_any (hL : LgAt B w m p a n c segs) (hD : VD B w p D) (q : Po.P) (hq : Po.Fits q) (hd : D.dead = false) (hz : (Vl.by' D (vname q.1)).length ≤ 100000) :
    Calls Tryz.prog 20 #[.pointer (some ⟨m, 0, none⟩), pv q] w (SValRes w (Vl.get D segs q)) := by
  have hv0 := fun W => svalue_any none 0 0 [] q W (by omega) (.inl ⟨rfl, rfl⟩) (fun _ => ⟨rfl, rfl⟩) (row_nil8 W) hq
  have hmd := fun W (hb : Below w.heap.size w W) => vmade_any (hL.keep hb)
  have hh := fun W (hb : Below w.heap.size w W) => vhas_any (hL.keep hb) q.1
  obtain ⟨s, y, l, mm⟩ := q
  simp only at hh hz
  unfold SValRes at hv0
  have b0 := below_alloc w (.cells #[.int .i64 s, .int .i64 y, .int .i64 l, .int .u32 (mm : Nat)] 42)
  have hq0 := heap_alloc_new w (.cells #[.int .i64 s, .int .i64 y, .int .i64 l, .int .u32 (mm : Nat)] 42)
  obtain ⟨R, hR⟩ : ∃ R, R = Vl.get D segs (s, y, l, mm) := ⟨_, rfl⟩
  rw [← hR]
  by_cases hm : Po.may (s, y, l, mm) = true
  · obtain ⟨E0, X, hE, hEX⟩ : ∃ E0 X, (E0 = 0 ∨ E0 = 3) ∧ Sg.value [] (s, y, l, mm) = (X, E0) := ⟨_, _, Sg.value_nil _ hm, rfl⟩
    rw [hEX] at hv0
    have hE1 : ((E0 : Int) == 1) = false := by simp; omega
    have hE2 : ¬ ((E0 : Int) = 1) := by omega
    cases hc : segs.contains s with
    | false =>
      rw [hc] at hh
      have H : Hid (R = ([], 3)) := (by rw [hR, Vl.get, if_pos hm]; simp only; rw [hc]; rfl : R = ([], 3))
      clear hR hL hD hz hE hq
      go_enter Tryz.func20, Tryz.ntmps20
      go_wp2_with (first
        | (go_at_call 33; go_must (refine (hmd _ b0).mono ?_; rintro e w1 ⟨rfl, hw⟩; rw [hw]; clear hw w1))
        | (go_at_call 51; go_must (refine (hv0 _).mono ?_; rintro e w1 ⟨a1, c1, rfl, _, hb1⟩; have hbw1 := b0.trans (hb1.mono b0.size); obtain ⟨r0, r1, r2, r3, rf⟩ := pbox_cells (q := (s, y, l, mm)) ((hb1.block _ (by simp)).trans hq0); simp only at r0 r1 r2 r3)))
      go_quiet ((go_at_call 52; refine Calls.quiet_of_same (hh _ (bdr hbw1 _))))
      go_wp2
      go_ret2
      exact sval_no H.out (bdr hbw1 _)
    | true =>
      rw [hc] at hh
      have hmm := hm
      simp only [Po.may, decide_eq_true_eq] at hmm
      have hsz := fun W (hb : Below w.heap.size w W) => vsize_any (hL.keep hb) (hD.keep hb) s (by omega) _ (by rw [hc, if_pos rfl])
      obtain ⟨t, rfl⟩ : ∃ t : Nat, y = (t : Int) := ⟨y.toNat, by omega⟩
      obtain ⟨k, rfl⟩ : ∃ k : Nat, l = (k : Int) := ⟨l.toNat, by omega⟩
      have hRv : R = Sg.value (Vl.by' D (vname s)) (s, (t : Int), (k : Int), mm) := by rw [hR, Vl.get, if_pos hm]; simp only; rw [hc]; rfl
      have hby := vd_bytes hD (vname s)
      have hrd := fun (h : t + k ≤ (Vl.by' D (vname s)).length) W (hb : Below w.heap.size w W) => vrd_any (hL.keep hb) (hD.keep hb) s (by omega) t k (fun _ => h) hz hd
      unfold RdRes at hrd
      obtain ⟨bs, hbs⟩ : ∃ bs, bs = Vl.by' D (vname s) := ⟨_, rfl⟩
      rw [← hbs] at hz hsz hRv hby hrd
      obtain ⟨z, hzz⟩ : ∃ z, z = bs.length := ⟨_, rfl⟩
      rw [← hzz] at hz hsz hrd
      have hw1 : wrap64 ((z : Int) - (t : Int)) = (z : Int) - (t : Int) := by unfold wrap64; omega
      have hw2 : IntKind.i64.wrap ((z : Int) - (t : Int)) = (z : Int) - (t : Int) := by rw [IntKind.wrap_i64]; omega
      by_cases hlt : z < t + k
      · have H : Hid (R = ([], 3)) := (by rw [hRv, Sg.value, if_pos hm]; simp only; rw [if_pos (by rw [← hzz]; omega)] : R = ([], 3))
        have hd1 : decide ((z : Int) - (t : Int) < (k : Int)) = true := by simp; omega
        have hd2 : (z : Int) - (t : Int) < (k : Int) := by omega
        clear hR hRv hL hD hz hE hq hrd hbs hzz hby hm hmm hc hEX hd
        go_enter Tryz.func20, Tryz.ntmps20
        go_wp2_with (first
          | (go_at_call 33; go_must (refine (hmd _ b0).mono ?_; rintro e w1 ⟨rfl, hw⟩; rw [hw]; clear hw w1))
          | (go_at_call 51; go_must (refine (hv0 _).mono ?_; rintro e w1 ⟨a1, c1, rfl, _, hb1⟩; have hbw1 := b0.trans (hb1.mono b0.size); obtain ⟨r0, r1, r2, r3, rf⟩ := pbox_cells (q := (s, (t : Int), (k : Int), mm)) ((hb1.block _ (by simp)).trans hq0); simp only at r0 r1 r2 r3)))
        go_region_held3 (fun W => W.cell? ⟨w.heap.size, 0, none⟩ = some (.int .i64 s) ∧ W.cell? ⟨w.heap.size, 1, none⟩ = some (.int .i64 (t : Int)) ∧ W.cell? ⟨w.heap.size, 2, none⟩ = some (.int .i64 (k : Int))) (first | go_keep | (refine ⟨?_, ?_, ?_⟩ <;> assumption))
          (first
            | (go_at_call 52; refine (hh _ (bd1 hbw1)).mono ?_; rintro e w2 ⟨rfl, hw⟩; rw [hw]; clear hw w2; have g0 : w1.drew.cell? ⟨w.heap.size, 0, none⟩ = some (.int .i64 s) := r0; have g1 : w1.drew.cell? ⟨w.heap.size, 1, none⟩ = some (.int .i64 (t : Int)) := r1; have g2 : w1.drew.cell? ⟨w.heap.size, 2, none⟩ = some (.int .i64 (k : Int)) := r2)
            | (go_at_call 25; refine (hsz _ (bd1 hbw1)).mono ?_; rintro e w3 ⟨rfl, hb3'⟩; have hb3 : Below w1.heap.size w1 w3 := below_of_drew hb3'; have hbw3 := hbw1.trans (hb3.mono hbw1.size); have k0 := (hb3.cell (p := ⟨w.heap.size, 0, none⟩) (cell_lt r0)).trans r0; have k1 := (hb3.cell (p := ⟨w.heap.size, 1, none⟩) (cell_lt r1)).trans r1; have k2 := (hb3.cell (p := ⟨w.heap.size, 2, none⟩) (cell_lt r2)).trans r2))
        go_wp2
        go_ret2
        exact sval_no H.out hbw3
      · have hd1 : decide ((z : Int) - (t : Int) < (k : Int)) = false := by simp; omega
        have hd2 : ¬ ((z : Int) - (t : Int) < (k : Int)) := by omega
        have hbl : ((bs.drop t).take k).length = k := by rw [List.length_take, List.length_drop]; omega
        have hrd := hrd (by omega)
        have hsv := fun W A C (ho : Row .u8 W A k ((bs.drop t).take k)) (hsh : Shape A k C) (hnl : A = none → k = 0 ∧ C = 0) => svalue_any A k C ((bs.drop t).take k) (s, 0, (k : Int), mm) W (by omega) hsh hnl ho ⟨hq.1, (by decide : -9223372036854775808 ≤ (0 : Int) ∧ (0 : Int) ≤ 9223372036854775807), hq.2.2⟩
        rw [Sg.value_cut bs s t k mm hm (by omega), ← hRv] at hsv
        unfold SValRes at hsv
        simp only [pv] at hsv
        have hsmall : Hid (∀ x ∈ (bs.drop t).take k, x < 256) := (fun x hx => hby x (List.mem_of_mem_drop (List.mem_of_mem_take hx)) : ∀ x ∈ (bs.drop t).take k, x < 256)
        rw [hbl] at hrd
        generalize (bs.drop t).take k = ds at *
        obtain ⟨RX, RE⟩ := R
        simp only at hsv
        have hk4 : k ≤ 4096 := by omega
        clear hR hRv hL hD hz hE hq hbs hzz hby hm hmm hc hEX hd hlt
        go_enter Tryz.func20, Tryz.ntmps20
        go_wp2_with (first
          | (go_at_call 33; go_must (refine (hmd _ b0).mono ?_; rintro e w1 ⟨rfl, hw⟩; rw [hw]; clear hw w1))
          | (go_at_call 51; go_must (refine (hv0 _).mono ?_; rintro e w1 ⟨a1, c1, rfl, _, hb1⟩; have hbw1 := b0.trans (hb1.mono b0.size); obtain ⟨r0, r1, r2, r3, rf⟩ := pbox_cells (q := (s, (t : Int), (k : Int), mm)) ((hb1.block _ (by simp)).trans hq0); simp only at r0 r1 r2 r3)))
        go_region_held3 (fun W => W.cell? ⟨w.heap.size, 0, none⟩ = some (.int .i64 s) ∧ W.cell? ⟨w.heap.size, 1, none⟩ = some (.int .i64 (t : Int)) ∧ W.cell? ⟨w.heap.size, 2, none⟩ = some (.int .i64 (k : Int))) (first | go_keep | (refine ⟨?_, ?_, ?_⟩ <;> assumption))
          (first
            | (go_at_call 52; refine (hh _ (bd1 hbw1)).mono ?_; rintro e w2 ⟨rfl, hw⟩; rw [hw]; clear hw w2; have g0 : w1.drew.cell? ⟨w.heap.size, 0, none⟩ = some (.int .i64 s) := r0; have g1 : w1.drew.cell? ⟨w.heap.size, 1, none⟩ = some (.int .i64 (t : Int)) := r1; have g2 : w1.drew.cell? ⟨w.heap.size, 2, none⟩ = some (.int .i64 (k : Int)) := r2)
            | (go_at_call 25; refine (hsz _ (bd1 hbw1)).mono ?_; rintro e w3 ⟨rfl, hb3'⟩; have hb3 : Below w1.heap.size w1 w3 := below_of_drew hb3'; have hbw3 := hbw1.trans (hb3.mono hbw1.size); have k0 := (hb3.cell (p := ⟨w.heap.size, 0, none⟩) (cell_lt r0)).trans r0; have k1 := (hb3.cell (p := ⟨w.heap.size, 1, none⟩) (cell_lt r1)).trans r1; have k2 := (hb3.cell (p := ⟨w.heap.size, 2, none⟩) (cell_lt r2)).trans r2))
        have hbw9 : w.heap.size < w3.heap.size := Nat.lt_of_lt_of_le (by simp) (Nat.le_trans hb1.size hb3.size)
        have f1 := ((hb1.trans (hb3.mono hb1.size)).block _ (by simp)).trans hq0
        go_wp2_with (first
          | (go_at_call 51; have := hb4; go_must (refine (hsv _ A4 C4 hrow4 hsh4 hnl4).mono ?_; rintro e w5 ⟨a5, c5, rfl, ho5, hb5⟩))
          | (go_at_call 53; go_must (refine (hrd _ hbw3).mono ?_; rintro e w4 ⟨A4, C4, rfl, ho4, hb4⟩; have hbw4 := hbw3.trans (hb4.mono hbw3.size); obtain ⟨j0, j1, j2, j3, jf⟩ := pbox_cells (q := (s, (t : Int), (k : Int), mm)) ((hb4.block _ hbw9).trans f1); simp only at j0 j1 j2 j3; have hg4 := turned_set w4 w.heap.size 1 (.int .i64 0); have ho4' := ho4.kept hg4 (.inr (vobr ((hb4.block _ hbw9).trans f1) ho4 (by decide)).symm); obtain ⟨hrow4, hnl4, _⟩ := row_of_owns ho4' (fun x hx => hsmall.out x hx) (by omega); have hsh4 := own_shape ho4; have hbs4 := hbw4.setCell (p := ⟨w.heap.size, 1, none⟩) (Nat.le_refl _) (.int .i64 0))))
        go_ret2
        exact ⟨a5, c5, rfl, ho5.mono hbs4.size, hbs4.trans (hb5.mono hbs4.size)⟩
  · have H : Hid (R = ([], 1)) := (by rw [hR, Vl.get, if_neg hm] : R = ([], 1))
    rw [Sg.value_bad _ _ hm] at hv0
    simp only at hv0
    clear hR hL hD hz hq
    go_enter Tryz.func20, Tryz.ntmps20
    go_wp2_with (first
      | (go_at_call 33; go_must (refine (hmd _ b0).mono ?_; rintro e w1 ⟨rfl, hw⟩; rw [hw]; clear hw w1))
      | (go_at_call 51; go_must (refine (hv0 _).mono ?_; rintro e w1 ⟨a1, c1, rfl, _, hb1⟩; have hbw1 := b0.trans (hb1.mono b0.size))))
    go_ret2
    exact sval_no H.out hbw1
end
end Go.Proofs.YtnoknmnbfkdccaaGreatDoor
