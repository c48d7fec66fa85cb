/- A log's Add and Drop. -/
import Derived.Test.YtnoknmnbfkdccaaGreatDoorVLn
namespace Go.Proofs.YtnoknmnbfkdccaaGreatDoor
open Go.RowKit Go.Shelf

namespace Vl
theorem rise_iff : ∀ (l : List Int) (p : Int), rise p l = true ↔ (∀ s ∈ l, p < s ∧ s ≤ 2147483647) ∧ l.Pairwise (· < ·)
  | [], p => by simp [rise]
  | x :: l, p => by
    constructor
    · intro h
      exact ⟨fun s hs => rise_mem h hs, rise_pair h⟩
    · rintro ⟨h1, h2⟩
      cases h2 with
      | cons h3 h4 =>
        simp only [rise, Bool.and_eq_true, decide_eq_true_eq]
        exact ⟨h1 x (.head _), (rise_iff l x).2 ⟨fun s hs => ⟨h3 s hs, (h1 s (.tail _ hs)).2⟩, h4⟩⟩
theorem may_iff (l : List Int) : may l = true ↔ l.length ≤ 64 ∧ (∀ s ∈ l, 1 ≤ s ∧ s ≤ 2147483647) ∧ l.Pairwise (· < ·) := by
  simp only [may, Bool.and_eq_true, decide_eq_true_eq, rise_iff]
  constructor
  · rintro ⟨h1, h2, h3⟩; exact ⟨h1, fun s hs => by have := h2 s hs; omega, h3⟩
  · rintro ⟨h1, h2, h3⟩; exact ⟨h1, fun s hs => by have := h2 s hs; omega, h3⟩
theorem may_sub {l l' : List Int} (h : may l = true) (hs : l'.Sublist l) : may l' = true := by
  rw [may_iff] at h ⊢
  exact ⟨Nat.le_trans hs.length_le h.1, fun s hm => h.2.1 s (hs.mem hm), h.2.2.sublist hs⟩
theorem erase_sub (l : List Int) (i : Nat) : (l.take i ++ l.drop (i + 1)).Sublist l := by
  have := List.Sublist.append (List.Sublist.refl (l.take i)) (List.drop_sublist 1 (l.drop i))
  rw [List.take_append_drop, List.drop_drop] at this
  exact this
theorem may_one {l : List Int} (h : may l = true) {i : Nat} (hi : i < l.length) : ∀ j, j < i → l.getD j 0 ≠ l.getD i 0 := fun j hj e => by
  have hp := may_pair h
  have h1 : j < l.length := by omega
  have := List.pairwise_iff_getElem.1 hp j i h1 hi hj
  simp [h1, hi] at e
  omega
end Vl

/-- since w nothing that lies below B, or has nothing of a disk, has turned, but the log's box m and the row v -/
def Wx (B m : Nat) (v : Value) (w w' : World) : Prop := OnlyIn (fun k => (B ≤ k ∧ DT w k) ∨ k = m ∨ v.ownBlock = some k) w w'
theorem Wk.x {B m : Nat} {v : Value} {w w' : World} (h : Wk B w w') : Wx B m v w w' := h.mono fun _ _ hk => .inl hk
theorem vd_set {B : Nat} {w : World} {p m i : Nat} {D : Dk.D} {C : Array Value} {T : TypeId} (h : VD B w p D) (hm : w.heap[m]? = some (.cells C T (0, 0))) (hB : B ≤ m) (h1 : T ≠ 76) (h2 : T ≠ 123) (h3 : T ≠ 129) (h4 : T ≠ 5) (v : Value) : VD B (w.setCell ⟨m, i, none⟩ v) p D :=
  h.other (T := fun k => k = m) (only_set w m i v rfl) fun k hk _ => by subst hk; exact ⟨hB, dt_not hm h1 h2 h3 h4⟩
section
variable {B : Nat} {w : World} {m p : Nat} {D : Dk.D} {a : Option Addr} {n c : Nat} {segs : List Int}
theorem vadd_bad (hL : LgAt B w m p a n c segs) (z : Int) (hm : Vl.may (segs ++ [z]) = false) :
    Calls Tryz.prog 23 #[.pointer (some ⟨m, 0, none⟩), .int .i64 z] w fun e w' => e = .returned (.int .i64 1) ∧ Below w.heap.size w w' := by
  have hln := hL.len
  have hmd := vmade_any hL
  have hsg := vsegs_any hL
  unfold ZRes at hsg
  rw [hln.1] at hsg
  have hmb := fun W A C (h : W.ownsRow w.heap.size 3 1 (.slice A (n + 1) C) (n + 1) (tcells ze (segs ++ [z]))) => vmay_any A (n + 1) C (segs ++ [z]) W (by omega) (trow_of_owns zeE h (by omega) (by omega)) false hm.symm
  clear hL hm
  go_enter Tryz.func23, Tryz.ntmps23
  go_wp2_with (first
    | (go_at_call 33; go_must (refine hmd.mono ?_; rintro e w1 ⟨rfl, hw⟩; rw [hw]; clear hw w1))
    | (go_at_call 49; go_must (refine (hmb _ A2 C2 ho2).mono ?_; rintro e w3 ⟨rfl, hw⟩; rw [hw]; clear hw w3))
    | (go_at_call 12; go_must (refine hsg.mono ?_; rintro e w1 ⟨A, C, rfl, ho1, hb1⟩))
    | (at_builtin; go_must (refine append_t intZ zeE (w0 := w) (B := w.heap.size) rfl (.tmp 12) (.tmp 14) rfl _ n segs rfl (ho1.alloc _) (some ⟨w1.heap.size, 0, none⟩) 1 1 [z] rfl (lit_z w1 z rfl) (fun h => by cases h) (by omega) (bal hb1 _) (by simp; have := hb1.size; omega) ?_; intro A2 C2 w2 _ _ _ ho2 hb2 hs2)))
  go_ret
  exact ⟨rfl, hb2⟩
/-- the log gets another row of segments -/
theorem lg_set {B' n2 : Nat} {A2 : Option Addr} {C2 : Nat} {s2 : List Int} (hL : LgAt B w m p a n c segs) (ho : w.ownsRow B' 3 1 (.slice A2 n2 C2) n2 (tcells ze s2)) (hB : B ≤ B') (hm : Vl.may s2 = true) : LgAt B (w.setCell ⟨m, 1, none⟩ (.slice A2 n2 C2)) m p A2 n2 C2 s2 ∧ (w.setCell ⟨m, 1, none⟩ (.slice A2 n2 C2)).ownsRow B' 3 1 (.slice A2 n2 C2) n2 (tcells ze s2) := by
  have h1 := ho.kept (turned_set w m 1 (.slice A2 n2 C2)) (.inr (vobr hL.blk ho (by decide)).symm)
  exact ⟨⟨Go.Joins.block_setCell hL.blk _, h1.mono hB, hL.le, hm⟩, h1⟩
set_option maxRecDepth 100000 in
set_option maxHeartbeats 1000000 in
theorem vadd_any (hL : LgAt B w m p a n c segs) (hD : VD B w p D) (z : Int) (hm : Vl.may (segs ++ [z]) = true) (he : (Vl.synced D segs).2 = 0) (D2 : Dk.D) (hme : Vl.mend (Vl.synced D segs).1 z = (D2, 0)) (hz : (Vl.by' (Vl.synced D segs).1 (vname z)).length ≤ 100000) (hd : (Vl.synced D segs).1.dead = false) :
    Calls Tryz.prog 23 #[.pointer (some ⟨m, 0, none⟩), .int .i64 z] w fun e w' => ∃ A C, e = .returned (.int .i64 0) ∧ LgAt B w' m p A (n + 1) C (segs ++ [z]) ∧ w'.ownsRow w.heap.size 3 1 (.slice A (n + 1) C) (n + 1) (tcells ze (segs ++ [z])) ∧ VD B w' p D2 ∧ Wx B m (.slice none 0 0) w w' := by
  have hln := hL.len
  have hmd := vmade_any hL
  have hzr : 1 ≤ z ∧ z ≤ 2147483647 := Vl.may_mem hm (by simp)
  have hsg := vsegs_any hL
  unfold ZRes at hsg
  rw [hln.1] at hsg
  have hmb := fun W A C (h : W.ownsRow w.heap.size 3 1 (.slice A (n + 1) C) (n + 1) (tcells ze (segs ++ [z]))) => vmay_any A (n + 1) C (segs ++ [z]) W (by omega) (trow_of_owns zeE h (by omega) (by omega)) true hm.symm
  have hsy := fun W (hb : Below w.heap.size w W) => vsync_any (hL.keep hb) (hD.keep hb)
  rw [he] at hsy
  have hmn := fun W (hLW : LgAt B W m p a n c segs) (hDW : VD B W p (Vl.synced D segs).1) => vmend_any hLW hDW z (by omega) hz hd
  rw [hme] at hmn
  simp only at hmn
  have hLH : Hid (LgAt B w m p a n c segs) := hL
  have hDle : B ≤ w.heap.size := hD.le
  have hmH : Hid (Vl.may (segs ++ [z]) = true) := hm
  clear hL hm he hme hz hd hD
  generalize (Vl.synced D segs).1 = D1 at *
  go_enter Tryz.func23, Tryz.ntmps23
  go_wp2_with (first
    | (go_at_call 33; go_must (refine hmd.mono ?_; rintro e w1 ⟨rfl, hw⟩; rw [hw]; clear hw w1))
    | (go_at_call 49; go_must (refine (hmb _ A2 C2 ho2).mono ?_; rintro e w3 ⟨rfl, hw⟩; rw [hw]; clear hw w3))
    | (go_at_call 12; go_must (refine hsg.mono ?_; rintro e w1 ⟨A, C, rfl, ho1, hb1⟩))
    | (go_at_call 15; go_must (refine (hsy _ hb2).mono ?_; rintro e w3 ⟨rfl, hD3, hW3⟩; have hL3 := (hLH.out.keep hb2).wk hW3))
    | (go_at_call 50; go_must (refine (hmn _ hL3 hD3).mono ?_; rintro e w4 ⟨rfl, hD4, hW4⟩; have hL4 := hL3.wk hW4; obtain ⟨k40, k41, kf⟩ := hL4.cells))
    | (at_builtin; go_must (refine append_t intZ zeE (w0 := w) (B := w.heap.size) rfl (.tmp 12) (.tmp 14) rfl _ n segs rfl (ho1.alloc _) (some ⟨w1.heap.size, 0, none⟩) 1 1 [z] rfl (lit_z w1 z rfl) (fun h => by cases h) (by omega) (bal hb1 _) (by simp; have := hb1.size; omega) ?_; intro A2 C2 w2 _ _ _ ho2 hb2 hs2)))
  go_ret
  have hW24 : Wk B w2 w4 := hW3.trans hW4
  have ho4 := hW24.own ho2 (by decide) (by decide) (by decide) (by decide)
  have hLs := lg_set hL4 ho4 hDle hmH.out
  have hW04 : Wk B w w4 := (Wk.of_below hb2).trans hW24
  refine ⟨A2, C2, rfl, hLs.1, hLs.2, vd_set hD4 hL4.blk hL4.le (by decide) (by decide) (by decide) (by decide) _, ?_⟩
  exact (hW04.x (m := m) (v := .slice none 0 0)).trans ((only_set w4 m 1 _ rfl : OnlyIn (fun k => k = m) _ _).mono fun k _ hk => .inl (.inr (.inl hk)))

theorem vdrop_none (hL : LgAt B w m p a n c segs) (z : Int) (hc : segs.contains z = false) :
    Calls Tryz.prog 24 #[.pointer (some ⟨m, 0, none⟩), .int .i64 z] w fun e w' => e = .returned (.int .i64 3) ∧ w' = w := by
  have hmd := vmade_any hL
  have hh := vhas_any hL z
  rw [hc] at hh
  clear hL
  go_enter Tryz.func24, Tryz.ntmps24
  go_wp2_with (first
    | (go_at_call 33; go_must (refine hmd.mono ?_; rintro e w1 ⟨rfl, hw⟩; rw [hw]; clear hw w1))
    | (go_at_call 52; go_must (refine hh.mono ?_; rintro e w1 ⟨rfl, hw⟩; rw [hw]; clear hw w1)))
  go_ret
  exact ⟨rfl, rfl⟩
theorem vdrop_last (hL : LgAt B w m p a n c segs) (z : Int) (hc : segs.contains z = true) (hl : z = Vl.last segs) :
    Calls Tryz.prog 24 #[.pointer (some ⟨m, 0, none⟩), .int .i64 z] w fun e w' => e = .returned (.int .i64 1) ∧ Below w.heap.size w w' := by
  have hmd := vmade_any hL
  have hh := vhas_any hL z
  rw [hc] at hh
  have hla := vlast_any hL z hl
  clear hL hl
  go_enter Tryz.func24, Tryz.ntmps24
  go_wp2_with (first
    | (go_at_call 33; go_must (refine hmd.mono ?_; rintro e w1 ⟨rfl, hw⟩; rw [hw]; clear hw w1))
    | (go_at_call 52; go_must (refine hh.mono ?_; rintro e w1 ⟨rfl, hw⟩; rw [hw]; clear hw w1))
    | (go_at_call 35; go_must (refine hla.mono ?_; rintro e w1 ⟨rfl, hb1⟩)))
  go_ret
  exact ⟨rfl, hb1⟩

theorem vdrop_end {w4 w5 : World} {D4 : Dk.D} {s2 : List Int} (hL4 : LgAt B w4 m p a n c segs) (hD4 : VD B w4 p D4) (hW4 : Wk B w w4) (ho5 : w5.ownsRow B 3 1 (.slice a (n - 1) c) (n - 1) (tcells ze s2)) (hg5 : w4.grownBy w5 (Value.slice a n c).ownBlock) (hm : Vl.may s2 = true) :
    Ending.returned (.int .i64 0) = .returned (.int .i64 0) ∧ LgAt B (w5.setCell ⟨m, 1, none⟩ (.slice a (n - 1) c)) m p a (n - 1) c s2 ∧ VD B (w5.setCell ⟨m, 1, none⟩ (.slice a (n - 1) c)) p D4 ∧ Wx B m (.slice a n c) w (w5.setCell ⟨m, 1, none⟩ (.slice a (n - 1) c)) := by
  have hm5 := (hg5.block m (heap_lt hL4.blk) (vobr hL4.blk hL4.own (by decide))).trans hL4.blk
  have hon : OnlyIn (fun k => (Value.slice a n c).ownBlock = some k) w4 w5 := ⟨hg5.os, hg5.tape, hg5.output, hg5.size, fun k hk hn => hg5.block k hk fun e => hn e.symm⟩
  have hD5 : VD B w5 p D4 := hD4.other hon fun k hk hl => by
    obtain ⟨cur, hc⟩ := own_blk hL4.own hk
    refine ⟨?_, dt_not hc (by decide) (by decide) (by decide) (by decide)⟩
    rcases hL4.own.2 with ⟨e, _⟩ | ⟨g, cap, cur', e, hg, _⟩
    · rw [e] at hk; cases hk
    · rw [e] at hk; simp [Value.ownBlock] at hk; omega
  have h1 := ho5.kept (turned_set w5 m 1 (.slice a (n - 1) c)) (.inr (vobr hm5 ho5 (by decide)).symm)
  refine ⟨rfl, ⟨Go.Joins.block_setCell hm5 _, h1, hL4.le, hm⟩, vd_set hD5 hm5 hL4.le (by decide) (by decide) (by decide) (by decide) _, ?_⟩
  exact ((hW4.x (m := m) (v := .slice a n c)).trans (hon.mono fun k _ hk => .inl (.inr (.inr hk)))).trans ((only_set w5 m 1 _ rfl : OnlyIn (fun k => k = m) _ _).mono fun k _ hk => .inl (.inr (.inl hk)))
set_option maxRecDepth 100000 in
set_option maxHeartbeats 1000000 in
theorem vdrop_any {b : Nat} (hL : LgAt B w m p a n c segs) (hD : VD B w p D) (hf : Dk.Few D b) (hb6 : b ≤ 1000000) (z : Int) (i : Nat) (hi : i < segs.length) (hzi : segs.getD i 0 = z) (hnl : z ≠ Vl.last segs) (R : Dk.D × Int) (hR : R = if (Vl.bs D (vname z)).isSome = true then Dk.remove D (vname z) else (D, 0)) (he : R.2 = 0) :
    Calls Tryz.prog 24 #[.pointer (some ⟨m, 0, none⟩), .int .i64 z] w fun e w' => e = .returned (.int .i64 0) ∧ LgAt B w' m p a (n - 1) c (segs.take i ++ segs.drop (i + 1)) ∧ VD B w' p R.1 ∧ Wx B m (.slice a n c) w w' := by
  have hln := hL.len
  have hmem : z ∈ segs := by rw [← hzi]; simp [hi]
  have hcon : segs.contains z = true := List.contains_iff_mem.2 hmem
  have hzr := Vl.may_mem hL.may hmem
  have hmd := vmade_any hL
  have hh := vhas_any hL z
  rw [hcon] at hh
  have hla := vlast_any hL _ rfl
  have hth := fun W (hb : Below w.heap.size w W) => vthere_any (hL.keep hb) (hD.keep hb) z (by omega)
  have hnm := vd_name hD z (by omega)
  have hrm := fun W (hb : Below w.heap.size w W) => vd_remove (w1 := W) hD hb hf hb6 (vname z)
  have hone := Vl.may_one hL.may hi
  rw [hzi] at hone
  have hix := fun W (h : ZRow W a n segs) => zindex_any a n c i segs z W (by omega) h hi hzi hone
  have hdl := fun W (h : W.ownsRow B 3 1 (.slice a n c) n (tcells ze segs)) => zdel_any a n c B i (i + 1) segs W h (by omega) rfl
  have hmH : Hid (Vl.may (segs.take i ++ segs.drop (i + 1)) = true) := (Vl.may_sub hL.may (Vl.erase_sub segs i) : Vl.may (segs.take i ++ segs.drop (i + 1)) = true)
  have hCW : Hid (∀ W, Wk B w W → W.cell? ⟨m, 0, none⟩ = some (.pointer (some ⟨p, 0, none⟩))) := (fun W h => (hL.wk h).cells.1 : ∀ W, Wk B w W → W.cell? ⟨m, 0, none⟩ = some (.pointer (some ⟨p, 0, none⟩)))
  have hkeep : Hid (∀ W, Below w.heap.size w W → VD B W p D) := (fun W hb => hD.keep hb : ∀ W, Below w.heap.size w W → VD B W p D)
  have hLH : Hid (LgAt B w m p a n c segs) := hL
  obtain ⟨k0, _, _⟩ := hL.cells
  have hDle := hD.le
  have e1 : (z == Vl.last segs) = false := by simp [hnl]
  have i1 : ((i + 1 : Nat) : Int) = (i : Int) + 1 := by omega
  have i2 : wrap64 ((i : Int) + 1) = (i : Int) + 1 := by unfold wrap64; omega
  have i3 : IntKind.i64.wrap ((i : Int) + 1) = (i : Int) + 1 := by rw [IntKind.wrap_i64]; omega
  rw [i1] at hdl
  cases hc : (Vl.bs D (vname z)).isSome with
  | true =>
    rw [hc, if_pos rfl] at hR
    rw [hc] at hth
    rw [← hR] at hrm
    obtain ⟨D', er⟩ := R
    simp only at he hrm ⊢
    subst he
    clear hL hD hR hc hzi hmem hcon hi hf hone hnl i1
    generalize Vl.last segs = s at *
    generalize vname z = S at *
    go_enter Tryz.func24, Tryz.ntmps24
    go_wp2_with (first
        | (go_at_call 33; go_must (refine hmd.mono ?_; rintro e w1 ⟨rfl, hw⟩; rw [hw]; clear hw w1))
        | (go_at_call 52; go_must (refine hh.mono ?_; rintro e w1 ⟨rfl, hw⟩; rw [hw]; clear hw w1))
        | (go_at_call 35; go_must (refine hla.mono ?_; rintro e w1 ⟨rfl, hb1⟩))
        | (go_at_call 40; go_must (refine (hth _ hb1).mono ?_; rintro e w2 ⟨rfl, hb2⟩; have hbw2 := hb1.trans (hb2.mono hb1.size); have k2 := (hbw2.cell (p := ⟨m, 0, none⟩) (cell_lt k0)).trans k0)))
    go_region_held3 (fun W => W.cell? ⟨m, 0, none⟩ = some (.pointer (some ⟨p, 0, none⟩))) (first | go_keep | assumption)
      (first
        | (go_at_call 39; (with_reducible refine vworld w2.drew ?_); refine (hnm _ (bd1 hbw2)).mono ?_; rintro e w3 ⟨rfl, hb3'⟩; have hb3 : Below w2.heap.size w2 w3 := below_of_drew hb3'; have hbw3 := hbw2.trans (hb3.mono hbw2.size); have k3 := (hb3.cell (p := ⟨m, 0, none⟩) (cell_lt k2)).trans k2)
        | (go_at_call 57; (with_reducible refine vworld w3 ?_); refine (hrm _ hbw3).mono ?_; rintro e w4 ⟨rfl, hD4, hW4⟩; have k4 := hCW.out _ hW4))
    have hL4 := hLH.out.wk hW4
    obtain ⟨k40, k41, kf⟩ := hL4.cells
    go_wp2_with (first
        | (go_at_call 58; go_must (refine (hix _ hL4.row).mono ?_; rintro e w5 ⟨rfl, hw⟩; rw [hw]; clear hw w5))
        | (go_at_call 59; go_must (refine (hdl _ hL4.own).mono ?_; rintro e w5 ⟨rfl, ho5, hg5⟩; have hm5 := (hg5.block m (heap_lt hL4.blk) (vobr hL4.blk hL4.own (by decide))).trans hL4.blk; have k50 := (Go.Joins.cell_of_block hm5 1).trans rfl; have f50 := Go.Joins.unfrozen_of_block hm5 1)))
    go_ret
    exact vdrop_end hL4 hD4 hW4 ho5 hg5 hmH.out
  | false =>
    rw [hc, if_neg (by simp)] at hR
    rw [hc] at hth
    subst hR
    simp only at he ⊢
    clear hL hD hc hzi hmem hcon hi hf hone hnl hrm hnm i1
    generalize Vl.last segs = s at *
    generalize vname z = S at *
    go_enter Tryz.func24, Tryz.ntmps24
    go_wp2_with (first
        | (go_at_call 33; go_must (refine hmd.mono ?_; rintro e w1 ⟨rfl, hw⟩; rw [hw]; clear hw w1))
        | (go_at_call 52; go_must (refine hh.mono ?_; rintro e w1 ⟨rfl, hw⟩; rw [hw]; clear hw w1))
        | (go_at_call 35; go_must (refine hla.mono ?_; rintro e w1 ⟨rfl, hb1⟩))
        | (go_at_call 40; go_must (refine (hth _ hb1).mono ?_; rintro e w4 ⟨rfl, hb2⟩; have hbw4 := hb1.trans (hb2.mono hb1.size); have hD4 := hkeep.out _ hbw4; have hW4 : Wk B w w4 := Wk.of_below hbw4; have hL4 := hLH.out.wk hW4; obtain ⟨k40, k41, kf⟩ := hL4.cells))
        | (go_at_call 58; go_must (refine (hix _ hL4.row).mono ?_; rintro e w5 ⟨rfl, hw⟩; rw [hw]; clear hw w5))
        | (go_at_call 59; go_must (refine (hdl _ hL4.own).mono ?_; rintro e w5 ⟨rfl, ho5, hg5⟩; have hm5 := (hg5.block m (heap_lt hL4.blk) (vobr hL4.blk hL4.own (by decide))).trans hL4.blk; have k50 := (Go.Joins.cell_of_block hm5 1).trans rfl; have f50 := Go.Joins.unfrozen_of_block hm5 1)))
    go_ret
    exact vdrop_end hL4 hD4 hW4 ho5 hg5 hmH.out
end
end Go.Proofs.YtnoknmnbfkdccaaGreatDoor
