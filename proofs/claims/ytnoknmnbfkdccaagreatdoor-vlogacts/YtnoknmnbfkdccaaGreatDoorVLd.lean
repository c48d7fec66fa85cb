/- A log's file is mended; Open. -/
import Derived.Test.YtnoknmnbfkdccaaGreatDoorVLc
import Derived.Test.YtnoknmnbfkdccaaGreatDoorSGb
namespace Go.Proofs.YtnoknmnbfkdccaaGreatDoor
open Go.RowKit Go.Shelf

namespace Vl
/-- how many bytes of a segment's file stand there -/
def right (D : Dk.D) (s : Int) : Nat := if 1 ≤ s ∧ s ≤ 2147483647 then (Sg.walk (by' D (vname s))).2 else 0
/-- what does not stand there is cut off -/
def mend (D : Dk.D) (s : Int) : Dk.D × Int := if right D s = (by' D (vname s)).length then (D, 0) else Dk.cut D (vname s) (right D s : Int)
end Vl
section
variable {B : Nat} {w : World} {m p : Nat} {D : Dk.D} {a : Option Addr} {n c : Nat} {segs : List Int}
theorem vd_bytes (h : VD B w p D) (s : ByteArray) : ∀ x ∈ Vl.by' D s, x < 256 := by
  obtain ⟨S, ⟨hO, fm, nm, sm, tv, J, hP, hF⟩, hS⟩ := h.dk
  rcases hP.findJ hO s with ⟨e1, _⟩ | ⟨k, x, f, e1, _, e3, _⟩
  · unfold Vl.by' Vl.bs; rw [e1]; intro x hx; cases hx
  · unfold Vl.by' Vl.bs; rw [e1]; exact (hP.each _ (look_mem e3)).small

set_option maxRecDepth 100000 in
set_option maxHeartbeats 1000000 in
theorem vmend_any (hL : LgAt B w m p a n c segs) (hD : VD B w p D) (s : Int) (hs : -9223372036854775808 ≤ s ∧ s ≤ 9223372036854775807) (hn1 : (Vl.by' D (vname s)).length ≤ 100000) (hd : D.dead = false) :
    Calls Tryz.prog 50 #[.pointer (some ⟨m, 0, none⟩), .int .i64 s] w fun e w' => e = .returned (.int .i64 (Vl.mend D s).2) ∧ VD B w' p (Vl.mend D s).1 ∧ Wk B w w' := by
  have hwh := vwhole_any hL hD s hs hn1 hd
  have hby := vd_bytes hD (vname s)
  have hnm := vd_name hD s hs
  obtain ⟨k0, _, _⟩ := hL.cells
  have hCW : Hid (∀ W, Wk B w W → W.cell? ⟨m, 0, none⟩ = some (.pointer (some ⟨p, 0, none⟩))) := (fun W h => (hL.wk h).cells.1 : ∀ W, Wk B w W → W.cell? ⟨m, 0, none⟩ = some (.pointer (some ⟨p, 0, none⟩)))
  have hR : Hid (Vl.right D s ≤ (Vl.by' D (vname s)).length) := (by unfold Vl.right; split; exact Sg.walk_le _; omega : Vl.right D s ≤ (Vl.by' D (vname s)).length)
  have hct := fun W (hb : Below w.heap.size w W) => vd_cut (w1 := W) hD hb (vname s) (Vl.right D s : Int) (by have := hR.out; omega)
  have hwk : ∀ (A : Option Addr) (C : Nat) (W : World), Below w.heap.size w W → W.ownsRow w.heap.size 5 1 (.slice A (Vl.by' D (vname s)).length C) (Vl.by' D (vname s)).length (kcells .u8 (Vl.by' D (vname s))) → Calls Tryz.prog 56 #[.int .i64 s, .slice A (Vl.by' D (vname s)).length C] W fun e w' => ∃ a' n' c', e = .returned (.tuple #[.slice a' n' c', .int .i64 (Vl.right D s : Int)]) ∧ Below W.heap.size W w' := fun A C W hb ho => by
    have hrow := (row_of_owns ho (fun x hx => hby x hx) (by omega)).1
    by_cases hv : 1 ≤ s ∧ s ≤ 2147483647
    · refine (swalk_any s hv.1 hv.2 A _ C _ W hn1 (own_shape ho) hrow).mono ?_
      rintro e w' ⟨a', c', rfl, _, hb'⟩
      exact ⟨a', _, c', by unfold Vl.right; rw [if_pos hv], hb'⟩
    · refine (swalk_bad s hs hv A _ C _ W hn1 (own_shape ho) hrow).mono ?_
      rintro e w' ⟨a', c', rfl, _, hb'⟩
      exact ⟨a', _, c', by unfold Vl.right; rw [if_neg hv], hb'⟩
  unfold RdRes at hwh
  have hkeep := fun W (hb : Below w.heap.size w W) => (⟨hD.keep hb, Wk.of_below hb⟩ : VD B W p D ∧ Wk B w W)
  unfold Vl.mend
  obtain ⟨L, hl⟩ : ∃ L, L = (Vl.by' D (vname s)).length := ⟨_, rfl⟩
  rw [← hl] at hwh hwk hR ⊢
  obtain ⟨R, hRR⟩ : ∃ R, R = Vl.right D s := ⟨_, rfl⟩
  rw [← hRR] at hwk hR hct ⊢
  by_cases hc : R = L
  · rw [if_pos hc]
    have e1 : ((R : Int) == (L : Int)) = true := by simp [hc]
    have HC : Hid (R = L) := hc
    clear hct hc hl hRR hnm hD hL hd hn1
    generalize kcells .u8 (Vl.by' D (vname s)) = cs at *
    go_enter Tryz.func50, Tryz.ntmps50
    go_wp2_with (first
      | (go_at_call 55; go_must (refine hwh.mono ?_; rintro e w1 ⟨A, C, rfl, ho, hb1⟩))
      | (go_at_call 56; go_must (refine (hwk A C _ hb1 ho).mono ?_; rintro e w2 ⟨a2, n2, c2, rfl, hb2⟩)))
    go_ret
    have hb := hb1.trans (hb2.mono hb1.size)
    exact ⟨rfl, hkeep _ hb⟩
  · rw [if_neg hc]
    have e1 : ((R : Int) == (L : Int)) = false := by simp; omega
    have e2 : ¬ ((R : Int) = (L : Int)) := by omega
    have HC : Hid (¬ R = L) := hc
    clear hc hl hRR hD hL hd hn1 hkeep
    generalize kcells .u8 (Vl.by' D (vname s)) = cs at *
    generalize vname s = S at *
    go_enter Tryz.func50, Tryz.ntmps50
    go_wp2_with (first
      | (go_at_call 55; go_must (refine hwh.mono ?_; rintro e w1 ⟨A, C, rfl, ho, hb1⟩))
      | (go_at_call 56; go_must (refine (hwk A C _ hb1 ho).mono ?_; rintro e w2 ⟨a2, n2, c2, rfl, hb2⟩; have hb02 := hb1.trans (hb2.mono hb1.size); have k2 := (hb02.cell (p := ⟨m, 0, none⟩) (cell_lt k0)).trans k0)))
    go_region_held3 (fun W => W.cell? ⟨m, 0, none⟩ = some (.pointer (some ⟨p, 0, none⟩))) (first | go_keep | assumption)
      (first
        | (go_at_call 39; (with_reducible refine vworld w2.drew ?_); refine (hnm _ (bd1 hb02)).mono ?_; rintro e w3 ⟨rfl, hb3'⟩; have hb3 : Below w2.heap.size w2 w3 := below_of_drew hb3'; have hb03 := hb02.trans (hb3.mono hb02.size); have k3 := (hb3.cell (p := ⟨m, 0, none⟩) (cell_lt k2)).trans k2)
        | (go_at_call 82; (with_reducible refine vworld w3 ?_); refine (hct _ hb03).mono ?_; rintro e w4 ⟨rfl, hv4⟩; have k4 := hCW.out _ hv4.2))
    go_wp2
    go_ret
    exact ⟨rfl, hv4⟩

theorem LgAt.lower {B' : Nat} (h : LgAt B w m p a n c segs) (hB : B' ≤ B) : LgAt B' w m p a n c segs := ⟨h.blk, h.own.mono hB, Nat.le_trans hB h.le, h.may⟩
theorem vopen_bad {q : Nat} (hr : ZRow w a n segs) (hn : n ≤ 1000000) (hm : Vl.may segs = false) : Calls Tryz.prog 19 #[.pointer (some ⟨q, 0, none⟩), .slice a n c] w fun e w' => e = .returned (.tuple #[.pointer none, .int .i64 1]) ∧ w' = w := by
  have hmb := vmay_any a n c segs w hn hr false hm.symm
  go_enter Tryz.func19, Tryz.ntmps19
  go_wp2_with (go_at_call 49; go_must (refine hmb.mono ?_; rintro e w1 ⟨rfl, hw⟩; subst hw))
  go_ret2
  exact ⟨rfl, rfl⟩
set_option maxRecDepth 100000 in
set_option maxHeartbeats 1000000 in
/-- a log is opened -/
theorem vopen_any (hD : VD B w p D) (hr : ZRow w a n segs) (hm : Vl.may segs = true) (hn1 : (Vl.by' D (vname (Vl.last segs))).length ≤ 100000) (hd : D.dead = false) (he : (Vl.mend D (Vl.last segs)).2 = 0) :
    Calls Tryz.prog 19 #[.pointer (some ⟨p, 0, none⟩), .slice a n c] w fun e w' => ∃ m A C, e = .returned (.tuple #[.pointer (some ⟨m, 0, none⟩), .int .i64 0]) ∧ LgAt w.heap.size w' m p A n C segs ∧ VD B w' p (Vl.mend D (Vl.last segs)).1 ∧ Wk B w w' := by
  have hln : n ≤ 64 := by have := Vl.may_len hm; have := hr.1; omega
  have hsl : segs.length = n := hr.1
  have hmb := vmay_any a n c segs w (by omega) hr true hm.symm
  have hdd := vd_dead hD
  rw [hd] at hdd
  have hcl := zclone_any a n c segs w (by omega) hr
  unfold ZRes at hcl
  rw [hsl] at hcl
  have hlast : -9223372036854775808 ≤ Vl.last segs ∧ Vl.last segs ≤ 9223372036854775807 := by
    by_cases h0 : segs = []
    · subst h0; decide
    · have := Vl.may_mem hm (Vl.last_mem h0); omega
  have hlg := fun W A C (b : Below w.heap.size w W) (ho : W.ownsRow w.heap.size 3 1 (.slice A n C) n (tcells ze segs)) =>
    (⟨heap_alloc_new W _, ho.alloc _, b.size, hm⟩ : LgAt w.heap.size (W.alloc (.cells #[.pointer (some ⟨p, 0, none⟩), .slice A n C] 67)) W.heap.size p A n C segs)
  have hla := fun W m A C (h : LgAt w.heap.size W m p A n C segs) => vlast_any h _ rfl
  have hme := fun W m A C (h : LgAt w.heap.size W m p A n C segs) (b : Below w.heap.size w W) => vmend_any (h.lower hD.le) (hD.keep b) _ hlast hn1 hd
  rw [he] at hme
  clear hr hm hn1 hd he hlast
  generalize (Vl.mend D (Vl.last segs)).1 = D' at *
  generalize Vl.last segs = s at *
  have HD : Hid (VD B w p D) := hD
  clear hD hsl
  go_enter Tryz.func19, Tryz.ntmps19
  go_wp2_with (first
    | (go_at_call 49; go_must (refine hmb.mono ?_; rintro e w1 ⟨rfl, hw⟩; rw [hw]; clear hw w1))
    | (go_at_call 42; go_must (refine hdd.mono ?_; rintro e w1 ⟨rfl, hw⟩; rw [hw]; clear hw w1))
    | (go_at_call 50; have := hb2; go_must (refine (hme _ _ A C hL2 hbw2).mono ?_; rintro e w3 ⟨rfl, hD3, hW3⟩))
    | (go_at_call 35; go_must (have hL1 := hlg _ A C hb1 ho1; refine (hla _ _ A C hL1).mono ?_; rintro e w2 ⟨rfl, hb2⟩; have hL2 := hL1.keep hb2; have hbw1 := hb1.alloc hb1.size (.cells #[.pointer (some ⟨p, 0, none⟩), .slice A n C] 67); have hbw2 := hbw1.trans (hb2.mono hbw1.size)))
    | (go_at_call 34; go_must (refine hcl.mono ?_; rintro e w1 ⟨A, C, rfl, ho1, hb1⟩)))
  go_ret2
  have hWW : Wk B w w3 := (Wk.of_below hbw2).trans hW3
  exact ⟨_, A, C, rfl, hL2.wk hW3, hD3, hWW⟩
end
end Go.Proofs.YtnoknmnbfkdccaaGreatDoor
