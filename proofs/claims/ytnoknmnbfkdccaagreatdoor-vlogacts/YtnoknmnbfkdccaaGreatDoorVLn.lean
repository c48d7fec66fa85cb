/- A log's Segs, Walk and Sync. -/
import Derived.Test.YtnoknmnbfkdccaaGreatDoorVLg
namespace Go.Proofs.YtnoknmnbfkdccaaGreatDoor
open Go.RowKit Go.Shelf

/-- what Sync does and tells -/
def Vl.synced (D : Dk.D) (segs : List Int) : Dk.D × Int := if (Vl.bs D (vname (Vl.last segs))).isSome = true then Dk.sync D (vname (Vl.last segs)) else (D, 0)
theorem Vl.last_in {segs : List Int} (h : Vl.may segs = true) : -9223372036854775808 ≤ Vl.last segs ∧ Vl.last segs ≤ 9223372036854775807 := by
  by_cases h0 : segs = []
  · subst h0; decide
  · have := Vl.may_mem h (Vl.last_mem h0); omega
section
variable {B : Nat} {w : World} {m p : Nat} {D : Dk.D} {a : Option Addr} {n c : Nat} {segs : List Int}
theorem vsegs_any (hL : LgAt B w m p a n c segs) : Calls Tryz.prog 12 #[.pointer (some ⟨m, 0, none⟩)] w (ZRes w segs) := by
  have hmd := vmade_any hL
  have hcl := zclone_any a n c segs w (by have := hL.len; omega) hL.row
  obtain ⟨_, k1, _⟩ := hL.cells
  unfold ZRes at hcl ⊢
  go_enter Tryz.func12, Tryz.ntmps12
  go_wp2_with (first
    | (go_at_call 33; go_must (refine hmd.mono ?_; rintro e w1 ⟨rfl, hw⟩; rw [hw]; clear hw w1))
    | (go_at_call 34; go_must (refine hcl.mono ?_; rintro e w1 ⟨A, C, rfl, ho1, hb1⟩)))
  go_ret
  exact ⟨A, C, rfl, ho1, hb1⟩

set_option maxRecDepth 100000 in
theorem vsync_any (hL : LgAt B w m p a n c segs) (hD : VD B w p D) :
    Calls Tryz.prog 15 #[.pointer (some ⟨m, 0, none⟩)] w fun e w' => e = .returned (.int .i64 (Vl.synced D segs).2) ∧ VD B w' p (Vl.synced D segs).1 ∧ Wk B w w' := by
  have hin := Vl.last_in hL.may
  have hmd := vmade_any hL
  have hla := fun W (hb : Below w.heap.size w W) => vlast_any (hL.keep hb) _ rfl
  have hth := fun W (hb : Below w.heap.size w W) => vthere_any (hL.keep hb) (hD.keep hb) (Vl.last segs) hin
  have hnm := vd_name hD (Vl.last segs) hin
  have hsy := fun W (hb : Below w.heap.size w W) => vd_sync (w1 := W) hD hb (vname (Vl.last segs))
  obtain ⟨k0, _, _⟩ := hL.cells
  have hCW : Hid (∀ W, Wk B w W → W.cell? ⟨m, 0, none⟩ = some (.pointer (some ⟨p, 0, none⟩))) := (fun W h => (hL.wk h).cells.1 : ∀ W, Wk B w W → W.cell? ⟨m, 0, none⟩ = some (.pointer (some ⟨p, 0, none⟩)))
  have hkeep : Hid (∀ W, Below w.heap.size w W → VD B W p D ∧ Wk B w W) := (fun W hb => ⟨hD.keep hb, Wk.of_below hb⟩ : ∀ W, Below w.heap.size w W → VD B W p D ∧ Wk B w W)
  unfold Vl.synced
  cases hc : (Vl.bs D (vname (Vl.last segs))).isSome with
  | false =>
    rw [if_neg (by simp)]
    rw [hc] at hth
    clear hL hD hc hsy hnm
    generalize Vl.last segs = s at *
    go_enter Tryz.func15, Tryz.ntmps15
    go_wp2_with (first
      | (go_at_call 33; go_must (refine hmd.mono ?_; rintro e w1 ⟨rfl, hw⟩; rw [hw]; clear hw w1))
      | (go_at_call 35; go_must (refine (hla _ (Below.refl _ _)).mono ?_; rintro e w1 ⟨rfl, hb1⟩))
      | (go_at_call 40; go_must (refine (hth _ hb1).mono ?_; rintro e w2 ⟨rfl, hb2⟩; have hbw2 := hb1.trans (hb2.mono hb1.size))))
    go_ret
    exact ⟨rfl, hkeep.out _ hbw2⟩
  | true =>
    rw [if_pos rfl]
    rw [hc] at hth
    clear hL hD hc
    generalize vname (Vl.last segs) = S at *
    generalize Vl.last segs = s at *
    obtain ⟨R, hR⟩ : ∃ R, R = Dk.sync D S := ⟨_, rfl⟩
    rw [← hR] at hsy ⊢
    clear hR
    obtain ⟨D', er⟩ := R
    simp only at hsy ⊢
    go_enter Tryz.func15, Tryz.ntmps15
    go_wp2_with (first
      | (go_at_call 33; go_must (refine hmd.mono ?_; rintro e w1 ⟨rfl, hw⟩; rw [hw]; clear hw w1))
      | (go_at_call 35; go_must (refine (hla _ (Below.refl _ _)).mono ?_; rintro e w1 ⟨rfl, hb1⟩))
      | (go_at_call 40; go_must (refine (hth _ hb1).mono ?_; rintro e w2 ⟨rfl, hb2⟩; have hbw2 := hb1.trans (hb2.mono hb1.size); have k2 := (hbw2.cell (p := ⟨m, 0, none⟩) (cell_lt k0)).trans k0)))
    go_region_held3 (fun W => W.cell? ⟨m, 0, none⟩ = some (.pointer (some ⟨p, 0, none⟩))) (first | go_keep | assumption)
      (first
        | (go_at_call 35; (with_reducible refine vworld w2.drew ?_); refine (hla _ (bd1 hbw2)).mono ?_; rintro e w3 ⟨rfl, hb3'⟩; have hb3 : Below w2.heap.size w2 w3 := below_of_drew hb3'; have hbw3 := hbw2.trans (hb3.mono hbw2.size); have k3 := (hb3.cell (p := ⟨m, 0, none⟩) (cell_lt k2)).trans k2)
        | (go_at_call 39; (with_reducible refine vworld w3 ?_); refine (hnm _ hbw3).mono ?_; rintro e w4 ⟨rfl, hb4⟩; have hbw4 := hbw3.trans (hb4.mono hbw3.size); have k4 := (hb4.cell (p := ⟨m, 0, none⟩) (cell_lt k3)).trans k3)
        | (go_at_call 41; (with_reducible refine vworld w4 ?_); refine (hsy _ hbw4).mono ?_; rintro e w5 ⟨rfl, hv5⟩; have k5 := hCW.out _ hv5.2))
    go_wp2
    go_ret
    exact ⟨rfl, hv5⟩

/-- the points of a segment -/
def Vl.pts (D : Dk.D) (segs : List Int) (s : Int) : List Po.P × Nat := if segs.contains s = true then (Sg.pts s 0 (Sg.walk (Vl.by' D (vname s))).1, 0) else ([], 3)
def PtsRes (w : World) (R : List Po.P × Nat) (e : Ending) (w' : World) : Prop :=
  ∃ a' c', e = .returned (.tuple #[.slice a' R.1.length c', .int .i64 (R.2 : Nat)]) ∧ w'.ownsRow w.heap.size 42 4 (.slice a' R.1.length c') R.1.length (pcells R.1) ∧ Below w.heap.size w w'
set_option maxRecDepth 100000 in
theorem vwalk_any (hL : LgAt B w m p a n c segs) (hD : VD B w p D) (s : Int) (hs : -9223372036854775808 ≤ s ∧ s ≤ 9223372036854775807) (hz : (Vl.by' D (vname s)).length ≤ 100000) (hd : D.dead = false) :
    Calls Tryz.prog 22 #[.pointer (some ⟨m, 0, none⟩), .int .i64 s] w (PtsRes w (Vl.pts D segs s)) := by
  have hmd := vmade_any hL
  have hh := vhas_any hL s
  unfold Vl.pts PtsRes
  cases hc : segs.contains s with
  | false =>
    rw [hc] at hh
    rw [if_neg (by simp)]
    clear hL hD hc
    go_enter Tryz.func22, Tryz.ntmps22
    go_wp2_with (first
      | (go_at_call 33; go_must (refine hmd.mono ?_; rintro e w1 ⟨rfl, hw⟩; rw [hw]; clear hw w1))
      | (go_at_call 52; go_must (refine hh.mono ?_; rintro e w1 ⟨rfl, hw⟩; rw [hw]; clear hw w1)))
    go_ret2
    exact ⟨none, 0, rfl, World.ownsRow_nil _ _ _ _, Below.refl _ _⟩
  | true =>
    rw [hc] at hh
    rw [if_pos rfl]
    have hv := Vl.may_mem hL.may (List.contains_iff_mem.1 hc)
    have hwh := vwhole_any hL hD s hs hz hd
    have hby := vd_bytes hD (vname s)
    have hwk : ∀ (A : Option Addr) (C : Nat) (W : World), Below w.heap.size w W → W.ownsRow w.heap.size 5 1 (.slice A (Vl.by' D (vname s)).length C) (Vl.by' D (vname s)).length (kcells .u8 (Vl.by' D (vname s))) → Calls Tryz.prog 56 #[.int .i64 s, .slice A (Vl.by' D (vname s)).length C] W (SWalkRes W (Sg.pts s 0 (Sg.walk (Vl.by' D (vname s))).1, (Sg.walk (Vl.by' D (vname s))).2)) := fun A C W hb ho =>
      swalk_any s hv.1 hv.2 A _ C _ W hz (own_shape ho) (row_of_owns ho (fun x hx => hby x hx) (by omega)).1
    unfold RdRes at hwh
    unfold SWalkRes at hwk
    simp only at hwk ⊢
    generalize (Sg.walk (Vl.by' D (vname s))).2 = z at *
    generalize Sg.pts s 0 (Sg.walk (Vl.by' D (vname s))).1 = P at *
    generalize Vl.by' D (vname s) = bs at *
    clear hL hD hc hz
    go_enter Tryz.func22, Tryz.ntmps22
    go_wp2_with (first
      | (go_at_call 33; go_must (refine hmd.mono ?_; rintro e w1 ⟨rfl, hw⟩; rw [hw]; clear hw w1))
      | (go_at_call 52; go_must (refine hh.mono ?_; rintro e w1 ⟨rfl, hw⟩; rw [hw]; clear hw w1))
      | (go_at_call 55; go_must (refine hwh.mono ?_; rintro e w1 ⟨A, C, rfl, ho, hb1⟩))
      | (go_at_call 56; go_must (refine (hwk A C _ hb1 ho).mono ?_; rintro e w2 ⟨a2, c2, rfl, ho2, hb2⟩)))
    go_ret2
    exact ⟨a2, c2, rfl, ho2.mono hb1.size, hb1.trans (hb2.mono hb1.size)⟩
end
end Go.Proofs.YtnoknmnbfkdccaaGreatDoor

/- What the laws of layer 20 begin with: light, the reference's Open, begin. -/
namespace Go.Proofs.YtnoknmnbfkdccaaGreatDoor
open Go.RowKit Go.Shelf

theorem made_vv (n : Nat) : (madeCells (Value.slice none 0 0).cells (n * 1)).toList = tcells vhe (List.replicate n vhz) := by
  rw [show (Value.slice none 0 0).cells = #[Value.slice none 0 0] from rfl, Nat.mul_one, toList_madeCells_one]
  unfold tcells
  induction n with
  | zero => rfl
  | succ n ih => rw [List.replicate_succ, List.replicate_succ, List.flatMap_cons, ← ih]; rfl
theorem vinfo0 : (Tryz.prog.info? 48).map (fun i => (i.zero, i.size, i.bytes)) = some (some (.slice none 0 0), 1, 24) := by kernel_rfl
theorem vinfo : ∃ i, Tryz.prog.info? 48 = some i ∧ i.zero = some (.slice none 0 0) ∧ i.size = 1 ∧ i.bytes = 24 := by
  have h := vinfo0
  cases hi : Tryz.prog.info? 48 with
  | none => rw [hi] at h; cases h
  | some i =>
    rw [hi] at h
    simp only [Option.map_some, Option.some.injEq, Prod.mk.injEq] at h
    exact ⟨i, rfl, h.1, h.2.1, h.2.2⟩
set_option maxRecDepth 100000 in
theorem vrefopen_any (a : Option Addr) (n c : Nat) (w : World) (hn : n ≤ 1000) :
    Calls Tryz.prog 27 #[.slice a n c] w fun e w' => ∃ g, e = .returned (.agg #[.slice a n c, .slice (some ⟨g, 0, none⟩) n n]) ∧ w'.ownsRow w.heap.size 48 1 (.slice (some ⟨g, 0, none⟩) n n) n (tcells vhe (List.replicate n vhz)) ∧ Below w.heap.size w w' := by
  obtain ⟨i0, hi0, hz0, hz1, hz2⟩ := vinfo
  have b0 := below_alloc w (.cells #[.slice none 0 0, .slice none 0 0] 34)
  have q0 := heap_alloc_new w (.cells #[.slice none 0 0, .slice none 0 0] 34)
  go_enter Tryz.func27, Tryz.ntmps27
  go_wp2_with (at_make; go_must (refine make_full _ rfl _ _ 32 rfl w.heap.size 48 i0 _ 1 Tryz.underlying32 hi0 hz0 hz1 .i64 .i64 n rfl rfl (by rw [hz2]; omega) (by unfold maxLen; omega) (by simp) ?_; intro w2 hmade hb2; rw [made_vv, World.size_alloc] at hmade; have hq2 := (hb2.block _ (by simp)).trans q0; have x0 := (Go.Joins.cell_of_block hq2 0).trans rfl; have x1 := (Go.Joins.cell_of_block hq2 1).trans rfl; have f0 := Go.Joins.unfrozen_of_block hq2 0; have f1 := Go.Joins.unfrozen_of_block hq2 1))
  have h1 := hmade.kept (turned_set w2 w.heap.size 0 (.slice a n c)) (.inr (vobr hq2 hmade (by decide)).symm)
  have hq3 := Go.Joins.block_setCell hq2 (.slice a n c) (i := 0)
  have h2 := h1.kept (turned_set _ w.heap.size 1 (.slice (some ⟨w.heap.size + 1, 0, none⟩) n n)) (.inr (vobr hq3 h1 (by decide)).symm)
  have hb := ((b0.trans (hb2.mono b0.size)).setCell (p := ⟨w.heap.size, 0, none⟩) (Nat.le_refl _) (.slice a n c)).setCell (p := ⟨w.heap.size, 1, none⟩) (Nat.le_refl _) (.slice (some ⟨w.heap.size + 1, 0, none⟩) n n)
  exact bodyPost_ret (v := .agg #[.slice a n c, .slice (some ⟨w.heap.size + 1, 0, none⟩) n n]) (by simp [results, Tryz.results27, go_sem, x0, x1]) rfl ⟨_, rfl, h2, hb⟩
/-- a log of segments, and the reference's, on a disk without files -/
theorem vbegin_any (B : Nat) (a : Option Addr) (n c : Nat) (segs : List Int) (w : World) (hT : TB B w) (hB : B ≤ w.heap.size) (hr : ZRow w a n segs) (hm : Vl.may segs = true) :
    Calls Tryz.prog 8 #[.slice a n c] w fun e w' => ∃ x p m A C g, e = .returned (.tuple #[.pointer (some ⟨x, 0, none⟩), .bool true]) ∧
      w'.heap[x]? = some (.cells #[.pointer (some ⟨p, 0, none⟩), .pointer (some ⟨m, 0, none⟩), .slice a n c, .slice (some ⟨g, 0, none⟩) n n, .slice none 0 0] 37 (0, 0)) ∧ w.heap.size ≤ x ∧
      LgAt w.heap.size w' m p A n C segs ∧ VD B w' p (Dk.new 4194304) ∧ w'.ownsRow w.heap.size 48 1 (.slice (some ⟨g, 0, none⟩) n n) n (tcells vhe (List.replicate n vhz)) ∧ Below w.heap.size w w' := by
  have hln : n ≤ 64 := by have := Vl.may_len hm; have := hr.1; omega
  have hTB : TB w.heap.size w := ⟨hT.tab, by obtain ⟨g, h1, h2⟩ := hT.lt; exact ⟨g, h1, Nat.lt_of_lt_of_le h2 hB⟩⟩
  have hnew := vd_new 4194304 w (by decide) hTB (Nat.le_refl _)
  have hopen : ∀ (W : World) (p : Nat) (_ : VD w.heap.size W p (Dk.new 4194304)) (_ : Below w.heap.size w W), Calls Tryz.prog 19 #[.pointer (some ⟨p, 0, none⟩), .slice a n c] W fun e w' => ∃ m A C, e = .returned (.tuple #[.pointer (some ⟨m, 0, none⟩), .int .i64 0]) ∧ LgAt w.heap.size w' m p A n C segs ∧ VD w.heap.size w' p (Dk.new 4194304) ∧ Wk w.heap.size W w' := fun W p hD hb => by
    have hmn : Vl.mend (Dk.new 4194304) (Vl.last segs) = (Dk.new 4194304, 0) := Vl.mend_none (by unfold Vl.by'; rw [(Vl.new _).2]; rfl)
    have := vopen_any (c := c) hD (hr.below hb (Nat.le_refl _)) hm (by unfold Vl.by'; rw [(Vl.new _).2]; simp) rfl (by rw [hmn])
    rw [hmn] at this
    refine this.mono ?_
    rintro e w' ⟨m, A, C, rfl, h1, h2, h3⟩
    exact ⟨m, A, C, rfl, h1.lower hD.le, h2, h3⟩
  have href := fun W => vrefopen_any a n c W (by omega)
  have hlow : Hid (∀ W, Wk w.heap.size w W → Below w.heap.size w W) := (fun W h => h.below (Nat.le_refl _) : ∀ W, Wk w.heap.size w W → Below w.heap.size w W)
  have hTH : Hid (TB B w ∧ B ≤ w.heap.size) := (⟨hT, hB⟩ : TB B w ∧ B ≤ w.heap.size)
  clear hr hm hT hTB hB
  go_enter Tryz.func8, Tryz.ntmps8
  go_wp2_with (first
    | (go_at_call 26; go_must (refine hnew.mono ?_; rintro e w1 ⟨p, rfl, hD1, hb1⟩))
    | (go_at_call 19; go_must (refine (hopen _ p hD1 hb1).mono ?_; rintro e w2 ⟨m, A, C, rfl, hL2, hD2, hW2⟩))
    | (go_at_call 27; go_must (refine (href _).mono ?_; rintro e w3 ⟨g, rfl, ho3, hb3⟩)))
  go_ret2
  have hWW : Wk w.heap.size w w3 := ((Wk.of_below hb1).trans hW2).trans (Wk.of_below hb3)
  have hbw3 := hlow.out _ hWW
  have hba := below_alloc w3 (.cells #[.pointer (some ⟨p, 0, none⟩), .pointer (some ⟨m, 0, none⟩), .slice a n c, .slice (some ⟨g, 0, none⟩) n n, .slice none 0 0] 37)
  have hD4 := (hD2.keep hb3).keep hba
  refine ⟨_, p, m, A, C, g, rfl, heap_alloc_new w3 _, hbw3.size, (hL2.keep hb3).keep hba, ?_, (ho3.mono (hlow.out _ ((Wk.of_below hb1).trans hW2)).size).alloc _, hbw3.trans (hba.mono hbw3.size)⟩
  obtain ⟨S, hDk, hS⟩ := hD4.dk
  exact VD.of (hTH.out.1.keep ((hbw3.trans (hba.mono hbw3.size)).mono hTH.out.2)) (Nat.le_trans hTH.out.2 (hbw3.trans (hba.mono hbw3.size)).size) hDk (fun k hk => Nat.le_trans hTH.out.2 (hS k hk).1)
end Go.Proofs.YtnoknmnbfkdccaaGreatDoor
