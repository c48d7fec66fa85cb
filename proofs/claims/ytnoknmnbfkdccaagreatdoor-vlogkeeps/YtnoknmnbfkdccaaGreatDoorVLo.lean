/- The disk's Stop, SyncNames and Crash, and what of the law of what is kept stays meanwhile. -/
import Derived.Test.YtnoknmnbfkdccaaGreatDoorVLi
import Derived.Test.YtnoknmnbfkdccaaGreatDoorVLl
import Derived.Test.YtnoknmnbfkdccaaGreatDoorIG
namespace Go.Proofs.YtnoknmnbfkdccaaGreatDoor
open Go.RowKit Go.Shelf

section
variable {B : Nat} {w : World} {p : Nat} {D : Dk.D}
theorem vd_syncNames {w1 : World} (h : VD B w p D) (hb : Below w.heap.size w w1) (ht : D.turns.length ≤ 1000000) :
    Calls Tryz.prog 16 #[.pointer (some ⟨p, 0, none⟩)] w1 fun e w' => e = .returned (.int .i64 (Dk.syncNames D).2) ∧ VD B w' p (Dk.syncNames D).1 ∧ Wk B w w' := by
  obtain ⟨S, hD, hS⟩ := h.dk
  refine (syncNamesD_any (hD.keep (fun k hk _ => hb.block k hk) (fun _ _ hs => hs)) ht).mono ?_
  rintro e w' ⟨he, hD', ho⟩
  exact ⟨he, h.act hS hb hD' ho⟩
theorem vd_stop {w1 : World} (h : VD B w p D) (hb : Below w.heap.size w w1) (n : Int) (hn : -9223372036854775808 ≤ n ∧ n ≤ 9223372036854775807) :
    Calls Tryz.prog 17 #[.pointer (some ⟨p, 0, none⟩), .int .i64 n] w1 fun e w' => e = .returned (.tuple #[]) ∧ VD B w' p (Dk.stopped D n) ∧ Wk B w w' := by
  obtain ⟨S, hD, hS⟩ := h.dk
  refine (stop_any (hD.keep (fun k hk _ => hb.block k hk) (fun _ _ hs => hs)) n hn).mono ?_
  rintro e w' ⟨he, hD', ho⟩
  exact ⟨he, h.act hS hb (hD'.keep (fun _ _ _ => rfl) fun _ _ h => .inl h) ho⟩
theorem vd_crash {w1 : World} (h : VD B w p D) (hb : Below w.heap.size w w1) (kn : Int) (ta : Option Addr) (tn tc : Nat) (zs : List Int) (hz : ZIn w1 ta tn tc zs) (hts : ∀ g o, ta = some ⟨g, o, none⟩ → B ≤ g → tn = 0) (ht : D.turns.length ≤ 100000) (hk : D.kept.length ≤ 100000) :
    Calls Tryz.prog 18 #[.pointer (some ⟨p, 0, none⟩), .agg #[.int .i64 kn, .slice ta tn tc]] w1 fun e w' => e = .returned (.tuple #[]) ∧ VD B w' p (Dk.crash D kn zs) ∧ Wk B w w' := by
  obtain ⟨S, hD, hS⟩ := h.dk
  refine (crash_any (hD.keep (fun k hk _ => hb.block k hk) (fun _ _ hs => hs)) (fun k hk => Nat.lt_of_lt_of_le (hS k hk).2.1 hb.size) kn ta tn tc zs hz (fun g o e hs => hts g o e (by
    rcases hs with hs | hs
    · exact (hS g hs).1
    · have := h.le; have := hb.size; omega)) ht hk).mono ?_
  rintro e w' ⟨he, hD', ho⟩
  exact ⟨he, h.act hS hb hD' ho⟩
end

/-- the law's own box, its log and its disk -/
structure KW (B : Nat) (W : World) (x p m : Nat) (A : Option Addr) (C : Nat) (D : Dk.D) : Prop where
  bx : ∃ c2 c3 c4, W.heap[x]? = some (.cells #[.pointer (some ⟨p, 0, none⟩), .pointer (some ⟨m, 0, none⟩), c2, c3, c4] 37 (0, 0))
  lg : LgAt B W m p A 1 C [3]
  vd : VD B W p D
section
variable {B : Nat} {W W' : World} {x p m : Nat} {A : Option Addr} {C : Nat} {D D' : Dk.D}
theorem KW.wk (h : KW B W x p m A C D) (hw : Wk B W W') (hv : VD B W' p D') : KW B W' x p m A C D' := by
  obtain ⟨c2, c3, c4, hb⟩ := h.bx
  exact ⟨⟨c2, c3, c4, hw.blk hb (by decide) (by decide) (by decide) (by decide)⟩, h.lg.wk hw, hv⟩
theorem KW.keep (h : KW B W x p m A C D) (hb : Below W.heap.size W W') : KW B W' x p m A C D := h.wk (Wk.of_below hb) (h.vd.keep hb)
theorem KW.cells (h : KW B W x p m A C D) : W.cell? ⟨x, 0, none⟩ = some (.pointer (some ⟨p, 0, none⟩)) ∧ W.cell? ⟨x, 1, none⟩ = some (.pointer (some ⟨m, 0, none⟩)) := by
  obtain ⟨c2, c3, c4, hb⟩ := h.bx
  exact ⟨(Go.Joins.cell_of_block hb _).trans rfl, (Go.Joins.cell_of_block hb _).trans rfl⟩
theorem vlast3 : Vl.last [3] = 3 := rfl
/-- the disk behind a value that is put -/
def Vl.nxt (D : Dk.D) (v : List Nat) : Dk.D := (Dk.append D (vname 3) (Sg.put [v])).1
theorem Vl.put1_len (v : List Nat) (h : v.length ≤ 500) : (Sg.put [v]).length ≤ 510 := by
  rw [Sg.put_one_len]
  have := Fr.one3 (n := v.length) (by omega)
  unfold Fr.size; omega
theorem Vl.Two.nxt {D : Dk.D} {P Q : List Nat} {v : List Nat} (hT : Vl.Two D P Q) (hd : D.dead = false) (hl : P.length + Q.length + 600 ≤ 100000) (hn : v.length ≤ 500) :
    Vl.Two (Vl.nxt D v) P (Q ++ Sg.put [v]) ∧ (D.stop ≤ 0 → (Vl.nxt D v).dead = false ∧ (Vl.nxt D v).stop = D.stop) ∧ (Vl.nxt D v).kept = D.kept ∧ Dk.append D (vname 3) (Sg.put [v]) = (Vl.nxt D v, 0) := by
  have := Vl.put1_len v hn
  obtain ⟨D', h1, h2, h3, h4⟩ := hT.put hd (Sg.put [v]) (by omega)
  have e : Vl.nxt D v = D' := by unfold Vl.nxt; rw [h1]
  rw [e]
  exact ⟨h2, h3, h4, h1⟩
/-- a value is put to the law's log -/
theorem KW.put {P Q : List Nat} (h : KW B W x p m A C D) (hT : Vl.Two D P Q) (hd : D.dead = false) (hh : VH) (v : List Nat) (hv : VAt W hh v) (hl : P.length + Q.length + 600 ≤ 100000) (hn : hh.n ≤ 500) :
    Calls Tryz.prog 14 #[.pointer (some ⟨m, 0, none⟩), .slice hh.a hh.n hh.c] W fun e w' => e = .returned (.tuple #[pv (Sg.pt 3 (P ++ Q).length v), .int .i64 0]) ∧ VD B w' p (Vl.nxt D v) ∧ Wk B W w' := by
  have hvl : v.length = hh.n := hv.1.1
  have hfew : Dk.Few D 1 := ⟨hT.few.1, hT.few.2.1, hT.few.2.2.1⟩
  obtain ⟨_, _, _, h1⟩ := hT.nxt hd hl (v := v) (by omega)
  exact vput_any h.lg h.vd (by simp) hh v hv (by omega) hfew (by decide) (by rw [vlast3, hT.by', List.length_append]; omega) (Vl.nxt D v, 0) h1.symm (Sg.pt 3 (P ++ Q).length v) (by rw [if_pos rfl, vlast3, hT.by'])
theorem KW.put_dead {P Q : List Nat} (h : KW B W x p m A C D) (hT : Vl.Two D P Q) (hd : D.dead = true) (hh : VH) (v : List Nat) (hv : VAt W hh v) (hl : P.length + Q.length + 600 ≤ 100000) (hn : hh.n ≤ 500) :
    Calls Tryz.prog 14 #[.pointer (some ⟨m, 0, none⟩), .slice hh.a hh.n hh.c] W fun e w' => e = .returned (.tuple #[pv Po.zero, .int .i64 9]) ∧ VD B w' p D ∧ Wk B W w' := by
  have hvl : v.length = hh.n := hv.1.1
  have hfew : Dk.Few D 1 := ⟨hT.few.1, hT.few.2.1, hT.few.2.2.1⟩
  exact vput_any h.lg h.vd (by simp) hh v hv (by omega) hfew (by decide) (by rw [vlast3, hT.by', List.length_append]; omega) (D, 9) (Vl.Two.dead hd _).symm Po.zero (by simp)
end

/-- what the law carries: its log and disk, the points that were told, the crash that is to be -/
structure KI (B : Nat) (w W : World) (x p m : Nat) (A : Option Addr) (C : Nat) (D : Dk.D) (pa : Option Addr) (pc k : Nat) (L : List Po.P) (st kn : Int) (ta : Option Addr) (tn tc : Nat) : Prop where
  kw : KW B W x p m A C D
  pts : W.ownsRow B 42 4 (.slice pa k pc) k (pcells L)
  cr : W.heap[B]? = some (.cells #[.int .i64 st, .int .i64 kn, .slice ta tn tc] 52 (0, 0))
  bel : Below B w W
section
variable {B : Nat} {w W W' : World} {x p m : Nat} {A : Option Addr} {C : Nat} {D D' : Dk.D} {pa : Option Addr} {pc k : Nat} {L : List Po.P} {st kn : Int} {ta : Option Addr} {tn tc : Nat}
theorem KI.wk (h : KI B w W x p m A C D pa pc k L st kn ta tn tc) (hw : Wk B W W') (hv : VD B W' p D') : KI B w W' x p m A C D' pa pc k L st kn ta tn tc :=
  ⟨h.kw.wk hw hv, hw.own h.pts (by decide) (by decide) (by decide) (by decide), hw.blk h.cr (by decide) (by decide) (by decide) (by decide), h.bel.trans (hw.below h.kw.vd.le)⟩
theorem KI.keep (h : KI B w W x p m A C D pa pc k L st kn ta tn tc) (hb : Below W.heap.size W W') : KI B w W' x p m A C D pa pc k L st kn ta tn tc := h.wk (Wk.of_below hb) (h.kw.vd.keep hb)
theorem KI.row (h : KI B w W x p m A C D pa pc k L st kn ta tn tc) {pa' : Option Addr} {pc' k' : Nat} {L' : List Po.P} (ho : W.ownsRow B 42 4 (.slice pa' k' pc') k' (pcells L')) : KI B w W x p m A C D pa' pc' k' L' st kn ta tn tc := ⟨h.kw, ho, h.cr, h.bel⟩
theorem KI.crash (h : KI B w W x p m A C D pa pc k L st kn ta tn tc) : W.cell? ⟨B, 0, none⟩ = some (.int .i64 st) ∧ W.cell? ⟨B, 1, none⟩ = some (.int .i64 kn) ∧ W.cell? ⟨B, 2, none⟩ = some (.slice ta tn tc) :=
  ⟨(Go.Joins.cell_of_block h.cr _).trans rfl, (Go.Joins.cell_of_block h.cr _).trans rfl, (Go.Joins.cell_of_block h.cr _).trans rfl⟩
/-- a point's box is written -/
theorem KI.pt4 (h : KI B w W x p m A C D pa pc k L st kn ta tn tc) {g : Nat} {cs : Array Value} (hg : W.heap[g]? = some (.cells cs 42 (0, 0))) (hB : B ≤ g) (hne : some g ≠ (Value.slice pa k pc).ownBlock) (v0 v1 v2 v3 : Value) :
    KI B w ((((W.setCell ⟨g, 0, none⟩ v0).setCell ⟨g, 1, none⟩ v1).setCell ⟨g, 2, none⟩ v2).setCell ⟨g, 3, none⟩ v3) x p m A C D pa pc k L st kn ta tn tc := by
  have hk : ∀ k, k ≠ g → ((((W.setCell ⟨g, 0, none⟩ v0).setCell ⟨g, 1, none⟩ v1).setCell ⟨g, 2, none⟩ v2).setCell ⟨g, 3, none⟩ v3).heap[k]? = W.heap[k]? := fun k h => by
    rw [set_other _ _ _ _ h, set_other _ _ _ _ h, set_other _ _ _ _ h, set_other _ _ _ _ h]
  have hb : Below B W ((((W.setCell ⟨g, 0, none⟩ v0).setCell ⟨g, 1, none⟩ v1).setCell ⟨g, 2, none⟩ v2).setCell ⟨g, 3, none⟩ v3) := ((((Below.refl B W).setCell (p := ⟨g, 0, none⟩) hB v0).setCell (p := ⟨g, 1, none⟩) hB v1).setCell (p := ⟨g, 2, none⟩) hB v2).setCell (p := ⟨g, 3, none⟩) hB v3
  have hon : OnlyIn (fun k => k = g) W ((((W.setCell ⟨g, 0, none⟩ v0).setCell ⟨g, 1, none⟩ v1).setCell ⟨g, 2, none⟩ v2).setCell ⟨g, 3, none⟩ v3) := ⟨hb.os, hb.tape, hb.output, hb.size, fun k _ h => hk k h⟩
  obtain ⟨c2, c3, c4, hx⟩ := h.kw.bx
  have hne2 : ∀ {k : Nat} {c : Array Value} {T : TypeId} {r : Nat × Nat}, W.heap[k]? = some (.cells c T r) → T ≠ 42 → k ≠ g := fun {k c T r} hc hT => cells_ne hc hg hT
  have hown : ∀ {B' e s n : Nat} {v : Value} {xs : List Value}, W.ownsRow B' e s v n xs → (v.ownBlock ≠ some g) → ((((W.setCell ⟨g, 0, none⟩ v0).setCell ⟨g, 1, none⟩ v1).setCell ⟨g, 2, none⟩ v2).setCell ⟨g, 3, none⟩ v3).ownsRow B' e s v n xs := fun {B' e s n v xs} ho hv => own_keep ho fun k hk' => hk k fun e => hv (by rw [hk', e])
  refine ⟨⟨⟨c2, c3, c4, (hk x (hne2 hx (by decide))).trans hx⟩, ⟨(hk m (hne2 h.kw.lg.blk (by decide))).trans h.kw.lg.blk, hown h.kw.lg.own (vobr hg h.kw.lg.own (by decide)).symm, h.kw.lg.le, h.kw.lg.may⟩, h.kw.vd.other hon fun k hk' _ => by subst hk'; exact ⟨hB, dt_not hg (by decide) (by decide) (by decide) (by decide)⟩⟩, hown h.pts hne.symm, (hk B (hne2 h.cr (by decide))).trans h.cr, h.bel.trans hb⟩
/-- the points' row has turned -/
theorem KI.grown (h : KI B w W x p m A C D pa pc k L st kn ta tn tc) (hg : W.grownBy W' (Value.slice pa k pc).ownBlock) {pa' : Option Addr} {pc' k' : Nat} {L' : List Po.P} (ho : W'.ownsRow B 42 4 (.slice pa' k' pc') k' (pcells L')) : KI B w W' x p m A C D pa' pc' k' L' st kn ta tn tc := by
  have hon : OnlyIn (fun q => (Value.slice pa k pc).ownBlock = some q) W W' := ⟨hg.os, hg.tape, hg.output, hg.size, fun q hq hn => hg.block q hq fun e => hn e.symm⟩
  have hge : ∀ q, (Value.slice pa k pc).ownBlock = some q → B ≤ q := fun q hq => by
    rcases h.pts.2 with ⟨e, _⟩ | ⟨g, cap, cur', e, hg, _⟩
    · rw [e] at hq; cases hq
    · rw [e] at hq; simp [Value.ownBlock] at hq; omega
  have hb : Below B W W' := OnlyIn.below hon h.kw.vd.le hge
  obtain ⟨c2, c3, c4, hx⟩ := h.kw.bx
  have hne : ∀ {q : Nat} {c : Array Value} {T : TypeId} {r : Nat × Nat}, W.heap[q]? = some (.cells c T r) → T ≠ 42 → W'.heap[q]? = some (.cells c T r) := fun {q c T r} hc hT => (hg.block q (heap_lt hc) (vobr hc h.pts hT)).trans hc
  have hown := h.kw.lg.own.kept hg (own_apart h.kw.lg.own h.pts (by decide))
  exact ⟨⟨⟨c2, c3, c4, hne hx (by decide)⟩, ⟨hne h.kw.lg.blk (by decide), hown, h.kw.lg.le, h.kw.lg.may⟩, h.kw.vd.other hon fun q hq hl => by
    obtain ⟨cur, hc⟩ := own_blk h.pts hq
    exact ⟨hge q hq, dt_not hc (by decide) (by decide) (by decide) (by decide)⟩⟩, ho, hne h.cr (by decide), h.bel.trans hb⟩
theorem KI.fresh (h : KI B w W x p m A C D pa pc k L st kn ta tn tc) {g : Nat} (hg : W.heap.size ≤ g) : some g ≠ (Value.slice pa k pc).ownBlock := fun e => by
  obtain ⟨cur, hc⟩ := own_blk h.pts e.symm
  have := heap_lt hc
  omega
end
theorem pset4 {W : World} {g : Nat} {c0 c1 c2 c3 : Value} {T : TypeId} (h : W.heap[g]? = some (.cells #[c0, c1, c2, c3] T (0, 0))) (v0 v1 v2 v3 : Value) : ((((W.setCell ⟨g, 0, none⟩ v0).setCell ⟨g, 1, none⟩ v1).setCell ⟨g, 2, none⟩ v2).setCell ⟨g, 3, none⟩ v3).heap[g]? = some (.cells #[v0, v1, v2, v3] T (0, 0)) :=
  Go.Joins.block_setCell (Go.Joins.block_setCell (Go.Joins.block_setCell (Go.Joins.block_setCell h v0) v1) v2) v3
theorem lit_pt {w : World} {P0 P1 P2 : Int} {P3 g : Nat} (hg : w.heap.size = g) : TRow 4 pve Po.zero (w.alloc (.cells #[.int .i64 P0, .int .i64 P1, .int .i64 P2, .int .u32 (P3 : Nat)] 42)) (some ⟨g, 0, none⟩) 1 [(P0, P1, P2, P3)] :=
  trow_lit w _ _ _ hg (fun j v h => by simpa [pve] using h)
end Go.Proofs.YtnoknmnbfkdccaaGreatDoor
