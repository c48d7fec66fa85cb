/- A roster as the program turns it: where it lies, what is kept; doSeg, doMark, doBase. -/
import Derived.Test.YtfogodbbgbnhkaaGreatDoorRH
import Derived.Test.YtfogodbbgbnhkaaGreatDoorRJ
import Derived.Test.YtfogodbbgbnhkaaGreatDoorEJ
import Derived.Deep.QuietTactic
import Derived.BigQuiet
import Derived.Deep.RegionWith
namespace Go.Proofs.YtfogodbbgbnhkaaGreatDoor
open Go.RowKit

theorem ROwn.re {B : Nat} {w : World} {a1 : Option Addr} {n1 c1 : Nat} {a2 : Option Addr} {n2 c2 : Nat} {a3 : Option Addr} {n3 c3 : Nat} {a4 : Option Addr} {n4 c4 : Nat} {r r' : Ro.R} (h : ROwn B w a1 n1 c1 a2 n2 c2 a3 n3 c3 a4 n4 c4 r) (h1 : r'.segs = r.segs) (h2 : r'.moves = r.moves) (h3 : r'.tabs = r.tabs) (h4 : r'.stills = r.stills) : ROwn B w a1 n1 c1 a2 n2 c2 a3 n3 c3 a4 n4 c4 r' := ⟨h1 ▸ h.o1, h2 ▸ h.o2, h3 ▸ h.o3, h4 ▸ h.o4⟩
/-- a roster in a box, its rows the call's own -/
structure RSt (B p : Nat) (w : World) (r : Ro.R) (a1 : Option Addr) (n1 c1 : Nat) (a2 : Option Addr) (n2 c2 : Nat) (a3 : Option Addr) (n3 c3 : Nat) (a4 : Option Addr) (n4 c4 : Nat) : Prop where
  box : w.heap[p]? = some (.cells #[.slice a1 n1 c1, .slice a2 n2 c2, .slice a3 n3 c3, .slice a4 n4 c4, .int .i64 r.log, .int .i64 r.index, .int .i64 r.term, .int .i64 r.ht, .int .i64 r.hv, .int .i64 r.hc, .int .i64 r.mark] 34 (0, 0))
  own : ROwn B w a1 n1 c1 a2 n2 c2 a3 n3 c3 a4 n4 c4 r
  lo : B ≤ p
def RHas (B p : Nat) (w : World) (r : Ro.R) : Prop := ∃ a1 n1 c1 a2 n2 c2 a3 n3 c3 a4 n4 c4, RSt B p w r a1 n1 c1 a2 n2 c2 a3 n3 c3 a4 n4 c4
/-- other boxes of rosters stay -/
def RKeep (p : Nat) (w w' : World) : Prop := ∀ k cs fz, k ≠ p → w.heap[k]? = some (.cells cs 34 fz) → w'.heap[k]? = some (.cells cs 34 fz)
theorem RKeep.below {p : Nat} {w w' : World} (h : Below w.heap.size w w') : RKeep p w w' := fun k _ _ _ hk => (h.block k (ob_ltB hk)).trans hk
theorem RKeep.trans {p : Nat} {a b c : World} (h : RKeep p a b) (g : RKeep p b c) : RKeep p a c := fun k cs fz hk h1 => g k cs fz hk (h k cs fz hk h1)
theorem RKeep.row {p B e s n : Nat} {w w' : World} {v : Value} {xs : List Value} (hg : w.grownBy w' v.ownBlock) (ho : w.ownsRow B e s v n xs) (hne : 34 ≠ e) : RKeep p w w' := fun k _ _ _ h => (hg.block k (ob_ltB h) (obr_apart h ho hne)).trans h
theorem RKeep.set {p : Nat} (w : World) (i : Nat) (v : Value) : RKeep p w (w.setCell ⟨p, i, none⟩ v) := fun k _ _ hk h => (Below.heap_setCell w ⟨p, i, none⟩ v k hk).trans h
theorem RSt.below {B p : Nat} {w w' : World} {r : Ro.R} {a1 : Option Addr} {n1 c1 : Nat} {a2 : Option Addr} {n2 c2 : Nat} {a3 : Option Addr} {n3 c3 : Nat} {a4 : Option Addr} {n4 c4 : Nat} (h : RSt B p w r a1 n1 c1 a2 n2 c2 a3 n3 c3 a4 n4 c4) (hb : Below w.heap.size w w') : RSt B p w' r a1 n1 c1 a2 n2 c2 a3 n3 c3 a4 n4 c4 := ⟨(hb.block _ (ob_ltB h.box)).trans h.box, h.own.kept hb, h.lo⟩
theorem RHas.below {B p : Nat} {w w' : World} {r : Ro.R} (h : RHas B p w r) (hb : Below w.heap.size w w') : RHas B p w' r := by
  obtain ⟨a1, n1, c1, a2, n2, c2, a3, n3, c3, a4, n4, c4, h⟩ := h
  exact ⟨a1, n1, c1, a2, n2, c2, a3, n3, c3, a4, n4, c4, h.below hb⟩
/-- what an edit done leaves -/
def DoRes (B p : Nat) (w : World) (ok : Bool) (x : Ro.R) (e : Ending) (w' : World) : Prop := e = .returned (.bool ok) ∧ (ok = true → RHas B p w' x) ∧ Below B w w' ∧ RKeep p w w'
theorem belowB {B : Nat} {w w' : World} (h : Below w.heap.size w w') (hB : B ≤ w.heap.size) : Below B w w' := h.mono hB
/-- a row of it turned, and laid into the box -/
theorem RSt.turn1 {B p : Nat} {w w' : World} {r : Ro.R} {a1 : Option Addr} {n1 c1 : Nat} {a2 : Option Addr} {n2 c2 : Nat} {a3 : Option Addr} {n3 c3 : Nat} {a4 : Option Addr} {n4 c4 : Nat} {a' : Option Addr} {n' c' : Nat} {l' : List Int} (h : RSt B p w r a1 n1 c1 a2 n2 c2 a3 n3 c3 a4 n4 c4) (hB : B ≤ w.heap.size) (hg : w.grownBy w' (Value.slice a1 n1 c1).ownBlock) (ho : w'.ownsRow B 3 1 (.slice a' n' c') n' (tcells ze l')) :
    w'.heap[p]? = some (.cells #[.slice a1 n1 c1, .slice a2 n2 c2, .slice a3 n3 c3, .slice a4 n4 c4, .int .i64 r.log, .int .i64 r.index, .int .i64 r.term, .int .i64 r.ht, .int .i64 r.hv, .int .i64 r.hc, .int .i64 r.mark] 34 (0, 0)) ∧ RSt B p (w'.setCell ⟨p, 0, none⟩ (.slice a' n' c')) { r with segs := l' } a' n' c' a2 n2 c2 a3 n3 c3 a4 n4 c4 ∧ RKeep p w (w'.setCell ⟨p, 0, none⟩ (.slice a' n' c')) ∧ Below B w (w'.setCell ⟨p, 0, none⟩ (.slice a' n' c')) := by
  have hb := (hg.block p (ob_ltB h.box) (obr_apart h.box h.own.o1 (by decide))).trans h.box
  have ho2 : ROwn B w' a' n' c' a2 n2 c2 a3 n3 c3 a4 n4 c4 { r with segs := l' } := ⟨ho, h.own.o2.kept hg (own_apart h.own.o2 h.own.o1 (by decide)), h.own.o3.kept hg (own_apart h.own.o3 h.own.o1 (by decide)), h.own.o4.kept hg (own_apart h.own.o4 h.own.o1 (by decide))⟩
  have hbx : (w'.setCell ⟨p, 0, none⟩ (.slice a' n' c')).heap[p]? = some (.cells #[.slice a' n' c', .slice a2 n2 c2, .slice a3 n3 c3, .slice a4 n4 c4, .int .i64 r.log, .int .i64 r.index, .int .i64 r.term, .int .i64 r.ht, .int .i64 r.hv, .int .i64 r.hc, .int .i64 r.mark] 34 (0, 0)) := bput hb _ rfl
  refine ⟨hb, ⟨hbx, ho2.other hb (turned_set w' p 0 (.slice a' n' c')), h.lo⟩, (RKeep.row hg h.own.o1 (by decide)).trans (RKeep.set w' 0 _), ?_⟩
  refine below_putB ((Below.refl B w).grown hg hB (fun k hk => own_base h.own.o1 hk)) h.lo _ _
/-- a row of it turned, and laid into the box -/
theorem RSt.turn2 {B p : Nat} {w w' : World} {r : Ro.R} {a1 : Option Addr} {n1 c1 : Nat} {a2 : Option Addr} {n2 c2 : Nat} {a3 : Option Addr} {n3 c3 : Nat} {a4 : Option Addr} {n4 c4 : Nat} {a' : Option Addr} {n' c' : Nat} {l' : List (Int × Int)} (h : RSt B p w r a1 n1 c1 a2 n2 c2 a3 n3 c3 a4 n4 c4) (hB : B ≤ w.heap.size) (hg : w.grownBy w' (Value.slice a2 n2 c2).ownBlock) (ho : w'.ownsRow B 64 2 (.slice a' n' c') n' (tcells me l')) :
    w'.heap[p]? = some (.cells #[.slice a1 n1 c1, .slice a2 n2 c2, .slice a3 n3 c3, .slice a4 n4 c4, .int .i64 r.log, .int .i64 r.index, .int .i64 r.term, .int .i64 r.ht, .int .i64 r.hv, .int .i64 r.hc, .int .i64 r.mark] 34 (0, 0)) ∧ RSt B p (w'.setCell ⟨p, 1, none⟩ (.slice a' n' c')) { r with moves := l' } a1 n1 c1 a' n' c' a3 n3 c3 a4 n4 c4 ∧ RKeep p w (w'.setCell ⟨p, 1, none⟩ (.slice a' n' c')) ∧ Below B w (w'.setCell ⟨p, 1, none⟩ (.slice a' n' c')) := by
  have hb := (hg.block p (ob_ltB h.box) (obr_apart h.box h.own.o2 (by decide))).trans h.box
  have ho2 : ROwn B w' a1 n1 c1 a' n' c' a3 n3 c3 a4 n4 c4 { r with moves := l' } := ⟨h.own.o1.kept hg (own_apart h.own.o1 h.own.o2 (by decide)), ho, h.own.o3.kept hg (own_apart h.own.o3 h.own.o2 (by decide)), h.own.o4.kept hg (own_apart h.own.o4 h.own.o2 (by decide))⟩
  have hbx : (w'.setCell ⟨p, 1, none⟩ (.slice a' n' c')).heap[p]? = some (.cells #[.slice a1 n1 c1, .slice a' n' c', .slice a3 n3 c3, .slice a4 n4 c4, .int .i64 r.log, .int .i64 r.index, .int .i64 r.term, .int .i64 r.ht, .int .i64 r.hv, .int .i64 r.hc, .int .i64 r.mark] 34 (0, 0)) := bput hb _ rfl
  refine ⟨hb, ⟨hbx, ho2.other hb (turned_set w' p 1 (.slice a' n' c')), h.lo⟩, (RKeep.row hg h.own.o2 (by decide)).trans (RKeep.set w' 1 _), ?_⟩
  refine below_putB ((Below.refl B w).grown hg hB (fun k hk => own_base h.own.o2 hk)) h.lo _ _
/-- a row of it turned, and laid into the box -/
theorem RSt.turn3 {B p : Nat} {w w' : World} {r : Ro.R} {a1 : Option Addr} {n1 c1 : Nat} {a2 : Option Addr} {n2 c2 : Nat} {a3 : Option Addr} {n3 c3 : Nat} {a4 : Option Addr} {n4 c4 : Nat} {a' : Option Addr} {n' c' : Nat} {l' : List Lv.T} (h : RSt B p w r a1 n1 c1 a2 n2 c2 a3 n3 c3 a4 n4 c4) (hB : B ≤ w.heap.size) (hg : w.grownBy w' (Value.slice a3 n3 c3).ownBlock) (ho : w'.ownsRow B 50 5 (.slice a' n' c') n' (tcells le l')) :
    w'.heap[p]? = some (.cells #[.slice a1 n1 c1, .slice a2 n2 c2, .slice a3 n3 c3, .slice a4 n4 c4, .int .i64 r.log, .int .i64 r.index, .int .i64 r.term, .int .i64 r.ht, .int .i64 r.hv, .int .i64 r.hc, .int .i64 r.mark] 34 (0, 0)) ∧ RSt B p (w'.setCell ⟨p, 2, none⟩ (.slice a' n' c')) { r with tabs := l' } a1 n1 c1 a2 n2 c2 a' n' c' a4 n4 c4 ∧ RKeep p w (w'.setCell ⟨p, 2, none⟩ (.slice a' n' c')) ∧ Below B w (w'.setCell ⟨p, 2, none⟩ (.slice a' n' c')) := by
  have hb := (hg.block p (ob_ltB h.box) (obr_apart h.box h.own.o3 (by decide))).trans h.box
  have ho2 : ROwn B w' a1 n1 c1 a2 n2 c2 a' n' c' a4 n4 c4 { r with tabs := l' } := ⟨h.own.o1.kept hg (own_apart h.own.o1 h.own.o3 (by decide)), h.own.o2.kept hg (own_apart h.own.o2 h.own.o3 (by decide)), ho, h.own.o4.kept hg (own_apart h.own.o4 h.own.o3 (by decide))⟩
  have hbx : (w'.setCell ⟨p, 2, none⟩ (.slice a' n' c')).heap[p]? = some (.cells #[.slice a1 n1 c1, .slice a2 n2 c2, .slice a' n' c', .slice a4 n4 c4, .int .i64 r.log, .int .i64 r.index, .int .i64 r.term, .int .i64 r.ht, .int .i64 r.hv, .int .i64 r.hc, .int .i64 r.mark] 34 (0, 0)) := bput hb _ rfl
  refine ⟨hb, ⟨hbx, ho2.other hb (turned_set w' p 2 (.slice a' n' c')), h.lo⟩, (RKeep.row hg h.own.o3 (by decide)).trans (RKeep.set w' 2 _), ?_⟩
  refine below_putB ((Below.refl B w).grown hg hB (fun k hk => own_base h.own.o3 hk)) h.lo _ _
/-- a row of it turned, and laid into the box -/
theorem RSt.turn4 {B p : Nat} {w w' : World} {r : Ro.R} {a1 : Option Addr} {n1 c1 : Nat} {a2 : Option Addr} {n2 c2 : Nat} {a3 : Option Addr} {n3 c3 : Nat} {a4 : Option Addr} {n4 c4 : Nat} {a' : Option Addr} {n' c' : Nat} {l' : List (Int × Int × Int)} (h : RSt B p w r a1 n1 c1 a2 n2 c2 a3 n3 c3 a4 n4 c4) (hB : B ≤ w.heap.size) (hg : w.grownBy w' (Value.slice a4 n4 c4).ownBlock) (ho : w'.ownsRow B 66 3 (.slice a' n' c') n' (tcells ke l')) :
    w'.heap[p]? = some (.cells #[.slice a1 n1 c1, .slice a2 n2 c2, .slice a3 n3 c3, .slice a4 n4 c4, .int .i64 r.log, .int .i64 r.index, .int .i64 r.term, .int .i64 r.ht, .int .i64 r.hv, .int .i64 r.hc, .int .i64 r.mark] 34 (0, 0)) ∧ RSt B p (w'.setCell ⟨p, 3, none⟩ (.slice a' n' c')) { r with stills := l' } a1 n1 c1 a2 n2 c2 a3 n3 c3 a' n' c' ∧ RKeep p w (w'.setCell ⟨p, 3, none⟩ (.slice a' n' c')) ∧ Below B w (w'.setCell ⟨p, 3, none⟩ (.slice a' n' c')) := by
  have hb := (hg.block p (ob_ltB h.box) (obr_apart h.box h.own.o4 (by decide))).trans h.box
  have ho2 : ROwn B w' a1 n1 c1 a2 n2 c2 a3 n3 c3 a' n' c' { r with stills := l' } := ⟨h.own.o1.kept hg (own_apart h.own.o1 h.own.o4 (by decide)), h.own.o2.kept hg (own_apart h.own.o2 h.own.o4 (by decide)), h.own.o3.kept hg (own_apart h.own.o3 h.own.o4 (by decide)), ho⟩
  have hbx : (w'.setCell ⟨p, 3, none⟩ (.slice a' n' c')).heap[p]? = some (.cells #[.slice a1 n1 c1, .slice a2 n2 c2, .slice a3 n3 c3, .slice a' n' c', .int .i64 r.log, .int .i64 r.index, .int .i64 r.term, .int .i64 r.ht, .int .i64 r.hv, .int .i64 r.hc, .int .i64 r.mark] 34 (0, 0)) := bput hb _ rfl
  refine ⟨hb, ⟨hbx, ho2.other hb (turned_set w' p 3 (.slice a' n' c')), h.lo⟩, (RKeep.row hg h.own.o4 (by decide)).trans (RKeep.set w' 3 _), ?_⟩
  refine below_putB ((Below.refl B w).grown hg hB (fun k hk => own_base h.own.o4 hk)) h.lo _ _

set_option maxRecDepth 100000 in
set_option maxHeartbeats 1000000 in
theorem rdomark_any (B p : Nat) (s : List Int) (ms : List (Int × Int)) (ts : List Lv.T) (ks : List (Int × Int × Int)) (a1 : Option Addr) (n1 c1 : Nat) (a2 : Option Addr) (n2 c2 : Nat) (a3 : Option Addr) (n3 c3 : Nat) (a4 : Option Addr) (n4 c4 : Nat) (i1 i2 i3 i4 i5 i6 i7 : Int) (w : World) (h : RSt B p w ⟨s, ms, ts, ks, i1, i2, i3, i4, i5, i6, i7⟩ a1 n1 c1 a2 n2 c2 a3 n3 c3 a4 n4 c4) (z : Int) :
    Calls Tryz.prog 80 #[.pointer (some ⟨p, 0, none⟩), .int .i64 z] w (DoRes B p w (!decide (z < i7)) ⟨s, ms, ts, ks, i1, i2, i3, i4, i5, i6, z⟩) := by
  have hx := (blkc h.box).1
  have hf := (blkc h.box).2 10
  have x10 := hx 10
  have HB : Hid (w.heap[p]? = _) := h.box
  have HO : Hid (ROwn B w a1 n1 c1 a2 n2 c2 a3 n3 c3 a4 n4 c4 ⟨s, ms, ts, ks, i1, i2, i3, i4, i5, i6, i7⟩) := h.own
  have HLO : Hid (B ≤ p) := h.lo
  clear hx h
  by_cases hz : z < i7
  · have d : decide (z < i7) = true := by simpa using hz
    rw [d]
    go_enter Tryz.func80, Tryz.ntmps80
    go_wp2
    go_ret
    exact ⟨rfl, fun h => (by cases h), Below.refl _ _, RKeep.below (Below.refl _ _)⟩
  · have d : decide (z < i7) = false := by simpa using hz
    rw [d]
    go_enter Tryz.func80, Tryz.ntmps80
    go_wp2
    go_ret
    exact ⟨rfl, fun _ => ⟨a1, n1, c1, a2, n2, c2, a3, n3, c3, a4, n4, c4, bput HB.out _ rfl, (HO.out.other HB.out (turned_set w p 10 _)).re rfl rfl rfl rfl, HLO.out⟩, below_putB (Below.refl _ _) HLO.out _ _, RKeep.set _ _ _⟩

set_option maxRecDepth 100000 in
set_option maxHeartbeats 2000000 in
theorem rdoseg_any (B p : Nat) (s : List Int) (ms : List (Int × Int)) (ts : List Lv.T) (ks : List (Int × Int × Int)) (a1 : Option Addr) (n1 c1 : Nat) (a2 : Option Addr) (n2 c2 : Nat) (a3 : Option Addr) (n3 c3 : Nat) (a4 : Option Addr) (n4 c4 : Nat) (i1 i2 i3 i4 i5 i6 i7 : Int) (w : World) (h : RSt B p w ⟨s, ms, ts, ks, i1, i2, i3, i4, i5, i6, i7⟩ a1 n1 c1 a2 n2 c2 a3 n3 c3 a4 n4 c4) (hB : B ≤ w.heap.size) (hn1 : n1 ≤ 100000) (hn2 : n2 ≤ 100000) (z : Int) (R : Bool) (hR : R = (!decide (z ≤ Ro.lastOf s) && !decide (z ≤ Ro.lastOf (ms.map (·.1))))) :
    Calls Tryz.prog 70 #[.pointer (some ⟨p, 0, none⟩), .int .i64 z] w (DoRes B p w R ⟨s ++ [z], ms, ts, ks, i1, i2, i3, i4, i5, i6, i7⟩) := by
  have HV : Hid (∀ W, Below w.heap.size w W → RSt B p W ⟨s, ms, ts, ks, i1, i2, i3, i4, i5, i6, i7⟩ a1 n1 c1 a2 n2 c2 a3 n3 c3 a4 n4 c4) := (fun W hb => h.below hb : ∀ W, _ → _)
  have HC : Hid (∀ W, Below w.heap.size w W → (W.cell? ⟨p, 0, none⟩ = some (.slice a1 n1 c1) ∧ W.cell? ⟨p, 1, none⟩ = some (.slice a2 n2 c2))) := (fun W hb => by
    have hx := (blkc (HV.out W hb).box).1
    exact ⟨hx 0, hx 1⟩ : ∀ W, _ → _)
  obtain ⟨x0, x1⟩ := HC.out w (Below.refl _ _)
  obtain ⟨L1, hL1⟩ : ∃ L1, L1 = Ro.lastOf s := ⟨_, rfl⟩
  obtain ⟨L2, hL2⟩ : ∃ L2, L2 = Ro.lastOf (ms.map (·.1)) := ⟨_, rfl⟩
  have hla := fun W hb => rlast_any a1 n1 c1 s W (by omega) (trow_of_owns zeE (HV.out W hb).own.o1 (by omega) (by omega)) L1 hL1
  have hlm := fun W hb => rlastm_any a2 n2 c2 ms W (by omega) (trow_of_owns meE (HV.out W hb).own.o2 (by omega) (by omega)) L2 hL2
  rw [← hL1, ← hL2] at hR
  clear hL1 hL2 h
  by_cases h1 : z ≤ L1
  · have d1 : decide (z ≤ L1) = true := by simpa using h1
    obtain rfl : R = false := by rw [hR, d1]; rfl
    clear hR h1
    go_enter Tryz.func70, Tryz.ntmps70
    go_wp2_with (go_at_call 113; go_must (refine (hla _ (Below.refl _ _)).mono ?_; rintro e w1 ⟨rfl, hb1⟩; obtain ⟨y0, y1⟩ := HC.out w1 hb1))
    go_ret
    exact ⟨rfl, fun h => (by cases h), belowB hb1 hB, RKeep.below hb1⟩
  · have d1 : decide (z ≤ L1) = false := by simpa using h1
    by_cases h2 : z ≤ L2
    · have d2 : decide (z ≤ L2) = true := by simpa using h2
      obtain rfl : R = false := by rw [hR, d1, d2]; rfl
      clear hR h1 h2
      go_enter Tryz.func70, Tryz.ntmps70
      go_wp2_with (first
        | (go_at_call 113; go_must (refine (hla _ (Below.refl _ _)).mono ?_; rintro e w1 ⟨rfl, hb1⟩; obtain ⟨y0, y1⟩ := HC.out w1 hb1))
        | (go_at_call 127; go_must (refine (hlm _ hb1).mono ?_; rintro e w2 ⟨rfl, hb2⟩; have hb3 := hb1.trans (hb2.mono hb1.size))))
      go_ret
      exact ⟨rfl, fun h => (by cases h), belowB hb3 hB, RKeep.below hb3⟩
    · have d2 : decide (z ≤ L2) = false := by simpa using h2
      obtain rfl : R = true := by rw [hR, d1, d2]; rfl
      clear hR h1 h2
      go_enter Tryz.func70, Tryz.ntmps70
      go_wp2_with (first
        | (go_at_call 113; go_must (refine (hla _ (Below.refl _ _)).mono ?_; rintro e w1 ⟨rfl, hb1⟩; obtain ⟨y0, y1⟩ := HC.out w1 hb1))
        | (go_at_call 127; go_must (refine (hlm _ hb1).mono ?_; rintro e w2 ⟨rfl, hb2⟩; have hb3 := hb1.trans (hb2.mono hb1.size); obtain ⟨z0, z1⟩ := HC.out w2 hb3; have hS3 := HV.out w2 hb3; have hb4 := hb3.alloc hb3.size (.cells #[.int .i64 z] 3); have hS4 := HV.out _ hb4; obtain ⟨v0, v1⟩ := HC.out _ hb4; have hlit := trow_lit (s := 1) (enc := ze) (d := 0) w2 #[.int .i64 z] 3 z (g := w2.heap.size) rfl (fun j v hj => by simpa [ze] using hj)))
        | (at_builtin; go_must (refine append_tg intZ zeE (w0 := w) (B := B) rfl (.tmp 25) (.tmp 27) rfl _ n1 s rfl hS4.own.o1 (some ⟨w2.heap.size, 0, none⟩) 1 1 [z] rfl hlit (fun h => by cases h) (by omega) (belowB hb4 hB) (Nat.le_trans hB hb4.size) ?_; intro a6 c6 w6 hg6 _ _ _ hown6 hb6 _; obtain ⟨bx6, st6, kp6, be6⟩ := hS4.turn1 (Nat.le_trans hB hb4.size) hg6 hown6; have u0 := (blkc bx6).1 0; have uf := (blkc bx6).2 0; have ST6 : Hid (RSt B p _ _ a6 (n1 + 1) c6 a2 n2 c2 a3 n3 c3 a4 n4 c4) := st6; clear st6 bx6)))
      go_ret
      exact ⟨rfl, fun _ => ⟨a6, (n1 + 1), c6, a2, n2, c2, a3, n3, c3, a4, n4, c4, ST6.out⟩, (belowB hb4 hB).trans be6, (RKeep.below hb4).trans kp6⟩

set_option maxRecDepth 100000 in
set_option maxHeartbeats 2000000 in
theorem rdobase_any (B p : Nat) (s : List Int) (ms : List (Int × Int)) (ts : List Lv.T) (ks : List (Int × Int × Int)) (a1 : Option Addr) (n1 c1 : Nat) (a2 : Option Addr) (n2 c2 : Nat) (a3 : Option Addr) (n3 c3 : Nat) (a4 : Option Addr) (n4 c4 : Nat) (i1 i2 i3 i4 i5 i6 i7 : Int) (w : World) (h : RSt B p w ⟨s, ms, ts, ks, i1, i2, i3, i4, i5, i6, i7⟩ a1 n1 c1 a2 n2 c2 a3 n3 c3 a4 n4 c4) (hB : B ≤ w.heap.size) (e1 e2 e3 e4 e5 e6 e7 e8 e9 e10 : Int) (f g : ByteArray) (R : Bool) (hR : R = (!decide (e2 < i1) && !decide (e3 < i2))) :
    Calls Tryz.prog 79 #[.pointer (some ⟨p, 0, none⟩), ed12 e1 e2 e3 e4 e5 e6 e7 e8 e9 e10 f g] w (DoRes B p w R ⟨s, ms, ts, ks, e2, e3, e4, e5, e6, e7, i7⟩) := by
  obtain ⟨U, hU⟩ : ∃ U, U = w.alloc (oed e1 e2 e3 e4 e5 e6 e7 e8 e9 e10 f g) := ⟨_, rfl⟩
  have hbU : Below w.heap.size w U := by rw [hU]; exact below_alloc _ _
  have hq : U.heap[w.heap.size]? = some (oed e1 e2 e3 e4 e5 e6 e7 e8 e9 e10 f g) := by rw [hU]; exact heap_alloc_new _ _
  have hS := h.below hbU
  have hx := (blkc hS.box).1
  have hf := (blkc hS.box).2
  have hy := (blkc hq).1
  have x4 := hx 4
  have x5 := hx 5
  have x6 := hx 6
  have x7 := hx 7
  have x8 := hx 8
  have x9 := hx 9
  have f4 := hf 4
  have f5 := hf 5
  have f6 := hf 6
  have f7 := hf 7
  have f8 := hf 8
  have f9 := hf 9
  have y1 := hy 1
  have y2 := hy 2
  have y3 := hy 3
  have y4 := hy 4
  have y5 := hy 5
  have y6 := hy 6
  have hpw : ¬ (p = w.heap.size) := by have := ob_ltB h.box; omega
  have HS : Hid (RSt B p U ⟨s, ms, ts, ks, i1, i2, i3, i4, i5, i6, i7⟩ a1 n1 c1 a2 n2 c2 a3 n3 c3 a4 n4 c4) := hS
  have HU : Hid (Below w.heap.size w U) := hbU
  have hUe : w.alloc (oed e1 e2 e3 e4 e5 e6 e7 e8 e9 e10 f g) = U := hU.symm
  clear hx hf hy hU hq h hS hbU
  by_cases h1 : e2 < i1
  · have d1 : decide (e2 < i1) = true := by simpa using h1
    obtain rfl : R = false := by rw [hR, d1]; rfl
    clear hR h1
    go_enter Tryz.func79, Tryz.ntmps79
    go_wp2_with fail
    clear hUe
    go_quiet (fail)
    go_wp2
    go_ret
    exact ⟨rfl, fun h => (by cases h), belowB (HU.out.trans (below_drewN _ _ _)) hB, RKeep.below (HU.out.trans (below_drewN _ _ _))⟩
  · have d1 : decide (e2 < i1) = false := by simpa using h1
    by_cases h2 : e3 < i2
    · have d2 : decide (e3 < i2) = true := by simpa using h2
      obtain rfl : R = false := by rw [hR, d1, d2]; rfl
      clear hR h1 h2
      go_enter Tryz.func79, Tryz.ntmps79
      go_wp2_with fail
      clear hUe
      go_quiet (fail)
      go_wp2
      go_ret
      exact ⟨rfl, fun h => (by cases h), belowB (HU.out.trans (below_drewN _ _ _)) hB, RKeep.below (HU.out.trans (below_drewN _ _ _))⟩
    · have d2 : decide (e3 < i2) = false := by simpa using h2
      obtain rfl : R = true := by rw [hR, d1, d2]; rfl
      clear hR h1 h2
      go_enter Tryz.func79, Tryz.ntmps79
      go_wp2_with fail
      clear hUe
      go_quiet (fail)
      go_wp2_with fail
      go_region
      have hS9 := HS.out.below (below_drewN U.heap.size U (nq + 1))
      have hb9 := HU.out.trans (below_drewN w.heap.size U (nq + 1))
      generalize U.drewN (nq + 1) = V at *
      have B0 : (V.setCell ⟨p, 4, none⟩ (.int .i64 e2)).heap[p]? = some (.cells #[.slice a1 n1 c1, .slice a2 n2 c2, .slice a3 n3 c3, .slice a4 n4 c4, .int .i64 e2, .int .i64 i2, .int .i64 i3, .int .i64 i4, .int .i64 i5, .int .i64 i6, .int .i64 i7] 34 (0, 0)) := bput hS9.box _ rfl
      have B1 : ((V.setCell ⟨p, 4, none⟩ (.int .i64 e2)).setCell ⟨p, 5, none⟩ (.int .i64 e3)).heap[p]? = some (.cells #[.slice a1 n1 c1, .slice a2 n2 c2, .slice a3 n3 c3, .slice a4 n4 c4, .int .i64 e2, .int .i64 e3, .int .i64 i3, .int .i64 i4, .int .i64 i5, .int .i64 i6, .int .i64 i7] 34 (0, 0)) := bput B0 _ rfl
      have B2 : (((V.setCell ⟨p, 4, none⟩ (.int .i64 e2)).setCell ⟨p, 5, none⟩ (.int .i64 e3)).setCell ⟨p, 6, none⟩ (.int .i64 e4)).heap[p]? = some (.cells #[.slice a1 n1 c1, .slice a2 n2 c2, .slice a3 n3 c3, .slice a4 n4 c4, .int .i64 e2, .int .i64 e3, .int .i64 e4, .int .i64 i4, .int .i64 i5, .int .i64 i6, .int .i64 i7] 34 (0, 0)) := bput B1 _ rfl
      have B3 : ((((V.setCell ⟨p, 4, none⟩ (.int .i64 e2)).setCell ⟨p, 5, none⟩ (.int .i64 e3)).setCell ⟨p, 6, none⟩ (.int .i64 e4)).setCell ⟨p, 7, none⟩ (.int .i64 e5)).heap[p]? = some (.cells #[.slice a1 n1 c1, .slice a2 n2 c2, .slice a3 n3 c3, .slice a4 n4 c4, .int .i64 e2, .int .i64 e3, .int .i64 e4, .int .i64 e5, .int .i64 i5, .int .i64 i6, .int .i64 i7] 34 (0, 0)) := bput B2 _ rfl
      have B4 : (((((V.setCell ⟨p, 4, none⟩ (.int .i64 e2)).setCell ⟨p, 5, none⟩ (.int .i64 e3)).setCell ⟨p, 6, none⟩ (.int .i64 e4)).setCell ⟨p, 7, none⟩ (.int .i64 e5)).setCell ⟨p, 8, none⟩ (.int .i64 e6)).heap[p]? = some (.cells #[.slice a1 n1 c1, .slice a2 n2 c2, .slice a3 n3 c3, .slice a4 n4 c4, .int .i64 e2, .int .i64 e3, .int .i64 e4, .int .i64 e5, .int .i64 e6, .int .i64 i6, .int .i64 i7] 34 (0, 0)) := bput B3 _ rfl
      have B5 : ((((((V.setCell ⟨p, 4, none⟩ (.int .i64 e2)).setCell ⟨p, 5, none⟩ (.int .i64 e3)).setCell ⟨p, 6, none⟩ (.int .i64 e4)).setCell ⟨p, 7, none⟩ (.int .i64 e5)).setCell ⟨p, 8, none⟩ (.int .i64 e6)).setCell ⟨p, 9, none⟩ (.int .i64 e7)).heap[p]? = some (.cells #[.slice a1 n1 c1, .slice a2 n2 c2, .slice a3 n3 c3, .slice a4 n4 c4, .int .i64 e2, .int .i64 e3, .int .i64 e4, .int .i64 e5, .int .i64 e6, .int .i64 e7, .int .i64 i7] 34 (0, 0)) := bput B4 _ rfl
      have hgr : V.grownBy _ (some p) := turned_setL p [.int .i64 e2, .int .i64 e3, .int .i64 e4, .int .i64 e5, .int .i64 e6, .int .i64 e7] 4 V
      have ho9 := hS9.own.other hS9.box hgr
      have hbF := below_grownB (belowB hb9 hB) hgr (Nat.le_trans hB hb9.size) (fun q hq => by cases hq; exact hS9.lo)
      have hk9 : RKeep p V _ := fun k _ _ hk h => (hgr.block k (ob_ltB h) (fun e => hk (Option.some.inj e))).trans h
      clear x4 x5 x6 x7 x8 x9 f4 f5 f6 f7 f8 f9 y1 y2 y3 y4 y5 y6
      have B9' := B5
      have hKP := (RKeep.below (p := p) hb9).trans hk9
      go_wp2
      go_ret
      exact ⟨rfl, fun _ => ⟨a1, n1, c1, a2, n2, c2, a3, n3, c3, a4, n4, c4, B9', ho9.re rfl rfl rfl rfl, hS9.lo⟩, hbF, hKP⟩
end Go.Proofs.YtfogodbbgbnhkaaGreatDoor

/- The program's do: an edit done to a roster. -/
namespace Go.Proofs.YtfogodbbgbnhkaaGreatDoor
open Go.RowKit

theorem grown_of_drew {W w1 : World} {row : Option Nat} (h : W.drew.grownBy w1 row) : W.grownBy w1 row := ⟨h.os, h.tape, h.output, h.size, h.block⟩
theorem own_drew {W : World} {B e s n : Nat} {v : Value} {xs : List Value} (h : W.ownsRow B e s v n xs) : W.drew.ownsRow B e s v n xs := h
theorem grow_nil (W : World) : Sort.grow W #[] = W := by simp [Sort.grow]

theorem rbs_any (a : Option Addr) (n c B : Nat) (l : List Int) (x : Int) (w : World) (hn : n ≤ 1000000) (hown : w.ownsRow B 3 1 (.slice a n c) n (tcells ze l)) (hp : l.Pairwise (· < ·)) :
    Calls Tryz.prog 128 #[.slice a n c, .int .i64 x] w fun e w' => e = .returned (.tuple #[.int .i64 ((l.countP (· < x) : Nat) : Int), .bool (decide (x ∈ l))]) ∧ Below w.heap.size w w' := by
  have hl : l.length = n := by have := hown.1; rw [tcells_length zeE] at this; omega
  cases n with
  | zero =>
    obtain rfl : l = [] := List.length_eq_zero_iff.mp hl
    refine (Tryz.slices_BinarySearch_int_empty a c x w).mono ?_
    rintro e w' ⟨rfl, rfl⟩
    exact ⟨rfl, Below.refl _ _⟩
  | succ n =>
    obtain ⟨g, rfl⟩ := town_blk hown (by omega)
    have hc : ∀ j, j < l.length → w.cell? ⟨g, 0 + j, none⟩ = some (.int .i64 (l.getD j 0)) := fun j hj => by
      have := tcells_get (d := (0 : Int)) zeE l j 0 hj (by omega)
      have h2 := (own_cells hown this).1
      rw [Nat.mul_one, Nat.add_zero] at h2
      rw [Nat.zero_add]; exact h2
    have ht : l.take (n + 1) = l := List.take_of_length_le (by omega)
    have hh := Tryz.slices_BinarySearch_int g 0 (n + 1) c l x w (by omega) (by omega) hc (by rw [ht]; exact Ro.lt_le hp)
    rw [ht] at hh
    refine hh.mono ?_
    rintro e w' ⟨rfl, q, rfl⟩
    exact ⟨by rw [List.contains_eq_mem], below_drewN _ _ _⟩
theorem rdelz_any (a : Option Addr) (n c B i j : Nat) (l : List Int) (w : World) (hn : n ≤ 1000000) (hown : w.ownsRow B 3 1 (.slice a n c) n (tcells ze l)) (hi : i < n) (hj : j = i + 1) :
    Calls Tryz.prog 129 #[.slice a n c, .int .i64 i, .int .i64 j] w fun e w' => e = .returned (.slice a (n - 1) c) ∧ w'.ownsRow B 3 1 (.slice a (n - 1) c) (n - 1) (tcells ze (l.take i ++ l.drop (i + 1))) ∧ w.grownBy w' (Value.slice a n c).ownBlock := by
  have hl : l.length = n := by have := hown.1; rw [tcells_length zeE] at this; omega
  rcases hown.2 with ⟨e, h0⟩ | ⟨g, cap, cur, e, hBg, hg, h1, h2, h3, h4⟩
  · omega
  · simp only [Value.slice.injEq] at e
    obtain ⟨rfl, _, rfl⟩ := e
    subst hl hj
    rw [← encz_cells, Nat.mul_one] at h4
    refine (Tryz.slices_Delete_int g 0 c i (i + 1) l w (holds_of_block_i hg h4) h1 (by unfold maxLen at h2; omega) (by omega) (by omega)).mono ?_
    rintro e w' ⟨rfl, q, rfl⟩
    have e1 : i + 1 - i = 1 := by omega
    rw [e1]
    have hs : (l.take i ++ l.drop (i + 1) ++ List.replicate 1 0).length = l.length := by simp; omega
    have ho := ownsRow_sorted_i (base := B) (n := q) (os := #[]) hs hBg hg h1 h2 h3
    rw [grow_nil] at ho
    have hgr := grownBy_sorted_i (w := w) (g := g) (n := q) (os := #[]) (l.take i ++ l.drop (i + 1) ++ List.replicate 1 0).toArray
    rw [grow_nil] at hgr
    have ht := own_take ho (m := l.length - 1) (by omega)
    have hm : ((l.take i ++ l.drop (i + 1) ++ List.replicate 1 0).map encZ).take ((l.length - 1) * 1) = tcells ze (l.take i ++ l.drop (i + 1)) := by
      rw [encz_cells, tcells_take_s zeE, List.take_append_of_le_length (by simp; omega), List.take_of_length_le (by simp; omega)]
    rw [hm] at ht
    exact ⟨rfl, ht, hgr⟩
theorem erase_at : ∀ {s : List Int} {x : Int}, s.Pairwise (· < ·) → x ∈ s → s.countP (· < x) < s.length ∧ s.take (s.countP (· < x)) ++ s.drop (s.countP (· < x) + 1) = s.erase x
  | [], _, _, h => by simp at h
  | y :: s, x, hp, h => by
    cases hp with
    | cons h1 h2 =>
      by_cases hxy : y = x
      · subst hxy
        have hz : s.countP (· < y) = 0 := List.countP_eq_zero.mpr (fun z hz => by have := h1 z hz; simp; omega)
        have hc : (y :: s).countP (· < y) = 0 := by rw [List.countP_cons_of_neg (by simp), hz]
        rw [hc]; simp
      · have hm : x ∈ s := by simpa [Ne.symm hxy] using h
        have hlt := h1 x hm
        obtain ⟨g1, g2⟩ := erase_at h2 hm
        have hc : (y :: s).countP (· < x) = s.countP (· < x) + 1 := List.countP_cons_of_pos (by simpa using hlt)
        rw [hc, List.take_succ_cons, List.drop_succ_cons, List.cons_append, g2, List.erase_cons_tail (by simpa using hxy)]
        exact ⟨by simp; omega, rfl⟩

set_option maxRecDepth 100000 in
set_option maxHeartbeats 2000000 in
theorem rdomove_any (B p : Nat) (s : List Int) (ms : List (Int × Int)) (ts : List Lv.T) (ks : List (Int × Int × Int)) (a1 : Option Addr) (n1 c1 : Nat) (a2 : Option Addr) (n2 c2 : Nat) (a3 : Option Addr) (n3 c3 : Nat) (a4 : Option Addr) (n4 c4 : Nat) (i1 i2 i3 i4 i5 i6 i7 : Int) (w : World) (h : RSt B p w ⟨s, ms, ts, ks, i1, i2, i3, i4, i5, i6, i7⟩ a1 n1 c1 a2 n2 c2 a3 n3 c3 a4 n4 c4) (hB : B ≤ w.heap.size) (hn1 : n1 ≤ 100000) (hn2 : n2 ≤ 100000) (hs : s.Pairwise (· < ·)) (hm : (ms.map (·.1)).Pairwise (· ≤ ·)) (x y : Int) :
    Calls Tryz.prog 71 #[.pointer (some ⟨p, 0, none⟩), .agg #[.int .i64 x, .int .i64 y]] w (DoRes B p w (decide (x ∈ s)) ⟨s.erase x, if y = 0 then ms else Ro.ins (·.1) (x, y) ms, ts, ks, i1, i2, i3, i4, i5, i6, i7⟩) := by
  obtain ⟨U, hU⟩ : ∃ U, U = w.alloc (.cells #[.int .i64 x, .int .i64 y] 64) := ⟨_, rfl⟩
  have hbU : Below w.heap.size w U := by rw [hU]; exact below_alloc _ _
  have hq : U.heap[w.heap.size]? = some (.cells #[.int .i64 x, .int .i64 y] 64 (0, 0)) := by rw [hU]; exact heap_alloc_new _ _
  have hS := h.below hbU
  have hpw : ¬ (p = w.heap.size) := by have := ob_ltB h.box; omega
  have HV : Hid (∀ W, Below U.heap.size U W → RSt B p W ⟨s, ms, ts, ks, i1, i2, i3, i4, i5, i6, i7⟩ a1 n1 c1 a2 n2 c2 a3 n3 c3 a4 n4 c4) := (fun W hb => hS.below hb : ∀ W, _ → _)
  have HM : Hid (∀ W, Below U.heap.size U W → W.heap[w.heap.size]? = some (.cells #[.int .i64 x, .int .i64 y] 64 (0, 0))) := (fun W hb => (hb.block _ (ob_ltB hq)).trans hq : ∀ W, _ → _)
  have x0 : U.cell? ⟨p, 0, none⟩ = some (.slice a1 n1 c1) := (blkc hS.box).1 0
  have y0 : U.cell? ⟨w.heap.size, 0, none⟩ = some (.int .i64 x) := (blkc hq).1 0
  have y1 := (blkc hq).1 1
  have hbs := fun W hb => rbs_any a1 n1 c1 B s x W (by omega) (HV.out W hb).own.o1 hs
  have HN : Hid (s.length = n1) := (h.own.len.1 : s.length = n1)
  have HU : Hid (Below w.heap.size w U) := hbU
  have hUe : w.alloc (.cells #[.int .i64 x, .int .i64 y] 64) = U := hU.symm
  have hBU : B ≤ U.heap.size := Nat.le_trans hB hbU.size
  have HE : Hid (x ∈ s → s.countP (· < x) < n1 ∧ s.take (s.countP (· < x)) ++ s.drop (s.countP (· < x) + 1) = s.erase x) := (fun hx => by rw [← HN.out]; exact erase_at hs hx : _ → _)
  generalize s.countP (· < x) = I at *
  clear hq hS hU hbU h hs
  by_cases hx : x ∈ s
  · obtain ⟨hI, hIe⟩ := HE.out hx
    have d : decide (x ∈ s) = true := by simpa using hx
    rw [d] at hbs ⊢
    have HIE : Hid (s.take I ++ s.drop (I + 1) = s.erase x) := hIe
    obtain ⟨J, hJ⟩ : ∃ J, J = I + 1 := ⟨_, rfl⟩
    have hj1 : IntKind.i64.wrap ((I : Int) + 1) = (J : Int) := by rw [IntKind.wrap_i64]; omega
    have hdl := fun W ho => rdelz_any a1 n1 c1 B I J s W (by omega) ho hI hJ
    clear hIe hx HE d hJ
    by_cases hy : y = 0
    · subst hy
      rw [if_pos rfl]
      go_enter Tryz.func71, Tryz.ntmps71
      go_wp2_with fail
      clear hUe
      go_region_held3 (fun W => W.cell? ⟨p, 0, none⟩ = some (.slice a1 n1 c1) ∧ W.cell? ⟨w.heap.size, 0, none⟩ = some (.int .i64 x)) (first | go_keep | (refine ⟨?_, ?_⟩ <;> assumption))
        ((go_at_call 128; go_must (refine (hbs _ (Below.refl _ _).drew).mono ?_; rintro e w1 ⟨rfl, b1⟩; have hb1 := below_of_drew b1; have hS1 := HV.out w1 hb1; have z0 : w1.cell? ⟨p, 0, none⟩ = some (.slice a1 n1 c1) := (blkc hS1.box).1 0; have zz0 : w1.cell? ⟨w.heap.size, 0, none⟩ = some (.int .i64 x) := (blkc (HM.out w1 hb1)).1 0)))
      all_goals
        go_wp2_with (go_at_call 129; go_must (refine (hdl _ hS1.own.o1).mono ?_; rintro e w3 ⟨rfl, hown3, hg3⟩; obtain ⟨bx3, st3, kp3, be3⟩ := hS1.turn1 (Nat.le_trans hBU hb1.size) hg3 hown3; have u0 := (blkc bx3).1 0; have uf := (blkc bx3).2 0; have hm3 := (hg3.block _ (ob_ltB (HM.out w1 hb1)) (obr_apart (HM.out w1 hb1) hS1.own.o1 (by decide))).trans (HM.out w1 hb1); have m1 := (blkc hm3).1 1; have ST3 : Hid (RSt B p _ _ a1 (n1 - 1) c1 a2 n2 c2 a3 n3 c3 a4 n4 c4) := st3; clear st3 bx3 hm3))
        go_ret
        rw [HIE.out] at ST3
        exact ⟨rfl, fun _ => ⟨a1, n1 - 1, c1, a2, n2, c2, a3, n3, c3, a4, n4, c4, ST3.out⟩, ((belowB HU.out hB).trans (belowB hb1 hBU)).trans be3, ((RKeep.below HU.out).trans (RKeep.below hb1)).trans kp3⟩
    · rw [if_neg hy]
      have hyb : (y == 0) = false := by simpa using hy
      have ham := fun W ho hW => ramong_m (·.1) 73 (by intro args w; rfl) (fun x y W => rmseg_any x y W) x y a2 n2 c2 B ms W (by omega) ho hW hm
      unfold InsResG at ham
      generalize Ro.ins (·.1) (x, y) ms = L at *
      clear hy hm
      go_enter Tryz.func71, Tryz.ntmps71
      go_wp2_with fail
      clear hUe
      go_region_held3 (fun W => W.cell? ⟨p, 0, none⟩ = some (.slice a1 n1 c1) ∧ W.cell? ⟨w.heap.size, 0, none⟩ = some (.int .i64 x)) (first | go_keep | (refine ⟨?_, ?_⟩ <;> assumption))
        ((go_at_call 128; go_must (refine (hbs _ (Below.refl _ _).drew).mono ?_; rintro e w1 ⟨rfl, b1⟩; have hb1 := below_of_drew b1; have hS1 := HV.out w1 hb1; have z0 : w1.cell? ⟨p, 0, none⟩ = some (.slice a1 n1 c1) := (blkc hS1.box).1 0; have zz0 : w1.cell? ⟨w.heap.size, 0, none⟩ = some (.int .i64 x) := (blkc (HM.out w1 hb1)).1 0)))
      all_goals
        go_wp2_with (go_at_call 129; go_must (refine (hdl _ hS1.own.o1).mono ?_; rintro e w3 ⟨rfl, hown3, hg3⟩; obtain ⟨bx3, st3, kp3, be3⟩ := hS1.turn1 (Nat.le_trans hBU hb1.size) hg3 hown3; have u0 := (blkc bx3).1 0; have uf := (blkc bx3).2 0; have u1 := (blkc bx3).1 1; have hm3 := (hg3.block _ (ob_ltB (HM.out w1 hb1)) (obr_apart (HM.out w1 hb1) hS1.own.o1 (by decide))).trans (HM.out w1 hb1); have m1 := (blkc hm3).1 1; have m0 := (blkc hm3).1 0; have ST3 : Hid (RSt B p _ _ a1 (n1 - 1) c1 a2 n2 c2 a3 n3 c3 a4 n4 c4) := st3; clear st3 bx3 hm3))
        have hB3 : B ≤ (w3.setCell ⟨p, 0, none⟩ (.slice a1 (n1 - 1) c1)).heap.size := Nat.le_trans hB (((belowB HU.out hB).trans (belowB hb1 hBU)).trans be3).size
        have hb33 := ((belowB HU.out hB).trans (belowB hb1 hBU)).trans be3
        have hk33 := ((RKeep.below (p := p) HU.out).trans (RKeep.below hb1)).trans kp3
        have v1 := (blkc ST3.out.box).1 1
        have v0 : (w3.setCell ⟨p, 0, none⟩ (.slice a1 (n1 - 1) c1)).cell? ⟨w.heap.size, 0, none⟩ = some (.int .i64 x) := (World.cell?_setCell_other _ _ _ _ (fun e => hpw (Addr.mk.inj e).1)).trans m0
        have v2 : (w3.setCell ⟨p, 0, none⟩ (.slice a1 (n1 - 1) c1)).cell? ⟨w.heap.size, 1, none⟩ = some (.int .i64 y) := (World.cell?_setCell_other _ _ _ _ (fun e => hpw (Addr.mk.inj e).1)).trans m1
        clear u0 uf u1 m0 m1 z0 hown3 hg3 kp3 be3
        generalize w3.setCell ⟨p, 0, none⟩ (.slice a1 (n1 - 1) c1) = V at *
        go_region_with
          ((go_at_call 130; go_must (refine (ham _ (own_drew ST3.out.own.o2) hB3).mono ?_; rintro e w5 ⟨a', c', rfl, hown5, hg5⟩; obtain ⟨bx5, st5, kp5, be5⟩ := ST3.out.turn2 hB3 (grown_of_drew hg5) hown5; have u1 := (blkc bx5).1 1; have uf := (blkc bx5).2 1; have ST5 : Hid (RSt B p _ _ a1 (n1 - 1) c1 a' L.length c' a3 n3 c3 a4 n4 c4) := st5; clear st5 bx5)))
        all_goals
          go_wp2
          go_ret
          rw [HIE.out] at ST5
          exact ⟨rfl, fun _ => ⟨a1, n1 - 1, c1, a', L.length, c', a3, n3, c3, a4, n4, c4, ST5.out⟩, hb33.trans be5, hk33.trans kp5⟩
  · have d : decide (x ∈ s) = false := by simpa using hx
    rw [d] at hbs ⊢
    generalize (if y = 0 then ms else Ro.ins (·.1) (x, y) ms) = MM at *
    clear hx HE d
    go_enter Tryz.func71, Tryz.ntmps71
    go_wp2_with fail
    clear hUe
    go_region_held3 (fun W => W.cell? ⟨p, 0, none⟩ = some (.slice a1 n1 c1) ∧ W.cell? ⟨w.heap.size, 0, none⟩ = some (.int .i64 x)) (first | go_keep | (refine ⟨?_, ?_⟩ <;> assumption))
      ((go_at_call 128; go_must (refine (hbs _ (Below.refl _ _).drew).mono ?_; rintro e w1 ⟨rfl, b1⟩; have hb1 := below_of_drew b1; have hS1 := HV.out w1 hb1; have z0 : w1.cell? ⟨p, 0, none⟩ = some (.slice a1 n1 c1) := (blkc hS1.box).1 0; have zz0 : w1.cell? ⟨w.heap.size, 0, none⟩ = some (.int .i64 x) := (blkc (HM.out w1 hb1)).1 0)))
    all_goals
      go_wp2
      go_ret
      exact ⟨rfl, fun h => (by cases h), (belowB HU.out hB).trans (belowB hb1 hBU), (RKeep.below HU.out).trans (RKeep.below hb1)⟩
end Go.Proofs.YtfogodbbgbnhkaaGreatDoor
