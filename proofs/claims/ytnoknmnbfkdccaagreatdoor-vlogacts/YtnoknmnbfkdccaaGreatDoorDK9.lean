/- The disk's cut, and what Cut and Sync do. -/
import Derived.Test.YtnoknmnbfkdccaaGreatDoorDK5
import Derived.BigRegion
import Derived.Shelf.Abstract
import Derived.Maps.OwnSet
namespace Go.Proofs.YtnoknmnbfkdccaaGreatDoor
open Go.RowKit

theorem down_take {w : World} {B e n c : Nat} {a : Option Addr} {xs : List Value} (h : w.ownsRow B e 1 (.slice a n c) n xs) (m : Nat) (hm : m ≤ n) : w.ownsRow B e 1 (.slice a m c) m (xs.take m) := by
  have hl : xs.length = n := by have := h.1; omega
  refine ⟨by rw [List.length_take]; omega, ?_⟩
  rcases h.2 with ⟨h0, h1⟩ | ⟨g, cap, cur, h0, h1, hc, h2, h3, h4, h5⟩
  · cases h0
    have : m = 0 := by omega
    subst this
    exact .inl ⟨rfl, rfl⟩
  · cases h0
    refine .inr ⟨g, c, cur, rfl, h1, hc, by omega, h3, h4, ?_⟩
    rw [← h5, List.take_take]
    congr 1
    omega
theorem kcells_take (k : IntKind) (bs : List Nat) (n : Nat) : (kcells k bs).take n = kcells k (bs.take n) := by simp [kcells, List.map_take]

/-- two cells of a file -/
theorem FileAt.set {w w' : World} {h : FH} {f : Dk.F} (x : FileAt w h f) (v : Value) (z : Int) (f' : Dk.F) (hz : z = (f'.safe : Int)) (hr : w.ownsRow 0 5 1 v f'.bs.length (kcells .u8 f'.bs)) (hs : ∀ y ∈ f'.bs, y < 256) (hl : f'.safe ≤ f'.bs.length)
    (hb : w'.heap[h.q]? = some (.cells #[v, .int .i64 z] 123 (0, 0))) (hk : ∀ k, k < w.heap.size → k ≠ h.q → w'.heap[k]? = w.heap[k]?) : FileAt w' ⟨h.q, v⟩ f' := by
  refine ⟨hz ▸ hb, own_keep hr fun g hg => ?_, hs, hl⟩
  obtain ⟨c, hc⟩ := own_blk hr hg
  exact hk g (heap_lt hc) (cells_ne hc x.blk (by decide))

def Dk.cutF (f : Dk.F) (n : Nat) : Dk.F := ⟨f.bs.take n, min f.safe n⟩
theorem cut_end {w : World} {p u fm nm sm num : Nat} {D : Dk.D} {tv : Value} {A B : List (Nat × FH × Dk.F)} {x : FH} {f : Dk.F} (hP : Parts w p D u fm nm sm tv (A ++ (num, x, f) :: B)) (hA : ∀ y ∈ A, y.1 ≠ num)
    (n : Nat) {z z2 : Int} {u' : Nat} (hz : z = (u' : Int)) (hz2 : z2 = ((min f.safe n : Nat) : Int)) (v : Value) (hr : w.ownsRow 0 5 1 v (f.bs.take n).length (kcells .u8 (f.bs.take n))) (hv : ∀ g, v.ownBlock = some g → x.v.ownBlock = some g) :
    (∃ v1, Parts (((w.setCell ⟨p, 3, none⟩ (.int .i64 z)).setCell ⟨x.q, 0, none⟩ v).setCell ⟨x.q, 1, none⟩ (.int .i64 z2)).drew p { D with files := mput D.files num (Dk.cutF f n) } u' fm nm sm tv (A ++ (num, ⟨x.q, v1⟩, Dk.cutF f n) :: B) ∧ (∀ g, v1.ownBlock = some g → x.v.ownBlock = some g)) ∧
      OnlyIn (fun k => k = p ∨ k = x.q) w (((w.setCell ⟨p, 3, none⟩ (.int .i64 z)).setCell ⟨x.q, 0, none⟩ v).setCell ⟨x.q, 1, none⟩ (.int .i64 z2)).drew := by
  have P1 := hP.setUsed (z := z) hz
  have x1 : FileAt _ x f := P1.each (num, x, f) (by simp)
  have hx : FileAt w x f := hP.each (num, x, f) (by simp)
  have hr1 : (w.setCell ⟨p, 3, none⟩ (.int .i64 z)).ownsRow 0 5 1 v (f.bs.take n).length (kcells .u8 (f.bs.take n)) := own_keep hr fun g hg => by
    obtain ⟨c, hc⟩ := own_blk hr hg
    exact set_other w p 3 _ (cells_ne hc hP.blk (by decide))
  have hoth : ∀ k, k ≠ x.q → (((w.setCell ⟨p, 3, none⟩ (.int .i64 z)).setCell ⟨x.q, 0, none⟩ v).setCell ⟨x.q, 1, none⟩ (.int .i64 z2)).heap[k]? = (w.setCell ⟨p, 3, none⟩ (.int .i64 z)).heap[k]? := fun k hk => (set_other _ x.q 1 _ hk).trans (set_other _ x.q 0 _ hk)
  refine ⟨⟨v, (P1.file (h' := ⟨x.q, v⟩) (f' := Dk.cutF f n) (fun k _ hk _ => hoth k hk) hA ?_ rfl fun g hg => .inl (hv g hg)).keep fun k _ => rfl, hv⟩, ?_⟩
  · refine x1.set v z2 (Dk.cutF f n) hz2 hr1 (fun y hy => hx.small y (List.mem_of_mem_take hy)) ?_ ?_ fun k _ hk => hoth k hk
    · have := hx.safe
      simp only [Dk.cutF, List.length_take]
      omega
    · exact Go.Joins.block_setCell (Go.Joins.block_setCell x1.blk _) _
  · refine ⟨rfl, rfl, rfl, by simp, fun k _ hn => ?_⟩
    exact (hoth k fun e => hn (.inr e)).trans (set_other w p 3 _ fun e => hn (.inl e))

set_option maxHeartbeats 2000000 in
theorem cut_any {w : World} {p u fm nm sm num : Nat} {D : Dk.D} {tv : Value} {A B : List (Nat × FH × Dk.F)} {x : FH} {f : Dk.F} (hP : Parts w p D u fm nm sm tv (A ++ (num, x, f) :: B)) (hA : ∀ y ∈ A, y.1 ≠ num)
    (n : Nat) (hn : n ≤ f.bs.length) (hu : f.bs.length - n ≤ u) (hub : u ≤ 4194304) (hlen : f.bs.length ≤ 4194304) :
    Calls Tryz.prog 81 #[.pointer (some ⟨p, 0, none⟩), .pointer (some ⟨x.q, 0, none⟩), .int .i64 (n : Int)] w fun e w' => e = .returned (.tuple #[]) ∧
      (∃ v, Parts w' p { D with files := mput D.files num (Dk.cutF f n) } (u - (f.bs.length - n)) fm nm sm tv (A ++ (num, ⟨x.q, v⟩, Dk.cutF f n) :: B) ∧ (∀ g, v.ownBlock = some g → x.v.ownBlock = some g)) ∧ OnlyIn (fun k => k = p ∨ k = x.q) w w' := by
  obtain ⟨⟨c0, c1, c2, c3, c4, c5, c6, c7, c8, c9⟩, hf⟩ := hP.cells
  have hx : FileAt w x f := hP.each (num, x, f) (by simp)
  obtain ⟨d0, d1, hfx⟩ := hx.cells
  obtain ⟨a, c, hv, ha, hc⟩ := t_shape hx.row
  have hpq : p ≠ x.q := cells_ne hP.blk hx.blk (by decide)
  obtain ⟨L, hL⟩ : ∃ L, L = f.bs.length := ⟨_, rfl⟩
  have hr := hx.row
  rw [← hL] at hv hc ha hn hu hlen hr ⊢
  rw [hv] at d0 hr
  have HL : Hid (L = f.bs.length) := hL
  clear hL
  have j1 : IntKind.i64.wrap ((L : Int) - (n : Int)) = (L : Int) - (n : Int) := by rw [IntKind.wrap_i64]; omega
  have j2 : IntKind.i64.wrap ((u : Int) - ((L : Int) - (n : Int))) = (u : Int) - ((L : Int) - (n : Int)) := by rw [IntKind.wrap_i64]; omega
  have hqp : ¬ (x.q = p) := fun e => hpq e.symm
  have hpq' : ¬ (p = x.q) := hpq
  cases a with
  | none =>
    obtain ⟨rfl, rfl⟩ := ha rfl
    have : n = 0 := by omega
    subst this
    go_enter Tryz.func81, Tryz.ntmps81
    go_wp2
    go_region
    go_wp2
    first | go_end0 | refine bodyPost_ret (results_none rfl _ _ _) rfl ?_
    refine ⟨rfl, ?_⟩
    refine cut_end hP hA 0 ?_ ?_ (.slice none 0 0) ⟨by simp [kcells], .inl ⟨rfl, by simp⟩⟩ (by simp [Value.ownBlock])
    · omega
    · omega
  | some ad =>
    obtain ⟨g, hg⟩ : ∃ g, ad = ⟨g, 0, none⟩ := by
      rcases hr.2 with ⟨h0, _⟩ | ⟨g, cap, cur, h0, _⟩
      · cases h0
      · cases h0; exact ⟨g, rfl⟩
    subst hg
    have i1 : (0 : Int) ≤ (n : Int) := by omega
    have i2 : (n : Int) ≤ (c : Int) := by omega
    have hrt := down_take hr n hn
    have HT : Hid (w.ownsRow 0 5 1 (.slice (some ⟨g, 0, none⟩) n c) (f.bs.take n).length (kcells .u8 (f.bs.take n))) := (by rw [kcells_take] at hrt; rw [List.length_take, ← HL.out, Nat.min_eq_left hn]; exact hrt : w.ownsRow 0 5 1 (.slice (some ⟨g, 0, none⟩) n c) (f.bs.take n).length (kcells .u8 (f.bs.take n)))
    clear hrt hr ha
    go_enter Tryz.func81, Tryz.ntmps81
    go_wp2
    go_region
    go_wp2
    all_goals first | go_end0 | refine bodyPost_ret (results_none rfl _ _ _) rfl ?_
    refine ⟨rfl, ?_⟩
    refine cut_end hP hA n ?_ ?_ (.slice (some ⟨g, 0, none⟩) n c) HT.out (by rw [hv]; simp [Value.ownBlock])
    · omega
    · omega
end Go.Proofs.YtnoknmnbfkdccaaGreatDoor

/- The disk's act: something is done, and counted. -/
namespace Go.Proofs.YtnoknmnbfkdccaaGreatDoor
open Go.RowKit Go.Shelf

/-- the blocks of a set, and new ones -/
def grow1 (S : Nat → Prop) (w : World) (k : Nat) : Prop := S k ∨ w.heap.size ≤ k
/-- an act is counted -/
def Dk.tick (D : Dk.D) : Dk.D := { D with fault := if 0 < D.fault then D.fault - 1 else D.fault, stop := if 0 < D.stop then D.stop - 1 else D.stop, dead := if 0 < D.stop then D.stop - 1 == 0 else D.dead }
theorem Dk.Ok.tick {D : Dk.D} (h : Dk.Ok D) : Dk.Ok (Dk.tick D) := by
  have h1 := h.stop
  have h2 := h.fault
  refine h.with rfl rfl rfl rfl rfl rfl ?_ ?_
  · simp only [Dk.tick]; split <;> omega
  · simp only [Dk.tick]; split <;> omega

theorem tick_f {w w1 : World} {p : Nat} {D : Dk.D} {S : Nat → Prop} (h : DK w p D S) (hf : 0 < D.fault) (hw : w1 = w.setCell ⟨p, 8, none⟩ (.int .i64 (D.fault - 1))) : DK w1 p { D with fault := D.fault - 1 } S ∧ OnlyIn S w w1 := by
  obtain ⟨hO, fm, nm, sm, tv, J, hP, hS⟩ := h
  have h2 := hO.fault
  subst hw
  exact ⟨⟨hO.with rfl rfl rfl rfl rfl rfl hO.stop (by simp only; omega), fm, nm, sm, tv, J, hP.setFault _, hS⟩, only_set _ p 8 _ (hS p (.inl rfl))⟩
theorem tick_s {w w1 : World} {p : Nat} {D : Dk.D} {S : Nat → Prop} (h : DK w p D S) (hf : 0 < D.stop) (b : Bool) (hw : w1 = (w.setCell ⟨p, 7, none⟩ (.int .i64 (D.stop - 1))).setCell ⟨p, 9, none⟩ (.bool b)) : DK w1 p { D with stop := D.stop - 1, dead := b } S ∧ OnlyIn S w w1 := by
  obtain ⟨hO, fm, nm, sm, tv, J, hP, hS⟩ := h
  have h2 := hO.stop
  subst hw
  have hp := hS p (.inl rfl)
  exact ⟨⟨hO.with rfl rfl rfl rfl rfl rfl (by simp only; omega) hO.fault, fm, nm, sm, tv, J, (hP.setStop _).setDead b, hS⟩, (only_set _ p 7 _ hp).trans (only_set _ p 9 _ (.inl hp))⟩

theorem tick_as {D : Dk.D} {n : Int} (h : 0 < D.fault) (k : 0 < D.stop) (e : D.stop = n) : ({ D with fault := D.fault - 1, stop := D.stop - 1, dead := n - 1 == 0 } : Dk.D) = Dk.tick D := by subst e; simp [Dk.tick, h, k]
theorem tick_ao {D : Dk.D} (h : 0 < D.fault) (k : D.stop ≤ 0) : ({ D with fault := D.fault - 1 } : Dk.D) = Dk.tick D := by simp [Dk.tick, h, Int.not_lt.2 k]
theorem tick_os {D : Dk.D} {n : Int} (h : D.fault ≤ 0) (k : 0 < D.stop) (e : D.stop = n) : ({ D with stop := D.stop - 1, dead := n - 1 == 0 } : Dk.D) = Dk.tick D := by subst e; simp [Dk.tick, Int.not_lt.2 h, k]
theorem tick_oo {D : Dk.D} (h : D.fault ≤ 0) (k : D.stop ≤ 0) : D = Dk.tick D := by simp [Dk.tick, Int.not_lt.2 h, Int.not_lt.2 k]

set_option maxHeartbeats 2000000 in
theorem act_done {w : World} {p : Nat} {D : Dk.D} {S : Nat → Prop} (h : DK w p D S) (D' : Dk.D) (fid : Nat) (caps : Array Value) (h1 : D'.stop = D.stop) (h2 : D'.fault = D.fault) (hf1 : D.fault ≠ 1)
    (eg : ∀ args w, (callFunc fid args).run Tryz.prog w = .ok (.enter fid args) w) (hdo : Calls Tryz.prog fid caps w fun e w' => e = .returned (.tuple #[]) ∧ DK w' p D' (grow1 S w) ∧ OnlyIn S w w') :
    Calls Tryz.prog 43 #[.pointer (some ⟨p, 0, none⟩), .func (.func fid) #[] caps] w fun e w' => e = .returned (.int .i64 0) ∧ DK w' p (Dk.tick D') (grow1 S w) ∧ OnlyIn S w w' := by
  obtain ⟨hO, fm, nm, sm, tv, J, hP, hS⟩ := h
  obtain ⟨⟨c0, c1, c2, c3, c4, c5, c6, c7, c8, c9⟩, hf⟩ := hP.cells
  have b1 := hO.stop
  have b2 := hO.fault
  have hne : (D.fault == 1) = false := by simp [hf1]
  go_enter Tryz.func43, Tryz.ntmps43
  go_wp2_with (go_at_fn fid; go_must (refine hdo.mono ?_; rintro e w1 ⟨rfl, hDK1, hon1⟩; obtain ⟨hO1, fm1, nm1, sm1, tv1, J1, hP1, hS1⟩ := id hDK1; obtain ⟨⟨c0', c1', c2', c3', c4', c5', c6', c7', c8', c9'⟩, hf'⟩ := hP1.cells; rw [h1] at c7'; rw [h2] at c8'))
  · go_ret
    obtain ⟨a1, a2⟩ := tick_f (w1 := w1.setCell ⟨p, 8, none⟩ (.int .i64 (D.fault - 1))) hDK1 (by omega) (by rw [h2])
    obtain ⟨d1, d2⟩ := tick_s (w1 := ((w1.setCell ⟨p, 8, none⟩ (.int .i64 (D.fault - 1))).setCell ⟨p, 7, none⟩ (.int .i64 (D.stop - 1))).setCell ⟨p, 9, none⟩ (.bool (D.stop - 1 == 0))) a1 (by show 0 < D'.stop; omega) (D.stop - 1 == 0) (by show _ = (World.setCell _ _ (.int .i64 (D'.stop - 1))).setCell _ _; rw [h1])
    exact ⟨rfl, (tick_as (D := D') (by omega) (by omega) h1) ▸ d1, hon1.trans ((a2.mono fun _ _ h => h).trans (d2.mono fun _ _ h => .inl h))⟩
  · go_ret
    obtain ⟨a1, a2⟩ := tick_f (w1 := w1.setCell ⟨p, 8, none⟩ (.int .i64 (D.fault - 1))) hDK1 (by omega) (by rw [h2])
    exact ⟨rfl, (tick_ao (D := D') (by omega) (by omega)) ▸ a1, hon1.trans a2⟩
  · go_ret
    obtain ⟨d1, d2⟩ := tick_s (w1 := (w1.setCell ⟨p, 7, none⟩ (.int .i64 (D.stop - 1))).setCell ⟨p, 9, none⟩ (.bool (D.stop - 1 == 0))) hDK1 (by omega) (D.stop - 1 == 0) (by rw [h1])
    exact ⟨rfl, (tick_os (D := D') (by omega) (by omega) h1) ▸ d1, hon1.trans d2⟩
  · go_ret
    exact ⟨rfl, (tick_oo (D := D') (by omega) (by omega)) ▸ hDK1, hon1⟩

set_option maxHeartbeats 2000000 in
theorem act_fault {w : World} {p : Nat} {D : Dk.D} {S : Nat → Prop} (h : DK w p D S) (v : Value) (hf1 : D.fault = 1) :
    Calls Tryz.prog 43 #[.pointer (some ⟨p, 0, none⟩), v] w fun e w' => e = .returned (.int .i64 8) ∧ DK w' p (Dk.tick D) (grow1 S w) ∧ OnlyIn S w w' := by
  obtain ⟨hO, fm, nm, sm, tv, J, hP, hS⟩ := id h
  obtain ⟨⟨c0, c1, c2, c3, c4, c5, c6, c7, c8, c9⟩, hf⟩ := hP.cells
  rw [hf1] at c8
  have b1 := hO.stop
  have hgr : ∀ {W : World} {E : Dk.D}, DK W p E S → DK W p E (grow1 S w) := fun h => h.keep (fun _ _ _ => rfl) fun _ _ h => .inl h
  go_enter Tryz.func43, Tryz.ntmps43
  go_wp2
  · go_ret
    obtain ⟨a1, a2⟩ := tick_f (w1 := w.setCell ⟨p, 8, none⟩ (.int .i64 0)) h (by omega) (by rw [hf1]; rfl)
    obtain ⟨d1, d2⟩ := tick_s (w1 := ((w.setCell ⟨p, 8, none⟩ (.int .i64 0)).setCell ⟨p, 7, none⟩ (.int .i64 (D.stop - 1))).setCell ⟨p, 9, none⟩ (.bool (D.stop - 1 == 0))) a1 (by assumption) (D.stop - 1 == 0) rfl
    exact ⟨rfl, hgr ((tick_as (D := D) (by omega) (by omega) rfl) ▸ d1), a2.trans (d2.mono fun _ _ h => .inl h)⟩
  · go_ret
    obtain ⟨a1, a2⟩ := tick_f (w1 := w.setCell ⟨p, 8, none⟩ (.int .i64 0)) h (by omega) (by rw [hf1]; rfl)
    exact ⟨rfl, hgr ((tick_ao (D := D) (by omega) (by omega)) ▸ a1), a2⟩

/-- what is done, done or not -/
def Dk.acted (D D' : Dk.D) : Dk.D × Int := if D.fault = 1 then (Dk.tick D, 8) else (Dk.tick D', 0)
theorem act_any {w : World} {p : Nat} {D : Dk.D} {S : Nat → Prop} (h : DK w p D S) (D' : Dk.D) (fid : Nat) (caps : Array Value) (h1 : D'.stop = D.stop) (h2 : D'.fault = D.fault)
    (eg : ∀ args w, (callFunc fid args).run Tryz.prog w = .ok (.enter fid args) w) (hdo : Calls Tryz.prog fid caps w fun e w' => e = .returned (.tuple #[]) ∧ DK w' p D' (grow1 S w) ∧ OnlyIn S w w') :
    Calls Tryz.prog 43 #[.pointer (some ⟨p, 0, none⟩), .func (.func fid) #[] caps] w fun e w' => e = .returned (.int .i64 (Dk.acted D D').2) ∧ DK w' p (Dk.acted D D').1 (grow1 S w) ∧ OnlyIn S w w' := by
  by_cases hf : D.fault = 1
  · simp only [Dk.acted, hf, if_true]; exact act_fault h _ hf
  · simp only [Dk.acted, hf, if_false]; exact act_done h D' fid caps h1 h2 hf eg hdo
end Go.Proofs.YtnoknmnbfkdccaaGreatDoor

/- The disk's Cut and Sync. -/
namespace Go.Proofs.YtnoknmnbfkdccaaGreatDoor
open Go.RowKit Go.Shelf

theorem Dk.sum_mput : ∀ {l : List (Nat × Dk.F)} {n : Nat} {f : Dk.F} (f' : Dk.F), look l n = some f → Dk.sum (mput l n f') + f.bs.length = Dk.sum l + f'.bs.length
  | (a, x) :: l, n, f, f', h => by
    by_cases hk : a = n
    · simp only [look, hk, if_true, Option.some.injEq] at h
      subst h
      simp only [mput, hk, if_true, Dk.sum, List.map_cons, List.sum_cons]
      omega
    · simp only [look, hk, if_false] at h
      have := Dk.sum_mput f' h
      simp only [mput, hk, if_false, Dk.sum, List.map_cons, List.sum_cons] at this ⊢
      omega
theorem Dk.le_sum : ∀ {l : List (Nat × Dk.F)} {n : Nat} {f : Dk.F}, look l n = some f → f.bs.length ≤ Dk.sum l
  | (a, x) :: l, n, f, h => by
    by_cases hk : a = n
    · simp only [look, hk, if_true, Option.some.injEq] at h
      subst h
      simp [Dk.sum]
    · simp only [look, hk, if_false] at h
      have := Dk.le_sum h
      simp only [Dk.sum, List.map_cons, List.sum_cons] at this ⊢
      omega
theorem mput_same {α β : Type} [DecidableEq α] {l : List (α × β)} {k : α} {v : β} (v' : β) (h : look l k = some v) : (mput l k v').map (·.1) = l.map (·.1) := by
  rw [mput_keys, if_pos (List.mem_map.2 ⟨_, look_mem h, rfl⟩)]
/-- one file is another -/
theorem Dk.Ok.setF {D : Dk.D} (h : Dk.Ok D) {n : Nat} {f : Dk.F} (f' : Dk.F) (hf : look D.files n = some f) (hu : Dk.sum D.files + f'.bs.length ≤ D.quota + f.bs.length) : Dk.Ok { D with files := mput D.files n f' } := by
  have hk := mput_same f' hf
  have hs := Dk.sum_mput f' hf
  refine ⟨h.q, ?_, ?_, ?_, h.nk, h.kk, ?_, ?_, ?_, h.stop, h.fault, h.ns, h.ks, h.ts⟩
  · show Dk.sum (mput D.files n f') ≤ D.quota; omega
  · show ((mput D.files n f').map (·.1)).Nodup; rw [hk]; exact h.fk
  · intro x hx
    have : x.1 ∈ D.files.map (·.1) := by rw [← hk]; exact List.mem_map.2 ⟨x, hx, rfl⟩
    obtain ⟨y, hy, e⟩ := List.mem_map.1 this
    rw [← e]; exact h.pos y hy
  · show ∀ x ∈ D.names, x.2 ∈ (mput D.files n f').map (·.1); rw [hk]; exact h.nf
  · show ∀ x ∈ D.kept, x.2 ∈ (mput D.files n f').map (·.1); rw [hk]; exact h.kf
  · show ∀ t ∈ D.turns, t.given ≠ _ → t.file ∈ (mput D.files n f').map (·.1); rw [hk]; exact h.tf

theorem foot_file {p fm nm sm num : Nat} {tv : Value} {A B : List (Nat × FH × Dk.F)} {x x' : FH} {f f' : Dk.F} {S : Nat → Prop} (hS : ∀ k, foot p fm nm sm tv (A ++ (num, x, f) :: B) k → S k) (hq : x'.q = x.q) (hv : ∀ g, x'.v.ownBlock = some g → S g) : ∀ k, foot p fm nm sm tv (A ++ (num, x', f') :: B) k → S k := by
  rintro k (h | h | h | h | h | ⟨y, hy, h⟩)
  · exact hS k (.inl h)
  · exact hS k (.inr (.inl h))
  · exact hS k (.inr (.inr (.inl h)))
  · exact hS k (.inr (.inr (.inr (.inl h))))
  · exact hS k (.inr (.inr (.inr (.inr (.inl h)))))
  · rcases List.mem_append.1 hy with h1 | h1
    · exact hS k (.inr (.inr (.inr (.inr (.inr ⟨y, List.mem_append.2 (.inl h1), h⟩)))))
    · rcases List.mem_cons.1 h1 with rfl | h1
      · rcases h with h | h
        · exact hS k (.inr (.inr (.inr (.inr (.inr ⟨(num, x, f), by simp, .inl (h.trans hq)⟩)))))
        · exact hv k h
      · exact hS k (.inr (.inr (.inr (.inr (.inr ⟨y, by simp [h1], h⟩)))))

/-- the disk's cut, of the file of a number -/
theorem cut_dk {w : World} {p fm nm sm num : Nat} {D : Dk.D} {tv : Value} {J : List (Nat × FH × Dk.F)} {S : Nat → Prop} {x : FH} {f : Dk.F} (hO : Dk.Ok D) (hP : Parts w p D (Dk.sum D.files) fm nm sm tv J) (hS : ∀ k, foot p fm nm sm tv J k → S k) (hj : look J num = some (x, f)) (n : Nat) (hn : n ≤ f.bs.length) :
    Calls Tryz.prog 81 #[.pointer (some ⟨p, 0, none⟩), .pointer (some ⟨x.q, 0, none⟩), .int .i64 (n : Int)] w fun e w' => e = .returned (.tuple #[]) ∧ DK w' p { D with files := mput D.files num (Dk.cutF f n) } S ∧ OnlyIn S w w' := by
  have hf : look D.files num = some f := by rw [hP.look, hj]; rfl
  have hle := Dk.le_sum hf
  have hq := hO.q
  have hu := hO.use
  obtain ⟨A, B, rfl, hA⟩ := look_part hj
  refine (cut_any hP hA n hn (by omega) (by omega) (by omega)).mono ?_
  rintro e w' ⟨rfl, ⟨v, hP', hv⟩, hon⟩
  have hl : (Dk.cutF f n).bs.length = n := by simp [Dk.cutF]; omega
  have hsum := Dk.sum_mput (Dk.cutF f n) hf
  refine ⟨rfl, ⟨hO.setF _ hf (by omega), fm, nm, sm, tv, _, ?_, foot_file (x' := ⟨x.q, v⟩) (f' := Dk.cutF f n) hS rfl fun g hg => hS g (.inr (.inr (.inr (.inr (.inr ⟨(num, x, f), by simp, .inr (hv g hg)⟩)))))⟩, ?_⟩
  · rw [show Dk.sum D.files - (f.bs.length - n) = Dk.sum (mput D.files num (Dk.cutF f n)) by omega] at hP'
    exact hP'
  · refine hon.mono fun k _ hk => ?_
    rcases hk with rfl | rfl
    · exact hS k (.inl rfl)
    · exact hS _ (.inr (.inr (.inr (.inr (.inr ⟨(num, x, f), by simp, .inl rfl⟩)))))

theorem enters_lit {f : Nat} {fn : Func} {c : Code} (hf : Tryz.prog.funcs[f]? = some fn) (hn : (fn.name == "runtime.NumGoroutine") = false) (hb : fn.body = some c) : ∀ args w, (callFunc f args).run Tryz.prog w = .ok (.enter f args) w := enters_of hf hn hb

set_option maxHeartbeats 1000000 in
theorem cut1_any {w : World} {p fm nm sm num : Nat} {D : Dk.D} {tv : Value} {J : List (Nat × FH × Dk.F)} {S : Nat → Prop} {x : FH} {f : Dk.F} (hO : Dk.Ok D) (hP : Parts w p D (Dk.sum D.files) fm nm sm tv J) (hS : ∀ k, foot p fm nm sm tv J k → S k) (hj : look J num = some (x, f)) (n : Nat) (hn : n ≤ f.bs.length)
    (b0 b1 b2 : Nat) (k0 : w.cell? ⟨b0, 0, none⟩ = some (.pointer (some ⟨p, 0, none⟩))) (k1 : w.cell? ⟨b1, 0, none⟩ = some (.pointer (some ⟨x.q, 0, none⟩))) (k2 : w.cell? ⟨b2, 0, none⟩ = some (.int .i64 (n : Int))) :
    Calls Tryz.prog 111 #[.pointer (some ⟨b0, 0, none⟩), .pointer (some ⟨b1, 0, none⟩), .pointer (some ⟨b2, 0, none⟩)] w fun e w' => e = .returned (.tuple #[]) ∧ DK w' p { D with files := mput D.files num (Dk.cutF f n) } (grow1 S w) ∧ OnlyIn S w w' := by
  have hc := cut_dk hO hP hS hj n hn
  go_enter Tryz.func111, Tryz.ntmps111
  go_wp2_with (go_at_call 81; go_must (refine hc.mono ?_; rintro e w1 ⟨rfl, hDK1, hon1⟩))
  first | go_end0 | refine bodyPost_ret (results_none rfl _ _ _) rfl ?_
  exact ⟨rfl, hDK1.keep (fun _ _ _ => rfl) fun _ _ h => .inl h, hon1⟩

theorem bal {w W : World} (hb : Below w.heap.size w W) (o : Obj) : Below w.heap.size w (W.alloc o) := hb.alloc hb.size o
theorem bdr {w W : World} (hb : Below w.heap.size w W) (n : Nat) : Below w.heap.size w (W.drewN n) := hb.trans (below_drewN _ _ _)
theorem bd1 {w W : World} (hb : Below w.heap.size w W) : Below w.heap.size w W.drew := hb.trans (below_drewN _ _ 1)
theorem OnlyIn.after {S : Nat → Prop} {w W w' : World} (hb : Below w.heap.size w W) (h : OnlyIn S W w') : OnlyIn S w w' := (OnlyIn.of_below hb).trans (h.mono fun _ _ h => .inl h)
theorem DK.after {S : Nat → Prop} {w W w' : World} {p : Nat} {D : Dk.D} (hb : Below w.heap.size w W) (h : DK w' p D (grow1 S W)) : DK w' p D (grow1 S w) := h.keep (fun _ _ _ => rfl) fun _ _ h => h.imp id fun h => Nat.le_trans hb.size h

/-- what Cut does and tells -/
def Dk.cut (D : Dk.D) (s : ByteArray) (n : Int) : Dk.D × Int :=
  if D.dead = true then (D, 9) else match Dk.find D s with
    | none => (D, 3)
    | some (m, f) => if n < 0 ∨ (f.bs.length : Int) < n then (D, 1) else Dk.acted D { D with files := mput D.files m (Dk.cutF f n.toNat) }

set_option maxHeartbeats 2000000 in
theorem cutD_any {w : World} {p : Nat} {D : Dk.D} {S : Nat → Prop} (h : DK w p D S) (s : ByteArray) (n : Int) (hn : -9223372036854775808 ≤ n ∧ n ≤ 9223372036854775807) :
    Calls Tryz.prog 82 #[.pointer (some ⟨p, 0, none⟩), .string s, .int .i64 n] w fun e w' => e = .returned (.int .i64 (Dk.cut D s n).2) ∧ DK w' p (Dk.cut D s n).1 (grow1 S w) ∧ OnlyIn S w w' := by
  have hgr : ∀ {W : World}, Below w.heap.size w W → DK W p D (grow1 S w) ∧ OnlyIn S w W := fun {W} hb => ⟨h.keep (fun k hk _ => hb.block k hk) fun _ _ h => .inl h, OnlyIn.of_below hb⟩
  obtain ⟨hO, fm, nm, sm, tv, J, hP, hS⟩ := h
  have hPW : ∀ {W : World}, Below w.heap.size w W → Parts W p D (Dk.sum D.files) fm nm sm tv J := fun {W} hb => hP.keep fun k hk => hb.block k (hP.lt hk)
  have hdead := fun (W : World) (hb : Below w.heap.size w W) => dead_any (hPW hb)
  unfold Dk.cut
  by_cases hd : D.dead = true
  · rw [hd] at hdead
    rw [if_pos hd]
    clear hd
    go_enter Tryz.func82, Tryz.ntmps82
    go_wp2_with (go_at_call 42; go_must (refine Calls.mono (hdead _ ?_) ?_; (focus (repeat first | exact Below.refl _ _ | refine bal ?_ _ | refine bdr ?_ _ | refine bd1 ?_)); rintro e w1 ⟨rfl, hw⟩; subst hw))
    go_ret
    exact ⟨rfl, hgr (bal (bal (Below.refl _ w) _) _)⟩
  · rw [if_neg hd]
    rw [Bool.not_eq_true] at hd
    rw [hd] at hdead
    clear hd
    rcases hP.findJ hO s with ⟨e1, e2⟩ | ⟨num, x, f, e1, e2, e3, e4⟩
    · have hfd := fun (W : World) (hb : Below w.heap.size w W) => find_none (hPW hb) s e2 ((hPW hb).look0 hO)
      simp only [e1]
      go_enter Tryz.func82, Tryz.ntmps82
      go_wp2_with (first | (go_at_call 42; go_must (refine Calls.mono (hdead _ ?_) ?_; (focus (repeat first | exact Below.refl _ _ | refine bal ?_ _ | refine bdr ?_ _ | refine bd1 ?_)); rintro e w1 ⟨rfl, hw⟩; subst hw)) | (go_at_call 71; go_must (refine Calls.mono (hfd _ ?_) ?_; (focus (repeat first | exact Below.refl _ _ | refine bal ?_ _ | refine bdr ?_ _ | refine bd1 ?_)); rintro e w1 ⟨rfl, m, hw⟩; subst hw)))
      go_ret
      exact ⟨rfl, hgr (bal (bdr (bal (bal (Below.refl _ w) _) _) _) _)⟩
    · have hfd := fun (W : World) (hb : Below w.heap.size w W) => find_some (hPW hb) s e2 e3
      have hx := fun (W : World) (hb : Below w.heap.size w W) => ((hPW hb).each _ (look_mem e3)).cells.1
      obtain ⟨a, c, hv, _⟩ := t_shape (hP.each _ (look_mem e3)).row
      simp only at hv hx
      have hlen : f.bs.length ≤ 4194304 := Nat.le_trans (Dk.le_sum e4) (Nat.le_trans hO.use hO.q)
      rw [hv] at hx
      have hact := fun (W : World) (b0 b1 b2 m : Nat) (hb : Below w.heap.size w W) (hm : m ≤ f.bs.length) (k0 : W.cell? ⟨b0, 0, none⟩ = some (.pointer (some ⟨p, 0, none⟩))) (k1 : W.cell? ⟨b1, 0, none⟩ = some (.pointer (some ⟨x.q, 0, none⟩))) (k2 : W.cell? ⟨b2, 0, none⟩ = some (.int .i64 (m : Int))) =>
        act_any ⟨hO, fm, nm, sm, tv, J, hPW hb, hS⟩ { D with files := mput D.files num (Dk.cutF f m) } 111 _ rfl rfl (enters_lit Tryz.func111 (by kernel_rfl) rfl) (cut1_any hO (hPW hb) hS e3 m hm b0 b1 b2 k0 k1 k2)
      obtain ⟨L, hL⟩ : ∃ L, L = f.bs.length := ⟨_, rfl⟩
      simp only [e1]
      rw [← hL] at hx hlen hact ⊢
      have hcx : ∀ m, let W := (((w.alloc (.cells #[.pointer (some ⟨p, 0, none⟩)] 30)).alloc (.cells #[.int .i64 n] 3)).drewN m).alloc (.cells #[.pointer (some ⟨x.q, 0, none⟩)] 120)
          Below w.heap.size w W ∧ W.cell? ⟨w.heap.size, 0, none⟩ = some (.pointer (some ⟨p, 0, none⟩)) ∧ W.cell? ⟨w.heap.size + 1 + 1, 0, none⟩ = some (.pointer (some ⟨x.q, 0, none⟩)) ∧ W.cell? ⟨w.heap.size + 1, 0, none⟩ = some (.int .i64 n) := fun m =>
        ⟨bal (bdr (bal (bal (Below.refl _ w) _) _) _) _, by simp [go_sem], by simp [go_sem], by simp [go_sem]⟩
      clear hL
      by_cases h0 : n < 0
      · have hd0 : decide (n < 0) = true := decide_eq_true h0
        rw [if_pos (.inl h0)]
        go_enter Tryz.func82, Tryz.ntmps82
        go_wp2_with (first | (go_at_call 42; go_must (refine Calls.mono (hdead _ ?_) ?_; (focus (repeat first | exact Below.refl _ _ | refine bal ?_ _ | refine bdr ?_ _ | refine bd1 ?_)); rintro e w1 ⟨rfl, hw⟩; subst hw)) | (go_at_call 71; go_must (refine Calls.mono (hfd _ ?_) ?_; (focus (repeat first | exact Below.refl _ _ | refine bal ?_ _ | refine bdr ?_ _ | refine bd1 ?_)); rintro e w1 ⟨rfl, m, hw⟩; subst hw)))
        obtain ⟨bw, k0, k1, k2⟩ := hcx m
        generalize ((((w.alloc (.cells #[.pointer (some ⟨p, 0, none⟩)] 30)).alloc (.cells #[.int .i64 n] 3)).drewN m).alloc (.cells #[.pointer (some ⟨x.q, 0, none⟩)] 120)) = W at bw k0 k1 k2 ⊢
        have hxW := hx W bw
        go_quiet (fail)
        go_wp2
        go_ret
        exact ⟨rfl, hgr (bdr bw _)⟩
      · have hd0 : decide (n < 0) = false := decide_eq_false h0
        by_cases h2 : (L : Int) < n
        · have hd2 : decide ((L : Int) < n) = true := decide_eq_true h2
          rw [if_pos (.inr h2)]
          go_enter Tryz.func82, Tryz.ntmps82
          go_wp2_with (first | (go_at_call 42; go_must (refine Calls.mono (hdead _ ?_) ?_; (focus (repeat first | exact Below.refl _ _ | refine bal ?_ _ | refine bdr ?_ _ | refine bd1 ?_)); rintro e w1 ⟨rfl, hw⟩; subst hw)) | (go_at_call 71; go_must (refine Calls.mono (hfd _ ?_) ?_; (focus (repeat first | exact Below.refl _ _ | refine bal ?_ _ | refine bdr ?_ _ | refine bd1 ?_)); rintro e w1 ⟨rfl, m, hw⟩; subst hw)))
          obtain ⟨bw, k0, k1, k2⟩ := hcx m
          generalize ((((w.alloc (.cells #[.pointer (some ⟨p, 0, none⟩)] 30)).alloc (.cells #[.int .i64 n] 3)).drewN m).alloc (.cells #[.pointer (some ⟨x.q, 0, none⟩)] 120)) = W at bw k0 k1 k2 ⊢
          have hxW := hx W bw
          go_quiet (fail)
          go_wp2
          go_ret
          exact ⟨rfl, hgr (bdr bw _)⟩
        · have hd2 : decide ((L : Int) < n) = false := decide_eq_false h2
          rw [if_neg (by omega)]
          obtain ⟨n', rfl⟩ : ∃ n' : Nat, n = (n' : Int) := ⟨n.toNat, by omega⟩
          rw [Int.toNat_natCast]
          go_enter Tryz.func82, Tryz.ntmps82
          go_wp2_with (first | (go_at_call 42; go_must (refine Calls.mono (hdead _ ?_) ?_; (focus (repeat first | exact Below.refl _ _ | refine bal ?_ _ | refine bdr ?_ _ | refine bd1 ?_)); rintro e w1 ⟨rfl, hw⟩; subst hw)) | (go_at_call 71; go_must (refine Calls.mono (hfd _ ?_) ?_; (focus (repeat first | exact Below.refl _ _ | refine bal ?_ _ | refine bdr ?_ _ | refine bd1 ?_)); rintro e w1 ⟨rfl, m, hw⟩; subst hw)))
          obtain ⟨bw, k0, k1, k2⟩ := hcx m
          generalize ((((w.alloc (.cells #[.pointer (some ⟨p, 0, none⟩)] 30)).alloc (.cells #[.int .i64 (n' : Int)] 3)).drewN m).alloc (.cells #[.pointer (some ⟨x.q, 0, none⟩)] 120)) = W at bw k0 k1 k2 ⊢
          have hxW := hx W bw
          go_quiet (fail)
          have hc := hact (W.drewN nq) w.heap.size (w.heap.size + 1 + 1) (w.heap.size + 1) n' (bdr bw _) (by omega) k0 k1 k2
          go_wp2_with (go_at_call 43; go_must (refine hc.mono ?_; rintro e w1 ⟨rfl, hDK1, hon1⟩))
          go_ret
          exact ⟨rfl, hDK1.after (bdr bw _), hon1.after (bdr bw _)⟩

/-- a file is safe -/
def Dk.syncF (f : Dk.F) : Dk.F := ⟨f.bs, f.bs.length⟩
set_option maxHeartbeats 1000000 in
theorem sync1_any {w : World} {p fm nm sm num : Nat} {D : Dk.D} {tv : Value} {J : List (Nat × FH × Dk.F)} {S : Nat → Prop} {x : FH} {f : Dk.F} (hO : Dk.Ok D) (hP : Parts w p D (Dk.sum D.files) fm nm sm tv J) (hS : ∀ k, foot p fm nm sm tv J k → S k) (hj : look J num = some (x, f))
    (b1 : Nat) (k1 : w.cell? ⟨b1, 0, none⟩ = some (.pointer (some ⟨x.q, 0, none⟩))) :
    Calls Tryz.prog 76 #[.pointer (some ⟨b1, 0, none⟩)] w fun e w' => e = .returned (.tuple #[]) ∧ DK w' p { D with files := mput D.files num (Dk.syncF f) } (grow1 S w) ∧ OnlyIn S w w' := by
  have hf : look D.files num = some f := by rw [hP.look, hj]; rfl
  have hx : FileAt w x f := hP.each _ (look_mem hj)
  obtain ⟨d0, d1, hfx⟩ := hx.cells
  obtain ⟨a, c, hv, ha, hc⟩ := t_shape hx.row
  obtain ⟨A, B, rfl, hA⟩ := look_part hj
  obtain ⟨L, hL⟩ : ∃ L, L = f.bs.length := ⟨_, rfl⟩
  have HL : Hid (L = f.bs.length) := hL
  have HV : Hid (x.v = .slice a f.bs.length c) := hv
  rw [hv, ← hL] at d0
  clear hL hv hc ha
  go_enter Tryz.func76, Tryz.ntmps76
  go_wp2
  go_region
  all_goals go_wp2
  all_goals first | go_end0 | refine bodyPost_ret (results_none rfl _ _ _) rfl ?_
  have hsum := Dk.sum_mput (Dk.syncF f) hf
  have hP' := hP.file (w' := (w.setCell ⟨x.q, 1, none⟩ (.int .i64 (L : Int)))) (h' := x) (f' := Dk.syncF f) (fun k _ hk _ => set_other w x.q 1 _ hk) hA ?_ rfl fun g hg => .inl hg
  · refine ⟨rfl, ⟨hO.setF _ hf (by have := hO.use; simp only [Dk.syncF]; omega), fm, nm, sm, tv, A ++ (num, x, Dk.syncF f) :: B, ?_, foot_file (x := x) (f := f) (fun k hk => .inl (hS k hk)) rfl fun g hg => .inl (hS g (.inr (.inr (.inr (.inr (.inr ⟨(num, x, f), by simp, .inr hg⟩))))))⟩, ?_⟩
    · have : Dk.sum (mput D.files num (Dk.syncF f)) = Dk.sum D.files := by simp only [Dk.syncF] at hsum; simp only [Dk.syncF]; omega
      show Parts _ p _ (Dk.sum (mput D.files num (Dk.syncF f))) fm nm sm tv _
      rw [this]
      exact hP'.keep fun k _ => rfl
    · exact (only_set w x.q 1 _ (hS _ (.inr (.inr (.inr (.inr (.inr ⟨(num, x, f), by simp, .inl rfl⟩))))))).trans ⟨rfl, rfl, rfl, Nat.le_refl _, fun _ _ _ => rfl⟩
  · refine hx.set x.v (L : Int) (Dk.syncF f) (by rw [HL.out]; rfl) hx.row hx.small (Nat.le_refl _) ?_ fun k _ hk => set_other w x.q 1 _ hk
    exact Go.Joins.block_setCell hx.blk _

/-- what Sync does and tells -/
def Dk.sync (D : Dk.D) (s : ByteArray) : Dk.D × Int :=
  if D.dead = true then (D, 9) else match Dk.find D s with
    | none => (D, 3)
    | some (m, f) => Dk.acted D { D with files := mput D.files m (Dk.syncF f) }

set_option maxHeartbeats 2000000 in
theorem syncD_any {w : World} {p : Nat} {D : Dk.D} {S : Nat → Prop} (h : DK w p D S) (s : ByteArray) :
    Calls Tryz.prog 41 #[.pointer (some ⟨p, 0, none⟩), .string s] w fun e w' => e = .returned (.int .i64 (Dk.sync D s).2) ∧ DK w' p (Dk.sync D s).1 (grow1 S w) ∧ OnlyIn S w w' := by
  have hgr : ∀ {W : World}, Below w.heap.size w W → DK W p D (grow1 S w) ∧ OnlyIn S w W := fun {W} hb => ⟨h.keep (fun k hk _ => hb.block k hk) fun _ _ h => .inl h, OnlyIn.of_below hb⟩
  obtain ⟨hO, fm, nm, sm, tv, J, hP, hS⟩ := h
  have hPW : ∀ {W : World}, Below w.heap.size w W → Parts W p D (Dk.sum D.files) fm nm sm tv J := fun {W} hb => hP.keep fun k hk => hb.block k (hP.lt hk)
  have hdead := fun (W : World) (hb : Below w.heap.size w W) => dead_any (hPW hb)
  unfold Dk.sync
  by_cases hd : D.dead = true
  · rw [hd] at hdead
    rw [if_pos hd]
    clear hd
    go_enter Tryz.func41, Tryz.ntmps41
    go_wp2_with (go_at_call 42; go_must (refine Calls.mono (hdead _ ?_) ?_; (focus (repeat first | exact Below.refl _ _ | refine bal ?_ _ | refine bdr ?_ _ | refine bd1 ?_)); rintro e w1 ⟨rfl, hw⟩; rw [hw]; clear hw w1))
    go_ret
    exact ⟨rfl, hgr (Below.refl _ _)⟩
  · rw [if_neg hd]
    rw [Bool.not_eq_true] at hd
    rw [hd] at hdead
    clear hd
    rcases hP.findJ hO s with ⟨e1, e2⟩ | ⟨num, x, f, e1, e2, e3, e4⟩
    · have hfd := fun (W : World) (hb : Below w.heap.size w W) => find_none (hPW hb) s e2 ((hPW hb).look0 hO)
      simp only [e1]
      go_enter Tryz.func41, Tryz.ntmps41
      go_wp2_with (first | (go_at_call 42; go_must (refine Calls.mono (hdead _ ?_) ?_; (focus (repeat first | exact Below.refl _ _ | refine bal ?_ _ | refine bdr ?_ _ | refine bd1 ?_)); rintro e w1 ⟨rfl, hw⟩; rw [hw]; clear hw w1)) | (go_at_call 71; go_must (refine Calls.mono (hfd _ ?_) ?_; (focus (repeat first | exact Below.refl _ _ | refine bal ?_ _ | refine bdr ?_ _ | refine bd1 ?_)); rintro e w1 ⟨rfl, m, hw⟩; have bw : Below w.heap.size w w1 := hw ▸ below_drew w m; clear hw)))
      go_ret
      exact ⟨rfl, hgr (bal bw _)⟩
    · have hfd := fun (W : World) (hb : Below w.heap.size w W) => find_some (hPW hb) s e2 e3
      have hact := fun (W : World) (b1 : Nat) (hb : Below w.heap.size w W) (k1 : W.cell? ⟨b1, 0, none⟩ = some (.pointer (some ⟨x.q, 0, none⟩))) =>
        act_any ⟨hO, fm, nm, sm, tv, J, hPW hb, hS⟩ { D with files := mput D.files num (Dk.syncF f) } 76 _ rfl rfl (enters_lit Tryz.func76 (by kernel_rfl) rfl) (sync1_any hO (hPW hb) hS e3 b1 k1)
      simp only [e1]
      go_enter Tryz.func41, Tryz.ntmps41
      go_wp2_with (first | (go_at_call 42; go_must (refine Calls.mono (hdead _ ?_) ?_; (focus (repeat first | exact Below.refl _ _ | refine bal ?_ _ | refine bdr ?_ _ | refine bd1 ?_)); rintro e w1 ⟨rfl, hw⟩; rw [hw]; clear hw w1)) | (go_at_call 71; go_must (refine Calls.mono (hfd _ ?_) ?_; (focus (repeat first | exact Below.refl _ _ | refine bal ?_ _ | refine bdr ?_ _ | refine bd1 ?_)); rintro e w1 ⟨rfl, m, hw⟩; have bw : Below w.heap.size w w1 := hw ▸ below_drew w m; clear hw)) | (go_at_call 43; go_must (refine Calls.mono (hact (w1.alloc (.cells #[.pointer (some ⟨x.q, 0, none⟩)] 120)) w1.heap.size (bal bw _) (by simp [go_sem])) ?_; rintro e w2 ⟨rfl, hDK1, hon1⟩)))
      go_ret
      exact ⟨rfl, hDK1.after (bal bw _), hon1.after (bal bw _)⟩
end Go.Proofs.YtnoknmnbfkdccaaGreatDoor

/- The disk's turns of names. -/
namespace Go.Proofs.YtnoknmnbfkdccaaGreatDoor
open Go.RowKit Go.Shelf

section
variable {P : Program} {α β : Type} [DecidableEq α] {K : TypeId} {ek : α → Value} {ev : β → Value} {w : World} {ops : Array Oper} {rest : List Oper} {o : Oper} {a : Act} {Q : Exit → Act → World → Prop}
theorem wp_update_at (hg : o.guard = none) (m x v : Operand) (t : TypeId) (hop : o.op = Op.mapUpdate t m x v) (E : TypeId) (hK : KeyE P K ek) (ht : P.underlying t = some (.map K E)) (b : Nat) (l : List (α × β)) (k : α) (y : β)
    (hm : a.eval m = .map (some b)) (hx : a.eval x = ek k) (hv : a.eval v = ev y) (h : MapAt ek ev w b l)
    (hC : ∀ w', MapAt ek ev w' b (mput l k y) → Turn1 w w' b → wpList P ops Q rest (a.put o.dst undef) w') : wpList P ops Q (o :: rest) a w := by
  refine wpList_plain hg fun K' hK' => ?_
  obtain ⟨w', hrun, r1, r2⟩ := run_update_at hK ht h k y
  unfold Oper.wp
  simp [execOp, hop, hm, hx, hv, hrun, Result.andThen]
  exact hK' _ _ (hC w' r1 r2)
theorem wp_delete_at (hg : o.guard = none) (m x : Operand) (t : TypeId) (hop : o.op = Op.call { callee := Callee.builtin Builtin.delete, args := #[m, x], argTypes := #[t, K] }) (E : TypeId) (hK : KeyE P K ek) (ht : P.underlying t = some (.map K E)) (b : Nat) (l : List (α × β)) (k : α)
    (hm : a.eval m = .map (some b)) (hx : a.eval x = ek k) (h : MapAt ek ev w b l)
    (hC : ∀ w', MapAt ek ev w' b (mdel l k) → Turn1 w w' b → wpList P ops Q rest (a.put o.dst (.tuple #[])) w') : wpList P ops Q (o :: rest) a w := by
  refine wpList_plain hg fun K' hK' => ?_
  obtain ⟨w', hrun, r1, r2⟩ := run_delete_at hK ht o.type h k
  unfold Oper.wp
  simp [execOp, hop, resolve, invoke, builtin, hm, hx, hrun, Result.andThen]
  exact hK' _ _ (hC w' r1 r2)
end

/-- names behind a turn -/
def Dk.turn (t : Dk.T) (l : List (ByteArray × Nat)) : List (ByteArray × Nat) := if t.given = ⟨#[]⟩ then mdel l t.taken else mput (mdel l t.taken) t.given t.file
def tval (t : Dk.T) : Value := .agg #[.string t.taken, .string t.given, .int .i64 (t.file : Int)]

theorem Turn1.cell {w w' : World} {b : Nat} (h : Turn1 w w' b) {p : Addr} (hp : p.block ≠ b) : w'.cell? p = w.cell? p := World.cell?_of_block (h.block _ hp)

set_option maxHeartbeats 1000000 in
theorem do_any (t : Dk.T) (b : Nat) (l : List (ByteArray × Nat)) (w : World) (h : MapAt sk ik w b l) :
    Calls Tryz.prog 77 #[tval t, .map (some b)] w fun e w' => e = .returned (.tuple #[]) ∧ MapAt sk ik w' b (Dk.turn t l) ∧ OnlyIn (fun k => k = b) w w' := by
  have hbs := h.lt
  have hne : ¬ (w.heap.size = b) := by omega
  have h1 : MapAt sk ik (w.alloc (.cells #[.string t.taken, .string t.given, .int .i64 (t.file : Int)] 129)) b l := h.keep (heap_alloc_old w _ hbs)
  unfold Dk.turn
  unfold tval
  have hon : ∀ {o : Obj} {w1 : World}, Turn1 (w.alloc o) w1 b → OnlyIn (fun k => k = b) w w1 := fun {o w1} ht => ⟨ht.os, ht.tape, ht.output, by rw [ht.size]; simp, fun k hk hn => (ht.block k hn).trans (heap_alloc_old w o hk)⟩
  by_cases hg : t.given = ⟨#[]⟩
  · rw [if_pos hg]
    rw [hg] at h1 ⊢
    go_enter Tryz.func77, Tryz.ntmps77
    go_wp2_with (at_delete; go_must (refine wp_delete_at (w := _) rfl _ _ _ rfl 3 skE Tryz.underlying73 b l t.taken rfl rfl h1 ?_; intro w1 hm1 ht1; have k0 := ht1.cell (p := ⟨w.heap.size, 0, none⟩) hne; have k1 := ht1.cell (p := ⟨w.heap.size, 1, none⟩) hne; have k2 := ht1.cell (p := ⟨w.heap.size, 2, none⟩) hne))
    first | go_end0 | refine bodyPost_ret (results_none rfl _ _ _) rfl ?_
    exact ⟨rfl, hm1, hon ht1⟩
  · rw [if_neg hg]
    have he : t.given.toList.isEmpty = false := by rw [isEmpty_kb, decide_eq_false hg]
    clear hg
    go_enter Tryz.func77, Tryz.ntmps77
    go_wp2_with (first | (at_delete; go_must (refine wp_delete_at (w := _) rfl _ _ _ rfl 3 skE Tryz.underlying73 b l t.taken rfl rfl h1 ?_; intro w1 hm1 ht1; have k0 := ht1.cell (p := ⟨w.heap.size, 0, none⟩) hne; have k1 := ht1.cell (p := ⟨w.heap.size, 1, none⟩) hne; have k2 := ht1.cell (p := ⟨w.heap.size, 2, none⟩) hne)) | (at_mapUpdate; go_must (refine wp_update_at (w := _) rfl _ _ _ _ rfl 3 skE Tryz.underlying73 b (mdel l t.taken) t.given t.file rfl rfl rfl hm1 ?_; intro w2 hm2 ht2)))
    first | go_end0 | refine bodyPost_ret (results_none rfl _ _ _) rfl ?_
    exact ⟨rfl, hm2, hon ⟨ht2.os.trans ht1.os, ht2.tape.trans ht1.tape, ht2.output.trans ht1.output, ht2.size.trans ht1.size, fun k hk => (ht2.block k hk).trans (ht1.block k hk)⟩⟩
end Go.Proofs.YtnoknmnbfkdccaaGreatDoor
