/- The disk's cut, and what Cut and Sync do. -/
import Derived.Test.YtefadkengfjdmaaDK5
import Derived.BigRegion
namespace Go.Proofs.Ytefadkengfjdmaa
open Go.RowKit

theorem own_take {w : World} {B e n c : Nat} {a : Option Addr} {xs : List Value} (h : w.ownsRow B e 1 (.slice a n c) n xs) (m : Nat) (hm : m ≤ n) : w.ownsRow B e 1 (.slice a m c) m (xs.take m) := by
  have hl : xs.length = n := by have := h.1; omega
  refine ⟨by rw [List.length_take]; omega, ?_⟩
  rcases h.2 with ⟨h0, h1⟩ | ⟨g, cap, cur, h0, h1, hc, h2, h3, h4, h5⟩
  · cases h0
    have : m = 0 := by omega
    subst this
    exact .inl ⟨rfl, rfl⟩
  · cases h0
    refine .inr ⟨g, c, cur, rfl, h1, hc, by omega, h3, h4, ?_⟩
    rw [← h5, List.take_take]
    congr 1
    omega
theorem kcells_take (k : IntKind) (bs : List Nat) (n : Nat) : (kcells k bs).take n = kcells k (bs.take n) := by simp [kcells, List.map_take]

/-- two cells of a file -/
theorem FileAt.set {w w' : World} {h : FH} {f : Dk.F} (x : FileAt w h f) (v : Value) (z : Int) (f' : Dk.F) (hz : z = (f'.safe : Int)) (hr : w.ownsRow 0 5 1 v f'.bs.length (kcells .u8 f'.bs)) (hs : ∀ y ∈ f'.bs, y < 256) (hl : f'.safe ≤ f'.bs.length)
    (hb : w'.heap[h.q]? = some (.cells #[v, .int .i64 z] 58 (0, 0))) (hk : ∀ k, k < w.heap.size → k ≠ h.q → w'.heap[k]? = w.heap[k]?) : FileAt w' ⟨h.q, v⟩ f' := by
  refine ⟨hz ▸ hb, own_keep hr fun g hg => ?_, hs, hl⟩
  obtain ⟨c, hc⟩ := own_blk hr hg
  exact hk g (heap_lt hc) (cells_ne hc x.blk (by decide))

def Dk.cutF (f : Dk.F) (n : Nat) : Dk.F := ⟨f.bs.take n, min f.safe n⟩
theorem cut_end {w : World} {p u fm nm sm num : Nat} {D : Dk.D} {tv : Value} {A B : List (Nat × FH × Dk.F)} {x : FH} {f : Dk.F} (hP : Parts w p D u fm nm sm tv (A ++ (num, x, f) :: B)) (hA : ∀ y ∈ A, y.1 ≠ num)
    (n : Nat) {z z2 : Int} {u' : Nat} (hz : z = (u' : Int)) (hz2 : z2 = ((min f.safe n : Nat) : Int)) (v : Value) (hr : w.ownsRow 0 5 1 v (f.bs.take n).length (kcells .u8 (f.bs.take n))) (hv : ∀ g, v.ownBlock = some g → x.v.ownBlock = some g) :
    (∃ v1, Parts (((w.setCell ⟨p, 3, none⟩ (.int .i64 z)).setCell ⟨x.q, 0, none⟩ v).setCell ⟨x.q, 1, none⟩ (.int .i64 z2)).drew p { D with files := mput D.files num (Dk.cutF f n) } u' fm nm sm tv (A ++ (num, ⟨x.q, v1⟩, Dk.cutF f n) :: B) ∧ (∀ g, v1.ownBlock = some g → x.v.ownBlock = some g)) ∧
      OnlyIn (fun k => k = p ∨ k = x.q) w (((w.setCell ⟨p, 3, none⟩ (.int .i64 z)).setCell ⟨x.q, 0, none⟩ v).setCell ⟨x.q, 1, none⟩ (.int .i64 z2)).drew := by
  have P1 := hP.setUsed (z := z) hz
  have x1 : FileAt _ x f := P1.each (num, x, f) (by simp)
  have hx : FileAt w x f := hP.each (num, x, f) (by simp)
  have hr1 : (w.setCell ⟨p, 3, none⟩ (.int .i64 z)).ownsRow 0 5 1 v (f.bs.take n).length (kcells .u8 (f.bs.take n)) := own_keep hr fun g hg => by
    obtain ⟨c, hc⟩ := own_blk hr hg
    exact set_other w p 3 _ (cells_ne hc hP.blk (by decide))
  have hoth : ∀ k, k ≠ x.q → (((w.setCell ⟨p, 3, none⟩ (.int .i64 z)).setCell ⟨x.q, 0, none⟩ v).setCell ⟨x.q, 1, none⟩ (.int .i64 z2)).heap[k]? = (w.setCell ⟨p, 3, none⟩ (.int .i64 z)).heap[k]? := fun k hk => (set_other _ x.q 1 _ hk).trans (set_other _ x.q 0 _ hk)
  refine ⟨⟨v, (P1.file (h' := ⟨x.q, v⟩) (f' := Dk.cutF f n) (fun k _ hk _ => hoth k hk) hA ?_ rfl fun g hg => .inl (hv g hg)).keep fun k _ => rfl, hv⟩, ?_⟩
  · refine x1.set v z2 (Dk.cutF f n) hz2 hr1 (fun y hy => hx.small y (List.mem_of_mem_take hy)) ?_ ?_ fun k _ hk => hoth k hk
    · have := hx.safe
      simp only [Dk.cutF, List.length_take]
      omega
    · exact Go.Joins.block_setCell (Go.Joins.block_setCell x1.blk _) _
  · refine ⟨rfl, rfl, rfl, by simp, fun k _ hn => ?_⟩
    exact (hoth k fun e => hn (.inr e)).trans (set_other w p 3 _ fun e => hn (.inl e))

set_option maxHeartbeats 2000000 in
theorem cut_any {w : World} {p u fm nm sm num : Nat} {D : Dk.D} {tv : Value} {A B : List (Nat × FH × Dk.F)} {x : FH} {f : Dk.F} (hP : Parts w p D u fm nm sm tv (A ++ (num, x, f) :: B)) (hA : ∀ y ∈ A, y.1 ≠ num)
    (n : Nat) (hn : n ≤ f.bs.length) (hu : f.bs.length - n ≤ u) (hub : u ≤ 4194304) (hlen : f.bs.length ≤ 4194304) :
    Calls Try.prog 33 #[.pointer (some ⟨p, 0, none⟩), .pointer (some ⟨x.q, 0, none⟩), .int .i64 (n : Int)] w fun e w' => e = .returned (.tuple #[]) ∧
      (∃ v, Parts w' p { D with files := mput D.files num (Dk.cutF f n) } (u - (f.bs.length - n)) fm nm sm tv (A ++ (num, ⟨x.q, v⟩, Dk.cutF f n) :: B) ∧ (∀ g, v.ownBlock = some g → x.v.ownBlock = some g)) ∧ OnlyIn (fun k => k = p ∨ k = x.q) w w' := by
  obtain ⟨⟨c0, c1, c2, c3, c4, c5, c6, c7, c8, c9⟩, hf⟩ := hP.cells
  have hx : FileAt w x f := hP.each (num, x, f) (by simp)
  obtain ⟨d0, d1, hfx⟩ := hx.cells
  obtain ⟨a, c, hv, ha, hc⟩ := t_shape hx.row
  have hpq : p ≠ x.q := cells_ne hP.blk hx.blk (by decide)
  obtain ⟨L, hL⟩ : ∃ L, L = f.bs.length := ⟨_, rfl⟩
  have hr := hx.row
  rw [← hL] at hv hc ha hn hu hlen hr ⊢
  rw [hv] at d0 hr
  have HL : Hid (L = f.bs.length) := hL
  clear hL
  have j1 : IntKind.i64.wrap ((L : Int) - (n : Int)) = (L : Int) - (n : Int) := by rw [IntKind.wrap_i64]; omega
  have j2 : IntKind.i64.wrap ((u : Int) - ((L : Int) - (n : Int))) = (u : Int) - ((L : Int) - (n : Int)) := by rw [IntKind.wrap_i64]; omega
  have hqp : ¬ (x.q = p) := fun e => hpq e.symm
  have hpq' : ¬ (p = x.q) := hpq
  cases a with
  | none =>
    obtain ⟨rfl, rfl⟩ := ha rfl
    have : n = 0 := by omega
    subst this
    go_enter Try.func33, Try.ntmps33
    go_wp2
    go_region
    go_wp2
    first | go_end0 | refine bodyPost_ret (results_none rfl _ _ _) rfl ?_
    refine ⟨rfl, ?_⟩
    refine cut_end hP hA 0 ?_ ?_ (.slice none 0 0) ⟨by simp [kcells], .inl ⟨rfl, by simp⟩⟩ (by simp [Value.ownBlock])
    · omega
    · omega
  | some ad =>
    obtain ⟨g, hg⟩ : ∃ g, ad = ⟨g, 0, none⟩ := by
      rcases hr.2 with ⟨h0, _⟩ | ⟨g, cap, cur, h0, _⟩
      · cases h0
      · cases h0; exact ⟨g, rfl⟩
    subst hg
    have i1 : (0 : Int) ≤ (n : Int) := by omega
    have i2 : (n : Int) ≤ (c : Int) := by omega
    have hrt := own_take hr n hn
    have HT : Hid (w.ownsRow 0 5 1 (.slice (some ⟨g, 0, none⟩) n c) (f.bs.take n).length (kcells .u8 (f.bs.take n))) := (by rw [kcells_take] at hrt; rw [List.length_take, ← HL.out, Nat.min_eq_left hn]; exact hrt : w.ownsRow 0 5 1 (.slice (some ⟨g, 0, none⟩) n c) (f.bs.take n).length (kcells .u8 (f.bs.take n)))
    clear hrt hr ha
    go_enter Try.func33, Try.ntmps33
    go_wp2
    go_region
    go_wp2
    all_goals first | go_end0 | refine bodyPost_ret (results_none rfl _ _ _) rfl ?_
    refine ⟨rfl, ?_⟩
    refine cut_end hP hA n ?_ ?_ (.slice (some ⟨g, 0, none⟩) n c) HT.out (by rw [hv]; simp [Value.ownBlock])
    · omega
    · omega
end Go.Proofs.Ytefadkengfjdmaa
