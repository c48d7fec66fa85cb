/- What the laws' awake does. -/
import Derived.Test.YtchiilhdkbpboaaMJ
import Derived.Test.YtchiilhdkbpboaaMR
import Derived.Test.YtchiilhdkbpboaaTR6
namespace Go.Proofs.Ytchiilhdkbpboaa
open Go.RowKit

theorem lit_own {W : World} {g n s : Nat} {C : Array Value} {e : TypeId} (h : W.heap[g]? = some (.cells C e (0, 0))) (hC : C.size = n * s) (hn : n ≤ 1000) : W.ownsRow 0 e s (.slice (some ⟨g, 0, none⟩) n n) n C.toList := by
  refine ⟨by simpa using hC, .inr ⟨g, n, C, rfl, Nat.zero_le _, h, Nat.le_refl _, by unfold maxLen; omega, hC, ?_⟩⟩
  rw [List.take_of_length_le (by simp [hC])]
def exA : IH := ⟨⟨#[97]⟩, false, false, none, 0, 0, Po.zero⟩
def exB : IH := ⟨⟨#[98]⟩, false, false, none, 0, 0, Po.zero⟩
def exD : IH := ⟨⟨#[97]⟩, true, false, none, 0, 0, Po.zero⟩
def xA : It.I := ([97], false, Ce.zero)
theorem ex_a (w : World) : IsItem w exA xA := ⟨rfl, rfl, rfl, rfl, ⟨rfl, by decide, (fun x hx => by cases hx), .inl rfl⟩, (fun _ => ⟨rfl, rfl⟩), Nat.le_refl _, by unfold Po.Fits; decide, by decide⟩
theorem ItAll.one {w : World} {h : IH} {x : It.I} (hx : IsItem w h x) : ItAll w [h] [x] := ItAll.snoc (ItAll.nil w) hx
theorem ItAll.two {w : World} {h h' : IH} {x x' : It.I} (hx : IsItem w h x) (hx' : IsItem w h' x') : ItAll w [h, h'] [x, x'] := ItAll.snoc (.one hx) hx'
/-- the example's lists -/
def exL : List (List It.I) := [[itA], [xA, itB]]
def exP (g : Nat) : List PH := [⟨some ⟨g, 0, none⟩, 1, 1⟩, ⟨some ⟨g + 1, 0, none⟩, 2, 2⟩]
def exG : List (List IH) := [[exD], [exA, exB]]
theorem ex_may : Mg.may exL = true := by decide +kernel
theorem ex_true : Mg.all exL true = [itB] := by rfl
theorem ex_false : Mg.all exL false = [itA, itB] := by rfl
def exW (w : World) : World := ((w.alloc (.cells #[.string ⟨#[97]⟩, .bool true, .bool false, .slice none 0 0, .int .i64 0, .int .i64 0, .int .i64 0, .int .u32 0] 37)).alloc (.cells #[.string ⟨#[97]⟩, .bool false, .bool false, .slice none 0 0, .int .i64 0, .int .i64 0, .int .i64 0, .int .u32 0, .string ⟨#[98]⟩, .bool false, .bool false, .slice none 0 0, .int .i64 0, .int .i64 0, .int .i64 0, .int .u32 0] 37)).alloc (.cells #[.slice (some ⟨w.heap.size, 0, none⟩) 1 1, .slice (some ⟨w.heap.size + 1, 0, none⟩) 2 2] 25)
theorem ex_below (w : World) : Below w.heap.size w (exW w) := ((below_alloc _ _).alloc (by simp) _).alloc (by simp; omega) _
theorem ex_lists (w : World) : InP (exW w) (some ⟨w.heap.size + 1 + 1, 0, none⟩) 2 (exP w.heap.size) exG exL := by
  have h0 : (exW w).heap[w.heap.size]? = some (.cells #[.string ⟨#[97]⟩, .bool true, .bool false, .slice none 0 0, .int .i64 0, .int .i64 0, .int .i64 0, .int .u32 0] 37 (0, 0)) := (heap_alloc_old _ _ (by simp; omega)).trans ((heap_alloc_old _ _ (by simp)).trans (heap_alloc_new _ _))
  have h1 : (exW w).heap[w.heap.size + 1]? = some (.cells #[.string ⟨#[97]⟩, .bool false, .bool false, .slice none 0 0, .int .i64 0, .int .i64 0, .int .i64 0, .int .u32 0, .string ⟨#[98]⟩, .bool false, .bool false, .slice none 0 0, .int .i64 0, .int .i64 0, .int .i64 0, .int .u32 0] 37 (0, 0)) := (heap_alloc_old _ _ (by simp)).trans (by have h := heap_alloc_new (w.alloc (.cells #[.string ⟨#[97]⟩, .bool true, .bool false, .slice none 0 0, .int .i64 0, .int .i64 0, .int .i64 0, .int .u32 0] 37)) (.cells #[.string ⟨#[97]⟩, .bool false, .bool false, .slice none 0 0, .int .i64 0, .int .i64 0, .int .i64 0, .int .u32 0, .string ⟨#[98]⟩, .bool false, .bool false, .slice none 0 0, .int .i64 0, .int .i64 0, .int .i64 0, .int .u32 0] 37); simpa using h)
  have h2 : (exW w).heap[w.heap.size + 1 + 1]? = some (.cells #[.slice (some ⟨w.heap.size, 0, none⟩) 1 1, .slice (some ⟨w.heap.size + 1, 0, none⟩) 2 2] 25 (0, 0)) := by
    have h := heap_alloc_new ((w.alloc (.cells #[.string ⟨#[97]⟩, .bool true, .bool false, .slice none 0 0, .int .i64 0, .int .i64 0, .int .i64 0, .int .u32 0] 37)).alloc (.cells #[.string ⟨#[97]⟩, .bool false, .bool false, .slice none 0 0, .int .i64 0, .int .i64 0, .int .i64 0, .int .u32 0, .string ⟨#[98]⟩, .bool false, .bool false, .slice none 0 0, .int .i64 0, .int .i64 0, .int .i64 0, .int .u32 0] 37)) (.cells #[.slice (some ⟨w.heap.size, 0, none⟩) 1 1, .slice (some ⟨w.heap.size + 1, 0, none⟩) 2 2] 25)
    simpa [exW] using h
  have o2 := lit_own (n := 2) (s := 1) h2 rfl (by omega)
  have o1 := lit_own (n := 2) (s := 8) h1 rfl (by omega)
  have o0 := lit_own (n := 1) (s := 8) h0 rfl (by omega)
  have t2 : TRow 1 phe phz (exW w) (some ⟨w.heap.size + 1 + 1, 0, none⟩) 2 (exP w.heap.size) := trow_of_owns phE o2 (by omega) (by omega)
  have t1 : TRow 8 ih ihz (exW w) (some ⟨w.heap.size + 1, 0, none⟩) 2 [exA, exB] := trow_of_owns ihE o1 (by omega) (by omega)
  have t0 : TRow 8 ih ihz (exW w) (some ⟨w.heap.size, 0, none⟩) 1 [exD] := trow_of_owns ihE o0 (by omega) (by omega)
  refine ⟨t2, rfl, rfl, fun i hi => ?_⟩
  match i, hi with
  | 0, _ => exact ⟨⟨t0, .one (item_a _)⟩, (fun h => by cases h), Nat.le_refl _⟩
  | 1, _ => exact ⟨⟨t1, .two (ex_a _) (item_b _)⟩, (fun h => by cases h), Nat.le_refl _⟩

set_option maxRecDepth 100000 in
set_option maxHeartbeats 1000000 in
theorem mgawake (w : World) : Calls Try.prog 8 #[] w fun e w' => e = .returned (.bool true) ∧ Below w.heap.size w w' := by
  have hsz : ∀ i, i < 2 → ((exP w.heap.size).getD i phz).n ≤ 100000 := fun i hi => by
    match i, hi with
    | 0, _ => show 1 ≤ 100000; omega
    | 1, _ => show 2 ≤ 100000; omega
  have hA := fun W (hW : Below (exW w).heap.size (exW w) W) => mall_yes _ 2 2 _ _ _ true W ((ex_lists w).below hW (Nat.le_refl _)) (by omega) hsz ex_may
  have hB := fun W (hW : Below (exW w).heap.size (exW w) W) => mall_yes _ 2 2 _ _ _ false W ((ex_lists w).below hW (Nat.le_refl _)) (by omega) hsz ex_may
  rw [ex_true] at hA
  rw [ex_false] at hB
  have hb0 := ex_below w
  have hA2 : ∀ W, Below (exW w).heap.size (exW w) W → Calls Try.prog 9 #[.slice (some ⟨w.heap.size + 1 + 1, 0, none⟩) 2 2, .bool true] W fun e w' => ∃ b off c, e = .returned (.tuple #[.slice (some ⟨b, off, none⟩) 1 c, .int .i64 0]) ∧ w'.cell? ⟨b, off, none⟩ = some (.string ⟨#[98]⟩) ∧ Below W.heap.size W w' := fun W hW => (hA W hW).mono fun e w' ⟨a, c, hs, h1, h2, h3⟩ => by
    obtain ⟨b, off, rfl, hc⟩ := h2.1.at (by decide : 0 < [itB].length)
    have h4 := (hc 0 (by decide)).1
    have h5 := (h2.1.item (i := 0) (by decide)).key
    have h6 : (hs.getD 0 ihz).key = ⟨#[98]⟩ := kb_inj h5
    rw [h6] at h4
    exact ⟨b, off, c, h1, by simpa using h4, h3⟩
  have hB2 : ∀ W, Below (exW w).heap.size (exW w) W → Calls Try.prog 9 #[.slice (some ⟨w.heap.size + 1 + 1, 0, none⟩) 2 2, .bool false] W fun e w' => ∃ b off c, e = .returned (.tuple #[.slice (some ⟨b, off, none⟩) 2 c, .int .i64 0]) ∧ w'.cell? ⟨b, off + 1, none⟩ = some (.bool true) ∧ Below W.heap.size W w' := fun W hW => (hB W hW).mono fun e w' ⟨a, c, hs, h1, h2, h3⟩ => by
    obtain ⟨b, off, rfl, hc⟩ := h2.1.at (by decide : 0 < [itA, itB].length)
    have h4 := (hc 0 (by decide)).2.1
    have h5 := (h2.1.item (i := 0) (by decide)).dead
    have h6 : (hs.getD 0 ihz).dead = true := h5
    rw [h6] at h4
    exact ⟨b, off, c, h1, by simpa using h4, h3⟩
  clear hA hB hsz
  unfold exW at hA2 hB2 hb0
  go_enter Try.func8, Try.ntmps8
  go_wp2_with (first
    | (go_at_call 9; have hz := hb1; go_must (refine (hB2 _ hb1).mono ?_; rintro e w2 ⟨b2, off2, c2, rfl, hc2, hb2⟩; have y0 := (hb2.cell (p := ⟨b1, off1, none⟩) (cell_lt hc1)).trans hc1))
    | (go_at_call 9; go_must (refine (hA2 _ (Below.refl _ _)).mono ?_; rintro e w1 ⟨b1, off1, c1, rfl, hc1, hb1⟩)))
  go_ret
  exact ⟨rfl, hb0.trans (((hb1.trans (hb2.mono hb1.size))).mono hb0.size)⟩
end Go.Proofs.Ytchiilhdkbpboaa
