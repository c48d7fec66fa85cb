/- What the reference's First does. -/
import Derived.Test.YtgdefibgifcbaaaFA
namespace Go.Proofs.Ytgdefibgifcbaaa
open Go.RowKit

/-- what First tells: a frame whose body is new memory, how many bytes, the code -/
def FirstRes (w : World) (R : Fr.F × Nat × Nat) (e : Ending) (w' : World) : Prop :=
  ∃ A C, e = .returned (.tuple #[.agg #[.int .i64 R.1.1, .slice A R.1.2.length C], .int .i64 (R.2.1 : Nat), .int .i64 (R.2.2 : Nat)]) ∧ w'.ownsRow w.heap.size 5 1 (.slice A R.1.2.length C) R.1.2.length (kcells .u8 R.1.2) ∧ Below w.heap.size w w'
theorem gap_iff {bs : List Nat} {k : Nat} (hk : k ≤ bs.length) (hh : ∀ j, j < k → 128 ≤ bs.getD j 0) (he : k = bs.length ∨ k = 3 ∨ bs.getD k 0 < 128) : Fr.gapHead bs = decide (k = bs.length ∧ k < 3) := by
  unfold Fr.gapHead
  by_cases h1 : k = bs.length ∧ k < 3
  · have : decide (k = bs.length ∧ k < 3) = true := decide_eq_true h1
    rw [this, Bool.and_eq_true, List.all_eq_true]
    refine ⟨by simp; omega, fun x hx => ?_⟩
    obtain ⟨j, hj, e⟩ := List.mem_iff_getElem.mp hx
    have := hh j (by omega)
    rw [List.getD_eq_getElem?_getD, List.getElem?_eq_getElem hj] at this
    rw [← e]; simp at this ⊢; exact this
  · have : decide (k = bs.length ∧ k < 3) = false := by simpa using h1
    rw [this]
    rw [Bool.and_eq_false_iff]
    by_cases h3 : bs.length < 3
    · right
      rw [List.all_eq_false]
      refine ⟨bs.getD k 0, ?_, ?_⟩
      · have hk' : k < bs.length := by omega
        have : bs.getD k 0 = bs[k] := by simp [hk']
        rw [this]; exact List.getElem_mem hk'
      · have : bs.getD k 0 < 128 := by omega
        simp only [decide_eq_true_eq]; omega
    · left; simpa using h3

/-- behind the frame's block, its body and its store: what the rest wants of the world -/
theorem first_world {w w1 w2 : World} {x g1 C : Nat} {A : Option Addr} {body : List Nat} (hb1 : Below w.heap.size w w1) (hs1 : w.heap.size < w1.heap.size)
    (hN : ∀ i, w1.cell? ⟨w.heap.size, i, none⟩ = (w.alloc (.cells #[.int .i64 0, .slice none 0 0] 39)).cell? ⟨w.heap.size, i, none⟩) (hF : ∀ i, w1.frozen? ⟨w.heap.size, i, none⟩ = (w.alloc (.cells #[.int .i64 0, .slice none 0 0] 39)).frozen? ⟨w.heap.size, i, none⟩)
    (hbel2 : Below (w1.heap.size + 1) (w1.alloc (.cells #[.int .i64 (x : Nat), .slice none 0 0] 39)) w2)
    (hown2 : w2.ownsRow (w1.heap.size + 1) 5 1 (.slice A g1 C) g1 (kcells .u8 body)) :
    ∃ W3, W3 = w2.setCell ⟨w1.heap.size, 1, none⟩ (.slice A g1 C) ∧ W3.cell? ⟨w1.heap.size, 0, none⟩ = some (.int .i64 (x : Nat)) ∧ W3.cell? ⟨w1.heap.size, 1, none⟩ = some (.slice A g1 C) ∧
      W3.cell? ⟨w.heap.size, 0, none⟩ = some (.int .i64 0) ∧ W3.cell? ⟨w.heap.size, 1, none⟩ = some (.slice none 0 0) ∧ W3.frozen? ⟨w.heap.size, 0, none⟩ = false ∧ W3.frozen? ⟨w.heap.size, 1, none⟩ = false ∧
      Below w.heap.size w W3 ∧ W3.ownsRow (w1.heap.size + 1) 5 1 (.slice A g1 C) g1 (kcells .u8 body) ∧ w1.heap.size + 1 ≤ W3.heap.size := by
  have hc : ∀ b i, b < w1.heap.size + 1 → w2.cell? ⟨b, i, none⟩ = (w1.alloc (.cells #[.int .i64 (x : Nat), .slice none 0 0] 39)).cell? ⟨b, i, none⟩ := fun b i h => hbel2.cell (p := ⟨b, i, none⟩) h
  have hf : ∀ b i, b < w1.heap.size + 1 → w2.frozen? ⟨b, i, none⟩ = (w1.alloc (.cells #[.int .i64 (x : Nat), .slice none 0 0] 39)).frozen? ⟨b, i, none⟩ := fun b i h => hbel2.frozen (p := ⟨b, i, none⟩) h
  have hp : ∀ i, (w1.alloc (.cells #[.int .i64 (x : Nat), .slice none 0 0] 39)).cell? ⟨w.heap.size, i, none⟩ = w1.cell? ⟨w.heap.size, i, none⟩ := fun i => cell_past _ _ ⟨w.heap.size, i, none⟩ hs1
  have hq : ∀ i, (w1.alloc (.cells #[.int .i64 (x : Nat), .slice none 0 0] 39)).frozen? ⟨w.heap.size, i, none⟩ = w1.frozen? ⟨w.heap.size, i, none⟩ := fun i => World.frozen?_of_block (w := w1) (Below.heap_alloc w1 _ w.heap.size hs1)
  have hl := hbel2.size
  rw [World.size_alloc] at hl
  have hfz : ∀ i, (w.alloc (.cells #[.int .i64 0, .slice none 0 0] 39)).frozen? ⟨w.heap.size, i, none⟩ = false := by
    intro i
    have : (w.alloc (.cells #[.int .i64 0, .slice none 0 0] 39)).heap[w.heap.size]? = some (.cells #[.int .i64 0, .slice none 0 0] 39) := heap_alloc_new w _
    simp only [World.frozen?, this]
    simp
  refine ⟨_, rfl, ?_, ?_, ?_, ?_, ?_, ?_, ?_, ?_, ?_⟩
  · refine (World.cell?_setCell_other w2 _ _ _ (by simp)).trans ?_; rw [hc _ _ (by omega), cell_new]; rfl
  · exact World.cell?_setCell_same w2 _ _ (u := .slice none 0 0) (by rw [hc _ _ (by omega), cell_new]; rfl)
  · refine (World.cell?_setCell_other w2 _ _ _ (by simp <;> omega)).trans ?_; rw [hc _ _ (by omega), hp, hN, cell_new]; rfl
  · refine (World.cell?_setCell_other w2 _ _ _ (by simp <;> omega)).trans ?_; rw [hc _ _ (by omega), hp, hN, cell_new]; rfl
  · rw [World.frozen?_setCell, hf _ _ (by omega), hq, hF, hfz]
  · rw [World.frozen?_setCell, hf _ _ (by omega), hq, hF, hfz]
  · exact (((hb1.alloc (by omega) _).trans (hbel2.mono (by omega)))).setCell (p := ⟨w1.heap.size, 1, none⟩) (by simp; omega) _
  · exact ownsRow_setCell_below hown2 (by simp) _
  · rw [World.size_setCell]; exact hl

set_option maxRecDepth 100000 in
set_option maxHeartbeats 1000000 in
theorem reffirst_any (a : Option Addr) (len cap : Nat) (bs : List Nat) (w : World) (hcap : len ≤ cap) (hbig : len ≤ 100000) (hr : Row .u8 w a len bs) :
    Calls Try.prog 46 #[.slice a len cap] w (FirstRes w (Fr.first bs)) := by
  have hlen : Hid (bs.length = len) := hr.1
  obtain ⟨R, hR⟩ : ∃ R, R = Fr.first bs := ⟨_, rfl⟩
  rw [← hR]
  have HR : Hid (R = Fr.first bs) := hR
  clear hR
  have hb0 : Below w.heap.size w (w.alloc (.cells #[.int .i64 0, .slice none 0 0] 39)) := (Below.refl _ _).alloc (Nat.le_refl _) _
  go_enter Try.func46, Try.ntmps46
  go_wp2
  go_loop [5] (fun i => ∃ k : Nat, k ≤ len ∧ k ≤ 3 ∧ i = .int .i64 k ∧ Hid (∀ j, j < k → 128 ≤ bs.getD j 0)) (fun i => len - (intOf i).toNat)
  case atStart => exact ⟨0, by omega, by omega, rfl, (fun j hj => by omega : ∀ j, j < 0 → 128 ≤ bs.getD j 0)⟩
  case round =>
    obtain ⟨k, hk, hk3, rfl, hh⟩ := hrel
    by_cases hgo : k < len ∧ k < 3 ∧ 128 ≤ bs.getD k 0
    · obtain ⟨hlt, hlt3, hx⟩ := hgo
      obtain ⟨b, off, rfl, hc⟩ := (hr.below hb0 (Nat.le_refl _)).at (by omega)
      have hcell := hc k hlt
      have hx8 := getD_lt8 hr.2.2.1 k
      have H : Hid (∀ j, j < k + 1 → 128 ≤ bs.getD j 0) := high_step hh.out hx
      clear hc
      generalize bs.getD k 0 = x at *
      go_wp2
      go_round
      case rel => exact ⟨k + 1, by omega, by omega, by go_num, H⟩
      case measure => simp [intOf]; omega
    · have hgap := gap_iff (bs := bs) (k := k) (by rw [hlen.out]; exact hk) hh.out (by rw [hlen.out]; omega)
      rw [hlen.out] at hgap
      by_cases hend : k = len ∧ k < 3
      · have H : Hid (R = ((0, []), 0, 5)) := (by rw [HR.out]; unfold Fr.first; rw [if_pos (by rw [hgap]; simpa using hend)] : R = ((0, []), 0, 5))
        obtain ⟨rfl, hend⟩ := hend
        clear hgap
        go_wp2
        exact bodyPost_ret (v := .tuple #[.agg #[.int .i64 0, .slice none 0 0], .int .i64 0, .int .i64 5]) (by simp [results, Try.results46, go_sem]) rfl ⟨none, 0, by rw [H.out]; rfl, by rw [H.out]; exact World.ownsRow_nil _ _ _ _, hb0⟩
      · have hgf : Fr.gapHead bs = false := by rw [hgap]; simpa using hend
        clear hgap
        have hrow0 := hr.below hb0 (Nat.le_refl _)
        have hget := refget_any a len cap bs _ hcap hbig hrow0
        have hgle := Va.get_le (bs := bs)
        rw [hlen.out] at hgle
        have hglt := Va.get_lt bs
        obtain ⟨g, hg⟩ : ∃ g, g = Va.get bs := ⟨_, rfl⟩
        rw [← hg] at hget hgle hglt
        obtain ⟨g1, g2⟩ := g
        simp only at hget hgle hglt
        have HG : Hid (Va.get bs = (g1, g2)) := hg.symm
        clear hg
        have hex : (k = 3 ∧ len = 3) ∨ (3 < len ∧ k = 3) ∨ (k < len ∧ k < 3 ∧ bs.getD k 0 < 128) := by omega
        rcases hex with ⟨rfl, rfl⟩ | ⟨hex, rfl⟩ | ⟨hex1, hex2, hex3⟩
        · clear hgo hend hk hk3 hh hrow0
          by_cases hz : g2 = 0
          · have H : Hid (R = ((0, []), 0, 2)) := (by rw [HR.out]; unfold Fr.first; rw [hgf, HG.out, if_neg (by simp), if_pos (by simp; omega)] : R = ((0, []), 0, 2))
            subst hz
            go_wp2_with (go_at_call 54; refine hget.mono ?_; rintro e w1 ⟨rfl, hbel1⟩; obtain ⟨hc1, hf1⟩ := bcell hbel1; have hb1 := hb0.trans (hbel1.mono hb0.size); have hs1 : w.heap.size < w1.heap.size := (by have := hbel1.size; simp at this; omega))
            exact bodyPost_ret (v := .tuple #[.agg #[.int .i64 0, .slice none 0 0], .int .i64 0, .int .i64 2]) (by simp [results, Try.results46, go_sem, hc1]) rfl ⟨none, 0, by rw [H.out]; rfl, by rw [H.out]; exact World.ownsRow_nil _ _ _ _, by first | exact hb1 | exact (hb1.setCell (Nat.le_refl _) _).setCell (Nat.le_refl _) _ | exact ((hb1.setCell (Nat.le_refl _) _).setCell (Nat.le_refl _) _).alloc (by simp; omega) _⟩
          · have hz' : ((g2 : Int) == 0) = false := by simp; omega
            by_cases hbg : 1048576 < g1
            · have H : Hid (R = ((0, []), 0, 2)) := (by rw [HR.out]; unfold Fr.first; rw [hgf, HG.out, if_neg (by simp), if_pos (by simp; omega)] : R = ((0, []), 0, 2))
              go_wp2_with (go_at_call 54; refine hget.mono ?_; rintro e w1 ⟨rfl, hbel1⟩; obtain ⟨hc1, hf1⟩ := bcell hbel1; have hb1 := hb0.trans (hbel1.mono hb0.size); have hs1 : w.heap.size < w1.heap.size := (by have := hbel1.size; simp at this; omega))
              exact bodyPost_ret (v := .tuple #[.agg #[.int .i64 0, .slice none 0 0], .int .i64 0, .int .i64 2]) (by simp [results, Try.results46, go_sem, hc1]) rfl ⟨none, 0, by rw [H.out]; rfl, by rw [H.out]; exact World.ownsRow_nil _ _ _ _, by first | exact hb1 | exact (hb1.setCell (Nat.le_refl _) _).setCell (Nat.le_refl _) _ | exact ((hb1.setCell (Nat.le_refl _) _).setCell (Nat.le_refl _) _).alloc (by simp; omega) _⟩
            · have hbg' : decide (1048576 < (g1 : Int)) = false := by simp; omega
              by_cases hel : g2 = 3
              · have H : Hid (R = ((0, []), 0, 5)) := (by rw [HR.out]; unfold Fr.first; rw [hgf, HG.out, if_neg (by simp), if_neg (by simp; omega), if_pos (by rw [hlen.out]; exact hel)] : R = ((0, []), 0, 5))
                subst hel
                go_wp2_with (go_at_call 54; refine hget.mono ?_; rintro e w1 ⟨rfl, hbel1⟩; obtain ⟨hc1, hf1⟩ := bcell hbel1; have hb1 := hb0.trans (hbel1.mono hb0.size); have hs1 : w.heap.size < w1.heap.size := (by have := hbel1.size; simp at this; omega))
                exact bodyPost_ret (v := .tuple #[.agg #[.int .i64 0, .slice none 0 0], .int .i64 0, .int .i64 5]) (by simp [results, Try.results46, go_sem, hc1]) rfl ⟨none, 0, by rw [H.out]; rfl, by rw [H.out]; exact World.ownsRow_nil _ _ _ _, by first | exact hb1 | exact (hb1.setCell (Nat.le_refl _) _).setCell (Nat.le_refl _) _ | exact ((hb1.setCell (Nat.le_refl _) _).setCell (Nat.le_refl _) _).alloc (by simp; omega) _⟩
              · have hel' : ((g2 : Int) == (3 : Int)) = false := by simp; omega
                have hlt2 : g2 < 3 := by omega
                obtain ⟨b, off, rfl, _⟩ := hr.at (by omega)
                have hx8 := getD_lt8 hr.2.2.1 g2
                obtain ⟨x, hx⟩ : ∃ x, x = bs.getD g2 0 := ⟨_, rfl⟩
                rw [← hx] at hx8
                have Hx : Hid (x = bs.getD g2 0) := hx
                clear hx
                by_cases hk0 : x < 1
                · have H : Hid (R = ((0, []), 0, 2)) := (by rw [HR.out]; unfold Fr.first; rw [hgf, HG.out, if_neg (by simp), if_neg (by simp; omega), if_neg (by rw [hlen.out]; exact hel), if_pos (by simp only []; rw [← Hx.out]; omega)] : R = ((0, []), 0, 2))
                  go_wp2_with (go_at_call 54; refine hget.mono ?_; rintro e w1 ⟨rfl, hbel1⟩; obtain ⟨hc1, hf1⟩ := bcell hbel1; have hb1 := hb0.trans (hbel1.mono hb0.size); have hs1 : w.heap.size < w1.heap.size := (by have := hbel1.size; simp at this; omega); have hcell1 := (hr.below hb1 (Nat.le_refl _)).cell g2 hlt2; rw [← Hx.out] at hcell1)
                  exact bodyPost_ret (v := .tuple #[.agg #[.int .i64 0, .slice none 0 0], .int .i64 0, .int .i64 2]) (by simp [results, Try.results46, go_sem, hs1, hc1]) rfl ⟨none, 0, by rw [H.out]; rfl, by rw [H.out]; exact World.ownsRow_nil _ _ _ _, by first | exact hb1 | exact (hb1.setCell (Nat.le_refl _) _).setCell (Nat.le_refl _) _ | exact ((hb1.setCell (Nat.le_refl _) _).setCell (Nat.le_refl _) _).alloc (by simp; omega) _⟩
                · have hk0' : decide ((x : Int) < 1) = false := by simp; omega
                  by_cases hk250 : 250 < x
                  · have H : Hid (R = ((0, []), 0, 2)) := (by rw [HR.out]; unfold Fr.first; rw [hgf, HG.out, if_neg (by simp), if_neg (by simp; omega), if_neg (by rw [hlen.out]; exact hel), if_pos (by simp only []; rw [← Hx.out]; omega)] : R = ((0, []), 0, 2))
                    go_wp2_with (go_at_call 54; refine hget.mono ?_; rintro e w1 ⟨rfl, hbel1⟩; obtain ⟨hc1, hf1⟩ := bcell hbel1; have hb1 := hb0.trans (hbel1.mono hb0.size); have hs1 : w.heap.size < w1.heap.size := (by have := hbel1.size; simp at this; omega); have hcell1 := (hr.below hb1 (Nat.le_refl _)).cell g2 hlt2; rw [← Hx.out] at hcell1)
                    exact bodyPost_ret (v := .tuple #[.agg #[.int .i64 0, .slice none 0 0], .int .i64 0, .int .i64 2]) (by simp [results, Try.results46, go_sem, hs1, hc1]) rfl ⟨none, 0, by rw [H.out]; rfl, by rw [H.out]; exact World.ownsRow_nil _ _ _ _, by first | exact hb1 | exact (hb1.setCell (Nat.le_refl _) _).setCell (Nat.le_refl _) _ | exact ((hb1.setCell (Nat.le_refl _) _).setCell (Nat.le_refl _) _).alloc (by simp; omega) _⟩
                  · have hk250' : decide (250 < (x : Int)) = false := by simp; omega
                    by_cases hsh : 3 < g2 + 1 + g1 + 4
                    · have H : Hid (R = ((0, []), 0, 5)) := (by rw [HR.out]; unfold Fr.first; rw [hgf, HG.out, if_neg (by simp), if_neg (by simp; omega), if_neg (by rw [hlen.out]; exact hel), if_neg (by simp only []; rw [← Hx.out]; omega), if_pos (by simp only []; rw [hlen.out]; exact hsh)] : R = ((0, []), 0, 5))
                      go_wp2_with (go_at_call 54; refine hget.mono ?_; rintro e w1 ⟨rfl, hbel1⟩; obtain ⟨hc1, hf1⟩ := bcell hbel1; have hb1 := hb0.trans (hbel1.mono hb0.size); have hs1 : w.heap.size < w1.heap.size := (by have := hbel1.size; simp at this; omega); have hcell1 := (hr.below hb1 (Nat.le_refl _)).cell g2 hlt2; rw [← Hx.out] at hcell1)
                      exact bodyPost_ret (v := .tuple #[.agg #[.int .i64 0, .slice none 0 0], .int .i64 0, .int .i64 5]) (by simp [results, Try.results46, go_sem, hs1, hc1]) rfl ⟨none, 0, by rw [H.out]; rfl, by rw [H.out]; exact World.ownsRow_nil _ _ _ _, by first | exact hb1 | exact (hb1.setCell (Nat.le_refl _) _).setCell (Nat.le_refl _) _ | exact ((hb1.setCell (Nat.le_refl _) _).setCell (Nat.le_refl _) _).alloc (by simp; omega) _⟩
                    · omega
        · have hne3 : ((3 : Int) == (len : Int)) = false := by simp; omega
          clear hgo hend hk hk3 hh hrow0
          by_cases hz : g2 = 0
          · have H : Hid (R = ((0, []), 0, 2)) := (by rw [HR.out]; unfold Fr.first; rw [hgf, HG.out, if_neg (by simp), if_pos (by simp; omega)] : R = ((0, []), 0, 2))
            subst hz
            go_wp2_with (go_at_call 54; refine hget.mono ?_; rintro e w1 ⟨rfl, hbel1⟩; obtain ⟨hc1, hf1⟩ := bcell hbel1; have hb1 := hb0.trans (hbel1.mono hb0.size); have hs1 : w.heap.size < w1.heap.size := (by have := hbel1.size; simp at this; omega))
            exact bodyPost_ret (v := .tuple #[.agg #[.int .i64 0, .slice none 0 0], .int .i64 0, .int .i64 2]) (by simp [results, Try.results46, go_sem, hc1]) rfl ⟨none, 0, by rw [H.out]; rfl, by rw [H.out]; exact World.ownsRow_nil _ _ _ _, by first | exact hb1 | exact (hb1.setCell (Nat.le_refl _) _).setCell (Nat.le_refl _) _ | exact ((hb1.setCell (Nat.le_refl _) _).setCell (Nat.le_refl _) _).alloc (by simp; omega) _⟩
          · have hz' : ((g2 : Int) == 0) = false := by simp; omega
            by_cases hbg : 1048576 < g1
            · have H : Hid (R = ((0, []), 0, 2)) := (by rw [HR.out]; unfold Fr.first; rw [hgf, HG.out, if_neg (by simp), if_pos (by simp; omega)] : R = ((0, []), 0, 2))
              go_wp2_with (go_at_call 54; refine hget.mono ?_; rintro e w1 ⟨rfl, hbel1⟩; obtain ⟨hc1, hf1⟩ := bcell hbel1; have hb1 := hb0.trans (hbel1.mono hb0.size); have hs1 : w.heap.size < w1.heap.size := (by have := hbel1.size; simp at this; omega))
              exact bodyPost_ret (v := .tuple #[.agg #[.int .i64 0, .slice none 0 0], .int .i64 0, .int .i64 2]) (by simp [results, Try.results46, go_sem, hc1]) rfl ⟨none, 0, by rw [H.out]; rfl, by rw [H.out]; exact World.ownsRow_nil _ _ _ _, by first | exact hb1 | exact (hb1.setCell (Nat.le_refl _) _).setCell (Nat.le_refl _) _ | exact ((hb1.setCell (Nat.le_refl _) _).setCell (Nat.le_refl _) _).alloc (by simp; omega) _⟩
            · have hbg' : decide (1048576 < (g1 : Int)) = false := by simp; omega
              by_cases hel : g2 = len
              · have H : Hid (R = ((0, []), 0, 5)) := (by rw [HR.out]; unfold Fr.first; rw [hgf, HG.out, if_neg (by simp), if_neg (by simp; omega), if_pos (by rw [hlen.out]; exact hel)] : R = ((0, []), 0, 5))
                subst hel
                go_wp2_with (go_at_call 54; refine hget.mono ?_; rintro e w1 ⟨rfl, hbel1⟩; obtain ⟨hc1, hf1⟩ := bcell hbel1; have hb1 := hb0.trans (hbel1.mono hb0.size); have hs1 : w.heap.size < w1.heap.size := (by have := hbel1.size; simp at this; omega))
                exact bodyPost_ret (v := .tuple #[.agg #[.int .i64 0, .slice none 0 0], .int .i64 0, .int .i64 5]) (by simp [results, Try.results46, go_sem, hc1]) rfl ⟨none, 0, by rw [H.out]; rfl, by rw [H.out]; exact World.ownsRow_nil _ _ _ _, by first | exact hb1 | exact (hb1.setCell (Nat.le_refl _) _).setCell (Nat.le_refl _) _ | exact ((hb1.setCell (Nat.le_refl _) _).setCell (Nat.le_refl _) _).alloc (by simp; omega) _⟩
              · have hel' : ((g2 : Int) == (len : Int)) = false := by simp; omega
                have hlt2 : g2 < len := by omega
                obtain ⟨b, off, rfl, _⟩ := hr.at (by omega)
                have hx8 := getD_lt8 hr.2.2.1 g2
                obtain ⟨x, hx⟩ : ∃ x, x = bs.getD g2 0 := ⟨_, rfl⟩
                rw [← hx] at hx8
                have Hx : Hid (x = bs.getD g2 0) := hx
                clear hx
                by_cases hk0 : x < 1
                · have H : Hid (R = ((0, []), 0, 2)) := (by rw [HR.out]; unfold Fr.first; rw [hgf, HG.out, if_neg (by simp), if_neg (by simp; omega), if_neg (by rw [hlen.out]; exact hel), if_pos (by simp only []; rw [← Hx.out]; omega)] : R = ((0, []), 0, 2))
                  go_wp2_with (go_at_call 54; refine hget.mono ?_; rintro e w1 ⟨rfl, hbel1⟩; obtain ⟨hc1, hf1⟩ := bcell hbel1; have hb1 := hb0.trans (hbel1.mono hb0.size); have hs1 : w.heap.size < w1.heap.size := (by have := hbel1.size; simp at this; omega); have hcell1 := (hr.below hb1 (Nat.le_refl _)).cell g2 hlt2; rw [← Hx.out] at hcell1)
                  exact bodyPost_ret (v := .tuple #[.agg #[.int .i64 0, .slice none 0 0], .int .i64 0, .int .i64 2]) (by simp [results, Try.results46, go_sem, hs1, hc1]) rfl ⟨none, 0, by rw [H.out]; rfl, by rw [H.out]; exact World.ownsRow_nil _ _ _ _, by first | exact hb1 | exact (hb1.setCell (Nat.le_refl _) _).setCell (Nat.le_refl _) _ | exact ((hb1.setCell (Nat.le_refl _) _).setCell (Nat.le_refl _) _).alloc (by simp; omega) _⟩
                · have hk0' : decide ((x : Int) < 1) = false := by simp; omega
                  by_cases hk250 : 250 < x
                  · have H : Hid (R = ((0, []), 0, 2)) := (by rw [HR.out]; unfold Fr.first; rw [hgf, HG.out, if_neg (by simp), if_neg (by simp; omega), if_neg (by rw [hlen.out]; exact hel), if_pos (by simp only []; rw [← Hx.out]; omega)] : R = ((0, []), 0, 2))
                    go_wp2_with (go_at_call 54; refine hget.mono ?_; rintro e w1 ⟨rfl, hbel1⟩; obtain ⟨hc1, hf1⟩ := bcell hbel1; have hb1 := hb0.trans (hbel1.mono hb0.size); have hs1 : w.heap.size < w1.heap.size := (by have := hbel1.size; simp at this; omega); have hcell1 := (hr.below hb1 (Nat.le_refl _)).cell g2 hlt2; rw [← Hx.out] at hcell1)
                    exact bodyPost_ret (v := .tuple #[.agg #[.int .i64 0, .slice none 0 0], .int .i64 0, .int .i64 2]) (by simp [results, Try.results46, go_sem, hs1, hc1]) rfl ⟨none, 0, by rw [H.out]; rfl, by rw [H.out]; exact World.ownsRow_nil _ _ _ _, by first | exact hb1 | exact (hb1.setCell (Nat.le_refl _) _).setCell (Nat.le_refl _) _ | exact ((hb1.setCell (Nat.le_refl _) _).setCell (Nat.le_refl _) _).alloc (by simp; omega) _⟩
                  · have hk250' : decide (250 < (x : Int)) = false := by simp; omega
                    by_cases hsh : len < g2 + 1 + g1 + 4
                    · have H : Hid (R = ((0, []), 0, 5)) := (by rw [HR.out]; unfold Fr.first; rw [hgf, HG.out, if_neg (by simp), if_neg (by simp; omega), if_neg (by rw [hlen.out]; exact hel), if_neg (by simp only []; rw [← Hx.out]; omega), if_pos (by simp only []; rw [hlen.out]; exact hsh)] : R = ((0, []), 0, 5))
                      go_wp2_with (go_at_call 54; refine hget.mono ?_; rintro e w1 ⟨rfl, hbel1⟩; obtain ⟨hc1, hf1⟩ := bcell hbel1; have hb1 := hb0.trans (hbel1.mono hb0.size); have hs1 : w.heap.size < w1.heap.size := (by have := hbel1.size; simp at this; omega); have hcell1 := (hr.below hb1 (Nat.le_refl _)).cell g2 hlt2; rw [← Hx.out] at hcell1)
                      exact bodyPost_ret (v := .tuple #[.agg #[.int .i64 0, .slice none 0 0], .int .i64 0, .int .i64 5]) (by simp [results, Try.results46, go_sem, hs1, hc1]) rfl ⟨none, 0, by rw [H.out]; rfl, by rw [H.out]; exact World.ownsRow_nil _ _ _ _, by first | exact hb1 | exact (hb1.setCell (Nat.le_refl _) _).setCell (Nat.le_refl _) _ | exact ((hb1.setCell (Nat.le_refl _) _).setCell (Nat.le_refl _) _).alloc (by simp; omega) _⟩
                    · generalize hbody : (bs.drop (g2 + 1)).take g1 = body at *
                      have Hb : Hid ((bs.drop (g2 + 1)).take g1 = body) := hbody
                      have hbl : Hid (body.length = g1) := (by rw [← hbody, List.length_take, List.length_drop, hlen.out]; omega : body.length = g1)
                      have hbs8 : ∀ y ∈ body, y < lim .u8 := by rw [← hbody]; exact take_small (drop_small hr.2.2.1 _) _
                      clear hbody
                      have hm : Hid (g2 + 1 + g1 - (g2 + 1) = g1) := (by omega : g2 + 1 + g1 - (g2 + 1) = g1)
                      go_wp2_with (first
                        | (go_at_call 54; refine hget.mono ?_; rintro e w1 ⟨rfl, hbel1⟩; obtain ⟨hc1, hf1⟩ := bcell hbel1; have hb1 := hb0.trans (hbel1.mono hb0.size); have hs1 : w.heap.size < w1.heap.size := (by have := hbel1.size; simp at this; omega); have hcell1 := (hr.below hb1 (Nat.le_refl _)).cell g2 hlt2; rw [← Hx.out] at hcell1)
                        | (at_builtin; have := hs1; go_must (refine append_u8 (w0 := w1.alloc (.cells #[.int .i64 (x : Nat), .slice none 0 0] 39)) (B := w1.heap.size + 1) rfl (.tmp 79) (.tmp 84) rfl _ 0 [] rfl (made_at _ _ _ (by simp) (by simp)) _ (g2 + 1 + g1 - (g2 + 1)) _ body rfl (by rw [hm.out]; exact Hb.out ▸ ((((hr.below hb1 (Nat.le_refl _)).below ((Below.refl _ _).alloc (Nat.le_refl _) _) (Nat.le_refl _)).below ((Below.refl _ _).alloc (Nat.le_refl _) _) (Nat.le_refl _)).drop (g2 + 1) (by omega)).take g1 (by omega)) (fun h => by cases h) (by omega) ((Below.refl _ _).alloc (by simp) _) (by simp) ?_; intro A C w2 hown2 hbel2 hsz2; have hm0 : 0 + (g2 + 1 + g1 - (g2 + 1)) = g1 := (by omega); rw [hm0, List.nil_append] at hown2; rw [hm0]; clear hm0; obtain ⟨hc2, hf2⟩ := bcell (W := w1.alloc (.cells #[.int .i64 (x : Nat), .slice none 0 0] 39)) (w1 := w2) (by simpa using hbel2))))
                      obtain ⟨W3, hW3, hF0, hF1, hN0, hN1, hz0, hz1, hB3, hown3, hsz3⟩ := first_world hb1 hs1 (fun i => hc1 _ i (by simp)) (fun i => hf1 _ i (by simp)) hbel2 hown2
                      rw [← hW3]
                      have hr3 := hr.below hB3 (Nat.le_refl _)
                      have hrb3 := (row_of_owns hown3 hbs8 (by omega)).1
                      have hnb3 := (row_of_owns hown3 hbs8 (by omega)).2.1
                      have hrt3 := hr3.take (g2 + 1 + g1 + 4) (by omega)
                      clear hW3 hc1 hf1 hc2 hf2 hbel1 hbel2 hown2 hb1 hcell1 hsz2 hget
                      have hMN : w.heap.size < w1.heap.size := hs1
                      generalize w1.heap.size = M at *
                      clear hs1
                      have hput := fun W h => refput1_any x A g1 C body W (by omega) (by omega) (by omega) (hrb3.below h (Nat.le_refl _)) hnb3
                      have hps : ∀ y ∈ Fr.put1 x body, y < lim .u8 := Fr.put1_small (by omega) hbs8
                      have hpl : Hid ((Fr.put1 x body).length ≤ 200000) := (by rw [Fr.put1_len, hbl.out]; have := Fr.size_le (n := g1) (by omega); omega : (Fr.put1 x body).length ≤ 200000)
                      have hR0 : Hid (R = if Fr.put1 x body = bs.take (g2 + 1 + g1 + 4) then (((x : Int), body), g2 + 1 + g1 + 4, 0) else ((0, []), 0, 2)) := (by rw [HR.out]; unfold Fr.first; rw [hgf, HG.out, if_neg (by simp), if_neg (by simp; omega), if_neg (by rw [hlen.out]; exact hel), if_neg (by simp only []; rw [← Hx.out]; omega), if_neg (by simp only []; rw [hlen.out]; exact hsh)]; simp only []; rw [← Hx.out, Hb.out] : R = if Fr.put1 x body = bs.take (g2 + 1 + g1 + 4) then (((x : Int), body), g2 + 1 + g1 + 4, 0) else ((0, []), 0, 2))
                      generalize Fr.put1 x body = q at *
                      have i2 : (g2 : Int) + 1 + g1 + 4 ≤ (cap : Int) := by omega
                      have i3 : (0 : Int) ≤ (g2 : Int) + 1 + g1 + 4 := by omega
                      have i4 : IntKind.i64.wrap ((g2 : Int) + 1 + g1 + 4) = (g2 : Int) + 1 + g1 + 4 := by rw [IntKind.wrap_i64]; omega
                      by_cases hq : q = bs.take (g2 + 1 + g1 + 4)
                      · have hd : decide (q = bs.take (g2 + 1 + g1 + 4)) = true := by simp [hq]
                        have H : Hid (R = (((x : Int), body), g2 + 1 + g1 + 4, 0)) := (by rw [hR0.out, if_pos hq] : R = (((x : Int), body), g2 + 1 + g1 + 4, 0))
                        clear hq hR0
                        go_region_held3 (fun w' => w'.cell? ⟨M, 0, none⟩ = some (.int .i64 (x : Nat)) ∧ w'.cell? ⟨M, 1, none⟩ = some (.slice A g1 C)) (first | go_keep | (refine ⟨?_, ?_⟩ <;> assumption))
                          (first
                            | ((go_at_call 13; refine (hput _ ((Below.refl _ _).drew)).mono ?_; rintro e w5 ⟨a5, c5, rfl, hown5, hbel5⟩; have hbel5' := below_of_drew hbel5; have hk0 := (hbel5'.cell (p := ⟨M, 0, none⟩) (by simp; omega)).trans hF0; have hk1 := (hbel5'.cell (p := ⟨M, 1, none⟩) (by simp; omega)).trans hF1))
                            | ((go_at_call 15; have := hown5; refine (bytes_any _ _ _ _ _ _ _ _ _ (row_of_owns hown5 hps (by have := hpl.out; omega)).1 (hrt3.below hbel5' (Nat.le_refl _))).mono ?_; rintro e w6 ⟨rfl, m6, rfl⟩)))
                        have n0 := (hbel5'.cell (p := ⟨w.heap.size, 0, none⟩) (by simp; omega)).trans hN0
                        have n1 := (hbel5'.cell (p := ⟨w.heap.size, 1, none⟩) (by simp; omega)).trans hN1
                        have f0 := (hbel5'.frozen (p := ⟨w.heap.size, 0, none⟩) (by simp; omega)).trans hz0
                        have f1 := (hbel5'.frozen (p := ⟨w.heap.size, 1, none⟩) (by simp; omega)).trans hz1
                        have hB5 := (hB3.trans (hbel5'.mono hB3.size)).trans (below_drewN _ _ m6)
                        have hown6 := owns_below (owns_below hown3 hbel5') (below_drewN _ _ m6)
                        clear hown3 hown5 hbel5 hbel5' hput hrb3 hr3 hrt3
                        go_wp2
                        refine bodyPost_ret (v := .tuple #[.agg #[.int .i64 (x : Nat), .slice A g1 C], .int .i64 ((g2 + 1 + g1 + 4 : Nat) : Int), .int .i64 0]) (by simp [results, Try.results46, go_sem, n0, n1]) rfl ⟨A, C, ?_, ?_, (hB5.setCell (Nat.le_refl _) _).setCell (Nat.le_refl _) _⟩
                        · rw [H.out]; simp only []; rw [hbl.out]; rfl
                        · rw [H.out]; simp only []; rw [hbl.out]
                          exact (ownsRow_setCell_below (ownsRow_setCell_below hown6 (by simp; omega) _) (by simp; omega) _).mono (by omega)
                      · have hd : decide (q = bs.take (g2 + 1 + g1 + 4)) = false := by simp [hq]
                        have H : Hid (R = ((0, []), 0, 2)) := (by rw [hR0.out, if_neg hq] : R = ((0, []), 0, 2))
                        clear hq hR0
                        go_region_held3 (fun w' => w'.cell? ⟨M, 0, none⟩ = some (.int .i64 (x : Nat)) ∧ w'.cell? ⟨M, 1, none⟩ = some (.slice A g1 C)) (first | go_keep | (refine ⟨?_, ?_⟩ <;> assumption))
                          (first
                            | ((go_at_call 13; refine (hput _ ((Below.refl _ _).drew)).mono ?_; rintro e w5 ⟨a5, c5, rfl, hown5, hbel5⟩; have hbel5' := below_of_drew hbel5; have hk0 := (hbel5'.cell (p := ⟨M, 0, none⟩) (by simp; omega)).trans hF0; have hk1 := (hbel5'.cell (p := ⟨M, 1, none⟩) (by simp; omega)).trans hF1))
                            | ((go_at_call 15; have := hown5; refine (bytes_any _ _ _ _ _ _ _ _ _ (row_of_owns hown5 hps (by have := hpl.out; omega)).1 (hrt3.below hbel5' (Nat.le_refl _))).mono ?_; rintro e w6 ⟨rfl, m6, rfl⟩)))
                        have n0 := (hbel5'.cell (p := ⟨w.heap.size, 0, none⟩) (by simp; omega)).trans hN0
                        have n1 := (hbel5'.cell (p := ⟨w.heap.size, 1, none⟩) (by simp; omega)).trans hN1
                        have f0 := (hbel5'.frozen (p := ⟨w.heap.size, 0, none⟩) (by simp; omega)).trans hz0
                        have f1 := (hbel5'.frozen (p := ⟨w.heap.size, 1, none⟩) (by simp; omega)).trans hz1
                        have hB5 := (hB3.trans (hbel5'.mono hB3.size)).trans (below_drewN _ _ m6)
                        clear hown3 hown5 hbel5 hbel5' hput hrb3 hr3 hrt3
                        go_wp2
                        refine bodyPost_ret (v := .tuple #[.agg #[.int .i64 0, .slice none 0 0], .int .i64 0, .int .i64 2]) (by simp [results, Try.results46, go_sem, n0, n1]) rfl ⟨none, 0, ?_, ?_, (hB5.setCell (Nat.le_refl _) _).setCell (Nat.le_refl _) _⟩
                        · rw [H.out]; rfl
                        · rw [H.out]; exact World.ownsRow_nil _ _ _ _
        · have hnek : ((k : Int) == (len : Int)) = false := by simp; omega
          clear hgo hend hk hk3 hh hrow0
          obtain ⟨b, off, rfl, _⟩ := hr.at (by omega)
          have hcellk := (hr.below hb0 (Nat.le_refl _)).cell k hex1
          obtain ⟨y, hy⟩ : ∃ y, y = bs.getD k 0 := ⟨_, rfl⟩
          rw [← hy] at hcellk hex3
          clear hy
          by_cases hz : g2 = 0
          · have H : Hid (R = ((0, []), 0, 2)) := (by rw [HR.out]; unfold Fr.first; rw [hgf, HG.out, if_neg (by simp), if_pos (by simp; omega)] : R = ((0, []), 0, 2))
            subst hz
            go_wp2_with (go_at_call 54; refine hget.mono ?_; rintro e w1 ⟨rfl, hbel1⟩; obtain ⟨hc1, hf1⟩ := bcell hbel1; have hb1 := hb0.trans (hbel1.mono hb0.size); have hs1 : w.heap.size < w1.heap.size := (by have := hbel1.size; simp at this; omega))
            exact bodyPost_ret (v := .tuple #[.agg #[.int .i64 0, .slice none 0 0], .int .i64 0, .int .i64 2]) (by simp [results, Try.results46, go_sem, hc1]) rfl ⟨none, 0, by rw [H.out]; rfl, by rw [H.out]; exact World.ownsRow_nil _ _ _ _, by first | exact hb1 | exact (hb1.setCell (Nat.le_refl _) _).setCell (Nat.le_refl _) _ | exact ((hb1.setCell (Nat.le_refl _) _).setCell (Nat.le_refl _) _).alloc (by simp; omega) _⟩
          · have hz' : ((g2 : Int) == 0) = false := by simp; omega
            by_cases hbg : 1048576 < g1
            · have H : Hid (R = ((0, []), 0, 2)) := (by rw [HR.out]; unfold Fr.first; rw [hgf, HG.out, if_neg (by simp), if_pos (by simp; omega)] : R = ((0, []), 0, 2))
              go_wp2_with (go_at_call 54; refine hget.mono ?_; rintro e w1 ⟨rfl, hbel1⟩; obtain ⟨hc1, hf1⟩ := bcell hbel1; have hb1 := hb0.trans (hbel1.mono hb0.size); have hs1 : w.heap.size < w1.heap.size := (by have := hbel1.size; simp at this; omega))
              exact bodyPost_ret (v := .tuple #[.agg #[.int .i64 0, .slice none 0 0], .int .i64 0, .int .i64 2]) (by simp [results, Try.results46, go_sem, hc1]) rfl ⟨none, 0, by rw [H.out]; rfl, by rw [H.out]; exact World.ownsRow_nil _ _ _ _, by first | exact hb1 | exact (hb1.setCell (Nat.le_refl _) _).setCell (Nat.le_refl _) _ | exact ((hb1.setCell (Nat.le_refl _) _).setCell (Nat.le_refl _) _).alloc (by simp; omega) _⟩
            · have hbg' : decide (1048576 < (g1 : Int)) = false := by simp; omega
              by_cases hel : g2 = len
              · have H : Hid (R = ((0, []), 0, 5)) := (by rw [HR.out]; unfold Fr.first; rw [hgf, HG.out, if_neg (by simp), if_neg (by simp; omega), if_pos (by rw [hlen.out]; exact hel)] : R = ((0, []), 0, 5))
                subst hel
                go_wp2_with (go_at_call 54; refine hget.mono ?_; rintro e w1 ⟨rfl, hbel1⟩; obtain ⟨hc1, hf1⟩ := bcell hbel1; have hb1 := hb0.trans (hbel1.mono hb0.size); have hs1 : w.heap.size < w1.heap.size := (by have := hbel1.size; simp at this; omega))
                exact bodyPost_ret (v := .tuple #[.agg #[.int .i64 0, .slice none 0 0], .int .i64 0, .int .i64 5]) (by simp [results, Try.results46, go_sem, hc1]) rfl ⟨none, 0, by rw [H.out]; rfl, by rw [H.out]; exact World.ownsRow_nil _ _ _ _, by first | exact hb1 | exact (hb1.setCell (Nat.le_refl _) _).setCell (Nat.le_refl _) _ | exact ((hb1.setCell (Nat.le_refl _) _).setCell (Nat.le_refl _) _).alloc (by simp; omega) _⟩
              · have hel' : ((g2 : Int) == (len : Int)) = false := by simp; omega
                have hlt2 : g2 < len := by omega
                have hx8 := getD_lt8 hr.2.2.1 g2
                obtain ⟨x, hx⟩ : ∃ x, x = bs.getD g2 0 := ⟨_, rfl⟩
                rw [← hx] at hx8
                have Hx : Hid (x = bs.getD g2 0) := hx
                clear hx
                by_cases hk0 : x < 1
                · have H : Hid (R = ((0, []), 0, 2)) := (by rw [HR.out]; unfold Fr.first; rw [hgf, HG.out, if_neg (by simp), if_neg (by simp; omega), if_neg (by rw [hlen.out]; exact hel), if_pos (by simp only []; rw [← Hx.out]; omega)] : R = ((0, []), 0, 2))
                  go_wp2_with (go_at_call 54; refine hget.mono ?_; rintro e w1 ⟨rfl, hbel1⟩; obtain ⟨hc1, hf1⟩ := bcell hbel1; have hb1 := hb0.trans (hbel1.mono hb0.size); have hs1 : w.heap.size < w1.heap.size := (by have := hbel1.size; simp at this; omega); have hcell1 := (hr.below hb1 (Nat.le_refl _)).cell g2 hlt2; rw [← Hx.out] at hcell1)
                  exact bodyPost_ret (v := .tuple #[.agg #[.int .i64 0, .slice none 0 0], .int .i64 0, .int .i64 2]) (by simp [results, Try.results46, go_sem, hs1, hc1]) rfl ⟨none, 0, by rw [H.out]; rfl, by rw [H.out]; exact World.ownsRow_nil _ _ _ _, by first | exact hb1 | exact (hb1.setCell (Nat.le_refl _) _).setCell (Nat.le_refl _) _ | exact ((hb1.setCell (Nat.le_refl _) _).setCell (Nat.le_refl _) _).alloc (by simp; omega) _⟩
                · have hk0' : decide ((x : Int) < 1) = false := by simp; omega
                  by_cases hk250 : 250 < x
                  · have H : Hid (R = ((0, []), 0, 2)) := (by rw [HR.out]; unfold Fr.first; rw [hgf, HG.out, if_neg (by simp), if_neg (by simp; omega), if_neg (by rw [hlen.out]; exact hel), if_pos (by simp only []; rw [← Hx.out]; omega)] : R = ((0, []), 0, 2))
                    go_wp2_with (go_at_call 54; refine hget.mono ?_; rintro e w1 ⟨rfl, hbel1⟩; obtain ⟨hc1, hf1⟩ := bcell hbel1; have hb1 := hb0.trans (hbel1.mono hb0.size); have hs1 : w.heap.size < w1.heap.size := (by have := hbel1.size; simp at this; omega); have hcell1 := (hr.below hb1 (Nat.le_refl _)).cell g2 hlt2; rw [← Hx.out] at hcell1)
                    exact bodyPost_ret (v := .tuple #[.agg #[.int .i64 0, .slice none 0 0], .int .i64 0, .int .i64 2]) (by simp [results, Try.results46, go_sem, hs1, hc1]) rfl ⟨none, 0, by rw [H.out]; rfl, by rw [H.out]; exact World.ownsRow_nil _ _ _ _, by first | exact hb1 | exact (hb1.setCell (Nat.le_refl _) _).setCell (Nat.le_refl _) _ | exact ((hb1.setCell (Nat.le_refl _) _).setCell (Nat.le_refl _) _).alloc (by simp; omega) _⟩
                  · have hk250' : decide (250 < (x : Int)) = false := by simp; omega
                    by_cases hsh : len < g2 + 1 + g1 + 4
                    · have H : Hid (R = ((0, []), 0, 5)) := (by rw [HR.out]; unfold Fr.first; rw [hgf, HG.out, if_neg (by simp), if_neg (by simp; omega), if_neg (by rw [hlen.out]; exact hel), if_neg (by simp only []; rw [← Hx.out]; omega), if_pos (by simp only []; rw [hlen.out]; exact hsh)] : R = ((0, []), 0, 5))
                      go_wp2_with (go_at_call 54; refine hget.mono ?_; rintro e w1 ⟨rfl, hbel1⟩; obtain ⟨hc1, hf1⟩ := bcell hbel1; have hb1 := hb0.trans (hbel1.mono hb0.size); have hs1 : w.heap.size < w1.heap.size := (by have := hbel1.size; simp at this; omega); have hcell1 := (hr.below hb1 (Nat.le_refl _)).cell g2 hlt2; rw [← Hx.out] at hcell1)
                      exact bodyPost_ret (v := .tuple #[.agg #[.int .i64 0, .slice none 0 0], .int .i64 0, .int .i64 5]) (by simp [results, Try.results46, go_sem, hs1, hc1]) rfl ⟨none, 0, by rw [H.out]; rfl, by rw [H.out]; exact World.ownsRow_nil _ _ _ _, by first | exact hb1 | exact (hb1.setCell (Nat.le_refl _) _).setCell (Nat.le_refl _) _ | exact ((hb1.setCell (Nat.le_refl _) _).setCell (Nat.le_refl _) _).alloc (by simp; omega) _⟩
                    · generalize hbody : (bs.drop (g2 + 1)).take g1 = body at *
                      have Hb : Hid ((bs.drop (g2 + 1)).take g1 = body) := hbody
                      have hbl : Hid (body.length = g1) := (by rw [← hbody, List.length_take, List.length_drop, hlen.out]; omega : body.length = g1)
                      have hbs8 : ∀ y ∈ body, y < lim .u8 := by rw [← hbody]; exact take_small (drop_small hr.2.2.1 _) _
                      clear hbody
                      have hm : Hid (g2 + 1 + g1 - (g2 + 1) = g1) := (by omega : g2 + 1 + g1 - (g2 + 1) = g1)
                      go_wp2_with (first
                        | (go_at_call 54; refine hget.mono ?_; rintro e w1 ⟨rfl, hbel1⟩; obtain ⟨hc1, hf1⟩ := bcell hbel1; have hb1 := hb0.trans (hbel1.mono hb0.size); have hs1 : w.heap.size < w1.heap.size := (by have := hbel1.size; simp at this; omega); have hcell1 := (hr.below hb1 (Nat.le_refl _)).cell g2 hlt2; rw [← Hx.out] at hcell1)
                        | (at_builtin; have := hs1; go_must (refine append_u8 (w0 := w1.alloc (.cells #[.int .i64 (x : Nat), .slice none 0 0] 39)) (B := w1.heap.size + 1) rfl (.tmp 79) (.tmp 84) rfl _ 0 [] rfl (made_at _ _ _ (by simp) (by simp)) _ (g2 + 1 + g1 - (g2 + 1)) _ body rfl (by rw [hm.out]; exact Hb.out ▸ ((((hr.below hb1 (Nat.le_refl _)).below ((Below.refl _ _).alloc (Nat.le_refl _) _) (Nat.le_refl _)).below ((Below.refl _ _).alloc (Nat.le_refl _) _) (Nat.le_refl _)).drop (g2 + 1) (by omega)).take g1 (by omega)) (fun h => by cases h) (by omega) ((Below.refl _ _).alloc (by simp) _) (by simp) ?_; intro A C w2 hown2 hbel2 hsz2; have hm0 : 0 + (g2 + 1 + g1 - (g2 + 1)) = g1 := (by omega); rw [hm0, List.nil_append] at hown2; rw [hm0]; clear hm0; obtain ⟨hc2, hf2⟩ := bcell (W := w1.alloc (.cells #[.int .i64 (x : Nat), .slice none 0 0] 39)) (w1 := w2) (by simpa using hbel2))))
                      obtain ⟨W3, hW3, hF0, hF1, hN0, hN1, hz0, hz1, hB3, hown3, hsz3⟩ := first_world hb1 hs1 (fun i => hc1 _ i (by simp)) (fun i => hf1 _ i (by simp)) hbel2 hown2
                      rw [← hW3]
                      have hr3 := hr.below hB3 (Nat.le_refl _)
                      have hrb3 := (row_of_owns hown3 hbs8 (by omega)).1
                      have hnb3 := (row_of_owns hown3 hbs8 (by omega)).2.1
                      have hrt3 := hr3.take (g2 + 1 + g1 + 4) (by omega)
                      clear hW3 hc1 hf1 hc2 hf2 hbel1 hbel2 hown2 hb1 hcell1 hsz2 hget
                      have hMN : w.heap.size < w1.heap.size := hs1
                      generalize w1.heap.size = M at *
                      clear hs1
                      have hput := fun W h => refput1_any x A g1 C body W (by omega) (by omega) (by omega) (hrb3.below h (Nat.le_refl _)) hnb3
                      have hps : ∀ y ∈ Fr.put1 x body, y < lim .u8 := Fr.put1_small (by omega) hbs8
                      have hpl : Hid ((Fr.put1 x body).length ≤ 200000) := (by rw [Fr.put1_len, hbl.out]; have := Fr.size_le (n := g1) (by omega); omega : (Fr.put1 x body).length ≤ 200000)
                      have hR0 : Hid (R = if Fr.put1 x body = bs.take (g2 + 1 + g1 + 4) then (((x : Int), body), g2 + 1 + g1 + 4, 0) else ((0, []), 0, 2)) := (by rw [HR.out]; unfold Fr.first; rw [hgf, HG.out, if_neg (by simp), if_neg (by simp; omega), if_neg (by rw [hlen.out]; exact hel), if_neg (by simp only []; rw [← Hx.out]; omega), if_neg (by simp only []; rw [hlen.out]; exact hsh)]; simp only []; rw [← Hx.out, Hb.out] : R = if Fr.put1 x body = bs.take (g2 + 1 + g1 + 4) then (((x : Int), body), g2 + 1 + g1 + 4, 0) else ((0, []), 0, 2))
                      generalize Fr.put1 x body = q at *
                      have i2 : (g2 : Int) + 1 + g1 + 4 ≤ (cap : Int) := by omega
                      have i3 : (0 : Int) ≤ (g2 : Int) + 1 + g1 + 4 := by omega
                      have i4 : IntKind.i64.wrap ((g2 : Int) + 1 + g1 + 4) = (g2 : Int) + 1 + g1 + 4 := by rw [IntKind.wrap_i64]; omega
                      by_cases hq : q = bs.take (g2 + 1 + g1 + 4)
                      · have hd : decide (q = bs.take (g2 + 1 + g1 + 4)) = true := by simp [hq]
                        have H : Hid (R = (((x : Int), body), g2 + 1 + g1 + 4, 0)) := (by rw [hR0.out, if_pos hq] : R = (((x : Int), body), g2 + 1 + g1 + 4, 0))
                        clear hq hR0
                        go_region_held3 (fun w' => w'.cell? ⟨M, 0, none⟩ = some (.int .i64 (x : Nat)) ∧ w'.cell? ⟨M, 1, none⟩ = some (.slice A g1 C)) (first | go_keep | (refine ⟨?_, ?_⟩ <;> assumption))
                          (first
                            | ((go_at_call 13; refine (hput _ ((Below.refl _ _).drew)).mono ?_; rintro e w5 ⟨a5, c5, rfl, hown5, hbel5⟩; have hbel5' := below_of_drew hbel5; have hk0 := (hbel5'.cell (p := ⟨M, 0, none⟩) (by simp; omega)).trans hF0; have hk1 := (hbel5'.cell (p := ⟨M, 1, none⟩) (by simp; omega)).trans hF1))
                            | ((go_at_call 15; have := hown5; refine (bytes_any _ _ _ _ _ _ _ _ _ (row_of_owns hown5 hps (by have := hpl.out; omega)).1 (hrt3.below hbel5' (Nat.le_refl _))).mono ?_; rintro e w6 ⟨rfl, m6, rfl⟩)))
                        have n0 := (hbel5'.cell (p := ⟨w.heap.size, 0, none⟩) (by simp; omega)).trans hN0
                        have n1 := (hbel5'.cell (p := ⟨w.heap.size, 1, none⟩) (by simp; omega)).trans hN1
                        have f0 := (hbel5'.frozen (p := ⟨w.heap.size, 0, none⟩) (by simp; omega)).trans hz0
                        have f1 := (hbel5'.frozen (p := ⟨w.heap.size, 1, none⟩) (by simp; omega)).trans hz1
                        have hB5 := (hB3.trans (hbel5'.mono hB3.size)).trans (below_drewN _ _ m6)
                        have hown6 := owns_below (owns_below hown3 hbel5') (below_drewN _ _ m6)
                        clear hown3 hown5 hbel5 hbel5' hput hrb3 hr3 hrt3
                        go_wp2
                        refine bodyPost_ret (v := .tuple #[.agg #[.int .i64 (x : Nat), .slice A g1 C], .int .i64 ((g2 + 1 + g1 + 4 : Nat) : Int), .int .i64 0]) (by simp [results, Try.results46, go_sem, n0, n1]) rfl ⟨A, C, ?_, ?_, (hB5.setCell (Nat.le_refl _) _).setCell (Nat.le_refl _) _⟩
                        · rw [H.out]; simp only []; rw [hbl.out]; rfl
                        · rw [H.out]; simp only []; rw [hbl.out]
                          exact (ownsRow_setCell_below (ownsRow_setCell_below hown6 (by simp; omega) _) (by simp; omega) _).mono (by omega)
                      · have hd : decide (q = bs.take (g2 + 1 + g1 + 4)) = false := by simp [hq]
                        have H : Hid (R = ((0, []), 0, 2)) := (by rw [hR0.out, if_neg hq] : R = ((0, []), 0, 2))
                        clear hq hR0
                        go_region_held3 (fun w' => w'.cell? ⟨M, 0, none⟩ = some (.int .i64 (x : Nat)) ∧ w'.cell? ⟨M, 1, none⟩ = some (.slice A g1 C)) (first | go_keep | (refine ⟨?_, ?_⟩ <;> assumption))
                          (first
                            | ((go_at_call 13; refine (hput _ ((Below.refl _ _).drew)).mono ?_; rintro e w5 ⟨a5, c5, rfl, hown5, hbel5⟩; have hbel5' := below_of_drew hbel5; have hk0 := (hbel5'.cell (p := ⟨M, 0, none⟩) (by simp; omega)).trans hF0; have hk1 := (hbel5'.cell (p := ⟨M, 1, none⟩) (by simp; omega)).trans hF1))
                            | ((go_at_call 15; have := hown5; refine (bytes_any _ _ _ _ _ _ _ _ _ (row_of_owns hown5 hps (by have := hpl.out; omega)).1 (hrt3.below hbel5' (Nat.le_refl _))).mono ?_; rintro e w6 ⟨rfl, m6, rfl⟩)))
                        have n0 := (hbel5'.cell (p := ⟨w.heap.size, 0, none⟩) (by simp; omega)).trans hN0
                        have n1 := (hbel5'.cell (p := ⟨w.heap.size, 1, none⟩) (by simp; omega)).trans hN1
                        have f0 := (hbel5'.frozen (p := ⟨w.heap.size, 0, none⟩) (by simp; omega)).trans hz0
                        have f1 := (hbel5'.frozen (p := ⟨w.heap.size, 1, none⟩) (by simp; omega)).trans hz1
                        have hB5 := (hB3.trans (hbel5'.mono hB3.size)).trans (below_drewN _ _ m6)
                        clear hown3 hown5 hbel5 hbel5' hput hrb3 hr3 hrt3
                        go_wp2
                        refine bodyPost_ret (v := .tuple #[.agg #[.int .i64 0, .slice none 0 0], .int .i64 0, .int .i64 2]) (by simp [results, Try.results46, go_sem, n0, n1]) rfl ⟨none, 0, ?_, ?_, (hB5.setCell (Nat.le_refl _) _).setCell (Nat.le_refl _) _⟩
                        · rw [H.out]; rfl
                        · rw [H.out]; exact World.ownsRow_nil _ _ _ _
end Go.Proofs.Ytgdefibgifcbaaa

/- Frames that a call makes of its own: a row of frames, their bodies rows of their own. -/
namespace Go.Proofs.Ytgdefibgifcbaaa
open Go.RowKit

theorem Try.info39 : (Try.prog.info? 39).map (fun i => (i.zero, i.size, i.bytes)) = some (some (.agg #[.int .i64 0, .slice none 0 0]), 2, 32) := by kernel_rfl
theorem Try.info3 : (Try.prog.info? 3).map (fun i => (i.zero, i.size, i.bytes)) = some (some (.int .i64 0), 1, 8) := by kernel_rfl

/-- the cells of frames, each body a row of its own -/
def Held (w : World) (B : Nat) : List Fr.F → List Value → Prop
  | [], cs => cs = []
  | f :: fs, cs => ∃ A C rest, cs = .int .i64 f.1 :: .slice A f.2.length C :: rest ∧ w.ownsRow B 5 1 (.slice A f.2.length C) f.2.length (kcells .u8 f.2) ∧ (∀ x ∈ f.2, x < 256) ∧ f.2.length ≤ 1000000000 ∧ (-9223372036854775808 ≤ f.1 ∧ f.1 ≤ 9223372036854775807) ∧ Held w B fs rest
theorem Held.length {w : World} {B : Nat} : ∀ {fs : List Fr.F} {cs : List Value}, Held w B fs cs → cs.length = fs.length * 2 := by
  intro fs
  induction fs with
  | nil => intro cs h; rw [show cs = [] from h]; rfl
  | cons f fs ih => rintro cs ⟨A, C, rest, rfl, _, _, _, _, h⟩; simp [ih h]; omega
theorem Held.snoc {w : World} {B : Nat} {f : Fr.F} {A : Option Addr} {C : Nat} (hf : w.ownsRow B 5 1 (.slice A f.2.length C) f.2.length (kcells .u8 f.2)) (hs : ∀ x ∈ f.2, x < 256) (hl : f.2.length ≤ 1000000000) (hk : -9223372036854775808 ≤ f.1 ∧ f.1 ≤ 9223372036854775807) :
    ∀ {fs : List Fr.F} {cs : List Value}, Held w B fs cs → Held w B (fs ++ [f]) (cs ++ [.int .i64 f.1, .slice A f.2.length C]) := by
  intro fs
  induction fs with
  | nil => intro cs h; rw [show cs = [] from h]; exact ⟨A, C, [], rfl, hf, hs, hl, hk, rfl⟩
  | cons g fs ih => rintro cs ⟨A', C', rest, rfl, h1, h2, h3, h4, h5⟩; exact ⟨A', C', _, rfl, h1, h2, h3, h4, ih h5⟩
theorem Held.below {w w' : World} {B : Nat} (hb : Below w.heap.size w w') : ∀ {fs : List Fr.F} {cs : List Value}, Held w B fs cs → Held w' B fs cs := by
  intro fs
  induction fs with
  | nil => intro cs h; exact h
  | cons f fs ih => rintro cs ⟨A, C, rest, rfl, h1, h2, h3, h4, h5⟩; exact ⟨A, C, rest, rfl, owns_below h1 hb, h2, h3, h4, ih h5⟩
theorem Held.grown {w w' : World} {B B' : Nat} {e : TypeId} {s : Nat} {v : Value} {n : Nat} {xs : List Value} (hv : w.ownsRow B' e s v n xs) (he : (5 : Nat) ≠ e) (hg : w.grownBy w' v.ownBlock) : ∀ {fs : List Fr.F} {cs : List Value}, Held w B fs cs → Held w' B fs cs := by
  intro fs
  induction fs with
  | nil => intro cs h; exact h
  | cons f fs ih => rintro cs ⟨A, C, rest, rfl, h1, h2, h3, h4, h5⟩; exact ⟨A, C, rest, rfl, h1.kept hg (own_apart h1 hv he), h2, h3, h4, ih h5⟩
theorem Held.get {w : World} {B : Nat} : ∀ {fs : List Fr.F} {cs : List Value}, Held w B fs cs → ∀ i, i < fs.length → ∃ A C, cs[i * 2]? = some (.int .i64 (fs.getD i (0, [])).1) ∧ cs[i * 2 + 1]? = some (.slice A (fs.getD i (0, [])).2.length C) ∧
    w.ownsRow B 5 1 (.slice A (fs.getD i (0, [])).2.length C) (fs.getD i (0, [])).2.length (kcells .u8 (fs.getD i (0, [])).2) ∧ (∀ x ∈ (fs.getD i (0, [])).2, x < 256) ∧ (fs.getD i (0, [])).2.length ≤ 1000000000 ∧ (-9223372036854775808 ≤ (fs.getD i (0, [])).1 ∧ (fs.getD i (0, [])).1 ≤ 9223372036854775807) := by
  intro fs
  induction fs with
  | nil => intro cs h i hi; simp at hi
  | cons f fs ih =>
    rintro cs ⟨A, C, rest, rfl, h1, h2, h3, h4, h5⟩ i hi
    cases i with
    | zero => exact ⟨A, C, rfl, rfl, h1, h2, h3, h4⟩
    | succ i =>
      obtain ⟨A', C', q1, q2, q3⟩ := ih h5 i (by simpa using hi)
      refine ⟨A', C', ?_, ?_, q3⟩
      · rw [show (i + 1) * 2 = i * 2 + 1 + 1 by omega]; simpa using q1
      · rw [show (i + 1) * 2 + 1 = i * 2 + 1 + 1 + 1 by omega]; simpa using q2
theorem frow_of_owns {w : World} {B B' : Nat} {a : Option Addr} {n cap : Nat} {fs : List Fr.F} {cs : List Value} (h : w.ownsRow B 39 2 (.slice a n cap) n cs) (hh : Held w B' fs cs) (hn : n ≤ 1000000000) : FRow w a n fs ∧ fs.length = n ∧ Shape a n cap := by
  have hl := h.1
  rw [hh.length] at hl
  have hfn : fs.length = n := by omega
  rcases h.2 with ⟨e, rfl⟩ | ⟨g, cap', cur, e, _, hg, hnc, hm, hsz, htk⟩
  · simp only [Value.slice.injEq] at e
    obtain ⟨rfl, _, rfl⟩ := e
    exact ⟨⟨hfn, by omega, .inl rfl⟩, hfn, .inl ⟨rfl, rfl⟩⟩
  · simp only [Value.slice.injEq] at e
    obtain ⟨rfl, _, rfl⟩ := e
    refine ⟨⟨hfn, by omega, .inr ⟨g, 0, rfl, fun i hi => ?_⟩⟩, hfn, .inr ⟨g, 0, rfl, hnc⟩⟩
    obtain ⟨A, C, q1, q2, q3, q4, q5, q6⟩ := hh.get i (by omega)
    have hc : ∀ j, j < n * 2 → w.cell? ⟨g, j, none⟩ = cs[j]? := by
      intro j hj
      simp only [World.cell?, hg]
      show (if (none : Option _).isSome then none else cur[j]?) = _
      rw [if_neg (by simp), ← htk, List.getElem?_take, if_pos hj]; simp
    obtain ⟨r1, r2, r3⟩ := row_of_owns q3 q4 (by omega)
    refine ⟨A, _, C, ?_, ?_, r1, ?_, r2, q6⟩
    · rw [Nat.zero_add, hc _ (by omega)]; exact q1
    · rw [Nat.zero_add, hc _ (by omega)]; exact q2
    · rcases q3.2 with ⟨e, h0⟩ | ⟨g', cap'', cur', e, _, _, hnc', _⟩
      · simp only [Value.slice.injEq] at e
        exact .inl ⟨h0, e.2.2⟩
      · simp only [Value.slice.injEq] at e
        obtain ⟨rfl, _, rfl⟩ := e
        exact .inr ⟨g', 0, rfl, hnc'⟩
end Go.Proofs.Ytgdefibgifcbaaa

/- What the reference's Scan does. -/
namespace Go.Proofs.Ytgdefibgifcbaaa
open Go.RowKit

theorem append_i64g {w0 w : World} {B : Nat} {ops : Array Oper} {rest : List Oper} {o : Oper} {a : Act} {Q : Exit → Act → World → Prop} (hgd : o.guard = none) (s x : Operand)
    (ho : o.op = .call { callee := .builtin .append, args := #[s, x], argTypes := #[68, 68] })
    (v : Value) (n : Nat) (xs : List Nat) (hs : a.eval s = v) (hown : w.ownsRow B 3 1 v n (kcells .i64 xs))
    (ad : Option Addr) (m c : Nat) (bs : List Nat) (hx : a.eval x = .slice ad m c) (hrow : Row .i64 w ad m bs) (hnil : ad = none → m = 0 ∧ c = 0)
    (hnm : n + m ≤ 1000000000000) (hbel : Below B w0 w) (hB : B ≤ w.heap.size)
    (h : ∀ a' c' w', w'.ownsRow B 3 1 (.slice a' (n + m) c') (n + m) (kcells .i64 (xs ++ bs)) → Below B w0 w' → B ≤ w'.heap.size → w.grownBy w' v.ownBlock → wpList Try.prog ops Q rest (a.put o.dst (.slice a' (n + m) c')) w') : wpList Try.prog ops Q (o :: rest) a w := by
  obtain ⟨i0, hi, hz0, hz1, hz2⟩ := info_parts Try.info3
  obtain ⟨h1, h2, h3, h4⟩ := hrow
  cases ad with
  | none =>
    obtain ⟨rfl, rfl⟩ := hnil rfl
    obtain rfl : bs = [] := List.length_eq_zero_iff.mp h1
    refine wpList_append_own_none hgd s x 68 ho B 3 i0 1 Try.underlying68 hi v n (kcells .i64 xs) hs hown hx ?_
    obtain ⟨a', c', rfl⟩ := slice_of_owns hown
    exact h a' c' w (by simpa using hown) hbel hB ⟨rfl, rfl, rfl, Nat.le_refl _, fun _ _ _ => rfl⟩
  | some ad =>
    refine wpList_append_own w hgd s x 68 ho B 3 i0 (.int .i64 0) 1 8 Try.underlying68 hi hz0 hz1 hz2 rfl (by decide) v n (kcells .i64 xs) hs hown ad m c (kcells .i64 bs) hx (by rw [kcells_length]; omega) ?_ ?_ (by unfold maxLen; omega) (by omega) hB ?_
    · intro j u hj
      obtain ⟨hlt, rfl⟩ := kcells_get .i64 bs j u hj
      rcases h4 with h0 | ⟨b, off, e, hc⟩
      · omega
      · obtain rfl : ad = ⟨b, off, none⟩ := by simpa using e
        rw [add_at]; exact hc j (by omega)
    · intro u hu
      simp only [kcells, List.mem_map] at hu
      obtain ⟨n, _, rfl⟩ := hu
      rfl
    · intro v' w' hown' hg _
      obtain ⟨a', c', rfl⟩ := slice_of_owns hown'
      refine h a' c' w' (by rw [kcells_append]; exact hown') (hbel.grown hg hB (fun k hk => (hown.lt k hk).1)) (Nat.le_trans hB hg.size) hg

/-- append of one frame to a row of frames -/
theorem append_fr {w0 w : World} {B : Nat} {ops : Array Oper} {rest : List Oper} {o : Oper} {a : Act} {Q : Exit → Act → World → Prop} (hgd : o.guard = none) (s x : Operand)
    (ho : o.op = .call { callee := .builtin .append, args := #[s, x], argTypes := #[52, 52] })
    (v : Value) (n : Nat) (cs : List Value) (hs : a.eval s = v) (hown : w.ownsRow B 39 2 v n cs)
    (b c : Nat) (c0 c1 : Value) (hx : a.eval x = .slice (some ⟨b, 0, none⟩) 1 c) (h0 : w.cell? ⟨b, 0, none⟩ = some c0) (h1 : w.cell? ⟨b, 1, none⟩ = some c1) (ho0 : c0.oneCell' = true) (ho1 : c1.oneCell' = true)
    (hn : n ≤ 1000000000) (hbel : Below B w0 w) (hB : B ≤ w.heap.size)
    (h : ∀ a' c' w', w'.ownsRow B 39 2 (.slice a' (n + 1) c') (n + 1) (cs ++ [c0, c1]) → Below B w0 w' → B ≤ w'.heap.size → w.grownBy w' v.ownBlock → wpList Try.prog ops Q rest (a.put o.dst (.slice a' (n + 1) c')) w') : wpList Try.prog ops Q (o :: rest) a w := by
  obtain ⟨i0, hi, hz0, hz1, hz2⟩ := info_parts Try.info39
  refine wpList_append_own w hgd s x 52 ho B 39 i0 (.agg #[.int .i64 0, .slice none 0 0]) 2 32 Try.underlying52 hi hz0 hz1 hz2 rfl (by decide) v n cs hs hown ⟨b, 0, none⟩ 1 c [c0, c1] hx rfl ?_ ?_ (by unfold maxLen; omega) (by omega) hB ?_
  · intro j u hj
    rw [add_at]
    match j, hj with
    | 0, hj => simp at hj; subst hj; exact h0
    | 1, hj => simp at hj; subst hj; exact h1
    | j + 2, hj => simp at hj
  · intro u hu
    simp at hu
    rcases hu with rfl | rfl
    · exact ho0
    · exact ho1
  · intro v' w' hown' hg _
    rcases hown'.2 with ⟨rfl, h0⟩ | ⟨g, cap, cur, rfl, _⟩
    · omega
    · exact h _ _ w' hown' (hbel.grown hg hB (fun k hk => (hown.lt k hk).1)) (Nat.le_trans hB hg.size) hg

/-- what Scan tells -/
def ScanRes (w : World) (R : List Fr.F × List Nat × Nat) (e : Ending) (w' : World) : Prop :=
  ∃ a1 c1 a2 c2 cs, e = .returned (.tuple #[.slice a1 R.1.length c1, .slice a2 R.1.length c2, .int .i64 (R.2.2 : Nat)]) ∧ w'.ownsRow w.heap.size 39 2 (.slice a1 R.1.length c1) R.1.length cs ∧ Held w' w.heap.size R.1 cs ∧ w'.ownsRow w.heap.size 3 1 (.slice a2 R.1.length c2) R.1.length (kcells .i64 R.2.1) ∧ R.2.1.length = R.1.length ∧ Below w.heap.size w w'

theorem scan_mid {wr w1 w3 : World} {B : Nat} {vl vp : Value} {k : Nat} {cs cs' xs : List Value} {fs : List Fr.F} {c0 c1 : Value}
    (hl : wr.ownsRow B 39 2 vl k cs) (hs1 : wr.heap.size ≤ w1.heap.size) (hl1 : w1.ownsRow B 39 2 vl k cs) (hp1 : w1.ownsRow B 3 1 vp k xs) (hh1 : Held w1 B fs cs')
    (hg : ((w1.alloc (.cells #[c0, c1] 39)).alloc (.cells #[c0, c1] 39)).grownBy w3 vl.ownBlock) :
    w3.cell? ⟨w1.heap.size, 1, none⟩ = some c1 ∧ w3.ownsRow B 3 1 vp k xs ∧ w1.heap.size < w3.heap.size ∧ Held w3 B fs cs' := by
  have hl2 := (hl1.alloc (.cells #[c0, c1] 39)).alloc (.cells #[c0, c1] 39)
  have hp2 := (hp1.alloc (.cells #[c0, c1] 39)).alloc (.cells #[c0, c1] 39)
  have hs := hg.size
  simp only [World.size_alloc] at hs
  refine ⟨?_, hp2.kept hg (own_apart hp2 hl2 (by decide)), by omega, ((hh1.below (below_alloc _ _)).below (below_alloc _ _)).grown hl2 (by decide) hg⟩
  refine (grown_cell hg (p := ⟨w1.heap.size, 1, none⟩) (by simp; omega) (own_lt_ne hl hs1)).trans ?_
  exact (cell_past _ _ ⟨w1.heap.size, 1, none⟩ (by simp)).trans (cell_two w1 c0 c1 39 rfl).2

theorem scan_end {w3 w4 : World} {o : Obj} {B : Nat} {vl vp : Value} {n k : Nat} {cs xs : List Value} {fs : List Fr.F}
    (hl3 : w3.ownsRow B 39 2 vl n cs) (hp3 : w3.ownsRow B 3 1 vp k xs) (hh3 : Held w3 B fs cs) (hg : (w3.alloc o).grownBy w4 vp.ownBlock) : w4.ownsRow B 39 2 vl n cs ∧ Held w4 B fs cs :=
  ⟨(hl3.alloc o).kept hg (own_apart (hl3.alloc o) (hp3.alloc o) (by decide)), (hh3.below (below_alloc _ o)).grown (hp3.alloc o) (by decide) hg⟩

set_option maxRecDepth 100000 in
set_option maxHeartbeats 2000000 in
theorem refscan_any (a : Option Addr) (len cap : Nat) (bs : List Nat) (w : World) (hbig : len ≤ 100000) (hshape : Shape a len cap) (hr : Row .u8 w a len bs) :
    Calls Try.prog 34 #[.slice a len cap] w (ScanRes w (Fr.scan bs)) := by
  have hlen : Hid (bs.length = len) := hr.1
  obtain ⟨R, hR⟩ : ∃ R, R = Fr.scan bs := ⟨_, rfl⟩
  rw [← hR]
  have HR : Hid (len + 1 ≤ (len + 1) + 0 ∧ R = Fr.sc (len + 1) bs 0 [] []) := (⟨by omega, by rw [hR, Fr.scan, hlen.out]⟩ : len + 1 ≤ (len + 1) + 0 ∧ R = Fr.sc (len + 1) bs 0 [] [])
  clear hR
  have hb1 := below_alloc w (.cells #[] 39)
  have hb2 : Below w.heap.size w ((w.alloc (.cells #[] 39)).alloc (.cells #[] 3)) := hb1.alloc (by simp) _
  have hl0 := (made_b w 39 2 w.heap.size rfl (Nat.le_refl _)).alloc (.cells #[] 3)
  have hp0 := made_b (w.alloc (.cells #[] 39)) 3 1 w.heap.size (b := w.heap.size + 1) (by simp) (by omega)
  go_enter Try.func34, Try.ntmps34
  go_wp2
  go_loopw [5, 6, 7] (fun v u t wr => ∃ (k at' m : Nat) (fs : List Fr.F) (ps : List Nat) (cs : List Value) (a1 : Option Addr) (c1 : Nat) (a2 : Option Addr) (c2 : Nat), k ≤ at' ∧ at' ≤ len ∧ t = .int .i64 at' ∧ v = .slice a1 k c1 ∧ u = .slice a2 k c2 ∧
      wr.ownsRow w.heap.size 39 2 (.slice a1 k c1) k cs ∧ Held wr w.heap.size fs cs ∧ wr.ownsRow w.heap.size 3 1 (.slice a2 k c2) k (kcells .i64 ps) ∧ Below w.heap.size w wr ∧ Hid (fs.length = k) ∧ Hid (ps.length = k) ∧ Hid (len + 1 ≤ m + at' ∧ R = Fr.sc m bs at' fs ps))
    (fun _ _ t _ => len + 1 - (intOf t).toNat)
  case atStart => exact ⟨0, 0, len + 1, [], [], [], _, _, _, _, by omega, by omega, rfl, rfl, rfl, hl0, rfl, hp0, hb2, (rfl : [].length = 0), (rfl : [].length = 0), HR⟩
  case round =>
    obtain ⟨k, at', m, fs, ps, cs, a1, c1, a2, c2, hka, hat, rfl, rfl, rfl, hl, hh, hp, hbel, hfk, hpk, H⟩ := hrel
    clear hl0 hp0 hb1 hb2 HR
    have hsz := hbel.size
    have hr' := hr.below hbel (Nat.le_refl _)
    have H0 := H.out.2
    obtain ⟨m', hm'⟩ : ∃ m', m = m' + 1 := ⟨m - 1, by have := H.out.1; omega⟩
    rw [hm'] at H0
    have hfl := Fr.first_le (bs.drop at')
    rw [List.length_drop, hlen.out] at hfl
    obtain ⟨R1, hR1⟩ : ∃ R1, Fr.first (bs.drop at') = R1 := ⟨_, rfl⟩
    have hok := fun h => Fr.first_ok (bs := bs.drop at') h
    rw [hR1] at hfl hok
    obtain ⟨⟨x, y⟩, rn, rc⟩ := R1
    simp only at hfl hok
    rcases hshape with ⟨rfl, rfl⟩ | ⟨b, off, rfl, hc⟩
    · have hrow := hr'.take 0 (by omega)
      obtain rfl : at' = 0 := by omega
      have hbs0 : bs = [] := List.length_eq_zero_iff.mp hlen.out
      have hcz : ¬ rc = 0 := by
        have : Fr.first (bs.drop 0) = ((0, []), 0, 5) := by rw [hbs0]; exact Fr.first_nil
        rw [hR1] at this
        simp at this; omega
      rw [show bs.take 0 = bs.drop 0 by rw [hbs0]; rfl] at hrow
      have hcall := fun c (_ : 0 ≤ c) => reffirst_any a 0 c (bs.drop 0) wr (by omega) (by omega) hrow
      rw [hR1] at hcall
      clear hr hr' hrow hok
      have H2 : Hid (R = (fs, ps, 0)) := (by rw [H0, Fr.sc_no (by rw [hR1]; exact hcz)] : R = (fs, ps, 0))
      clear H0
      have hR1' : Hid (_ = _) := hR1
      clear hR1
      have hcb : ((rc : Int) != 0) = true := by simp; omega
      go_wp2_with (go_at_call 46; refine (hcall _ (by omega)).mono ?_; rintro e w1 ⟨A, C, rfl, hown1, hbel1⟩; have hs1 := hbel1.size)
      have hB1 := hbel.trans (hbel1.mono hsz)
      go_ret3
      refine ⟨a1, c1, a2, c2, cs, ?_, ?_, ?_, ?_, ?_, ?_⟩
      · rw [H2.out]; simp only []; rw [hfk.out]; rfl
      · rw [H2.out]; simp only []; rw [hfk.out]; exact (owns_below hl hbel1).alloc _
      · rw [H2.out]; exact (hh.below hbel1).below (below_alloc _ _)
      · rw [H2.out]; simp only []; rw [hfk.out]; exact (owns_below hp hbel1).alloc _
      · rw [H2.out]; simp only []; rw [hfk.out, hpk.out]
      · exact hB1.alloc hB1.size _
    · by_cases hcap : cap = at'
      · have hrow : Row .u8 wr (some ⟨b, off, none⟩) (len - at') (bs.drop at') := by
          have h1 := hr'.drop at' hat
          exact ⟨h1.1, h1.2.1, h1.2.2.1, .inl (by omega)⟩
        have hcz : ¬ rc = 0 := by
          have : Fr.first (bs.drop at') = ((0, []), 0, 5) := by rw [List.drop_of_length_le (by rw [hlen.out]; omega)]; exact Fr.first_nil
          rw [hR1] at this
          simp at this; omega
        have hcall := fun c (h : len - at' ≤ c) => reffirst_any (some ⟨b, off, none⟩) (len - at') c (bs.drop at') wr h (by omega) hrow
        rw [hR1] at hcall
        clear hr hr' hrow hok
        have H2 : Hid (R = (fs, ps, at')) := (by rw [H0, Fr.sc_no (by rw [hR1]; exact hcz)] : R = (fs, ps, at'))
        clear H0
        have hR1' : Hid (_ = _) := hR1
        clear hR1
        have hcb : ((rc : Int) != 0) = true := by simp; omega
        go_wp2_with (go_at_call 46; refine (hcall _ (by omega)).mono ?_; rintro e w1 ⟨A, C, rfl, hown1, hbel1⟩; have hs1 := hbel1.size)
        have hB1 := hbel.trans (hbel1.mono hsz)
        go_ret3
        refine ⟨a1, c1, a2, c2, cs, ?_, ?_, ?_, ?_, ?_, ?_⟩
        · rw [H2.out]; simp only []; rw [hfk.out]; rfl
        · rw [H2.out]; simp only []; rw [hfk.out]; exact (owns_below hl hbel1).alloc _
        · rw [H2.out]; exact (hh.below hbel1).below (below_alloc _ _)
        · rw [H2.out]; simp only []; rw [hfk.out]; exact (owns_below hp hbel1).alloc _
        · rw [H2.out]; simp only []; rw [hfk.out, hpk.out]
        · exact hB1.alloc hB1.size _
      · have hrow := hr'.drop at' hat
        have hcall := fun c (h : len - at' ≤ c) => reffirst_any (some ⟨b, off + at', none⟩) (len - at') c (bs.drop at') wr h (by omega) hrow
        rw [hR1] at hcall
        clear hr' hrow
        by_cases hcz : rc = 0
        · subst hcz
          obtain ⟨o1, o2, o3, o4, o5⟩ := hok rfl
          have hys : ∀ z ∈ y, z < 256 := by
            rw [o3]; exact take_small (drop_small (drop_small hr.2.2.1 _) _) _
          clear o3 hok hr
          rw [Fr.sc_ok (by rw [hR1]), hR1] at H0
          simp only at H0
          have H2 : Hid (len + 1 ≤ m' + (at' + rn) ∧ R = Fr.sc m' bs (at' + rn) (fs ++ [(x, y)]) (ps ++ [at' + rn - 4 - y.length])) := (⟨by have := H.out.1; omega, H0⟩ : len + 1 ≤ m' + (at' + rn) ∧ R = Fr.sc m' bs (at' + rn) (fs ++ [(x, y)]) (ps ++ [at' + rn - 4 - y.length]))
          clear H0 H hR1 hm'
          go_wp2_with (first
            | (go_at_call 46; go_must (refine (hcall _ (by omega)).mono ?_; rintro e w1 ⟨A, C, rfl, hown1, hbel1⟩; have hs1 := hbel1.size; have hl1 := owns_below hl hbel1; have hp1 := owns_below hp hbel1; have hB1 := hbel.trans (hbel1.mono hsz); have hh1 := Held.snoc (f := (x, y)) (hown1.mono hsz) hys (show y.length ≤ 1000000000 by omega) ⟨(show -9223372036854775808 ≤ x by omega), (show x ≤ 9223372036854775807 by omega)⟩ (hh.below hbel1); simp only at hh1))
            | (at_builtin; have := hl3; go_must (refine append_i64g (w0 := w) (B := w.heap.size) rfl (.tmp 31) (.tmp 40) rfl _ k ps rfl (hp3.alloc _) _ 1 1 [at' + rn - 4 - y.length] rfl (row_newz .i64 _ 3 _ (at' + rn - 4 - y.length) (by omega) (by show _ < 18446744073709551616; omega)) (fun h => by cases h) (by omega) (hB3.alloc hs3 _) (by simp; omega) ?_; intro a4 c4 w4 hp4 hB4 hs4 hg4))
            | (at_builtin; have := hl1; go_must (refine append_fr (w0 := w) (B := w.heap.size) rfl (.tmp 27) (.tmp 29) rfl _ k cs rfl ((hl1.alloc _).alloc _) (w1.heap.size + 1) 1 (.int .i64 x) (.slice A y.length C) rfl (cell_two _ _ _ _ (by simp)).1 (cell_two _ _ _ _ (by simp)).2 rfl rfl (by omega) ((hB1.alloc hB1.size _).alloc (by simp; have := hB1.size; omega) _) (by simp; have := hB1.size; omega) ?_; intro a3 c3 w3 hl3 hB3 hs3 hg3; obtain ⟨hF, hp3, hlt3, hh3⟩ := scan_mid hl hs1 hl1 hp1 hh1 hg3)))
          obtain ⟨hl4, hh4⟩ := scan_end hl3 hp3 hh3 hg4
          go_roundw
          case rel => exact ⟨k + 1, at' + rn, m', _, _, _, a3, c3, a4, c4, by omega, by omega, val_int (by omega), rfl, rfl, hl4, hh4, hp4, hB4, (by rw [List.length_append, hfk.out]; rfl : (fs ++ [(x, y)]).length = k + 1), (by rw [List.length_append, hpk.out]; rfl : (ps ++ [at' + rn - 4 - y.length]).length = k + 1), H2⟩
          case measure => simp [intOf]; omega
        · clear hr hok
          have H2 : Hid (R = (fs, ps, at')) := (by rw [H0, Fr.sc_no (by rw [hR1]; exact hcz)] : R = (fs, ps, at'))
          clear H0
          have hR1' : Hid (_ = _) := hR1
          clear hR1
          have hcb : ((rc : Int) != 0) = true := by simp; omega
          go_wp2_with (go_at_call 46; refine (hcall _ (by omega)).mono ?_; rintro e w1 ⟨A, C, rfl, hown1, hbel1⟩; have hs1 := hbel1.size)
          have hB1 := hbel.trans (hbel1.mono hsz)
          go_ret3
          refine ⟨a1, c1, a2, c2, cs, ?_, ?_, ?_, ?_, ?_, ?_⟩
          · rw [H2.out]; simp only []; rw [hfk.out]; rfl
          · rw [H2.out]; simp only []; rw [hfk.out]; exact (owns_below hl hbel1).alloc _
          · rw [H2.out]; exact (hh.below hbel1).below (below_alloc _ _)
          · rw [H2.out]; simp only []; rw [hfk.out]; exact (owns_below hp hbel1).alloc _
          · rw [H2.out]; simp only []; rw [hfk.out, hpk.out]
          · exact hB1.alloc hB1.size _
end Go.Proofs.Ytgdefibgifcbaaa
