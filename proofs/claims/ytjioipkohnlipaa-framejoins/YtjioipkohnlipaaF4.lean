/- What the reference's First does. -/
import Derived.Test.YtjioipkohnlipaaF3
namespace Go.Proofs.Ytjioipkohnlipaa
open Go.RowKit

theorem bcell {W w1 : World} (hb : Below W.heap.size W w1) : (∀ b o, b < W.heap.size → w1.cell? ⟨b, o, none⟩ = W.cell? ⟨b, o, none⟩) ∧ (∀ b o, b < W.heap.size → w1.frozen? ⟨b, o, none⟩ = W.frozen? ⟨b, o, none⟩) :=
  ⟨fun b o h => hb.cell (p := ⟨b, o, none⟩) h, fun b o h => hb.frozen (p := ⟨b, o, none⟩) h⟩
/-- what First tells: a frame whose body is new memory, how many bytes, the code -/
def FirstRes (w : World) (R : Fr.F × Nat × Nat) (e : Ending) (w' : World) : Prop :=
  ∃ A C, e = .returned (.tuple #[.agg #[.int .i64 R.1.1, .slice A R.1.2.length C], .int .i64 (R.2.1 : Nat), .int .i64 (R.2.2 : Nat)]) ∧ w'.ownsRow w.heap.size 5 1 (.slice A R.1.2.length C) R.1.2.length (kcells .u8 R.1.2) ∧ Below w.heap.size w w'
theorem gap_iff {bs : List Nat} {k : Nat} (hk : k ≤ bs.length) (hh : ∀ j, j < k → 128 ≤ bs.getD j 0) (he : k = bs.length ∨ k = 3 ∨ bs.getD k 0 < 128) : Fr.gapHead bs = decide (k = bs.length ∧ k < 3) := by
  unfold Fr.gapHead
  by_cases h1 : k = bs.length ∧ k < 3
  · have : decide (k = bs.length ∧ k < 3) = true := decide_eq_true h1
    rw [this, Bool.and_eq_true, List.all_eq_true]
    refine ⟨by simp; omega, fun x hx => ?_⟩
    obtain ⟨j, hj, e⟩ := List.mem_iff_getElem.mp hx
    have := hh j (by omega)
    rw [List.getD_eq_getElem?_getD, List.getElem?_eq_getElem hj] at this
    rw [← e]; simp at this ⊢; exact this
  · have : decide (k = bs.length ∧ k < 3) = false := by simpa using h1
    rw [this]
    rw [Bool.and_eq_false_iff]
    by_cases h3 : bs.length < 3
    · right
      rw [List.all_eq_false]
      refine ⟨bs.getD k 0, ?_, ?_⟩
      · have hk' : k < bs.length := by omega
        have : bs.getD k 0 = bs[k] := by simp [hk']
        rw [this]; exact List.getElem_mem hk'
      · have : bs.getD k 0 < 128 := by omega
        simp only [decide_eq_true_eq]; omega
    · left; simpa using h3

/-- behind the frame's block, its body and its store: what the rest wants of the world -/
theorem first_world {w w1 w2 : World} {x g1 C : Nat} {A : Option Addr} {body : List Nat} (hb1 : Below w.heap.size w w1) (hs1 : w.heap.size < w1.heap.size)
    (hN : ∀ i, w1.cell? ⟨w.heap.size, i, none⟩ = (w.alloc (.cells #[.int .i64 0, .slice none 0 0] 31)).cell? ⟨w.heap.size, i, none⟩) (hF : ∀ i, w1.frozen? ⟨w.heap.size, i, none⟩ = (w.alloc (.cells #[.int .i64 0, .slice none 0 0] 31)).frozen? ⟨w.heap.size, i, none⟩)
    (hbel2 : Below (w1.heap.size + 1) (w1.alloc (.cells #[.int .i64 (x : Nat), .slice none 0 0] 31)) w2)
    (hown2 : w2.ownsRow (w1.heap.size + 1) 5 1 (.slice A g1 C) g1 (kcells .u8 body)) :
    ∃ W3, W3 = w2.setCell ⟨w1.heap.size, 1, none⟩ (.slice A g1 C) ∧ W3.cell? ⟨w1.heap.size, 0, none⟩ = some (.int .i64 (x : Nat)) ∧ W3.cell? ⟨w1.heap.size, 1, none⟩ = some (.slice A g1 C) ∧
      W3.cell? ⟨w.heap.size, 0, none⟩ = some (.int .i64 0) ∧ W3.cell? ⟨w.heap.size, 1, none⟩ = some (.slice none 0 0) ∧ W3.frozen? ⟨w.heap.size, 0, none⟩ = false ∧ W3.frozen? ⟨w.heap.size, 1, none⟩ = false ∧
      Below w.heap.size w W3 ∧ W3.ownsRow (w1.heap.size + 1) 5 1 (.slice A g1 C) g1 (kcells .u8 body) ∧ w1.heap.size + 1 ≤ W3.heap.size := by
  have hc : ∀ b i, b < w1.heap.size + 1 → w2.cell? ⟨b, i, none⟩ = (w1.alloc (.cells #[.int .i64 (x : Nat), .slice none 0 0] 31)).cell? ⟨b, i, none⟩ := fun b i h => hbel2.cell (p := ⟨b, i, none⟩) h
  have hf : ∀ b i, b < w1.heap.size + 1 → w2.frozen? ⟨b, i, none⟩ = (w1.alloc (.cells #[.int .i64 (x : Nat), .slice none 0 0] 31)).frozen? ⟨b, i, none⟩ := fun b i h => hbel2.frozen (p := ⟨b, i, none⟩) h
  have hp : ∀ i, (w1.alloc (.cells #[.int .i64 (x : Nat), .slice none 0 0] 31)).cell? ⟨w.heap.size, i, none⟩ = w1.cell? ⟨w.heap.size, i, none⟩ := fun i => cell_past _ _ ⟨w.heap.size, i, none⟩ hs1
  have hq : ∀ i, (w1.alloc (.cells #[.int .i64 (x : Nat), .slice none 0 0] 31)).frozen? ⟨w.heap.size, i, none⟩ = w1.frozen? ⟨w.heap.size, i, none⟩ := fun i => World.frozen?_of_block (w := w1) (Below.heap_alloc w1 _ w.heap.size hs1)
  have hl := hbel2.size
  rw [World.size_alloc] at hl
  have hfz : ∀ i, (w.alloc (.cells #[.int .i64 0, .slice none 0 0] 31)).frozen? ⟨w.heap.size, i, none⟩ = false := by
    intro i
    have : (w.alloc (.cells #[.int .i64 0, .slice none 0 0] 31)).heap[w.heap.size]? = some (.cells #[.int .i64 0, .slice none 0 0] 31) := heap_alloc_new w _
    simp only [World.frozen?, this]
    simp
  refine ⟨_, rfl, ?_, ?_, ?_, ?_, ?_, ?_, ?_, ?_, ?_⟩
  · refine (World.cell?_setCell_other w2 _ _ _ (by simp)).trans ?_; rw [hc _ _ (by omega), cell_new]; rfl
  · exact World.cell?_setCell_same w2 _ _ (u := .slice none 0 0) (by rw [hc _ _ (by omega), cell_new]; rfl)
  · refine (World.cell?_setCell_other w2 _ _ _ (by simp <;> omega)).trans ?_; rw [hc _ _ (by omega), hp, hN, cell_new]; rfl
  · refine (World.cell?_setCell_other w2 _ _ _ (by simp <;> omega)).trans ?_; rw [hc _ _ (by omega), hp, hN, cell_new]; rfl
  · rw [World.frozen?_setCell, hf _ _ (by omega), hq, hF, hfz]
  · rw [World.frozen?_setCell, hf _ _ (by omega), hq, hF, hfz]
  · exact (((hb1.alloc (by omega) _).trans (hbel2.mono (by omega)))).setCell (p := ⟨w1.heap.size, 1, none⟩) (by simp; omega) _
  · exact ownsRow_setCell_below hown2 (by simp) _
  · rw [World.size_setCell]; exact hl

theorem made_at (w : World) (e : TypeId) (base : Nat) {b : Nat} (hb : w.heap.size = b) (hB : base ≤ b) : (w.alloc (.cells #[] e)).ownsRow base e 1 (.slice (some ⟨b, 0, none⟩) 0 0) 0 (kcells .u8 []) := by
  subst hb
  exact World.ownsRow_made (base := base) (e := e) (size := 1) w #[] 0 hB (by decide) (by simp)
theorem Row.cell {k : IntKind} {w : World} {b off n : Nat} {bs : List Nat} (h : Row k w (some ⟨b, off, none⟩) n bs) (i : Nat) (hi : i < n) : w.cell? ⟨b, off + i, none⟩ = some (.int k (bs.getD i 0 : Nat)) := by
  obtain ⟨b', off', e, hc⟩ := h.at (by omega)
  simp only [Option.some.injEq, Addr.mk.injEq] at e
  obtain ⟨rfl, rfl, _⟩ := e
  exact hc i hi

set_option maxRecDepth 100000 in
set_option maxHeartbeats 1000000 in
theorem reffirst_any (a : Option Addr) (len cap : Nat) (bs : List Nat) (w : World) (hcap : len ≤ cap) (hbig : len ≤ 100000) (hr : Row .u8 w a len bs) :
    Calls Try.prog 17 #[.slice a len cap] w (FirstRes w (Fr.first bs)) := by
  have hlen : Hid (bs.length = len) := hr.1
  obtain ⟨R, hR⟩ : ∃ R, R = Fr.first bs := ⟨_, rfl⟩
  rw [← hR]
  have HR : Hid (R = Fr.first bs) := hR
  clear hR
  have hb0 : Below w.heap.size w (w.alloc (.cells #[.int .i64 0, .slice none 0 0] 31)) := (Below.refl _ _).alloc (Nat.le_refl _) _
  go_enter Try.func17, Try.ntmps17
  go_wp2
  go_loop [5] (fun i => ∃ k : Nat, k ≤ len ∧ k ≤ 3 ∧ i = .int .i64 k ∧ Hid (∀ j, j < k → 128 ≤ bs.getD j 0)) (fun i => len - (intOf i).toNat)
  case atStart => exact ⟨0, by omega, by omega, rfl, (fun j hj => by omega : ∀ j, j < 0 → 128 ≤ bs.getD j 0)⟩
  case round =>
    obtain ⟨k, hk, hk3, rfl, hh⟩ := hrel
    by_cases hgo : k < len ∧ k < 3 ∧ 128 ≤ bs.getD k 0
    · obtain ⟨hlt, hlt3, hx⟩ := hgo
      obtain ⟨b, off, rfl, hc⟩ := (hr.below hb0 (Nat.le_refl _)).at (by omega)
      have hcell := hc k hlt
      have hx8 := getD_lt8 hr.2.2.1 k
      have H : Hid (∀ j, j < k + 1 → 128 ≤ bs.getD j 0) := high_step hh.out hx
      clear hc
      generalize bs.getD k 0 = x at *
      go_wp2
      go_round
      case rel => exact ⟨k + 1, by omega, by omega, by go_num, H⟩
      case measure => simp [intOf]; omega
    · have hgap := gap_iff (bs := bs) (k := k) (by rw [hlen.out]; exact hk) hh.out (by rw [hlen.out]; omega)
      rw [hlen.out] at hgap
      by_cases hend : k = len ∧ k < 3
      · have H : Hid (R = ((0, []), 0, 5)) := (by rw [HR.out]; unfold Fr.first; rw [if_pos (by rw [hgap]; simpa using hend)] : R = ((0, []), 0, 5))
        obtain ⟨rfl, hend⟩ := hend
        clear hgap
        go_wp2
        exact bodyPost_ret (v := .tuple #[.agg #[.int .i64 0, .slice none 0 0], .int .i64 0, .int .i64 5]) (by simp [results, Try.results17, go_sem]) rfl ⟨none, 0, by rw [H.out]; rfl, by rw [H.out]; exact World.ownsRow_nil _ _ _ _, hb0⟩
      · have hgf : Fr.gapHead bs = false := by rw [hgap]; simpa using hend
        clear hgap
        have hrow0 := hr.below hb0 (Nat.le_refl _)
        have hget := refget_any a len cap bs _ hcap hbig hrow0
        have hgle := Va.get_le (bs := bs)
        rw [hlen.out] at hgle
        have hglt := Va.get_lt bs
        obtain ⟨g, hg⟩ : ∃ g, g = Va.get bs := ⟨_, rfl⟩
        rw [← hg] at hget hgle hglt
        obtain ⟨g1, g2⟩ := g
        simp only at hget hgle hglt
        have HG : Hid (Va.get bs = (g1, g2)) := hg.symm
        clear hg
        have hex : (k = 3 ∧ len = 3) ∨ (3 < len ∧ k = 3) ∨ (k < len ∧ k < 3 ∧ bs.getD k 0 < 128) := by omega
        rcases hex with ⟨rfl, rfl⟩ | ⟨hex, rfl⟩ | ⟨hex1, hex2, hex3⟩
        · clear hgo hend hk hk3 hh hrow0
          by_cases hz : g2 = 0
          · have H : Hid (R = ((0, []), 0, 2)) := (by rw [HR.out]; unfold Fr.first; rw [hgf, HG.out, if_neg (by simp), if_pos (by simp; omega)] : R = ((0, []), 0, 2))
            subst hz
            go_wp2_with (go_at_call 34; refine hget.mono ?_; rintro e w1 ⟨rfl, hbel1⟩; obtain ⟨hc1, hf1⟩ := bcell hbel1; have hb1 := hb0.trans (hbel1.mono hb0.size); have hs1 : w.heap.size < w1.heap.size := (by have := hbel1.size; simp at this; omega))
            exact bodyPost_ret (v := .tuple #[.agg #[.int .i64 0, .slice none 0 0], .int .i64 0, .int .i64 2]) (by simp [results, Try.results17, go_sem, hc1]) rfl ⟨none, 0, by rw [H.out]; rfl, by rw [H.out]; exact World.ownsRow_nil _ _ _ _, by first | exact hb1 | exact (hb1.setCell (Nat.le_refl _) _).setCell (Nat.le_refl _) _ | exact ((hb1.setCell (Nat.le_refl _) _).setCell (Nat.le_refl _) _).alloc (by simp; omega) _⟩
          · have hz' : ((g2 : Int) == 0) = false := by simp; omega
            by_cases hbg : 1048576 < g1
            · have H : Hid (R = ((0, []), 0, 2)) := (by rw [HR.out]; unfold Fr.first; rw [hgf, HG.out, if_neg (by simp), if_pos (by simp; omega)] : R = ((0, []), 0, 2))
              go_wp2_with (go_at_call 34; refine hget.mono ?_; rintro e w1 ⟨rfl, hbel1⟩; obtain ⟨hc1, hf1⟩ := bcell hbel1; have hb1 := hb0.trans (hbel1.mono hb0.size); have hs1 : w.heap.size < w1.heap.size := (by have := hbel1.size; simp at this; omega))
              exact bodyPost_ret (v := .tuple #[.agg #[.int .i64 0, .slice none 0 0], .int .i64 0, .int .i64 2]) (by simp [results, Try.results17, go_sem, hc1]) rfl ⟨none, 0, by rw [H.out]; rfl, by rw [H.out]; exact World.ownsRow_nil _ _ _ _, by first | exact hb1 | exact (hb1.setCell (Nat.le_refl _) _).setCell (Nat.le_refl _) _ | exact ((hb1.setCell (Nat.le_refl _) _).setCell (Nat.le_refl _) _).alloc (by simp; omega) _⟩
            · have hbg' : decide (1048576 < (g1 : Int)) = false := by simp; omega
              by_cases hel : g2 = 3
              · have H : Hid (R = ((0, []), 0, 5)) := (by rw [HR.out]; unfold Fr.first; rw [hgf, HG.out, if_neg (by simp), if_neg (by simp; omega), if_pos (by rw [hlen.out]; exact hel)] : R = ((0, []), 0, 5))
                subst hel
                go_wp2_with (go_at_call 34; refine hget.mono ?_; rintro e w1 ⟨rfl, hbel1⟩; obtain ⟨hc1, hf1⟩ := bcell hbel1; have hb1 := hb0.trans (hbel1.mono hb0.size); have hs1 : w.heap.size < w1.heap.size := (by have := hbel1.size; simp at this; omega))
                exact bodyPost_ret (v := .tuple #[.agg #[.int .i64 0, .slice none 0 0], .int .i64 0, .int .i64 5]) (by simp [results, Try.results17, go_sem, hc1]) rfl ⟨none, 0, by rw [H.out]; rfl, by rw [H.out]; exact World.ownsRow_nil _ _ _ _, by first | exact hb1 | exact (hb1.setCell (Nat.le_refl _) _).setCell (Nat.le_refl _) _ | exact ((hb1.setCell (Nat.le_refl _) _).setCell (Nat.le_refl _) _).alloc (by simp; omega) _⟩
              · have hel' : ((g2 : Int) == (3 : Int)) = false := by simp; omega
                have hlt2 : g2 < 3 := by omega
                obtain ⟨b, off, rfl, _⟩ := hr.at (by omega)
                have hx8 := getD_lt8 hr.2.2.1 g2
                obtain ⟨x, hx⟩ : ∃ x, x = bs.getD g2 0 := ⟨_, rfl⟩
                rw [← hx] at hx8
                have Hx : Hid (x = bs.getD g2 0) := hx
                clear hx
                by_cases hk0 : x < 1
                · have H : Hid (R = ((0, []), 0, 2)) := (by rw [HR.out]; unfold Fr.first; rw [hgf, HG.out, if_neg (by simp), if_neg (by simp; omega), if_neg (by rw [hlen.out]; exact hel), if_pos (by simp only []; rw [← Hx.out]; omega)] : R = ((0, []), 0, 2))
                  go_wp2_with (go_at_call 34; refine hget.mono ?_; rintro e w1 ⟨rfl, hbel1⟩; obtain ⟨hc1, hf1⟩ := bcell hbel1; have hb1 := hb0.trans (hbel1.mono hb0.size); have hs1 : w.heap.size < w1.heap.size := (by have := hbel1.size; simp at this; omega); have hcell1 := (hr.below hb1 (Nat.le_refl _)).cell g2 hlt2; rw [← Hx.out] at hcell1)
                  exact bodyPost_ret (v := .tuple #[.agg #[.int .i64 0, .slice none 0 0], .int .i64 0, .int .i64 2]) (by simp [results, Try.results17, go_sem, hs1, hc1]) rfl ⟨none, 0, by rw [H.out]; rfl, by rw [H.out]; exact World.ownsRow_nil _ _ _ _, by first | exact hb1 | exact (hb1.setCell (Nat.le_refl _) _).setCell (Nat.le_refl _) _ | exact ((hb1.setCell (Nat.le_refl _) _).setCell (Nat.le_refl _) _).alloc (by simp; omega) _⟩
                · have hk0' : decide ((x : Int) < 1) = false := by simp; omega
                  by_cases hk250 : 250 < x
                  · have H : Hid (R = ((0, []), 0, 2)) := (by rw [HR.out]; unfold Fr.first; rw [hgf, HG.out, if_neg (by simp), if_neg (by simp; omega), if_neg (by rw [hlen.out]; exact hel), if_pos (by simp only []; rw [← Hx.out]; omega)] : R = ((0, []), 0, 2))
                    go_wp2_with (go_at_call 34; refine hget.mono ?_; rintro e w1 ⟨rfl, hbel1⟩; obtain ⟨hc1, hf1⟩ := bcell hbel1; have hb1 := hb0.trans (hbel1.mono hb0.size); have hs1 : w.heap.size < w1.heap.size := (by have := hbel1.size; simp at this; omega); have hcell1 := (hr.below hb1 (Nat.le_refl _)).cell g2 hlt2; rw [← Hx.out] at hcell1)
                    exact bodyPost_ret (v := .tuple #[.agg #[.int .i64 0, .slice none 0 0], .int .i64 0, .int .i64 2]) (by simp [results, Try.results17, go_sem, hs1, hc1]) rfl ⟨none, 0, by rw [H.out]; rfl, by rw [H.out]; exact World.ownsRow_nil _ _ _ _, by first | exact hb1 | exact (hb1.setCell (Nat.le_refl _) _).setCell (Nat.le_refl _) _ | exact ((hb1.setCell (Nat.le_refl _) _).setCell (Nat.le_refl _) _).alloc (by simp; omega) _⟩
                  · have hk250' : decide (250 < (x : Int)) = false := by simp; omega
                    by_cases hsh : 3 < g2 + 1 + g1 + 4
                    · have H : Hid (R = ((0, []), 0, 5)) := (by rw [HR.out]; unfold Fr.first; rw [hgf, HG.out, if_neg (by simp), if_neg (by simp; omega), if_neg (by rw [hlen.out]; exact hel), if_neg (by simp only []; rw [← Hx.out]; omega), if_pos (by simp only []; rw [hlen.out]; exact hsh)] : R = ((0, []), 0, 5))
                      go_wp2_with (go_at_call 34; refine hget.mono ?_; rintro e w1 ⟨rfl, hbel1⟩; obtain ⟨hc1, hf1⟩ := bcell hbel1; have hb1 := hb0.trans (hbel1.mono hb0.size); have hs1 : w.heap.size < w1.heap.size := (by have := hbel1.size; simp at this; omega); have hcell1 := (hr.below hb1 (Nat.le_refl _)).cell g2 hlt2; rw [← Hx.out] at hcell1)
                      exact bodyPost_ret (v := .tuple #[.agg #[.int .i64 0, .slice none 0 0], .int .i64 0, .int .i64 5]) (by simp [results, Try.results17, go_sem, hs1, hc1]) rfl ⟨none, 0, by rw [H.out]; rfl, by rw [H.out]; exact World.ownsRow_nil _ _ _ _, by first | exact hb1 | exact (hb1.setCell (Nat.le_refl _) _).setCell (Nat.le_refl _) _ | exact ((hb1.setCell (Nat.le_refl _) _).setCell (Nat.le_refl _) _).alloc (by simp; omega) _⟩
                    · omega
        · have hne3 : ((3 : Int) == (len : Int)) = false := by simp; omega
          clear hgo hend hk hk3 hh hrow0
          by_cases hz : g2 = 0
          · have H : Hid (R = ((0, []), 0, 2)) := (by rw [HR.out]; unfold Fr.first; rw [hgf, HG.out, if_neg (by simp), if_pos (by simp; omega)] : R = ((0, []), 0, 2))
            subst hz
            go_wp2_with (go_at_call 34; refine hget.mono ?_; rintro e w1 ⟨rfl, hbel1⟩; obtain ⟨hc1, hf1⟩ := bcell hbel1; have hb1 := hb0.trans (hbel1.mono hb0.size); have hs1 : w.heap.size < w1.heap.size := (by have := hbel1.size; simp at this; omega))
            exact bodyPost_ret (v := .tuple #[.agg #[.int .i64 0, .slice none 0 0], .int .i64 0, .int .i64 2]) (by simp [results, Try.results17, go_sem, hc1]) rfl ⟨none, 0, by rw [H.out]; rfl, by rw [H.out]; exact World.ownsRow_nil _ _ _ _, by first | exact hb1 | exact (hb1.setCell (Nat.le_refl _) _).setCell (Nat.le_refl _) _ | exact ((hb1.setCell (Nat.le_refl _) _).setCell (Nat.le_refl _) _).alloc (by simp; omega) _⟩
          · have hz' : ((g2 : Int) == 0) = false := by simp; omega
            by_cases hbg : 1048576 < g1
            · have H : Hid (R = ((0, []), 0, 2)) := (by rw [HR.out]; unfold Fr.first; rw [hgf, HG.out, if_neg (by simp), if_pos (by simp; omega)] : R = ((0, []), 0, 2))
              go_wp2_with (go_at_call 34; refine hget.mono ?_; rintro e w1 ⟨rfl, hbel1⟩; obtain ⟨hc1, hf1⟩ := bcell hbel1; have hb1 := hb0.trans (hbel1.mono hb0.size); have hs1 : w.heap.size < w1.heap.size := (by have := hbel1.size; simp at this; omega))
              exact bodyPost_ret (v := .tuple #[.agg #[.int .i64 0, .slice none 0 0], .int .i64 0, .int .i64 2]) (by simp [results, Try.results17, go_sem, hc1]) rfl ⟨none, 0, by rw [H.out]; rfl, by rw [H.out]; exact World.ownsRow_nil _ _ _ _, by first | exact hb1 | exact (hb1.setCell (Nat.le_refl _) _).setCell (Nat.le_refl _) _ | exact ((hb1.setCell (Nat.le_refl _) _).setCell (Nat.le_refl _) _).alloc (by simp; omega) _⟩
            · have hbg' : decide (1048576 < (g1 : Int)) = false := by simp; omega
              by_cases hel : g2 = len
              · have H : Hid (R = ((0, []), 0, 5)) := (by rw [HR.out]; unfold Fr.first; rw [hgf, HG.out, if_neg (by simp), if_neg (by simp; omega), if_pos (by rw [hlen.out]; exact hel)] : R = ((0, []), 0, 5))
                subst hel
                go_wp2_with (go_at_call 34; refine hget.mono ?_; rintro e w1 ⟨rfl, hbel1⟩; obtain ⟨hc1, hf1⟩ := bcell hbel1; have hb1 := hb0.trans (hbel1.mono hb0.size); have hs1 : w.heap.size < w1.heap.size := (by have := hbel1.size; simp at this; omega))
                exact bodyPost_ret (v := .tuple #[.agg #[.int .i64 0, .slice none 0 0], .int .i64 0, .int .i64 5]) (by simp [results, Try.results17, go_sem, hc1]) rfl ⟨none, 0, by rw [H.out]; rfl, by rw [H.out]; exact World.ownsRow_nil _ _ _ _, by first | exact hb1 | exact (hb1.setCell (Nat.le_refl _) _).setCell (Nat.le_refl _) _ | exact ((hb1.setCell (Nat.le_refl _) _).setCell (Nat.le_refl _) _).alloc (by simp; omega) _⟩
              · have hel' : ((g2 : Int) == (len : Int)) = false := by simp; omega
                have hlt2 : g2 < len := by omega
                obtain ⟨b, off, rfl, _⟩ := hr.at (by omega)
                have hx8 := getD_lt8 hr.2.2.1 g2
                obtain ⟨x, hx⟩ : ∃ x, x = bs.getD g2 0 := ⟨_, rfl⟩
                rw [← hx] at hx8
                have Hx : Hid (x = bs.getD g2 0) := hx
                clear hx
                by_cases hk0 : x < 1
                · have H : Hid (R = ((0, []), 0, 2)) := (by rw [HR.out]; unfold Fr.first; rw [hgf, HG.out, if_neg (by simp), if_neg (by simp; omega), if_neg (by rw [hlen.out]; exact hel), if_pos (by simp only []; rw [← Hx.out]; omega)] : R = ((0, []), 0, 2))
                  go_wp2_with (go_at_call 34; refine hget.mono ?_; rintro e w1 ⟨rfl, hbel1⟩; obtain ⟨hc1, hf1⟩ := bcell hbel1; have hb1 := hb0.trans (hbel1.mono hb0.size); have hs1 : w.heap.size < w1.heap.size := (by have := hbel1.size; simp at this; omega); have hcell1 := (hr.below hb1 (Nat.le_refl _)).cell g2 hlt2; rw [← Hx.out] at hcell1)
                  exact bodyPost_ret (v := .tuple #[.agg #[.int .i64 0, .slice none 0 0], .int .i64 0, .int .i64 2]) (by simp [results, Try.results17, go_sem, hs1, hc1]) rfl ⟨none, 0, by rw [H.out]; rfl, by rw [H.out]; exact World.ownsRow_nil _ _ _ _, by first | exact hb1 | exact (hb1.setCell (Nat.le_refl _) _).setCell (Nat.le_refl _) _ | exact ((hb1.setCell (Nat.le_refl _) _).setCell (Nat.le_refl _) _).alloc (by simp; omega) _⟩
                · have hk0' : decide ((x : Int) < 1) = false := by simp; omega
                  by_cases hk250 : 250 < x
                  · have H : Hid (R = ((0, []), 0, 2)) := (by rw [HR.out]; unfold Fr.first; rw [hgf, HG.out, if_neg (by simp), if_neg (by simp; omega), if_neg (by rw [hlen.out]; exact hel), if_pos (by simp only []; rw [← Hx.out]; omega)] : R = ((0, []), 0, 2))
                    go_wp2_with (go_at_call 34; refine hget.mono ?_; rintro e w1 ⟨rfl, hbel1⟩; obtain ⟨hc1, hf1⟩ := bcell hbel1; have hb1 := hb0.trans (hbel1.mono hb0.size); have hs1 : w.heap.size < w1.heap.size := (by have := hbel1.size; simp at this; omega); have hcell1 := (hr.below hb1 (Nat.le_refl _)).cell g2 hlt2; rw [← Hx.out] at hcell1)
                    exact bodyPost_ret (v := .tuple #[.agg #[.int .i64 0, .slice none 0 0], .int .i64 0, .int .i64 2]) (by simp [results, Try.results17, go_sem, hs1, hc1]) rfl ⟨none, 0, by rw [H.out]; rfl, by rw [H.out]; exact World.ownsRow_nil _ _ _ _, by first | exact hb1 | exact (hb1.setCell (Nat.le_refl _) _).setCell (Nat.le_refl _) _ | exact ((hb1.setCell (Nat.le_refl _) _).setCell (Nat.le_refl _) _).alloc (by simp; omega) _⟩
                  · have hk250' : decide (250 < (x : Int)) = false := by simp; omega
                    by_cases hsh : len < g2 + 1 + g1 + 4
                    · have H : Hid (R = ((0, []), 0, 5)) := (by rw [HR.out]; unfold Fr.first; rw [hgf, HG.out, if_neg (by simp), if_neg (by simp; omega), if_neg (by rw [hlen.out]; exact hel), if_neg (by simp only []; rw [← Hx.out]; omega), if_pos (by simp only []; rw [hlen.out]; exact hsh)] : R = ((0, []), 0, 5))
                      go_wp2_with (go_at_call 34; refine hget.mono ?_; rintro e w1 ⟨rfl, hbel1⟩; obtain ⟨hc1, hf1⟩ := bcell hbel1; have hb1 := hb0.trans (hbel1.mono hb0.size); have hs1 : w.heap.size < w1.heap.size := (by have := hbel1.size; simp at this; omega); have hcell1 := (hr.below hb1 (Nat.le_refl _)).cell g2 hlt2; rw [← Hx.out] at hcell1)
                      exact bodyPost_ret (v := .tuple #[.agg #[.int .i64 0, .slice none 0 0], .int .i64 0, .int .i64 5]) (by simp [results, Try.results17, go_sem, hs1, hc1]) rfl ⟨none, 0, by rw [H.out]; rfl, by rw [H.out]; exact World.ownsRow_nil _ _ _ _, by first | exact hb1 | exact (hb1.setCell (Nat.le_refl _) _).setCell (Nat.le_refl _) _ | exact ((hb1.setCell (Nat.le_refl _) _).setCell (Nat.le_refl _) _).alloc (by simp; omega) _⟩
                    · generalize hbody : (bs.drop (g2 + 1)).take g1 = body at *
                      have Hb : Hid ((bs.drop (g2 + 1)).take g1 = body) := hbody
                      have hbl : Hid (body.length = g1) := (by rw [← hbody, List.length_take, List.length_drop, hlen.out]; omega : body.length = g1)
                      have hbs8 : ∀ y ∈ body, y < lim .u8 := by rw [← hbody]; exact take_small (drop_small hr.2.2.1 _) _
                      clear hbody
                      have hm : Hid (g2 + 1 + g1 - (g2 + 1) = g1) := (by omega : g2 + 1 + g1 - (g2 + 1) = g1)
                      go_wp2_with (first
                        | (go_at_call 34; refine hget.mono ?_; rintro e w1 ⟨rfl, hbel1⟩; obtain ⟨hc1, hf1⟩ := bcell hbel1; have hb1 := hb0.trans (hbel1.mono hb0.size); have hs1 : w.heap.size < w1.heap.size := (by have := hbel1.size; simp at this; omega); have hcell1 := (hr.below hb1 (Nat.le_refl _)).cell g2 hlt2; rw [← Hx.out] at hcell1)
                        | (at_builtin; have := hs1; go_must (refine append_u8 (w0 := w1.alloc (.cells #[.int .i64 (x : Nat), .slice none 0 0] 31)) (B := w1.heap.size + 1) rfl (.tmp 79) (.tmp 84) rfl _ 0 [] rfl (made_at _ _ _ (by simp) (by simp)) _ (g2 + 1 + g1 - (g2 + 1)) _ body rfl (by rw [hm.out]; exact Hb.out ▸ ((((hr.below hb1 (Nat.le_refl _)).below ((Below.refl _ _).alloc (Nat.le_refl _) _) (Nat.le_refl _)).below ((Below.refl _ _).alloc (Nat.le_refl _) _) (Nat.le_refl _)).drop (g2 + 1) (by omega)).take g1 (by omega)) (fun h => by cases h) (by omega) ((Below.refl _ _).alloc (by simp) _) (by simp) ?_; intro A C w2 hown2 hbel2 hsz2; have hm0 : 0 + (g2 + 1 + g1 - (g2 + 1)) = g1 := (by omega); rw [hm0, List.nil_append] at hown2; rw [hm0]; clear hm0; obtain ⟨hc2, hf2⟩ := bcell (W := w1.alloc (.cells #[.int .i64 (x : Nat), .slice none 0 0] 31)) (w1 := w2) (by simpa using hbel2))))
                      obtain ⟨W3, hW3, hF0, hF1, hN0, hN1, hz0, hz1, hB3, hown3, hsz3⟩ := first_world hb1 hs1 (fun i => hc1 _ i (by simp)) (fun i => hf1 _ i (by simp)) hbel2 hown2
                      rw [← hW3]
                      have hr3 := hr.below hB3 (Nat.le_refl _)
                      have hrb3 := (row_of_owns hown3 hbs8 (by omega)).1
                      have hnb3 := (row_of_owns hown3 hbs8 (by omega)).2.1
                      have hrt3 := hr3.take (g2 + 1 + g1 + 4) (by omega)
                      clear hW3 hc1 hf1 hc2 hf2 hbel1 hbel2 hown2 hb1 hcell1 hsz2 hget
                      have hMN : w.heap.size < w1.heap.size := hs1
                      generalize w1.heap.size = M at *
                      clear hs1
                      have hput := fun W h => refput1_any x A g1 C body W (by omega) (by omega) (by omega) (hrb3.below h (Nat.le_refl _)) hnb3
                      have hps : ∀ y ∈ Fr.put1 x body, y < lim .u8 := Fr.put1_small (by omega) hbs8
                      have hpl : Hid ((Fr.put1 x body).length ≤ 200000) := (by rw [Fr.put1_len, hbl.out]; have := Fr.size_le (n := g1) (by omega); omega : (Fr.put1 x body).length ≤ 200000)
                      have hR0 : Hid (R = if Fr.put1 x body = bs.take (g2 + 1 + g1 + 4) then (((x : Int), body), g2 + 1 + g1 + 4, 0) else ((0, []), 0, 2)) := (by rw [HR.out]; unfold Fr.first; rw [hgf, HG.out, if_neg (by simp), if_neg (by simp; omega), if_neg (by rw [hlen.out]; exact hel), if_neg (by simp only []; rw [← Hx.out]; omega), if_neg (by simp only []; rw [hlen.out]; exact hsh)]; simp only []; rw [← Hx.out, Hb.out] : R = if Fr.put1 x body = bs.take (g2 + 1 + g1 + 4) then (((x : Int), body), g2 + 1 + g1 + 4, 0) else ((0, []), 0, 2))
                      generalize Fr.put1 x body = q at *
                      have i2 : (g2 : Int) + 1 + g1 + 4 ≤ (cap : Int) := by omega
                      have i3 : (0 : Int) ≤ (g2 : Int) + 1 + g1 + 4 := by omega
                      have i4 : IntKind.i64.wrap ((g2 : Int) + 1 + g1 + 4) = (g2 : Int) + 1 + g1 + 4 := by rw [IntKind.wrap_i64]; omega
                      by_cases hq : q = bs.take (g2 + 1 + g1 + 4)
                      · have hd : decide (q = bs.take (g2 + 1 + g1 + 4)) = true := by simp [hq]
                        have H : Hid (R = (((x : Int), body), g2 + 1 + g1 + 4, 0)) := (by rw [hR0.out, if_pos hq] : R = (((x : Int), body), g2 + 1 + g1 + 4, 0))
                        clear hq hR0
                        go_region_held3 (fun w' => w'.cell? ⟨M, 0, none⟩ = some (.int .i64 (x : Nat)) ∧ w'.cell? ⟨M, 1, none⟩ = some (.slice A g1 C)) (first | go_keep | (refine ⟨?_, ?_⟩ <;> assumption))
                          (first
                            | ((go_at_call 28; refine (hput _ ((Below.refl _ _).drew)).mono ?_; rintro e w5 ⟨a5, c5, rfl, hown5, hbel5⟩; have hbel5' := below_of_drew hbel5; have hk0 := (hbel5'.cell (p := ⟨M, 0, none⟩) (by simp; omega)).trans hF0; have hk1 := (hbel5'.cell (p := ⟨M, 1, none⟩) (by simp; omega)).trans hF1))
                            | ((go_at_call 14; have := hown5; refine (bytes_any _ _ _ _ _ _ _ _ _ (row_of_owns hown5 hps (by have := hpl.out; omega)).1 (hrt3.below hbel5' (Nat.le_refl _))).mono ?_; rintro e w6 ⟨rfl, m6, rfl⟩)))
                        have n0 := (hbel5'.cell (p := ⟨w.heap.size, 0, none⟩) (by simp; omega)).trans hN0
                        have n1 := (hbel5'.cell (p := ⟨w.heap.size, 1, none⟩) (by simp; omega)).trans hN1
                        have f0 := (hbel5'.frozen (p := ⟨w.heap.size, 0, none⟩) (by simp; omega)).trans hz0
                        have f1 := (hbel5'.frozen (p := ⟨w.heap.size, 1, none⟩) (by simp; omega)).trans hz1
                        have hB5 := (hB3.trans (hbel5'.mono hB3.size)).trans (below_drewN _ _ m6)
                        have hown6 := owns_below (owns_below hown3 hbel5') (below_drewN _ _ m6)
                        clear hown3 hown5 hbel5 hbel5' hput hrb3 hr3 hrt3
                        go_wp2
                        refine bodyPost_ret (v := .tuple #[.agg #[.int .i64 (x : Nat), .slice A g1 C], .int .i64 ((g2 + 1 + g1 + 4 : Nat) : Int), .int .i64 0]) (by simp [results, Try.results17, go_sem, n0, n1]) rfl ⟨A, C, ?_, ?_, (hB5.setCell (Nat.le_refl _) _).setCell (Nat.le_refl _) _⟩
                        · rw [H.out]; simp only []; rw [hbl.out]; rfl
                        · rw [H.out]; simp only []; rw [hbl.out]
                          exact (ownsRow_setCell_below (ownsRow_setCell_below hown6 (by simp; omega) _) (by simp; omega) _).mono (by omega)
                      · have hd : decide (q = bs.take (g2 + 1 + g1 + 4)) = false := by simp [hq]
                        have H : Hid (R = ((0, []), 0, 2)) := (by rw [hR0.out, if_neg hq] : R = ((0, []), 0, 2))
                        clear hq hR0
                        go_region_held3 (fun w' => w'.cell? ⟨M, 0, none⟩ = some (.int .i64 (x : Nat)) ∧ w'.cell? ⟨M, 1, none⟩ = some (.slice A g1 C)) (first | go_keep | (refine ⟨?_, ?_⟩ <;> assumption))
                          (first
                            | ((go_at_call 28; refine (hput _ ((Below.refl _ _).drew)).mono ?_; rintro e w5 ⟨a5, c5, rfl, hown5, hbel5⟩; have hbel5' := below_of_drew hbel5; have hk0 := (hbel5'.cell (p := ⟨M, 0, none⟩) (by simp; omega)).trans hF0; have hk1 := (hbel5'.cell (p := ⟨M, 1, none⟩) (by simp; omega)).trans hF1))
                            | ((go_at_call 14; have := hown5; refine (bytes_any _ _ _ _ _ _ _ _ _ (row_of_owns hown5 hps (by have := hpl.out; omega)).1 (hrt3.below hbel5' (Nat.le_refl _))).mono ?_; rintro e w6 ⟨rfl, m6, rfl⟩)))
                        have n0 := (hbel5'.cell (p := ⟨w.heap.size, 0, none⟩) (by simp; omega)).trans hN0
                        have n1 := (hbel5'.cell (p := ⟨w.heap.size, 1, none⟩) (by simp; omega)).trans hN1
                        have f0 := (hbel5'.frozen (p := ⟨w.heap.size, 0, none⟩) (by simp; omega)).trans hz0
                        have f1 := (hbel5'.frozen (p := ⟨w.heap.size, 1, none⟩) (by simp; omega)).trans hz1
                        have hB5 := (hB3.trans (hbel5'.mono hB3.size)).trans (below_drewN _ _ m6)
                        clear hown3 hown5 hbel5 hbel5' hput hrb3 hr3 hrt3
                        go_wp2
                        refine bodyPost_ret (v := .tuple #[.agg #[.int .i64 0, .slice none 0 0], .int .i64 0, .int .i64 2]) (by simp [results, Try.results17, go_sem, n0, n1]) rfl ⟨none, 0, ?_, ?_, (hB5.setCell (Nat.le_refl _) _).setCell (Nat.le_refl _) _⟩
                        · rw [H.out]; rfl
                        · rw [H.out]; exact World.ownsRow_nil _ _ _ _
        · have hnek : ((k : Int) == (len : Int)) = false := by simp; omega
          clear hgo hend hk hk3 hh hrow0
          obtain ⟨b, off, rfl, _⟩ := hr.at (by omega)
          have hcellk := (hr.below hb0 (Nat.le_refl _)).cell k hex1
          obtain ⟨y, hy⟩ : ∃ y, y = bs.getD k 0 := ⟨_, rfl⟩
          rw [← hy] at hcellk hex3
          clear hy
          by_cases hz : g2 = 0
          · have H : Hid (R = ((0, []), 0, 2)) := (by rw [HR.out]; unfold Fr.first; rw [hgf, HG.out, if_neg (by simp), if_pos (by simp; omega)] : R = ((0, []), 0, 2))
            subst hz
            go_wp2_with (go_at_call 34; refine hget.mono ?_; rintro e w1 ⟨rfl, hbel1⟩; obtain ⟨hc1, hf1⟩ := bcell hbel1; have hb1 := hb0.trans (hbel1.mono hb0.size); have hs1 : w.heap.size < w1.heap.size := (by have := hbel1.size; simp at this; omega))
            exact bodyPost_ret (v := .tuple #[.agg #[.int .i64 0, .slice none 0 0], .int .i64 0, .int .i64 2]) (by simp [results, Try.results17, go_sem, hc1]) rfl ⟨none, 0, by rw [H.out]; rfl, by rw [H.out]; exact World.ownsRow_nil _ _ _ _, by first | exact hb1 | exact (hb1.setCell (Nat.le_refl _) _).setCell (Nat.le_refl _) _ | exact ((hb1.setCell (Nat.le_refl _) _).setCell (Nat.le_refl _) _).alloc (by simp; omega) _⟩
          · have hz' : ((g2 : Int) == 0) = false := by simp; omega
            by_cases hbg : 1048576 < g1
            · have H : Hid (R = ((0, []), 0, 2)) := (by rw [HR.out]; unfold Fr.first; rw [hgf, HG.out, if_neg (by simp), if_pos (by simp; omega)] : R = ((0, []), 0, 2))
              go_wp2_with (go_at_call 34; refine hget.mono ?_; rintro e w1 ⟨rfl, hbel1⟩; obtain ⟨hc1, hf1⟩ := bcell hbel1; have hb1 := hb0.trans (hbel1.mono hb0.size); have hs1 : w.heap.size < w1.heap.size := (by have := hbel1.size; simp at this; omega))
              exact bodyPost_ret (v := .tuple #[.agg #[.int .i64 0, .slice none 0 0], .int .i64 0, .int .i64 2]) (by simp [results, Try.results17, go_sem, hc1]) rfl ⟨none, 0, by rw [H.out]; rfl, by rw [H.out]; exact World.ownsRow_nil _ _ _ _, by first | exact hb1 | exact (hb1.setCell (Nat.le_refl _) _).setCell (Nat.le_refl _) _ | exact ((hb1.setCell (Nat.le_refl _) _).setCell (Nat.le_refl _) _).alloc (by simp; omega) _⟩
            · have hbg' : decide (1048576 < (g1 : Int)) = false := by simp; omega
              by_cases hel : g2 = len
              · have H : Hid (R = ((0, []), 0, 5)) := (by rw [HR.out]; unfold Fr.first; rw [hgf, HG.out, if_neg (by simp), if_neg (by simp; omega), if_pos (by rw [hlen.out]; exact hel)] : R = ((0, []), 0, 5))
                subst hel
                go_wp2_with (go_at_call 34; refine hget.mono ?_; rintro e w1 ⟨rfl, hbel1⟩; obtain ⟨hc1, hf1⟩ := bcell hbel1; have hb1 := hb0.trans (hbel1.mono hb0.size); have hs1 : w.heap.size < w1.heap.size := (by have := hbel1.size; simp at this; omega))
                exact bodyPost_ret (v := .tuple #[.agg #[.int .i64 0, .slice none 0 0], .int .i64 0, .int .i64 5]) (by simp [results, Try.results17, go_sem, hc1]) rfl ⟨none, 0, by rw [H.out]; rfl, by rw [H.out]; exact World.ownsRow_nil _ _ _ _, by first | exact hb1 | exact (hb1.setCell (Nat.le_refl _) _).setCell (Nat.le_refl _) _ | exact ((hb1.setCell (Nat.le_refl _) _).setCell (Nat.le_refl _) _).alloc (by simp; omega) _⟩
              · have hel' : ((g2 : Int) == (len : Int)) = false := by simp; omega
                have hlt2 : g2 < len := by omega
                have hx8 := getD_lt8 hr.2.2.1 g2
                obtain ⟨x, hx⟩ : ∃ x, x = bs.getD g2 0 := ⟨_, rfl⟩
                rw [← hx] at hx8
                have Hx : Hid (x = bs.getD g2 0) := hx
                clear hx
                by_cases hk0 : x < 1
                · have H : Hid (R = ((0, []), 0, 2)) := (by rw [HR.out]; unfold Fr.first; rw [hgf, HG.out, if_neg (by simp), if_neg (by simp; omega), if_neg (by rw [hlen.out]; exact hel), if_pos (by simp only []; rw [← Hx.out]; omega)] : R = ((0, []), 0, 2))
                  go_wp2_with (go_at_call 34; refine hget.mono ?_; rintro e w1 ⟨rfl, hbel1⟩; obtain ⟨hc1, hf1⟩ := bcell hbel1; have hb1 := hb0.trans (hbel1.mono hb0.size); have hs1 : w.heap.size < w1.heap.size := (by have := hbel1.size; simp at this; omega); have hcell1 := (hr.below hb1 (Nat.le_refl _)).cell g2 hlt2; rw [← Hx.out] at hcell1)
                  exact bodyPost_ret (v := .tuple #[.agg #[.int .i64 0, .slice none 0 0], .int .i64 0, .int .i64 2]) (by simp [results, Try.results17, go_sem, hs1, hc1]) rfl ⟨none, 0, by rw [H.out]; rfl, by rw [H.out]; exact World.ownsRow_nil _ _ _ _, by first | exact hb1 | exact (hb1.setCell (Nat.le_refl _) _).setCell (Nat.le_refl _) _ | exact ((hb1.setCell (Nat.le_refl _) _).setCell (Nat.le_refl _) _).alloc (by simp; omega) _⟩
                · have hk0' : decide ((x : Int) < 1) = false := by simp; omega
                  by_cases hk250 : 250 < x
                  · have H : Hid (R = ((0, []), 0, 2)) := (by rw [HR.out]; unfold Fr.first; rw [hgf, HG.out, if_neg (by simp), if_neg (by simp; omega), if_neg (by rw [hlen.out]; exact hel), if_pos (by simp only []; rw [← Hx.out]; omega)] : R = ((0, []), 0, 2))
                    go_wp2_with (go_at_call 34; refine hget.mono ?_; rintro e w1 ⟨rfl, hbel1⟩; obtain ⟨hc1, hf1⟩ := bcell hbel1; have hb1 := hb0.trans (hbel1.mono hb0.size); have hs1 : w.heap.size < w1.heap.size := (by have := hbel1.size; simp at this; omega); have hcell1 := (hr.below hb1 (Nat.le_refl _)).cell g2 hlt2; rw [← Hx.out] at hcell1)
                    exact bodyPost_ret (v := .tuple #[.agg #[.int .i64 0, .slice none 0 0], .int .i64 0, .int .i64 2]) (by simp [results, Try.results17, go_sem, hs1, hc1]) rfl ⟨none, 0, by rw [H.out]; rfl, by rw [H.out]; exact World.ownsRow_nil _ _ _ _, by first | exact hb1 | exact (hb1.setCell (Nat.le_refl _) _).setCell (Nat.le_refl _) _ | exact ((hb1.setCell (Nat.le_refl _) _).setCell (Nat.le_refl _) _).alloc (by simp; omega) _⟩
                  · have hk250' : decide (250 < (x : Int)) = false := by simp; omega
                    by_cases hsh : len < g2 + 1 + g1 + 4
                    · have H : Hid (R = ((0, []), 0, 5)) := (by rw [HR.out]; unfold Fr.first; rw [hgf, HG.out, if_neg (by simp), if_neg (by simp; omega), if_neg (by rw [hlen.out]; exact hel), if_neg (by simp only []; rw [← Hx.out]; omega), if_pos (by simp only []; rw [hlen.out]; exact hsh)] : R = ((0, []), 0, 5))
                      go_wp2_with (go_at_call 34; refine hget.mono ?_; rintro e w1 ⟨rfl, hbel1⟩; obtain ⟨hc1, hf1⟩ := bcell hbel1; have hb1 := hb0.trans (hbel1.mono hb0.size); have hs1 : w.heap.size < w1.heap.size := (by have := hbel1.size; simp at this; omega); have hcell1 := (hr.below hb1 (Nat.le_refl _)).cell g2 hlt2; rw [← Hx.out] at hcell1)
                      exact bodyPost_ret (v := .tuple #[.agg #[.int .i64 0, .slice none 0 0], .int .i64 0, .int .i64 5]) (by simp [results, Try.results17, go_sem, hs1, hc1]) rfl ⟨none, 0, by rw [H.out]; rfl, by rw [H.out]; exact World.ownsRow_nil _ _ _ _, by first | exact hb1 | exact (hb1.setCell (Nat.le_refl _) _).setCell (Nat.le_refl _) _ | exact ((hb1.setCell (Nat.le_refl _) _).setCell (Nat.le_refl _) _).alloc (by simp; omega) _⟩
                    · generalize hbody : (bs.drop (g2 + 1)).take g1 = body at *
                      have Hb : Hid ((bs.drop (g2 + 1)).take g1 = body) := hbody
                      have hbl : Hid (body.length = g1) := (by rw [← hbody, List.length_take, List.length_drop, hlen.out]; omega : body.length = g1)
                      have hbs8 : ∀ y ∈ body, y < lim .u8 := by rw [← hbody]; exact take_small (drop_small hr.2.2.1 _) _
                      clear hbody
                      have hm : Hid (g2 + 1 + g1 - (g2 + 1) = g1) := (by omega : g2 + 1 + g1 - (g2 + 1) = g1)
                      go_wp2_with (first
                        | (go_at_call 34; refine hget.mono ?_; rintro e w1 ⟨rfl, hbel1⟩; obtain ⟨hc1, hf1⟩ := bcell hbel1; have hb1 := hb0.trans (hbel1.mono hb0.size); have hs1 : w.heap.size < w1.heap.size := (by have := hbel1.size; simp at this; omega); have hcell1 := (hr.below hb1 (Nat.le_refl _)).cell g2 hlt2; rw [← Hx.out] at hcell1)
                        | (at_builtin; have := hs1; go_must (refine append_u8 (w0 := w1.alloc (.cells #[.int .i64 (x : Nat), .slice none 0 0] 31)) (B := w1.heap.size + 1) rfl (.tmp 79) (.tmp 84) rfl _ 0 [] rfl (made_at _ _ _ (by simp) (by simp)) _ (g2 + 1 + g1 - (g2 + 1)) _ body rfl (by rw [hm.out]; exact Hb.out ▸ ((((hr.below hb1 (Nat.le_refl _)).below ((Below.refl _ _).alloc (Nat.le_refl _) _) (Nat.le_refl _)).below ((Below.refl _ _).alloc (Nat.le_refl _) _) (Nat.le_refl _)).drop (g2 + 1) (by omega)).take g1 (by omega)) (fun h => by cases h) (by omega) ((Below.refl _ _).alloc (by simp) _) (by simp) ?_; intro A C w2 hown2 hbel2 hsz2; have hm0 : 0 + (g2 + 1 + g1 - (g2 + 1)) = g1 := (by omega); rw [hm0, List.nil_append] at hown2; rw [hm0]; clear hm0; obtain ⟨hc2, hf2⟩ := bcell (W := w1.alloc (.cells #[.int .i64 (x : Nat), .slice none 0 0] 31)) (w1 := w2) (by simpa using hbel2))))
                      obtain ⟨W3, hW3, hF0, hF1, hN0, hN1, hz0, hz1, hB3, hown3, hsz3⟩ := first_world hb1 hs1 (fun i => hc1 _ i (by simp)) (fun i => hf1 _ i (by simp)) hbel2 hown2
                      rw [← hW3]
                      have hr3 := hr.below hB3 (Nat.le_refl _)
                      have hrb3 := (row_of_owns hown3 hbs8 (by omega)).1
                      have hnb3 := (row_of_owns hown3 hbs8 (by omega)).2.1
                      have hrt3 := hr3.take (g2 + 1 + g1 + 4) (by omega)
                      clear hW3 hc1 hf1 hc2 hf2 hbel1 hbel2 hown2 hb1 hcell1 hsz2 hget
                      have hMN : w.heap.size < w1.heap.size := hs1
                      generalize w1.heap.size = M at *
                      clear hs1
                      have hput := fun W h => refput1_any x A g1 C body W (by omega) (by omega) (by omega) (hrb3.below h (Nat.le_refl _)) hnb3
                      have hps : ∀ y ∈ Fr.put1 x body, y < lim .u8 := Fr.put1_small (by omega) hbs8
                      have hpl : Hid ((Fr.put1 x body).length ≤ 200000) := (by rw [Fr.put1_len, hbl.out]; have := Fr.size_le (n := g1) (by omega); omega : (Fr.put1 x body).length ≤ 200000)
                      have hR0 : Hid (R = if Fr.put1 x body = bs.take (g2 + 1 + g1 + 4) then (((x : Int), body), g2 + 1 + g1 + 4, 0) else ((0, []), 0, 2)) := (by rw [HR.out]; unfold Fr.first; rw [hgf, HG.out, if_neg (by simp), if_neg (by simp; omega), if_neg (by rw [hlen.out]; exact hel), if_neg (by simp only []; rw [← Hx.out]; omega), if_neg (by simp only []; rw [hlen.out]; exact hsh)]; simp only []; rw [← Hx.out, Hb.out] : R = if Fr.put1 x body = bs.take (g2 + 1 + g1 + 4) then (((x : Int), body), g2 + 1 + g1 + 4, 0) else ((0, []), 0, 2))
                      generalize Fr.put1 x body = q at *
                      have i2 : (g2 : Int) + 1 + g1 + 4 ≤ (cap : Int) := by omega
                      have i3 : (0 : Int) ≤ (g2 : Int) + 1 + g1 + 4 := by omega
                      have i4 : IntKind.i64.wrap ((g2 : Int) + 1 + g1 + 4) = (g2 : Int) + 1 + g1 + 4 := by rw [IntKind.wrap_i64]; omega
                      by_cases hq : q = bs.take (g2 + 1 + g1 + 4)
                      · have hd : decide (q = bs.take (g2 + 1 + g1 + 4)) = true := by simp [hq]
                        have H : Hid (R = (((x : Int), body), g2 + 1 + g1 + 4, 0)) := (by rw [hR0.out, if_pos hq] : R = (((x : Int), body), g2 + 1 + g1 + 4, 0))
                        clear hq hR0
                        go_region_held3 (fun w' => w'.cell? ⟨M, 0, none⟩ = some (.int .i64 (x : Nat)) ∧ w'.cell? ⟨M, 1, none⟩ = some (.slice A g1 C)) (first | go_keep | (refine ⟨?_, ?_⟩ <;> assumption))
                          (first
                            | ((go_at_call 28; refine (hput _ ((Below.refl _ _).drew)).mono ?_; rintro e w5 ⟨a5, c5, rfl, hown5, hbel5⟩; have hbel5' := below_of_drew hbel5; have hk0 := (hbel5'.cell (p := ⟨M, 0, none⟩) (by simp; omega)).trans hF0; have hk1 := (hbel5'.cell (p := ⟨M, 1, none⟩) (by simp; omega)).trans hF1))
                            | ((go_at_call 14; have := hown5; refine (bytes_any _ _ _ _ _ _ _ _ _ (row_of_owns hown5 hps (by have := hpl.out; omega)).1 (hrt3.below hbel5' (Nat.le_refl _))).mono ?_; rintro e w6 ⟨rfl, m6, rfl⟩)))
                        have n0 := (hbel5'.cell (p := ⟨w.heap.size, 0, none⟩) (by simp; omega)).trans hN0
                        have n1 := (hbel5'.cell (p := ⟨w.heap.size, 1, none⟩) (by simp; omega)).trans hN1
                        have f0 := (hbel5'.frozen (p := ⟨w.heap.size, 0, none⟩) (by simp; omega)).trans hz0
                        have f1 := (hbel5'.frozen (p := ⟨w.heap.size, 1, none⟩) (by simp; omega)).trans hz1
                        have hB5 := (hB3.trans (hbel5'.mono hB3.size)).trans (below_drewN _ _ m6)
                        have hown6 := owns_below (owns_below hown3 hbel5') (below_drewN _ _ m6)
                        clear hown3 hown5 hbel5 hbel5' hput hrb3 hr3 hrt3
                        go_wp2
                        refine bodyPost_ret (v := .tuple #[.agg #[.int .i64 (x : Nat), .slice A g1 C], .int .i64 ((g2 + 1 + g1 + 4 : Nat) : Int), .int .i64 0]) (by simp [results, Try.results17, go_sem, n0, n1]) rfl ⟨A, C, ?_, ?_, (hB5.setCell (Nat.le_refl _) _).setCell (Nat.le_refl _) _⟩
                        · rw [H.out]; simp only []; rw [hbl.out]; rfl
                        · rw [H.out]; simp only []; rw [hbl.out]
                          exact (ownsRow_setCell_below (ownsRow_setCell_below hown6 (by simp; omega) _) (by simp; omega) _).mono (by omega)
                      · have hd : decide (q = bs.take (g2 + 1 + g1 + 4)) = false := by simp [hq]
                        have H : Hid (R = ((0, []), 0, 2)) := (by rw [hR0.out, if_neg hq] : R = ((0, []), 0, 2))
                        clear hq hR0
                        go_region_held3 (fun w' => w'.cell? ⟨M, 0, none⟩ = some (.int .i64 (x : Nat)) ∧ w'.cell? ⟨M, 1, none⟩ = some (.slice A g1 C)) (first | go_keep | (refine ⟨?_, ?_⟩ <;> assumption))
                          (first
                            | ((go_at_call 28; refine (hput _ ((Below.refl _ _).drew)).mono ?_; rintro e w5 ⟨a5, c5, rfl, hown5, hbel5⟩; have hbel5' := below_of_drew hbel5; have hk0 := (hbel5'.cell (p := ⟨M, 0, none⟩) (by simp; omega)).trans hF0; have hk1 := (hbel5'.cell (p := ⟨M, 1, none⟩) (by simp; omega)).trans hF1))
                            | ((go_at_call 14; have := hown5; refine (bytes_any _ _ _ _ _ _ _ _ _ (row_of_owns hown5 hps (by have := hpl.out; omega)).1 (hrt3.below hbel5' (Nat.le_refl _))).mono ?_; rintro e w6 ⟨rfl, m6, rfl⟩)))
                        have n0 := (hbel5'.cell (p := ⟨w.heap.size, 0, none⟩) (by simp; omega)).trans hN0
                        have n1 := (hbel5'.cell (p := ⟨w.heap.size, 1, none⟩) (by simp; omega)).trans hN1
                        have f0 := (hbel5'.frozen (p := ⟨w.heap.size, 0, none⟩) (by simp; omega)).trans hz0
                        have f1 := (hbel5'.frozen (p := ⟨w.heap.size, 1, none⟩) (by simp; omega)).trans hz1
                        have hB5 := (hB3.trans (hbel5'.mono hB3.size)).trans (below_drewN _ _ m6)
                        clear hown3 hown5 hbel5 hbel5' hput hrb3 hr3 hrt3
                        go_wp2
                        refine bodyPost_ret (v := .tuple #[.agg #[.int .i64 0, .slice none 0 0], .int .i64 0, .int .i64 2]) (by simp [results, Try.results17, go_sem, n0, n1]) rfl ⟨none, 0, ?_, ?_, (hB5.setCell (Nat.le_refl _) _).setCell (Nat.le_refl _) _⟩
                        · rw [H.out]; rfl
                        · rw [H.out]; exact World.ownsRow_nil _ _ _ _
end Go.Proofs.Ytjioipkohnlipaa
