/- RosterAgain: its own edits, done at first, make a roster again. -/
import Derived.Test.YtmodogmjfbcddaaGreatRYa
import Derived.Test.YtmodogmjfbcddaaGreatRTa
import Derived.Deep.DeepCutAuto
namespace Go.Proofs.YtmodogmjfbcddaaGreat
open Go.RowKit

set_option maxRecDepth 100000 in
set_option maxHeartbeats 1000000 in
theorem rfirst17_any (w : World) : Calls Tryz.prog 18 #[] w fun e w' => e = .returned (.agg #[.slice none 0 0, .slice none 0 0, .slice none 0 0, .slice none 0 0, .int .i64 1, .int .i64 0, .int .i64 0, .int .i64 0, .int .i64 0, .int .i64 0, .int .i64 0]) ∧ Below w.heap.size w w' := by
  go_enter Tryz.func18, Tryz.ntmps18
  go_wp2
  have d0 := cell_new w #[.slice none 0 0, .slice none 0 0, .slice none 0 0, .slice none 0 0, .int .i64 1, .int .i64 0, .int .i64 0, .int .i64 0, .int .i64 0, .int .i64 0, .int .i64 0] 29 0
  have d1 := cell_new w #[.slice none 0 0, .slice none 0 0, .slice none 0 0, .slice none 0 0, .int .i64 1, .int .i64 0, .int .i64 0, .int .i64 0, .int .i64 0, .int .i64 0, .int .i64 0] 29 1
  have d2 := cell_new w #[.slice none 0 0, .slice none 0 0, .slice none 0 0, .slice none 0 0, .int .i64 1, .int .i64 0, .int .i64 0, .int .i64 0, .int .i64 0, .int .i64 0, .int .i64 0] 29 2
  have d3 := cell_new w #[.slice none 0 0, .slice none 0 0, .slice none 0 0, .slice none 0 0, .int .i64 1, .int .i64 0, .int .i64 0, .int .i64 0, .int .i64 0, .int .i64 0, .int .i64 0] 29 3
  have d4 := cell_new w #[.slice none 0 0, .slice none 0 0, .slice none 0 0, .slice none 0 0, .int .i64 1, .int .i64 0, .int .i64 0, .int .i64 0, .int .i64 0, .int .i64 0, .int .i64 0] 29 4
  have d5 := cell_new w #[.slice none 0 0, .slice none 0 0, .slice none 0 0, .slice none 0 0, .int .i64 1, .int .i64 0, .int .i64 0, .int .i64 0, .int .i64 0, .int .i64 0, .int .i64 0] 29 5
  have d6 := cell_new w #[.slice none 0 0, .slice none 0 0, .slice none 0 0, .slice none 0 0, .int .i64 1, .int .i64 0, .int .i64 0, .int .i64 0, .int .i64 0, .int .i64 0, .int .i64 0] 29 6
  have d7 := cell_new w #[.slice none 0 0, .slice none 0 0, .slice none 0 0, .slice none 0 0, .int .i64 1, .int .i64 0, .int .i64 0, .int .i64 0, .int .i64 0, .int .i64 0, .int .i64 0] 29 7
  have d8 := cell_new w #[.slice none 0 0, .slice none 0 0, .slice none 0 0, .slice none 0 0, .int .i64 1, .int .i64 0, .int .i64 0, .int .i64 0, .int .i64 0, .int .i64 0, .int .i64 0] 29 8
  have d9 := cell_new w #[.slice none 0 0, .slice none 0 0, .slice none 0 0, .slice none 0 0, .int .i64 1, .int .i64 0, .int .i64 0, .int .i64 0, .int .i64 0, .int .i64 0, .int .i64 0] 29 9
  have d10 := cell_new w #[.slice none 0 0, .slice none 0 0, .slice none 0 0, .slice none 0 0, .int .i64 1, .int .i64 0, .int .i64 0, .int .i64 0, .int .i64 0, .int .i64 0, .int .i64 0] 29 10
  refine bodyPost_ret (v := .agg #[.slice none 0 0, .slice none 0 0, .slice none 0 0, .slice none 0 0, .int .i64 1, .int .i64 0, .int .i64 0, .int .i64 0, .int .i64 0, .int .i64 0, .int .i64 0]) (by simp [results, Tryz.results18, go_sem, d0, d1, d2, d3, d4, d5, d6, d7, d8, d9, d10]) rfl ⟨rfl, below_alloc _ _⟩

set_option maxRecDepth 100000 in
set_option maxHeartbeats 8000000 in
theorem ragain_any (ad : Option Addr) (len cap : Nat) (l : List Ed.E) (w : World) (hl0 : IsEdits w ad len cap l) (heg : elgt l = true) (hme : l.all Ed.may = true) :
    Calls Tryz.prog 4 #[.slice ad len cap] w fun e w' => e = .returned (.bool true) ∧ Below w.heap.size w w' := by
  have hlen : len ≤ 40 := by have := elgt_len heg; rw [hl0.1.1] at this; exact this
  have hl : ERow w ad len l := hl0.1
  have hll : Hid (l.length = len) := hl.1
  have HL : Hid (ERow w ad len l) := hl
  have hwa := fun W => rawake_any W
  have hle := elight_any ad len cap l w hl hl0.2.2.2
  rw [heg] at hle
  have hre := redits17_any ad len cap l w (by omega) hl true hme.symm
  clear hl0 hl heg hme
  go_enter Tryz.func4, Tryz.ntmps4
  go_wp2_with (first
    | (go_at_call 8; go_must (refine hle.mono ?_; rintro e w2 ⟨rfl, hw2⟩; obtain rfl : w = w2 := hw2.symm))
    | (go_at_call 13; go_must (refine hre.mono ?_; rintro e w2 ⟨rfl, hb2⟩))
    | (go_at_call 16; go_must (refine (rfirst_any _).mono ?_; rintro e w3 ⟨rfl, hb3⟩)))
  have hbW := (hb2.trans (hb3.mono hb2.size)).alloc (hb2.trans (hb3.mono hb2.size)).size (.cells #[.slice none 0 0, .slice none 0 0, .slice none 0 0, .slice none 0 0, .int .i64 1, .int .i64 0, .int .i64 0, .int .i64 0, .int .i64 0, .int .i64 0, .int .i64 0] 29)
  have hPA := heap_alloc_new w3 (.cells #[.slice none 0 0, .slice none 0 0, .slice none 0 0, .slice none 0 0, .int .i64 1, .int .i64 0, .int .i64 0, .int .i64 0, .int .i64 0, .int .i64 0, .int .i64 0] 29)
  have hle3 := (hb2.trans (hb3.mono hb2.size)).size
  clear hle hre hb2 hb3
  generalize w3.alloc (.cells #[.slice none 0 0, .slice none 0 0, .slice none 0 0, .slice none 0 0, .int .i64 1, .int .i64 0, .int .i64 0, .int .i64 0, .int .i64 0, .int .i64 0, .int .i64 0] 29) = V0 at *
  generalize w3.heap.size = P1 at *
  have H1V : Hid (V0.heap[P1]? = some (.cells #[.slice none 0 0, .slice none 0 0, .slice none 0 0, .slice none 0 0, .int .i64 1, .int .i64 0, .int .i64 0, .int .i64 0, .int .i64 0, .int .i64 0, .int .i64 0] 29 (0, 0))) := hPA
  have HXV : Hid (RIx P1 V0 none 0 0 none 0 0 none 0 0 none 0 0 Ro.first) := (fun W' _ => rin_first W' : RIx _ _ _ _ _ _ _ _ _ _ _ _ _ _ _)
  have HBV : Hid (Below w.heap.size w V0) := hbW
  have HC1 : Hid (Ro.check Ro.first = true) := (Ro.check_first : _ = _)
  have HP1 : Hid (w.heap.size ≤ P1) := (hle3 : _ ≤ _)
  clear hPA hbW hle3
  go_loopg [4, 5, 6, 7, 8] len (fun g iv _ _ _ _ wx => ∃ (k : Nat) (xs : List Int) (xm : List (Int × Int)) (xt : List Lv.T) (xk : List (Int × Int × Int)) (A1 : Option Addr) (N1 C1 : Nat) (A2 : Option Addr) (N2 C2 : Nat) (A3 : Option Addr) (N3 C3 : Nat) (A4 : Option Addr) (N4 C4 : Nat) (y1 y2 y3 y4 y5 y6 y7 : Int), k + g = len ∧ iv = .int .i64 k ∧ Hid (Ro.check ⟨xs, xm, xt, xk, y1, y2, y3, y4, y5, y6, y7⟩ = true) ∧ Hid (wx.heap[P1]? = some (.cells #[.slice A1 N1 C1, .slice A2 N2 C2, .slice A3 N3 C3, .slice A4 N4 C4, .int .i64 y1, .int .i64 y2, .int .i64 y3, .int .i64 y4, .int .i64 y5, .int .i64 y6, .int .i64 y7] 29 (0, 0))) ∧ Hid (RIx P1 wx A1 N1 C1 A2 N2 C2 A3 N3 C3 A4 N4 C4 ⟨xs, xm, xt, xk, y1, y2, y3, y4, y5, y6, y7⟩) ∧ Hid (Below w.heap.size w wx))
  case atStart => exact ⟨0, [], [], [], [], none, 0, 0, none, 0, 0, none, 0, 0, none, 0, 0, 1, 0, 0, 0, 0, 0, 0, by omega, rfl, HC1, H1V, HXV, HBV⟩
  case round =>
    obtain ⟨k, xs, xm, xt, xk, A1, N1, C1, A2, N2, C2, A3, N3, C3, A4, N4, C4, y1, y2, y3, y4, y5, y6, y7, hk, rfl, HCK, H1, HX, HB⟩ := hrel
    clear H1V HXV HBV HC1
    cases gk with
    | succ g =>
      have hlt : k < len := by omega
      obtain ⟨Bk, O, k9, n9, i9, t9, a9, b9, c9, p9, q9, r9, f9, g9, rfl, hx, m0, m1, m2, m3, m4, m5, m6, m7, m8, m9, m10, m11⟩ := eget HL.out HB.out hlt
      obtain ⟨X, ERR, hXE⟩ : ∃ X ERR, (X, ERR) = Ro.apply ⟨xs, xm, xt, xk, y1, y2, y3, y4, y5, y6, y7⟩ [⟨k9, n9, i9, t9, a9, b9, c9, ⟨p9, q9, r9, f9, g9⟩⟩] := ⟨_, _, rfl⟩
      have HCX : Hid (ERR = 0 → Ro.check X = true) := (fun he => by
        have := (Ro.apply_one (r := ⟨xs, xm, xt, xk, y1, y2, y3, y4, y5, y6, y7⟩) (e := ⟨k9, n9, i9, t9, a9, b9, c9, ⟨p9, q9, r9, f9, g9⟩⟩) (by rw [← hXE]; exact he)).2.2.2
        rwa [← hXE] at this : _ → _)
      have hap := fun W (g : Nat) (hr : RIn W A1 N1 C1 A2 N2 C2 A3 N3 C3 A4 N4 C4 ⟨xs, xm, xt, xk, y1, y2, y3, y4, y5, y6, y7⟩) (he : ERow W (some ⟨g, 0, none⟩) 1 [⟨k9, n9, i9, t9, a9, b9, c9, ⟨p9, q9, r9, f9, g9⟩⟩]) => rapply_any xs xm xt xk A1 N1 C1 A2 N2 C2 A3 N3 C3 A4 N4 C4 y1 y2 y3 y4 y5 y6 y7 (some ⟨g, 0, none⟩) 1 1 [⟨k9, n9, i9, t9, a9, b9, c9, ⟨p9, q9, r9, f9, g9⟩⟩] W hr he (by omega)
      rw [← hXE] at hap
      unfold ApRes at hap
      dsimp only at hap
      have hi0 : (0 : Int) ≤ (k : Int) := by omega
      have hi1 : (k : Int) < (len : Int) := by omega
      have hEl := fun W : World => lit_edit W k9 n9 i9 t9 a9 b9 c9 p9 q9 r9 f9 g9 (o := W.heap.size) rfl
      have HV : Hid (∀ W, Below wr.heap.size wr W → (W.cell? ⟨P1, 0, none⟩ = some (.slice A1 N1 C1) ∧ W.cell? ⟨P1, 1, none⟩ = some (.slice A2 N2 C2) ∧ W.cell? ⟨P1, 2, none⟩ = some (.slice A3 N3 C3) ∧ W.cell? ⟨P1, 3, none⟩ = some (.slice A4 N4 C4) ∧ W.cell? ⟨P1, 4, none⟩ = some (.int .i64 y1) ∧ W.cell? ⟨P1, 5, none⟩ = some (.int .i64 y2) ∧ W.cell? ⟨P1, 6, none⟩ = some (.int .i64 y3) ∧ W.cell? ⟨P1, 7, none⟩ = some (.int .i64 y4) ∧ W.cell? ⟨P1, 8, none⟩ = some (.int .i64 y5) ∧ W.cell? ⟨P1, 9, none⟩ = some (.int .i64 y6) ∧ W.cell? ⟨P1, 10, none⟩ = some (.int .i64 y7) ∧ W.cell? ⟨Bk, O + k * 12, none⟩ = some (.int .i64 k9) ∧ W.cell? ⟨Bk, O + k * 12 + 1, none⟩ = some (.int .i64 n9) ∧ W.cell? ⟨Bk, O + k * 12 + 2, none⟩ = some (.int .i64 i9) ∧ W.cell? ⟨Bk, O + k * 12 + 3, none⟩ = some (.int .i64 t9) ∧ W.cell? ⟨Bk, O + k * 12 + 4, none⟩ = some (.int .i64 a9) ∧ W.cell? ⟨Bk, O + k * 12 + 5, none⟩ = some (.int .i64 b9) ∧ W.cell? ⟨Bk, O + k * 12 + 6, none⟩ = some (.int .i64 c9) ∧ W.cell? ⟨Bk, O + k * 12 + 7, none⟩ = some (.int .i64 p9) ∧ W.cell? ⟨Bk, O + k * 12 + 8, none⟩ = some (.int .i64 q9) ∧ W.cell? ⟨Bk, O + k * 12 + 9, none⟩ = some (.int .i64 r9) ∧ W.cell? ⟨Bk, O + k * 12 + 10, none⟩ = some (.string f9) ∧ W.cell? ⟨Bk, O + k * 12 + 11, none⟩ = some (.string g9))) := (fun W hb => by
        have a := (blkc ((hb.block _ (ob_ltB H1.out)).trans H1.out)).1
        exact ⟨a 0, a 1, a 2, a 3, a 4, a 5, a 6, a 7, a 8, a 9, a 10, (hb.cell (p := ⟨Bk, O + k * 12, none⟩) (cell_lt m0)).trans m0, (hb.cell (p := ⟨Bk, O + k * 12 + 1, none⟩) (cell_lt m1)).trans m1, (hb.cell (p := ⟨Bk, O + k * 12 + 2, none⟩) (cell_lt m2)).trans m2, (hb.cell (p := ⟨Bk, O + k * 12 + 3, none⟩) (cell_lt m3)).trans m3, (hb.cell (p := ⟨Bk, O + k * 12 + 4, none⟩) (cell_lt m4)).trans m4, (hb.cell (p := ⟨Bk, O + k * 12 + 5, none⟩) (cell_lt m5)).trans m5, (hb.cell (p := ⟨Bk, O + k * 12 + 6, none⟩) (cell_lt m6)).trans m6, (hb.cell (p := ⟨Bk, O + k * 12 + 7, none⟩) (cell_lt m7)).trans m7, (hb.cell (p := ⟨Bk, O + k * 12 + 8, none⟩) (cell_lt m8)).trans m8, (hb.cell (p := ⟨Bk, O + k * 12 + 9, none⟩) (cell_lt m9)).trans m9, (hb.cell (p := ⟨Bk, O + k * 12 + 10, none⟩) (cell_lt m10)).trans m10, (hb.cell (p := ⟨Bk, O + k * 12 + 11, none⟩) (cell_lt m11)).trans m11⟩ : ∀ W, _ → _)
      obtain ⟨ca0, ca1, ca2, ca3, ca4, ca5, ca6, ca7, ca8, ca9, ca10, _, _, _, _, _, _, _, _, _, _, _, _⟩ := HV.out wr (Below.refl _ _)
      have bA : Below wr.heap.size wr (wr.alloc (oed k9 n9 i9 t9 a9 b9 c9 p9 q9 r9 f9 g9)).drew := (below_alloc _ _).drew
      have bB : Below wr.heap.size wr ((wr.alloc (.cells #[.slice none 0 0, .slice none 0 0, .slice none 0 0, .slice none 0 0, .int .i64 0, .int .i64 0, .int .i64 0, .int .i64 0, .int .i64 0, .int .i64 0, .int .i64 0] 29)).alloc (oed k9 n9 i9 t9 a9 b9 c9 p9 q9 r9 f9 g9)).drew := (below_two _ _ _).drew
      have bC : Below wr.heap.size wr ((wr.alloc (oed k9 n9 i9 t9 a9 b9 c9 p9 q9 r9 f9 g9)).alloc (.cells #[.slice none 0 0, .slice none 0 0, .slice none 0 0, .slice none 0 0, .int .i64 0, .int .i64 0, .int .i64 0, .int .i64 0, .int .i64 0, .int .i64 0, .int .i64 0] 29)).drew := (below_two _ _ _).drew
      have eA0 := hEl wr
      have eA := eA0.below (Below.refl _ _).drew (Nat.le_refl _)
      have eB := (hEl (wr.alloc (.cells #[.slice none 0 0, .slice none 0 0, .slice none 0 0, .slice none 0 0, .int .i64 0, .int .i64 0, .int .i64 0, .int .i64 0, .int .i64 0, .int .i64 0, .int .i64 0] 29))).below (Below.refl _ _).drew (Nat.le_refl _)
      have eC := eA0.below ((below_alloc (wr.alloc (oed k9 n9 i9 t9 a9 b9 c9 p9 q9 r9 f9 g9)) (.cells #[.slice none 0 0, .slice none 0 0, .slice none 0 0, .slice none 0 0, .int .i64 0, .int .i64 0, .int .i64 0, .int .i64 0, .int .i64 0, .int .i64 0, .int .i64 0] 29)).drew) (Nat.le_refl _)
      have cA := hap _ _ (HX.out _ (grown_any bA _)) eA
      have cB := hap _ _ (HX.out _ (grown_any bB _)) eB
      have cC := hap _ _ (HX.out _ (grown_any bC _)) eC
      rw [World.size_alloc] at cB
      have zB : ((wr.alloc (.cells #[.slice none 0 0, .slice none 0 0, .slice none 0 0, .slice none 0 0, .int .i64 0, .int .i64 0, .int .i64 0, .int .i64 0, .int .i64 0, .int .i64 0, .int .i64 0] 29)).alloc (oed k9 n9 i9 t9 a9 b9 c9 p9 q9 r9 f9 g9)).drew.heap[wr.heap.size]? = some (.cells #[.slice none 0 0, .slice none 0 0, .slice none 0 0, .slice none 0 0, .int .i64 0, .int .i64 0, .int .i64 0, .int .i64 0, .int .i64 0, .int .i64 0, .int .i64 0] 29 (0, 0)) := (Below.heap_alloc _ _ _ (by simp)).trans (heap_alloc_new _ _)
      have zC : ((wr.alloc (oed k9 n9 i9 t9 a9 b9 c9 p9 q9 r9 f9 g9)).alloc (.cells #[.slice none 0 0, .slice none 0 0, .slice none 0 0, .slice none 0 0, .int .i64 0, .int .i64 0, .int .i64 0, .int .i64 0, .int .i64 0, .int .i64 0, .int .i64 0] 29)).drew.heap[wr.heap.size + 1]? = some (.cells #[.slice none 0 0, .slice none 0 0, .slice none 0 0, .slice none 0 0, .int .i64 0, .int .i64 0, .int .i64 0, .int .i64 0, .int .i64 0, .int .i64 0, .int .i64 0] 29 (0, 0)) := by have := heap_alloc_new (wr.alloc (oed k9 n9 i9 t9 a9 b9 c9 p9 q9 r9 f9 g9)) (.cells #[.slice none 0 0, .slice none 0 0, .slice none 0 0, .slice none 0 0, .int .i64 0, .int .i64 0, .int .i64 0, .int .i64 0, .int .i64 0, .int .i64 0, .int .i64 0] 29); rwa [World.size_alloc] at this
      clear hx hXE hap hEl eA eB eC eA0
      go_upto_region 7 with fail
      go_cut [5, 6] (fun s5 s6 wx => ∃ (D1 : Option Addr) (M1 G1 : Nat) (D2 : Option Addr) (M2 G2 : Nat) (D3 : Option Addr) (M3 G3 : Nat) (D4 : Option Addr) (M4 G4 : Nat) (g7 : Nat), s5 = .pointer (some ⟨g7, 0, none⟩) ∧ s6 = .int .i64 ERR ∧ Hid (wx.heap[g7]? = some (.cells #[.slice D1 M1 G1, .slice D2 M2 G2, .slice D3 M3 G3, .slice D4 M4 G4, .int .i64 X.log, .int .i64 X.index, .int .i64 X.term, .int .i64 X.ht, .int .i64 X.hv, .int .i64 X.hc, .int .i64 X.mark] 29 (0, 0))) ∧ Hid (wx.heap[P1]? = some (.cells #[.slice A1 N1 C1, .slice A2 N2 C2, .slice A3 N3 C3, .slice A4 N4 C4, .int .i64 y1, .int .i64 y2, .int .i64 y3, .int .i64 y4, .int .i64 y5, .int .i64 y6, .int .i64 y7] 29 (0, 0))) ∧ Hid (ERR = 0 → RIx P1 wx D1 M1 G1 D2 M2 G2 D3 M3 G3 D4 M4 G4 X) ∧ Hid (Below wr.heap.size wr wx))
      case first =>
          refine wp_region_held_drew (S := (fun W => W.cell? ⟨P1, 0, none⟩ = some (.slice A1 N1 C1) ∧ W.cell? ⟨P1, 1, none⟩ = some (.slice A2 N2 C2) ∧ W.cell? ⟨P1, 2, none⟩ = some (.slice A3 N3 C3) ∧ W.cell? ⟨P1, 3, none⟩ = some (.slice A4 N4 C4) ∧ W.cell? ⟨P1, 4, none⟩ = some (.int .i64 y1) ∧ W.cell? ⟨P1, 5, none⟩ = some (.int .i64 y2) ∧ W.cell? ⟨P1, 6, none⟩ = some (.int .i64 y3) ∧ W.cell? ⟨P1, 7, none⟩ = some (.int .i64 y4) ∧ W.cell? ⟨P1, 8, none⟩ = some (.int .i64 y5) ∧ W.cell? ⟨P1, 9, none⟩ = some (.int .i64 y6) ∧ W.cell? ⟨P1, 10, none⟩ = some (.int .i64 y7) ∧ W.cell? ⟨Bk, O + k * 12, none⟩ = some (.int .i64 k9) ∧ W.cell? ⟨Bk, O + k * 12 + 1, none⟩ = some (.int .i64 n9) ∧ W.cell? ⟨Bk, O + k * 12 + 2, none⟩ = some (.int .i64 i9) ∧ W.cell? ⟨Bk, O + k * 12 + 3, none⟩ = some (.int .i64 t9) ∧ W.cell? ⟨Bk, O + k * 12 + 4, none⟩ = some (.int .i64 a9) ∧ W.cell? ⟨Bk, O + k * 12 + 5, none⟩ = some (.int .i64 b9) ∧ W.cell? ⟨Bk, O + k * 12 + 6, none⟩ = some (.int .i64 c9) ∧ W.cell? ⟨Bk, O + k * 12 + 7, none⟩ = some (.int .i64 p9) ∧ W.cell? ⟨Bk, O + k * 12 + 8, none⟩ = some (.int .i64 q9) ∧ W.cell? ⟨Bk, O + k * 12 + 9, none⟩ = some (.int .i64 r9) ∧ W.cell? ⟨Bk, O + k * 12 + 10, none⟩ = some (.string f9) ∧ W.cell? ⟨Bk, O + k * 12 + 11, none⟩ = some (.string g9))) (by kernel_rfl) (HV.out _ (Below.refl _ _).drew) (fun hHeld => ?_)
          refine wpAnyH_take (i := 0) (oi := ⟨some 26, _, _, _, _, _⟩) (v := ?_) rfl (by kernel_rfl) (by kernel_rfl) (by kernel_rfl) (fun _ _ _ h => h) (Or.inl ⟨by rfl, ?_⟩) (by assumption) ?_
          rotate_left
          · intro w hSw; (try dsimp only at hSw); go_simp <;> (try with_reducible rfl)
          go_frame
          refine wpAnyH_take (i := 1) (oi := ⟨some 27, _, _, _, _, _⟩) (v := ?_) rfl (by kernel_rfl) (by kernel_rfl) (by kernel_rfl) (fun _ _ _ h => h) (Or.inl ⟨by rfl, ?_⟩) (by assumption) ?_
          rotate_left
          · intro w hSw; (try dsimp only at hSw); go_simp <;> (try with_reducible rfl)
          go_frame
          refine wpAnyH_take (i := 2) (oi := ⟨some 28, _, _, _, _, _⟩) (v := ?_) rfl (by kernel_rfl) (by kernel_rfl) (by kernel_rfl) (fun _ _ _ h => h) (Or.inl ⟨by rfl, ?_⟩) (by assumption) ?_
          rotate_left
          · intro w hSw; (try dsimp only at hSw); go_simp <;> (try with_reducible rfl)
          go_frame
          refine wpAnyH_take (i := 3) (oi := ⟨some 29, _, _, _, _, _⟩) (v := ?_) rfl (by kernel_rfl) (by kernel_rfl) (by kernel_rfl) (fun _ _ _ h => h) (Or.inl ⟨by rfl, ?_⟩) (by assumption) ?_
          rotate_left
          · intro w hSw; (try dsimp only at hSw); go_simp <;> (try with_reducible rfl)
          go_frame
          refine wpAnyH_take (i := 4) (oi := ⟨some 30, _, _, _, _, _⟩) (v := ?_) rfl (by kernel_rfl) (by kernel_rfl) (by kernel_rfl) (fun _ _ _ h => h) (Or.inl ⟨by rfl, ?_⟩) (by assumption) ?_
          rotate_left
          · intro w hSw; (try dsimp only at hSw); go_simp <;> (try with_reducible rfl)
          go_frame
          refine wpAnyH_ready (rs := [5, 10]) (by kernel_rfl) (by simp) ?_
          refine AllReadyH.cons rfl (fun K hK => ?_) (AllReadyH.cons rfl (fun K hK => ?_) AllReadyH.nil)
          · skip
            go_simp
            refine hK.out _ _ (HV.out _ bA) (fun hHeld => ?_)
            clear hK K
            refine wpAnyH_ready (rs := [6, 10]) (by kernel_rfl) (by simp) ?_
            refine AllReadyH.cons rfl (fun K hK => ?_) (AllReadyH.cons rfl (fun K hK => ?_) AllReadyH.nil)
            · skip
              go_simp; go_at_call 10; refine cA.mono ?_; rintro e w5 ⟨D1, M1, G1, D2, M2, G2, D3, M3, G3, D4, M4, G4, rfl, hro, b5⟩; have hb5 := bA.trans (b5.mono bA.size); have hlo5 := bA.size
              refine hK.out _ _ (HV.out _ hb5) (fun hHeld => ?_)
              clear hK K
              try go_frame
              refine wpAnyH_take (i := 7) (oi := ⟨some 25, _, _, _, _, _⟩) (v := ?_) rfl (by kernel_rfl) (by kernel_rfl) (by kernel_rfl) (fun _ _ _ h => h) (Or.inl ⟨by rfl, ?_⟩) (by assumption) ?_
              rotate_left
              · intro w hSw; (try dsimp only at hSw); go_simp <;> (try with_reducible rfl)
              go_frame
              refine wpAnyH_take (i := 8) (oi := ⟨some 33, _, _, _, _, _⟩) (v := ?_) rfl (by kernel_rfl) (by kernel_rfl) (by kernel_rfl) (fun _ _ _ h => h) (Or.inl ⟨by rfl, ?_⟩) (by assumption) ?_
              rotate_left
              · intro w hSw; (try dsimp only at hSw); go_simp <;> (try with_reducible rfl)
              go_frame
              refine wpAnyH_take (i := 9) (oi := ⟨some 34, _, _, _, _, _⟩) (v := ?_) rfl (by kernel_rfl) (by kernel_rfl) (by kernel_rfl) (fun _ _ _ h => h) (Or.inl ⟨by rfl, ?_⟩) (by assumption) ?_
              rotate_left
              · intro w hSw; (try dsimp only at hSw); go_simp <;> (try with_reducible rfl)
              go_frame
              refine wpAnyH_ready (rs := [10]) (by kernel_rfl) (by simp) ?_
              refine AllReadyH.cons rfl (fun K hK => ?_) AllReadyH.nil
              go_simp
              refine hK.out _ _ (HV.out _ (hb5.alloc hb5.size _)) (fun hHeld => ?_)
              clear hK K
              refine wpAnyH_ready (rs := [11]) (by kernel_rfl) (by simp) ?_
              refine AllReadyH.cons rfl (fun K hK => ?_) AllReadyH.nil
              go_simp
              refine hK.out _ _ (HV.out _ (hb5.alloc hb5.size _)) (fun hHeld => ?_)
              clear hK K
              refine wpAnyH_take (i := 12) (oi := ⟨some 6, _, _, _, _, _⟩) (v := ?_) rfl (by kernel_rfl) (by kernel_rfl) (by kernel_rfl) (fun _ _ _ h => h) (Or.inl ⟨by rfl, ?_⟩) (by assumption) ?_
              rotate_left
              · intro w hSw; (try dsimp only at hSw); go_simp <;> (try with_reducible rfl)
              go_frame
              refine wpAnyH_done (by kernel_rfl) ?_ _
              obtain ⟨V, hV⟩ : ∃ V, V = w5.alloc (.cells #[.slice D1 M1 G1, .slice D2 M2 G2, .slice D3 M3 G3, .slice D4 M4 G4, .int .i64 X.log, .int .i64 X.index, .int .i64 X.term, .int .i64 X.ht, .int .i64 X.hv, .int .i64 X.hc, .int .i64 X.mark] 29) := ⟨_, rfl⟩
              rw [← hV]
              have hY : V.heap[w5.heap.size]? = some (.cells #[.slice D1 M1 G1, .slice D2 M2 G2, .slice D3 M3 G3, .slice D4 M4 G4, .int .i64 X.log, .int .i64 X.index, .int .i64 X.term, .int .i64 X.ht, .int .i64 X.hv, .int .i64 X.hc, .int .i64 X.mark] 29 (0, 0)) := by rw [hV]; exact heap_alloc_new _ _
              have hbV : Hid (Below wr.heap.size wr V) := (by rw [hV]; exact hb5.alloc hb5.size _ : Below _ _ _)
              have hRY : ROwn _ V D1 M1 G1 D2 M2 G2 D3 M3 G3 D4 M4 G4 X := hro.kept (by rw [hV]; exact below_alloc _ _)
              have hlow : P1 < (wr.alloc (oed k9 n9 i9 t9 a9 b9 c9 p9 q9 r9 f9 g9)).drew.heap.size := Nat.lt_of_lt_of_le (ob_ltB H1.out) hlo5
              clear hV
              have hP1 : Hid (V.heap[P1]? = some (.cells #[.slice A1 N1 C1, .slice A2 N2 C2, .slice A3 N3 C3, .slice A4 N4 C4, .int .i64 y1, .int .i64 y2, .int .i64 y3, .int .i64 y4, .int .i64 y5, .int .i64 y6, .int .i64 y7] 29 (0, 0))) := ((hbV.out.block _ (ob_ltB H1.out)).trans H1.out : _ = _)
              have hIX : Hid (ERR = 0 → RIx P1 V D1 M1 G1 D2 M2 G2 D3 M3 G3 D4 M4 G4 X) := (fun he => rix_own hRY hlow (HCX.out he) : _ → _)
              go_wp2_with fail
              go_meet
              case rel => exact ⟨D1, M1, G1, D2, M2, G2, D3, M3, G3, D4, M4, G4, w5.heap.size, rfl, rfl, hY, hP1, hIX, hbV⟩
            · skip
              go_simp
              refine hK.out _ _ (HV.out _ bC) (fun hHeld => ?_)
              clear hK K
              refine wpAnyH_ready (rs := [6]) (by kernel_rfl) (by simp) ?_
              refine AllReadyH.cons rfl (fun K hK => ?_) AllReadyH.nil
              go_simp; go_at_call 10; refine cC.mono ?_; rintro e w5 ⟨D1, M1, G1, D2, M2, G2, D3, M3, G3, D4, M4, G4, rfl, hro, b5⟩; have hb5 := bC.trans (b5.mono bC.size); have hlo5 := bC.size; have zz5 := (b5.block _ (ob_ltB zC)).trans zC; have zc0 := (blkc zz5).1 0; have zf0 := (blkc zz5).2 0; have zc1 := (blkc zz5).1 1; have zf1 := (blkc zz5).2 1; have zc2 := (blkc zz5).1 2; have zf2 := (blkc zz5).2 2; have zc3 := (blkc zz5).1 3; have zf3 := (blkc zz5).2 3; have zc4 := (blkc zz5).1 4; have zf4 := (blkc zz5).2 4; have zc5 := (blkc zz5).1 5; have zf5 := (blkc zz5).2 5; have zc6 := (blkc zz5).1 6; have zf6 := (blkc zz5).2 6; have zc7 := (blkc zz5).1 7; have zf7 := (blkc zz5).2 7; have zc8 := (blkc zz5).1 8; have zf8 := (blkc zz5).2 8; have zc9 := (blkc zz5).1 9; have zf9 := (blkc zz5).2 9; have zc10 := (blkc zz5).1 10; have zf10 := (blkc zz5).2 10
              refine hK.out _ _ (HV.out _ hb5) (fun hHeld => ?_)
              clear hK K
              try go_frame
              refine wpAnyH_take (i := 7) (oi := ⟨some 25, _, _, _, _, _⟩) (v := ?_) rfl (by kernel_rfl) (by kernel_rfl) (by kernel_rfl) (fun _ _ _ h => h) (Or.inl ⟨by rfl, ?_⟩) (by assumption) ?_
              rotate_left
              · intro w hSw; (try dsimp only at hSw); go_simp <;> (try with_reducible rfl)
              go_frame
              refine wpAnyH_take (i := 8) (oi := ⟨some 33, _, _, _, _, _⟩) (v := ?_) rfl (by kernel_rfl) (by kernel_rfl) (by kernel_rfl) (fun _ _ _ h => h) (Or.inl ⟨by rfl, ?_⟩) (by assumption) ?_
              rotate_left
              · intro w hSw; (try dsimp only at hSw); go_simp <;> (try with_reducible rfl)
              go_frame
              refine wpAnyH_take (i := 9) (oi := ⟨some 34, _, _, _, _, _⟩) (v := ?_) rfl (by kernel_rfl) (by kernel_rfl) (by kernel_rfl) (fun _ _ _ h => h) (Or.inl ⟨by rfl, ?_⟩) (by assumption) ?_
              rotate_left
              · intro w hSw; (try dsimp only at hSw); go_simp <;> (try with_reducible rfl)
              go_frame
              refine wpAnyH_ready (rs := [11]) (by kernel_rfl) (by simp) ?_
              refine AllReadyH.cons rfl (fun K hK => ?_) AllReadyH.nil
              go_simp
              refine hK.out _ _ (HV.out _ (below_grownB hb5 (turned_setL (wr.heap.size + 1) [.slice D1 M1 G1, .slice D2 M2 G2, .slice D3 M3 G3, .slice D4 M4 G4, .int .i64 X.log, .int .i64 X.index, .int .i64 X.term, .int .i64 X.ht, .int .i64 X.hv, .int .i64 X.hc, .int .i64 X.mark] 0 w5) hb5.size (fun q hq => by cases hq; omega))) (fun hHeld => ?_)
              clear hK K
              refine wpAnyH_take (i := 12) (oi := ⟨some 6, _, _, _, _, _⟩) (v := ?_) rfl (by kernel_rfl) (by kernel_rfl) (by kernel_rfl) (fun _ _ _ h => h) (Or.inl ⟨by rfl, ?_⟩) (by assumption) ?_
              rotate_left
              · intro w hSw; (try dsimp only at hSw); go_simp <;> (try with_reducible rfl)
              go_frame
              refine wpAnyH_done (by kernel_rfl) ?_ _
              have Y0 : (w5.setCell ⟨wr.heap.size + 1, 0, none⟩ (.slice D1 M1 G1)).heap[wr.heap.size + 1]? = some (.cells #[.slice D1 M1 G1, .slice none 0 0, .slice none 0 0, .slice none 0 0, .int .i64 0, .int .i64 0, .int .i64 0, .int .i64 0, .int .i64 0, .int .i64 0, .int .i64 0] 29 (0, 0)) := bput zz5 _ rfl
              have Y1 : ((w5.setCell ⟨wr.heap.size + 1, 0, none⟩ (.slice D1 M1 G1)).setCell ⟨wr.heap.size + 1, 1, none⟩ (.slice D2 M2 G2)).heap[wr.heap.size + 1]? = some (.cells #[.slice D1 M1 G1, .slice D2 M2 G2, .slice none 0 0, .slice none 0 0, .int .i64 0, .int .i64 0, .int .i64 0, .int .i64 0, .int .i64 0, .int .i64 0, .int .i64 0] 29 (0, 0)) := bput Y0 _ rfl
              have Y2 : (((w5.setCell ⟨wr.heap.size + 1, 0, none⟩ (.slice D1 M1 G1)).setCell ⟨wr.heap.size + 1, 1, none⟩ (.slice D2 M2 G2)).setCell ⟨wr.heap.size + 1, 2, none⟩ (.slice D3 M3 G3)).heap[wr.heap.size + 1]? = some (.cells #[.slice D1 M1 G1, .slice D2 M2 G2, .slice D3 M3 G3, .slice none 0 0, .int .i64 0, .int .i64 0, .int .i64 0, .int .i64 0, .int .i64 0, .int .i64 0, .int .i64 0] 29 (0, 0)) := bput Y1 _ rfl
              have Y3 : ((((w5.setCell ⟨wr.heap.size + 1, 0, none⟩ (.slice D1 M1 G1)).setCell ⟨wr.heap.size + 1, 1, none⟩ (.slice D2 M2 G2)).setCell ⟨wr.heap.size + 1, 2, none⟩ (.slice D3 M3 G3)).setCell ⟨wr.heap.size + 1, 3, none⟩ (.slice D4 M4 G4)).heap[wr.heap.size + 1]? = some (.cells #[.slice D1 M1 G1, .slice D2 M2 G2, .slice D3 M3 G3, .slice D4 M4 G4, .int .i64 0, .int .i64 0, .int .i64 0, .int .i64 0, .int .i64 0, .int .i64 0, .int .i64 0] 29 (0, 0)) := bput Y2 _ rfl
              have Y4 : (((((w5.setCell ⟨wr.heap.size + 1, 0, none⟩ (.slice D1 M1 G1)).setCell ⟨wr.heap.size + 1, 1, none⟩ (.slice D2 M2 G2)).setCell ⟨wr.heap.size + 1, 2, none⟩ (.slice D3 M3 G3)).setCell ⟨wr.heap.size + 1, 3, none⟩ (.slice D4 M4 G4)).setCell ⟨wr.heap.size + 1, 4, none⟩ (.int .i64 X.log)).heap[wr.heap.size + 1]? = some (.cells #[.slice D1 M1 G1, .slice D2 M2 G2, .slice D3 M3 G3, .slice D4 M4 G4, .int .i64 X.log, .int .i64 0, .int .i64 0, .int .i64 0, .int .i64 0, .int .i64 0, .int .i64 0] 29 (0, 0)) := bput Y3 _ rfl
              have Y5 : ((((((w5.setCell ⟨wr.heap.size + 1, 0, none⟩ (.slice D1 M1 G1)).setCell ⟨wr.heap.size + 1, 1, none⟩ (.slice D2 M2 G2)).setCell ⟨wr.heap.size + 1, 2, none⟩ (.slice D3 M3 G3)).setCell ⟨wr.heap.size + 1, 3, none⟩ (.slice D4 M4 G4)).setCell ⟨wr.heap.size + 1, 4, none⟩ (.int .i64 X.log)).setCell ⟨wr.heap.size + 1, 5, none⟩ (.int .i64 X.index)).heap[wr.heap.size + 1]? = some (.cells #[.slice D1 M1 G1, .slice D2 M2 G2, .slice D3 M3 G3, .slice D4 M4 G4, .int .i64 X.log, .int .i64 X.index, .int .i64 0, .int .i64 0, .int .i64 0, .int .i64 0, .int .i64 0] 29 (0, 0)) := bput Y4 _ rfl
              have Y6 : (((((((w5.setCell ⟨wr.heap.size + 1, 0, none⟩ (.slice D1 M1 G1)).setCell ⟨wr.heap.size + 1, 1, none⟩ (.slice D2 M2 G2)).setCell ⟨wr.heap.size + 1, 2, none⟩ (.slice D3 M3 G3)).setCell ⟨wr.heap.size + 1, 3, none⟩ (.slice D4 M4 G4)).setCell ⟨wr.heap.size + 1, 4, none⟩ (.int .i64 X.log)).setCell ⟨wr.heap.size + 1, 5, none⟩ (.int .i64 X.index)).setCell ⟨wr.heap.size + 1, 6, none⟩ (.int .i64 X.term)).heap[wr.heap.size + 1]? = some (.cells #[.slice D1 M1 G1, .slice D2 M2 G2, .slice D3 M3 G3, .slice D4 M4 G4, .int .i64 X.log, .int .i64 X.index, .int .i64 X.term, .int .i64 0, .int .i64 0, .int .i64 0, .int .i64 0] 29 (0, 0)) := bput Y5 _ rfl
              have Y7 : ((((((((w5.setCell ⟨wr.heap.size + 1, 0, none⟩ (.slice D1 M1 G1)).setCell ⟨wr.heap.size + 1, 1, none⟩ (.slice D2 M2 G2)).setCell ⟨wr.heap.size + 1, 2, none⟩ (.slice D3 M3 G3)).setCell ⟨wr.heap.size + 1, 3, none⟩ (.slice D4 M4 G4)).setCell ⟨wr.heap.size + 1, 4, none⟩ (.int .i64 X.log)).setCell ⟨wr.heap.size + 1, 5, none⟩ (.int .i64 X.index)).setCell ⟨wr.heap.size + 1, 6, none⟩ (.int .i64 X.term)).setCell ⟨wr.heap.size + 1, 7, none⟩ (.int .i64 X.ht)).heap[wr.heap.size + 1]? = some (.cells #[.slice D1 M1 G1, .slice D2 M2 G2, .slice D3 M3 G3, .slice D4 M4 G4, .int .i64 X.log, .int .i64 X.index, .int .i64 X.term, .int .i64 X.ht, .int .i64 0, .int .i64 0, .int .i64 0] 29 (0, 0)) := bput Y6 _ rfl
              have Y8 : (((((((((w5.setCell ⟨wr.heap.size + 1, 0, none⟩ (.slice D1 M1 G1)).setCell ⟨wr.heap.size + 1, 1, none⟩ (.slice D2 M2 G2)).setCell ⟨wr.heap.size + 1, 2, none⟩ (.slice D3 M3 G3)).setCell ⟨wr.heap.size + 1, 3, none⟩ (.slice D4 M4 G4)).setCell ⟨wr.heap.size + 1, 4, none⟩ (.int .i64 X.log)).setCell ⟨wr.heap.size + 1, 5, none⟩ (.int .i64 X.index)).setCell ⟨wr.heap.size + 1, 6, none⟩ (.int .i64 X.term)).setCell ⟨wr.heap.size + 1, 7, none⟩ (.int .i64 X.ht)).setCell ⟨wr.heap.size + 1, 8, none⟩ (.int .i64 X.hv)).heap[wr.heap.size + 1]? = some (.cells #[.slice D1 M1 G1, .slice D2 M2 G2, .slice D3 M3 G3, .slice D4 M4 G4, .int .i64 X.log, .int .i64 X.index, .int .i64 X.term, .int .i64 X.ht, .int .i64 X.hv, .int .i64 0, .int .i64 0] 29 (0, 0)) := bput Y7 _ rfl
              have Y9 : ((((((((((w5.setCell ⟨wr.heap.size + 1, 0, none⟩ (.slice D1 M1 G1)).setCell ⟨wr.heap.size + 1, 1, none⟩ (.slice D2 M2 G2)).setCell ⟨wr.heap.size + 1, 2, none⟩ (.slice D3 M3 G3)).setCell ⟨wr.heap.size + 1, 3, none⟩ (.slice D4 M4 G4)).setCell ⟨wr.heap.size + 1, 4, none⟩ (.int .i64 X.log)).setCell ⟨wr.heap.size + 1, 5, none⟩ (.int .i64 X.index)).setCell ⟨wr.heap.size + 1, 6, none⟩ (.int .i64 X.term)).setCell ⟨wr.heap.size + 1, 7, none⟩ (.int .i64 X.ht)).setCell ⟨wr.heap.size + 1, 8, none⟩ (.int .i64 X.hv)).setCell ⟨wr.heap.size + 1, 9, none⟩ (.int .i64 X.hc)).heap[wr.heap.size + 1]? = some (.cells #[.slice D1 M1 G1, .slice D2 M2 G2, .slice D3 M3 G3, .slice D4 M4 G4, .int .i64 X.log, .int .i64 X.index, .int .i64 X.term, .int .i64 X.ht, .int .i64 X.hv, .int .i64 X.hc, .int .i64 0] 29 (0, 0)) := bput Y8 _ rfl
              have Y10 : (((((((((((w5.setCell ⟨wr.heap.size + 1, 0, none⟩ (.slice D1 M1 G1)).setCell ⟨wr.heap.size + 1, 1, none⟩ (.slice D2 M2 G2)).setCell ⟨wr.heap.size + 1, 2, none⟩ (.slice D3 M3 G3)).setCell ⟨wr.heap.size + 1, 3, none⟩ (.slice D4 M4 G4)).setCell ⟨wr.heap.size + 1, 4, none⟩ (.int .i64 X.log)).setCell ⟨wr.heap.size + 1, 5, none⟩ (.int .i64 X.index)).setCell ⟨wr.heap.size + 1, 6, none⟩ (.int .i64 X.term)).setCell ⟨wr.heap.size + 1, 7, none⟩ (.int .i64 X.ht)).setCell ⟨wr.heap.size + 1, 8, none⟩ (.int .i64 X.hv)).setCell ⟨wr.heap.size + 1, 9, none⟩ (.int .i64 X.hc)).setCell ⟨wr.heap.size + 1, 10, none⟩ (.int .i64 X.mark)).heap[wr.heap.size + 1]? = some (.cells #[.slice D1 M1 G1, .slice D2 M2 G2, .slice D3 M3 G3, .slice D4 M4 G4, .int .i64 X.log, .int .i64 X.index, .int .i64 X.term, .int .i64 X.ht, .int .i64 X.hv, .int .i64 X.hc, .int .i64 X.mark] 29 (0, 0)) := bput Y9 _ rfl
              have hgz : w5.grownBy (((((((((((w5.setCell ⟨wr.heap.size + 1, 0, none⟩ (.slice D1 M1 G1)).setCell ⟨wr.heap.size + 1, 1, none⟩ (.slice D2 M2 G2)).setCell ⟨wr.heap.size + 1, 2, none⟩ (.slice D3 M3 G3)).setCell ⟨wr.heap.size + 1, 3, none⟩ (.slice D4 M4 G4)).setCell ⟨wr.heap.size + 1, 4, none⟩ (.int .i64 X.log)).setCell ⟨wr.heap.size + 1, 5, none⟩ (.int .i64 X.index)).setCell ⟨wr.heap.size + 1, 6, none⟩ (.int .i64 X.term)).setCell ⟨wr.heap.size + 1, 7, none⟩ (.int .i64 X.ht)).setCell ⟨wr.heap.size + 1, 8, none⟩ (.int .i64 X.hv)).setCell ⟨wr.heap.size + 1, 9, none⟩ (.int .i64 X.hc)).setCell ⟨wr.heap.size + 1, 10, none⟩ (.int .i64 X.mark)) (some (wr.heap.size + 1)) := turned_setL (wr.heap.size + 1) [.slice D1 M1 G1, .slice D2 M2 G2, .slice D3 M3 G3, .slice D4 M4 G4, .int .i64 X.log, .int .i64 X.index, .int .i64 X.term, .int .i64 X.ht, .int .i64 X.hv, .int .i64 X.hc, .int .i64 X.mark] 0 w5
              have hbV0 : Below wr.heap.size wr (((((((((((w5.setCell ⟨wr.heap.size + 1, 0, none⟩ (.slice D1 M1 G1)).setCell ⟨wr.heap.size + 1, 1, none⟩ (.slice D2 M2 G2)).setCell ⟨wr.heap.size + 1, 2, none⟩ (.slice D3 M3 G3)).setCell ⟨wr.heap.size + 1, 3, none⟩ (.slice D4 M4 G4)).setCell ⟨wr.heap.size + 1, 4, none⟩ (.int .i64 X.log)).setCell ⟨wr.heap.size + 1, 5, none⟩ (.int .i64 X.index)).setCell ⟨wr.heap.size + 1, 6, none⟩ (.int .i64 X.term)).setCell ⟨wr.heap.size + 1, 7, none⟩ (.int .i64 X.ht)).setCell ⟨wr.heap.size + 1, 8, none⟩ (.int .i64 X.hv)).setCell ⟨wr.heap.size + 1, 9, none⟩ (.int .i64 X.hc)).setCell ⟨wr.heap.size + 1, 10, none⟩ (.int .i64 X.mark)) := below_grownB hb5 hgz hb5.size (fun q hq => by cases hq; omega)
              have hRY0 := hro.other zz5 hgz
              obtain ⟨V, hV⟩ : ∃ V, V = (((((((((((w5.setCell ⟨wr.heap.size + 1, 0, none⟩ (.slice D1 M1 G1)).setCell ⟨wr.heap.size + 1, 1, none⟩ (.slice D2 M2 G2)).setCell ⟨wr.heap.size + 1, 2, none⟩ (.slice D3 M3 G3)).setCell ⟨wr.heap.size + 1, 3, none⟩ (.slice D4 M4 G4)).setCell ⟨wr.heap.size + 1, 4, none⟩ (.int .i64 X.log)).setCell ⟨wr.heap.size + 1, 5, none⟩ (.int .i64 X.index)).setCell ⟨wr.heap.size + 1, 6, none⟩ (.int .i64 X.term)).setCell ⟨wr.heap.size + 1, 7, none⟩ (.int .i64 X.ht)).setCell ⟨wr.heap.size + 1, 8, none⟩ (.int .i64 X.hv)).setCell ⟨wr.heap.size + 1, 9, none⟩ (.int .i64 X.hc)).setCell ⟨wr.heap.size + 1, 10, none⟩ (.int .i64 X.mark)) := ⟨_, rfl⟩
              rw [← hV]
              rw [← hV] at hbV0 hRY0 Y10
              have hY : V.heap[wr.heap.size + 1]? = some (.cells #[.slice D1 M1 G1, .slice D2 M2 G2, .slice D3 M3 G3, .slice D4 M4 G4, .int .i64 X.log, .int .i64 X.index, .int .i64 X.term, .int .i64 X.ht, .int .i64 X.hv, .int .i64 X.hc, .int .i64 X.mark] 29 (0, 0)) := Y10
              have hbV : Hid (Below wr.heap.size wr V) := hbV0
              have hRY : ROwn _ V D1 M1 G1 D2 M2 G2 D3 M3 G3 D4 M4 G4 X := hRY0
              have hlow : P1 < ((wr.alloc (oed k9 n9 i9 t9 a9 b9 c9 p9 q9 r9 f9 g9)).alloc (.cells #[.slice none 0 0, .slice none 0 0, .slice none 0 0, .slice none 0 0, .int .i64 0, .int .i64 0, .int .i64 0, .int .i64 0, .int .i64 0, .int .i64 0, .int .i64 0] 29)).drew.heap.size := Nat.lt_of_lt_of_le (ob_ltB H1.out) hlo5
              clear hV hgz hbV0 hRY0 Y0 Y1 Y2 Y3 Y4 Y5 Y6 Y7 Y8 Y9 Y10 zc0 zf0 zc1 zf1 zc2 zf2 zc3 zf3 zc4 zf4 zc5 zf5 zc6 zf6 zc7 zf7 zc8 zf8 zc9 zf9 zc10 zf10 zz5
              have hP1 : Hid (V.heap[P1]? = some (.cells #[.slice A1 N1 C1, .slice A2 N2 C2, .slice A3 N3 C3, .slice A4 N4 C4, .int .i64 y1, .int .i64 y2, .int .i64 y3, .int .i64 y4, .int .i64 y5, .int .i64 y6, .int .i64 y7] 29 (0, 0))) := ((hbV.out.block _ (ob_ltB H1.out)).trans H1.out : _ = _)
              have hIX : Hid (ERR = 0 → RIx P1 V D1 M1 G1 D2 M2 G2 D3 M3 G3 D4 M4 G4 X) := (fun he => rix_own hRY hlow (HCX.out he) : _ → _)
              go_wp2_with fail
              go_meet
              case rel => exact ⟨D1, M1, G1, D2, M2, G2, D3, M3, G3, D4, M4, G4, wr.heap.size + 1, rfl, rfl, hY, hP1, hIX, hbV⟩
          · skip
            go_simp
            refine hK.out _ _ (HV.out _ (below_alloc _ _).drew) (fun hHeld => ?_)
            clear hK K
            refine wpAnyH_ready (rs := [5]) (by kernel_rfl) (by simp) ?_
            refine AllReadyH.cons rfl (fun K hK => ?_) AllReadyH.nil
            go_simp
            refine hK.out _ _ (HV.out _ bB) (fun hHeld => ?_)
            clear hK K
            refine wpAnyH_ready (rs := [6]) (by kernel_rfl) (by simp) ?_
            refine AllReadyH.cons rfl (fun K hK => ?_) AllReadyH.nil
            go_simp; go_at_call 10; refine cB.mono ?_; rintro e w5 ⟨D1, M1, G1, D2, M2, G2, D3, M3, G3, D4, M4, G4, rfl, hro, b5⟩; have hb5 := bB.trans (b5.mono bB.size); have hlo5 := bB.size; have zz5 := (b5.block _ (ob_ltB zB)).trans zB; have zc0 := (blkc zz5).1 0; have zf0 := (blkc zz5).2 0; have zc1 := (blkc zz5).1 1; have zf1 := (blkc zz5).2 1; have zc2 := (blkc zz5).1 2; have zf2 := (blkc zz5).2 2; have zc3 := (blkc zz5).1 3; have zf3 := (blkc zz5).2 3; have zc4 := (blkc zz5).1 4; have zf4 := (blkc zz5).2 4; have zc5 := (blkc zz5).1 5; have zf5 := (blkc zz5).2 5; have zc6 := (blkc zz5).1 6; have zf6 := (blkc zz5).2 6; have zc7 := (blkc zz5).1 7; have zf7 := (blkc zz5).2 7; have zc8 := (blkc zz5).1 8; have zf8 := (blkc zz5).2 8; have zc9 := (blkc zz5).1 9; have zf9 := (blkc zz5).2 9; have zc10 := (blkc zz5).1 10; have zf10 := (blkc zz5).2 10
            refine hK.out _ _ (HV.out _ hb5) (fun hHeld => ?_)
            clear hK K
            try go_frame
            refine wpAnyH_take (i := 7) (oi := ⟨some 25, _, _, _, _, _⟩) (v := ?_) rfl (by kernel_rfl) (by kernel_rfl) (by kernel_rfl) (fun _ _ _ h => h) (Or.inl ⟨by rfl, ?_⟩) (by assumption) ?_
            rotate_left
            · intro w hSw; (try dsimp only at hSw); go_simp <;> (try with_reducible rfl)
            go_frame
            refine wpAnyH_take (i := 8) (oi := ⟨some 33, _, _, _, _, _⟩) (v := ?_) rfl (by kernel_rfl) (by kernel_rfl) (by kernel_rfl) (fun _ _ _ h => h) (Or.inl ⟨by rfl, ?_⟩) (by assumption) ?_
            rotate_left
            · intro w hSw; (try dsimp only at hSw); go_simp <;> (try with_reducible rfl)
            go_frame
            refine wpAnyH_take (i := 9) (oi := ⟨some 34, _, _, _, _, _⟩) (v := ?_) rfl (by kernel_rfl) (by kernel_rfl) (by kernel_rfl) (fun _ _ _ h => h) (Or.inl ⟨by rfl, ?_⟩) (by assumption) ?_
            rotate_left
            · intro w hSw; (try dsimp only at hSw); go_simp <;> (try with_reducible rfl)
            go_frame
            refine wpAnyH_ready (rs := [11]) (by kernel_rfl) (by simp) ?_
            refine AllReadyH.cons rfl (fun K hK => ?_) AllReadyH.nil
            go_simp
            refine hK.out _ _ (HV.out _ (below_grownB hb5 (turned_setL wr.heap.size [.slice D1 M1 G1, .slice D2 M2 G2, .slice D3 M3 G3, .slice D4 M4 G4, .int .i64 X.log, .int .i64 X.index, .int .i64 X.term, .int .i64 X.ht, .int .i64 X.hv, .int .i64 X.hc, .int .i64 X.mark] 0 w5) hb5.size (fun q hq => by cases hq; omega))) (fun hHeld => ?_)
            clear hK K
            refine wpAnyH_take (i := 12) (oi := ⟨some 6, _, _, _, _, _⟩) (v := ?_) rfl (by kernel_rfl) (by kernel_rfl) (by kernel_rfl) (fun _ _ _ h => h) (Or.inl ⟨by rfl, ?_⟩) (by assumption) ?_
            rotate_left
            · intro w hSw; (try dsimp only at hSw); go_simp <;> (try with_reducible rfl)
            go_frame
            refine wpAnyH_done (by kernel_rfl) ?_ _
            have Y0 : (w5.setCell ⟨wr.heap.size, 0, none⟩ (.slice D1 M1 G1)).heap[wr.heap.size]? = some (.cells #[.slice D1 M1 G1, .slice none 0 0, .slice none 0 0, .slice none 0 0, .int .i64 0, .int .i64 0, .int .i64 0, .int .i64 0, .int .i64 0, .int .i64 0, .int .i64 0] 29 (0, 0)) := bput zz5 _ rfl
            have Y1 : ((w5.setCell ⟨wr.heap.size, 0, none⟩ (.slice D1 M1 G1)).setCell ⟨wr.heap.size, 1, none⟩ (.slice D2 M2 G2)).heap[wr.heap.size]? = some (.cells #[.slice D1 M1 G1, .slice D2 M2 G2, .slice none 0 0, .slice none 0 0, .int .i64 0, .int .i64 0, .int .i64 0, .int .i64 0, .int .i64 0, .int .i64 0, .int .i64 0] 29 (0, 0)) := bput Y0 _ rfl
            have Y2 : (((w5.setCell ⟨wr.heap.size, 0, none⟩ (.slice D1 M1 G1)).setCell ⟨wr.heap.size, 1, none⟩ (.slice D2 M2 G2)).setCell ⟨wr.heap.size, 2, none⟩ (.slice D3 M3 G3)).heap[wr.heap.size]? = some (.cells #[.slice D1 M1 G1, .slice D2 M2 G2, .slice D3 M3 G3, .slice none 0 0, .int .i64 0, .int .i64 0, .int .i64 0, .int .i64 0, .int .i64 0, .int .i64 0, .int .i64 0] 29 (0, 0)) := bput Y1 _ rfl
            have Y3 : ((((w5.setCell ⟨wr.heap.size, 0, none⟩ (.slice D1 M1 G1)).setCell ⟨wr.heap.size, 1, none⟩ (.slice D2 M2 G2)).setCell ⟨wr.heap.size, 2, none⟩ (.slice D3 M3 G3)).setCell ⟨wr.heap.size, 3, none⟩ (.slice D4 M4 G4)).heap[wr.heap.size]? = some (.cells #[.slice D1 M1 G1, .slice D2 M2 G2, .slice D3 M3 G3, .slice D4 M4 G4, .int .i64 0, .int .i64 0, .int .i64 0, .int .i64 0, .int .i64 0, .int .i64 0, .int .i64 0] 29 (0, 0)) := bput Y2 _ rfl
            have Y4 : (((((w5.setCell ⟨wr.heap.size, 0, none⟩ (.slice D1 M1 G1)).setCell ⟨wr.heap.size, 1, none⟩ (.slice D2 M2 G2)).setCell ⟨wr.heap.size, 2, none⟩ (.slice D3 M3 G3)).setCell ⟨wr.heap.size, 3, none⟩ (.slice D4 M4 G4)).setCell ⟨wr.heap.size, 4, none⟩ (.int .i64 X.log)).heap[wr.heap.size]? = some (.cells #[.slice D1 M1 G1, .slice D2 M2 G2, .slice D3 M3 G3, .slice D4 M4 G4, .int .i64 X.log, .int .i64 0, .int .i64 0, .int .i64 0, .int .i64 0, .int .i64 0, .int .i64 0] 29 (0, 0)) := bput Y3 _ rfl
            have Y5 : ((((((w5.setCell ⟨wr.heap.size, 0, none⟩ (.slice D1 M1 G1)).setCell ⟨wr.heap.size, 1, none⟩ (.slice D2 M2 G2)).setCell ⟨wr.heap.size, 2, none⟩ (.slice D3 M3 G3)).setCell ⟨wr.heap.size, 3, none⟩ (.slice D4 M4 G4)).setCell ⟨wr.heap.size, 4, none⟩ (.int .i64 X.log)).setCell ⟨wr.heap.size, 5, none⟩ (.int .i64 X.index)).heap[wr.heap.size]? = some (.cells #[.slice D1 M1 G1, .slice D2 M2 G2, .slice D3 M3 G3, .slice D4 M4 G4, .int .i64 X.log, .int .i64 X.index, .int .i64 0, .int .i64 0, .int .i64 0, .int .i64 0, .int .i64 0] 29 (0, 0)) := bput Y4 _ rfl
            have Y6 : (((((((w5.setCell ⟨wr.heap.size, 0, none⟩ (.slice D1 M1 G1)).setCell ⟨wr.heap.size, 1, none⟩ (.slice D2 M2 G2)).setCell ⟨wr.heap.size, 2, none⟩ (.slice D3 M3 G3)).setCell ⟨wr.heap.size, 3, none⟩ (.slice D4 M4 G4)).setCell ⟨wr.heap.size, 4, none⟩ (.int .i64 X.log)).setCell ⟨wr.heap.size, 5, none⟩ (.int .i64 X.index)).setCell ⟨wr.heap.size, 6, none⟩ (.int .i64 X.term)).heap[wr.heap.size]? = some (.cells #[.slice D1 M1 G1, .slice D2 M2 G2, .slice D3 M3 G3, .slice D4 M4 G4, .int .i64 X.log, .int .i64 X.index, .int .i64 X.term, .int .i64 0, .int .i64 0, .int .i64 0, .int .i64 0] 29 (0, 0)) := bput Y5 _ rfl
            have Y7 : ((((((((w5.setCell ⟨wr.heap.size, 0, none⟩ (.slice D1 M1 G1)).setCell ⟨wr.heap.size, 1, none⟩ (.slice D2 M2 G2)).setCell ⟨wr.heap.size, 2, none⟩ (.slice D3 M3 G3)).setCell ⟨wr.heap.size, 3, none⟩ (.slice D4 M4 G4)).setCell ⟨wr.heap.size, 4, none⟩ (.int .i64 X.log)).setCell ⟨wr.heap.size, 5, none⟩ (.int .i64 X.index)).setCell ⟨wr.heap.size, 6, none⟩ (.int .i64 X.term)).setCell ⟨wr.heap.size, 7, none⟩ (.int .i64 X.ht)).heap[wr.heap.size]? = some (.cells #[.slice D1 M1 G1, .slice D2 M2 G2, .slice D3 M3 G3, .slice D4 M4 G4, .int .i64 X.log, .int .i64 X.index, .int .i64 X.term, .int .i64 X.ht, .int .i64 0, .int .i64 0, .int .i64 0] 29 (0, 0)) := bput Y6 _ rfl
            have Y8 : (((((((((w5.setCell ⟨wr.heap.size, 0, none⟩ (.slice D1 M1 G1)).setCell ⟨wr.heap.size, 1, none⟩ (.slice D2 M2 G2)).setCell ⟨wr.heap.size, 2, none⟩ (.slice D3 M3 G3)).setCell ⟨wr.heap.size, 3, none⟩ (.slice D4 M4 G4)).setCell ⟨wr.heap.size, 4, none⟩ (.int .i64 X.log)).setCell ⟨wr.heap.size, 5, none⟩ (.int .i64 X.index)).setCell ⟨wr.heap.size, 6, none⟩ (.int .i64 X.term)).setCell ⟨wr.heap.size, 7, none⟩ (.int .i64 X.ht)).setCell ⟨wr.heap.size, 8, none⟩ (.int .i64 X.hv)).heap[wr.heap.size]? = some (.cells #[.slice D1 M1 G1, .slice D2 M2 G2, .slice D3 M3 G3, .slice D4 M4 G4, .int .i64 X.log, .int .i64 X.index, .int .i64 X.term, .int .i64 X.ht, .int .i64 X.hv, .int .i64 0, .int .i64 0] 29 (0, 0)) := bput Y7 _ rfl
            have Y9 : ((((((((((w5.setCell ⟨wr.heap.size, 0, none⟩ (.slice D1 M1 G1)).setCell ⟨wr.heap.size, 1, none⟩ (.slice D2 M2 G2)).setCell ⟨wr.heap.size, 2, none⟩ (.slice D3 M3 G3)).setCell ⟨wr.heap.size, 3, none⟩ (.slice D4 M4 G4)).setCell ⟨wr.heap.size, 4, none⟩ (.int .i64 X.log)).setCell ⟨wr.heap.size, 5, none⟩ (.int .i64 X.index)).setCell ⟨wr.heap.size, 6, none⟩ (.int .i64 X.term)).setCell ⟨wr.heap.size, 7, none⟩ (.int .i64 X.ht)).setCell ⟨wr.heap.size, 8, none⟩ (.int .i64 X.hv)).setCell ⟨wr.heap.size, 9, none⟩ (.int .i64 X.hc)).heap[wr.heap.size]? = some (.cells #[.slice D1 M1 G1, .slice D2 M2 G2, .slice D3 M3 G3, .slice D4 M4 G4, .int .i64 X.log, .int .i64 X.index, .int .i64 X.term, .int .i64 X.ht, .int .i64 X.hv, .int .i64 X.hc, .int .i64 0] 29 (0, 0)) := bput Y8 _ rfl
            have Y10 : (((((((((((w5.setCell ⟨wr.heap.size, 0, none⟩ (.slice D1 M1 G1)).setCell ⟨wr.heap.size, 1, none⟩ (.slice D2 M2 G2)).setCell ⟨wr.heap.size, 2, none⟩ (.slice D3 M3 G3)).setCell ⟨wr.heap.size, 3, none⟩ (.slice D4 M4 G4)).setCell ⟨wr.heap.size, 4, none⟩ (.int .i64 X.log)).setCell ⟨wr.heap.size, 5, none⟩ (.int .i64 X.index)).setCell ⟨wr.heap.size, 6, none⟩ (.int .i64 X.term)).setCell ⟨wr.heap.size, 7, none⟩ (.int .i64 X.ht)).setCell ⟨wr.heap.size, 8, none⟩ (.int .i64 X.hv)).setCell ⟨wr.heap.size, 9, none⟩ (.int .i64 X.hc)).setCell ⟨wr.heap.size, 10, none⟩ (.int .i64 X.mark)).heap[wr.heap.size]? = some (.cells #[.slice D1 M1 G1, .slice D2 M2 G2, .slice D3 M3 G3, .slice D4 M4 G4, .int .i64 X.log, .int .i64 X.index, .int .i64 X.term, .int .i64 X.ht, .int .i64 X.hv, .int .i64 X.hc, .int .i64 X.mark] 29 (0, 0)) := bput Y9 _ rfl
            have hgz : w5.grownBy (((((((((((w5.setCell ⟨wr.heap.size, 0, none⟩ (.slice D1 M1 G1)).setCell ⟨wr.heap.size, 1, none⟩ (.slice D2 M2 G2)).setCell ⟨wr.heap.size, 2, none⟩ (.slice D3 M3 G3)).setCell ⟨wr.heap.size, 3, none⟩ (.slice D4 M4 G4)).setCell ⟨wr.heap.size, 4, none⟩ (.int .i64 X.log)).setCell ⟨wr.heap.size, 5, none⟩ (.int .i64 X.index)).setCell ⟨wr.heap.size, 6, none⟩ (.int .i64 X.term)).setCell ⟨wr.heap.size, 7, none⟩ (.int .i64 X.ht)).setCell ⟨wr.heap.size, 8, none⟩ (.int .i64 X.hv)).setCell ⟨wr.heap.size, 9, none⟩ (.int .i64 X.hc)).setCell ⟨wr.heap.size, 10, none⟩ (.int .i64 X.mark)) (some (wr.heap.size)) := turned_setL (wr.heap.size) [.slice D1 M1 G1, .slice D2 M2 G2, .slice D3 M3 G3, .slice D4 M4 G4, .int .i64 X.log, .int .i64 X.index, .int .i64 X.term, .int .i64 X.ht, .int .i64 X.hv, .int .i64 X.hc, .int .i64 X.mark] 0 w5
            have hbV0 : Below wr.heap.size wr (((((((((((w5.setCell ⟨wr.heap.size, 0, none⟩ (.slice D1 M1 G1)).setCell ⟨wr.heap.size, 1, none⟩ (.slice D2 M2 G2)).setCell ⟨wr.heap.size, 2, none⟩ (.slice D3 M3 G3)).setCell ⟨wr.heap.size, 3, none⟩ (.slice D4 M4 G4)).setCell ⟨wr.heap.size, 4, none⟩ (.int .i64 X.log)).setCell ⟨wr.heap.size, 5, none⟩ (.int .i64 X.index)).setCell ⟨wr.heap.size, 6, none⟩ (.int .i64 X.term)).setCell ⟨wr.heap.size, 7, none⟩ (.int .i64 X.ht)).setCell ⟨wr.heap.size, 8, none⟩ (.int .i64 X.hv)).setCell ⟨wr.heap.size, 9, none⟩ (.int .i64 X.hc)).setCell ⟨wr.heap.size, 10, none⟩ (.int .i64 X.mark)) := below_grownB hb5 hgz hb5.size (fun q hq => by cases hq; omega)
            have hRY0 := hro.other zz5 hgz
            obtain ⟨V, hV⟩ : ∃ V, V = (((((((((((w5.setCell ⟨wr.heap.size, 0, none⟩ (.slice D1 M1 G1)).setCell ⟨wr.heap.size, 1, none⟩ (.slice D2 M2 G2)).setCell ⟨wr.heap.size, 2, none⟩ (.slice D3 M3 G3)).setCell ⟨wr.heap.size, 3, none⟩ (.slice D4 M4 G4)).setCell ⟨wr.heap.size, 4, none⟩ (.int .i64 X.log)).setCell ⟨wr.heap.size, 5, none⟩ (.int .i64 X.index)).setCell ⟨wr.heap.size, 6, none⟩ (.int .i64 X.term)).setCell ⟨wr.heap.size, 7, none⟩ (.int .i64 X.ht)).setCell ⟨wr.heap.size, 8, none⟩ (.int .i64 X.hv)).setCell ⟨wr.heap.size, 9, none⟩ (.int .i64 X.hc)).setCell ⟨wr.heap.size, 10, none⟩ (.int .i64 X.mark)) := ⟨_, rfl⟩
            rw [← hV]
            rw [← hV] at hbV0 hRY0 Y10
            have hY : V.heap[wr.heap.size]? = some (.cells #[.slice D1 M1 G1, .slice D2 M2 G2, .slice D3 M3 G3, .slice D4 M4 G4, .int .i64 X.log, .int .i64 X.index, .int .i64 X.term, .int .i64 X.ht, .int .i64 X.hv, .int .i64 X.hc, .int .i64 X.mark] 29 (0, 0)) := Y10
            have hbV : Hid (Below wr.heap.size wr V) := hbV0
            have hRY : ROwn _ V D1 M1 G1 D2 M2 G2 D3 M3 G3 D4 M4 G4 X := hRY0
            have hlow : P1 < ((wr.alloc (.cells #[.slice none 0 0, .slice none 0 0, .slice none 0 0, .slice none 0 0, .int .i64 0, .int .i64 0, .int .i64 0, .int .i64 0, .int .i64 0, .int .i64 0, .int .i64 0] 29)).alloc (oed k9 n9 i9 t9 a9 b9 c9 p9 q9 r9 f9 g9)).drew.heap.size := Nat.lt_of_lt_of_le (ob_ltB H1.out) hlo5
            clear hV hgz hbV0 hRY0 Y0 Y1 Y2 Y3 Y4 Y5 Y6 Y7 Y8 Y9 Y10 zc0 zf0 zc1 zf1 zc2 zf2 zc3 zf3 zc4 zf4 zc5 zf5 zc6 zf6 zc7 zf7 zc8 zf8 zc9 zf9 zc10 zf10 zz5
            have hP1 : Hid (V.heap[P1]? = some (.cells #[.slice A1 N1 C1, .slice A2 N2 C2, .slice A3 N3 C3, .slice A4 N4 C4, .int .i64 y1, .int .i64 y2, .int .i64 y3, .int .i64 y4, .int .i64 y5, .int .i64 y6, .int .i64 y7] 29 (0, 0))) := ((hbV.out.block _ (ob_ltB H1.out)).trans H1.out : _ = _)
            have hIX : Hid (ERR = 0 → RIx P1 V D1 M1 G1 D2 M2 G2 D3 M3 G3 D4 M4 G4 X) := (fun he => rix_own hRY hlow (HCX.out he) : _ → _)
            go_wp2_with fail
            go_meet
            case rel => exact ⟨D1, M1, G1, D2, M2, G2, D3, M3, G3, D4, M4, G4, wr.heap.size, rfl, rfl, hY, hP1, hIX, hbV⟩
      case rest =>
        clear ca0 ca1 ca2 ca3 ca4 ca5 ca6 ca7 ca8 ca9 ca10 m0 m1 m2 m3 m4 m5 m6 m7 m8 m9 m10 m11 bA bB bC cA cB cC zB zC HV hi0 hi1
        obtain ⟨D1, M1, G1, D2, M2, G2, D3, M3, G3, D4, M4, G4, g7, rfl, rfl, hY, hP1, hIX, hbW⟩ := hcut
        obtain ⟨V, rfl⟩ : ∃ V, V = wc := ⟨_, rfl⟩
        cases hz : decide (ERR = 0) with
        | false =>
          have hE : ¬ (ERR = 0) := of_decide_eq_false hz
          have hE2 : (ERR == 0) = false := by simpa using hE
          clear hz hE hY hIX
          go_wp2
          go_roundg g
          case measure => omega
          case rel => exact ⟨k + 1, xs, xm, xt, xk, A1, N1, C1, A2, N2, C2, A3, N3, C3, A4, N4, C4, y1, y2, y3, y4, y5, y6, y7, by omega, by go_num, HCK, hP1, (HX.out.go (grown_any hbW.out _) : RIx _ _ _ _ _ _ _ _ _ _ _ _ _ _ _), (HB.out.trans (hbW.out.mono HB.out.size) : Below _ _ _)⟩
        | true =>
          obtain rfl : ERR = 0 := of_decide_eq_true hz
          clear hz
          have hcx0 : Ro.check X = true := HCX.out rfl
          have hix0 : RIx P1 V D1 M1 G1 D2 M2 G2 D3 M3 G3 D4 M4 G4 X := hIX.out rfl
          obtain ⟨X1, X2, X3, X4, Z1, Z2, Z3, Z4, Z5, Z6, Z7⟩ := X
          have hY0 : V.heap[g7]? = some (.cells #[.slice D1 M1 G1, .slice D2 M2 G2, .slice D3 M3 G3, .slice D4 M4 G4, .int .i64 Z1, .int .i64 Z2, .int .i64 Z3, .int .i64 Z4, .int .i64 Z5, .int .i64 Z6, .int .i64 Z7] 29 (0, 0)) := hY.out
          clear HCX hIX hY HCK HX H1
          have HCX : Hid (Ro.check ⟨X1, X2, X3, X4, Z1, Z2, Z3, Z4, Z5, Z6, Z7⟩ = true) := hcx0
          have d0 := (blkc hY0).1 0
          have d1 := (blkc hY0).1 1
          have d2 := (blkc hY0).1 2
          have d3 := (blkc hY0).1 3
          have d4 := (blkc hY0).1 4
          have d5 := (blkc hY0).1 5
          have d6 := (blkc hY0).1 6
          have d7 := (blkc hY0).1 7
          have d8 := (blkc hY0).1 8
          have d9 := (blkc hY0).1 9
          have d10 := (blkc hY0).1 10
          have e0 := (blkc hP1.out).1 0
          have e1 := (blkc hP1.out).1 1
          have e2 := (blkc hP1.out).1 2
          have e3 := (blkc hP1.out).1 3
          have e4 := (blkc hP1.out).1 4
          have e5 := (blkc hP1.out).1 5
          have e6 := (blkc hP1.out).1 6
          have e7 := (blkc hP1.out).1 7
          have e8 := (blkc hP1.out).1 8
          have e9 := (blkc hP1.out).1 9
          have e10 := (blkc hP1.out).1 10
          have fz0 := (blkc hP1.out).2 0
          have fz1 := (blkc hP1.out).2 1
          have fz2 := (blkc hP1.out).2 2
          have fz3 := (blkc hP1.out).2 3
          have fz4 := (blkc hP1.out).2 4
          have fz5 := (blkc hP1.out).2 5
          have fz6 := (blkc hP1.out).2 6
          have fz7 := (blkc hP1.out).2 7
          have fz8 := (blkc hP1.out).2 8
          have fz9 := (blkc hP1.out).2 9
          have fz10 := (blkc hP1.out).2 10
          clear hY0
          go_upto_region 10 with fail
          have QQ0 : (V.setCell ⟨P1, 0, none⟩ (.slice D1 M1 G1)).heap[P1]? = some (.cells #[.slice D1 M1 G1, .slice A2 N2 C2, .slice A3 N3 C3, .slice A4 N4 C4, .int .i64 y1, .int .i64 y2, .int .i64 y3, .int .i64 y4, .int .i64 y5, .int .i64 y6, .int .i64 y7] 29 (0, 0)) := bput hP1.out _ rfl
          have QQ1 : ((V.setCell ⟨P1, 0, none⟩ (.slice D1 M1 G1)).setCell ⟨P1, 1, none⟩ (.slice D2 M2 G2)).heap[P1]? = some (.cells #[.slice D1 M1 G1, .slice D2 M2 G2, .slice A3 N3 C3, .slice A4 N4 C4, .int .i64 y1, .int .i64 y2, .int .i64 y3, .int .i64 y4, .int .i64 y5, .int .i64 y6, .int .i64 y7] 29 (0, 0)) := bput QQ0 _ rfl
          have QQ2 : (((V.setCell ⟨P1, 0, none⟩ (.slice D1 M1 G1)).setCell ⟨P1, 1, none⟩ (.slice D2 M2 G2)).setCell ⟨P1, 2, none⟩ (.slice D3 M3 G3)).heap[P1]? = some (.cells #[.slice D1 M1 G1, .slice D2 M2 G2, .slice D3 M3 G3, .slice A4 N4 C4, .int .i64 y1, .int .i64 y2, .int .i64 y3, .int .i64 y4, .int .i64 y5, .int .i64 y6, .int .i64 y7] 29 (0, 0)) := bput QQ1 _ rfl
          have QQ3 : ((((V.setCell ⟨P1, 0, none⟩ (.slice D1 M1 G1)).setCell ⟨P1, 1, none⟩ (.slice D2 M2 G2)).setCell ⟨P1, 2, none⟩ (.slice D3 M3 G3)).setCell ⟨P1, 3, none⟩ (.slice D4 M4 G4)).heap[P1]? = some (.cells #[.slice D1 M1 G1, .slice D2 M2 G2, .slice D3 M3 G3, .slice D4 M4 G4, .int .i64 y1, .int .i64 y2, .int .i64 y3, .int .i64 y4, .int .i64 y5, .int .i64 y6, .int .i64 y7] 29 (0, 0)) := bput QQ2 _ rfl
          have QQ4 : (((((V.setCell ⟨P1, 0, none⟩ (.slice D1 M1 G1)).setCell ⟨P1, 1, none⟩ (.slice D2 M2 G2)).setCell ⟨P1, 2, none⟩ (.slice D3 M3 G3)).setCell ⟨P1, 3, none⟩ (.slice D4 M4 G4)).setCell ⟨P1, 4, none⟩ (.int .i64 Z1)).heap[P1]? = some (.cells #[.slice D1 M1 G1, .slice D2 M2 G2, .slice D3 M3 G3, .slice D4 M4 G4, .int .i64 Z1, .int .i64 y2, .int .i64 y3, .int .i64 y4, .int .i64 y5, .int .i64 y6, .int .i64 y7] 29 (0, 0)) := bput QQ3 _ rfl
          have QQ5 : ((((((V.setCell ⟨P1, 0, none⟩ (.slice D1 M1 G1)).setCell ⟨P1, 1, none⟩ (.slice D2 M2 G2)).setCell ⟨P1, 2, none⟩ (.slice D3 M3 G3)).setCell ⟨P1, 3, none⟩ (.slice D4 M4 G4)).setCell ⟨P1, 4, none⟩ (.int .i64 Z1)).setCell ⟨P1, 5, none⟩ (.int .i64 Z2)).heap[P1]? = some (.cells #[.slice D1 M1 G1, .slice D2 M2 G2, .slice D3 M3 G3, .slice D4 M4 G4, .int .i64 Z1, .int .i64 Z2, .int .i64 y3, .int .i64 y4, .int .i64 y5, .int .i64 y6, .int .i64 y7] 29 (0, 0)) := bput QQ4 _ rfl
          have QQ6 : (((((((V.setCell ⟨P1, 0, none⟩ (.slice D1 M1 G1)).setCell ⟨P1, 1, none⟩ (.slice D2 M2 G2)).setCell ⟨P1, 2, none⟩ (.slice D3 M3 G3)).setCell ⟨P1, 3, none⟩ (.slice D4 M4 G4)).setCell ⟨P1, 4, none⟩ (.int .i64 Z1)).setCell ⟨P1, 5, none⟩ (.int .i64 Z2)).setCell ⟨P1, 6, none⟩ (.int .i64 Z3)).heap[P1]? = some (.cells #[.slice D1 M1 G1, .slice D2 M2 G2, .slice D3 M3 G3, .slice D4 M4 G4, .int .i64 Z1, .int .i64 Z2, .int .i64 Z3, .int .i64 y4, .int .i64 y5, .int .i64 y6, .int .i64 y7] 29 (0, 0)) := bput QQ5 _ rfl
          have QQ7 : ((((((((V.setCell ⟨P1, 0, none⟩ (.slice D1 M1 G1)).setCell ⟨P1, 1, none⟩ (.slice D2 M2 G2)).setCell ⟨P1, 2, none⟩ (.slice D3 M3 G3)).setCell ⟨P1, 3, none⟩ (.slice D4 M4 G4)).setCell ⟨P1, 4, none⟩ (.int .i64 Z1)).setCell ⟨P1, 5, none⟩ (.int .i64 Z2)).setCell ⟨P1, 6, none⟩ (.int .i64 Z3)).setCell ⟨P1, 7, none⟩ (.int .i64 Z4)).heap[P1]? = some (.cells #[.slice D1 M1 G1, .slice D2 M2 G2, .slice D3 M3 G3, .slice D4 M4 G4, .int .i64 Z1, .int .i64 Z2, .int .i64 Z3, .int .i64 Z4, .int .i64 y5, .int .i64 y6, .int .i64 y7] 29 (0, 0)) := bput QQ6 _ rfl
          have QQ8 : (((((((((V.setCell ⟨P1, 0, none⟩ (.slice D1 M1 G1)).setCell ⟨P1, 1, none⟩ (.slice D2 M2 G2)).setCell ⟨P1, 2, none⟩ (.slice D3 M3 G3)).setCell ⟨P1, 3, none⟩ (.slice D4 M4 G4)).setCell ⟨P1, 4, none⟩ (.int .i64 Z1)).setCell ⟨P1, 5, none⟩ (.int .i64 Z2)).setCell ⟨P1, 6, none⟩ (.int .i64 Z3)).setCell ⟨P1, 7, none⟩ (.int .i64 Z4)).setCell ⟨P1, 8, none⟩ (.int .i64 Z5)).heap[P1]? = some (.cells #[.slice D1 M1 G1, .slice D2 M2 G2, .slice D3 M3 G3, .slice D4 M4 G4, .int .i64 Z1, .int .i64 Z2, .int .i64 Z3, .int .i64 Z4, .int .i64 Z5, .int .i64 y6, .int .i64 y7] 29 (0, 0)) := bput QQ7 _ rfl
          have QQ9 : ((((((((((V.setCell ⟨P1, 0, none⟩ (.slice D1 M1 G1)).setCell ⟨P1, 1, none⟩ (.slice D2 M2 G2)).setCell ⟨P1, 2, none⟩ (.slice D3 M3 G3)).setCell ⟨P1, 3, none⟩ (.slice D4 M4 G4)).setCell ⟨P1, 4, none⟩ (.int .i64 Z1)).setCell ⟨P1, 5, none⟩ (.int .i64 Z2)).setCell ⟨P1, 6, none⟩ (.int .i64 Z3)).setCell ⟨P1, 7, none⟩ (.int .i64 Z4)).setCell ⟨P1, 8, none⟩ (.int .i64 Z5)).setCell ⟨P1, 9, none⟩ (.int .i64 Z6)).heap[P1]? = some (.cells #[.slice D1 M1 G1, .slice D2 M2 G2, .slice D3 M3 G3, .slice D4 M4 G4, .int .i64 Z1, .int .i64 Z2, .int .i64 Z3, .int .i64 Z4, .int .i64 Z5, .int .i64 Z6, .int .i64 y7] 29 (0, 0)) := bput QQ8 _ rfl
          have QQ10 : (((((((((((V.setCell ⟨P1, 0, none⟩ (.slice D1 M1 G1)).setCell ⟨P1, 1, none⟩ (.slice D2 M2 G2)).setCell ⟨P1, 2, none⟩ (.slice D3 M3 G3)).setCell ⟨P1, 3, none⟩ (.slice D4 M4 G4)).setCell ⟨P1, 4, none⟩ (.int .i64 Z1)).setCell ⟨P1, 5, none⟩ (.int .i64 Z2)).setCell ⟨P1, 6, none⟩ (.int .i64 Z3)).setCell ⟨P1, 7, none⟩ (.int .i64 Z4)).setCell ⟨P1, 8, none⟩ (.int .i64 Z5)).setCell ⟨P1, 9, none⟩ (.int .i64 Z6)).setCell ⟨P1, 10, none⟩ (.int .i64 Z7)).heap[P1]? = some (.cells #[.slice D1 M1 G1, .slice D2 M2 G2, .slice D3 M3 G3, .slice D4 M4 G4, .int .i64 Z1, .int .i64 Z2, .int .i64 Z3, .int .i64 Z4, .int .i64 Z5, .int .i64 Z6, .int .i64 Z7] 29 (0, 0)) := bput QQ9 _ rfl
          have hgr : V.grownBy (((((((((((V.setCell ⟨P1, 0, none⟩ (.slice D1 M1 G1)).setCell ⟨P1, 1, none⟩ (.slice D2 M2 G2)).setCell ⟨P1, 2, none⟩ (.slice D3 M3 G3)).setCell ⟨P1, 3, none⟩ (.slice D4 M4 G4)).setCell ⟨P1, 4, none⟩ (.int .i64 Z1)).setCell ⟨P1, 5, none⟩ (.int .i64 Z2)).setCell ⟨P1, 6, none⟩ (.int .i64 Z3)).setCell ⟨P1, 7, none⟩ (.int .i64 Z4)).setCell ⟨P1, 8, none⟩ (.int .i64 Z5)).setCell ⟨P1, 9, none⟩ (.int .i64 Z6)).setCell ⟨P1, 10, none⟩ (.int .i64 Z7)) (some (P1)) := turned_setL (P1) [.slice D1 M1 G1, .slice D2 M2 G2, .slice D3 M3 G3, .slice D4 M4 G4, .int .i64 Z1, .int .i64 Z2, .int .i64 Z3, .int .i64 Z4, .int .i64 Z5, .int .i64 Z6, .int .i64 Z7] 0 V
          have hix2 : RIx P1 (((((((((((V.setCell ⟨P1, 0, none⟩ (.slice D1 M1 G1)).setCell ⟨P1, 1, none⟩ (.slice D2 M2 G2)).setCell ⟨P1, 2, none⟩ (.slice D3 M3 G3)).setCell ⟨P1, 3, none⟩ (.slice D4 M4 G4)).setCell ⟨P1, 4, none⟩ (.int .i64 Z1)).setCell ⟨P1, 5, none⟩ (.int .i64 Z2)).setCell ⟨P1, 6, none⟩ (.int .i64 Z3)).setCell ⟨P1, 7, none⟩ (.int .i64 Z4)).setCell ⟨P1, 8, none⟩ (.int .i64 Z5)).setCell ⟨P1, 9, none⟩ (.int .i64 Z6)).setCell ⟨P1, 10, none⟩ (.int .i64 Z7)) D1 M1 G1 D2 M2 G2 D3 M3 G3 D4 M4 G4 ⟨X1, X2, X3, X4, Z1, Z2, Z3, Z4, Z5, Z6, Z7⟩ := hix0.go hgr
          have hbV := HB.out.trans (hbW.out.mono HB.out.size)
          have hbF : Below w.heap.size w (((((((((((V.setCell ⟨P1, 0, none⟩ (.slice D1 M1 G1)).setCell ⟨P1, 1, none⟩ (.slice D2 M2 G2)).setCell ⟨P1, 2, none⟩ (.slice D3 M3 G3)).setCell ⟨P1, 3, none⟩ (.slice D4 M4 G4)).setCell ⟨P1, 4, none⟩ (.int .i64 Z1)).setCell ⟨P1, 5, none⟩ (.int .i64 Z2)).setCell ⟨P1, 6, none⟩ (.int .i64 Z3)).setCell ⟨P1, 7, none⟩ (.int .i64 Z4)).setCell ⟨P1, 8, none⟩ (.int .i64 Z5)).setCell ⟨P1, 9, none⟩ (.int .i64 Z6)).setCell ⟨P1, 10, none⟩ (.int .i64 Z7)) := below_grownB hbV hgr hbV.size (fun q hq => by cases hq; exact HP1.out)
          obtain ⟨W2, hW2⟩ : ∃ W2, W2 = (((((((((((V.setCell ⟨P1, 0, none⟩ (.slice D1 M1 G1)).setCell ⟨P1, 1, none⟩ (.slice D2 M2 G2)).setCell ⟨P1, 2, none⟩ (.slice D3 M3 G3)).setCell ⟨P1, 3, none⟩ (.slice D4 M4 G4)).setCell ⟨P1, 4, none⟩ (.int .i64 Z1)).setCell ⟨P1, 5, none⟩ (.int .i64 Z2)).setCell ⟨P1, 6, none⟩ (.int .i64 Z3)).setCell ⟨P1, 7, none⟩ (.int .i64 Z4)).setCell ⟨P1, 8, none⟩ (.int .i64 Z5)).setCell ⟨P1, 9, none⟩ (.int .i64 Z6)).setCell ⟨P1, 10, none⟩ (.int .i64 Z7)) := ⟨_, rfl⟩
          rw [← hW2]
          rw [← hW2] at hix2 hbF QQ10
          have HP2 : Hid (W2.heap[P1]? = some (.cells #[.slice D1 M1 G1, .slice D2 M2 G2, .slice D3 M3 G3, .slice D4 M4 G4, .int .i64 Z1, .int .i64 Z2, .int .i64 Z3, .int .i64 Z4, .int .i64 Z5, .int .i64 Z6, .int .i64 Z7] 29 (0, 0))) := QQ10
          have HX2 : Hid (RIx P1 W2 D1 M1 G1 D2 M2 G2 D3 M3 G3 D4 M4 G4 ⟨X1, X2, X3, X4, Z1, Z2, Z3, Z4, Z5, Z6, Z7⟩) := hix2
          have HB2 : Hid (Below w.heap.size w W2) := hbF
          clear hW2 hgr hix0 hix2 hbV hbF hbW HB hP1 d0 e0 fz0 QQ0 d1 e1 fz1 QQ1 d2 e2 fz2 QQ2 d3 e3 fz3 QQ3 d4 e4 fz4 QQ4 d5 e5 fz5 QQ5 d6 e6 fz6 QQ6 d7 e7 fz7 QQ7 d8 e8 fz8 QQ8 d9 e9 fz9 QQ9 d10 e10 fz10 QQ10
          have hRX := HX2.out W2 (grown_any (Below.refl _ _) _)
          have HQ : Hid (X1.length = M1 ∧ X2.length = M2 ∧ X3.length = M3 ∧ X4.length = M4) := (⟨hRX.r1.1, hRX.r2.1, hRX.r3.1, hRX.r4.1⟩ : _ ∧ _)
          clear hRX
          have HV2 : Hid (∀ W, Below W2.heap.size W2 W → (W.cell? ⟨P1, 0, none⟩ = some (.slice D1 M1 G1) ∧ W.cell? ⟨P1, 1, none⟩ = some (.slice D2 M2 G2) ∧ W.cell? ⟨P1, 2, none⟩ = some (.slice D3 M3 G3) ∧ W.cell? ⟨P1, 3, none⟩ = some (.slice D4 M4 G4) ∧ W.cell? ⟨P1, 4, none⟩ = some (.int .i64 Z1) ∧ W.cell? ⟨P1, 5, none⟩ = some (.int .i64 Z2) ∧ W.cell? ⟨P1, 6, none⟩ = some (.int .i64 Z3) ∧ W.cell? ⟨P1, 7, none⟩ = some (.int .i64 Z4) ∧ W.cell? ⟨P1, 8, none⟩ = some (.int .i64 Z5) ∧ W.cell? ⟨P1, 9, none⟩ = some (.int .i64 Z6) ∧ W.cell? ⟨P1, 10, none⟩ = some (.int .i64 Z7))) := (fun W hb => by
            have a := (blkc ((hb.block _ (ob_ltB HP2.out)).trans HP2.out)).1
            exact ⟨a 0, a 1, a 2, a 3, a 4, a 5, a 6, a 7, a 8, a 9, a 10⟩ : ∀ W, _ → _)
          obtain ⟨ES, hES⟩ : ∃ ES, ES = Ro.edits ⟨X1, X2, X3, X4, Z1, Z2, Z3, Z4, Z5, Z6, Z7⟩ := ⟨_, rfl⟩
          obtain ⟨LE, hLE⟩ : ∃ LE, LE = ES.length := ⟨_, rfl⟩
          have hLE2 : LE ≤ 1000 := by
            have := Ro.makes_length (Ro.may_of_check HCX.out)
            rw [hLE, hES, Ro.edits, if_pos HCX.out]; omega
          have hedc : ∀ W, Below W2.heap.size W2 W → Calls Tryz.prog 17 #[.agg #[.slice D1 M1 G1, .slice D2 M2 G2, .slice D3 M3 G3, .slice D4 M4 G4, .int .i64 Z1, .int .i64 Z2, .int .i64 Z3, .int .i64 Z4, .int .i64 Z5, .int .i64 Z6, .int .i64 Z7]] W (fun e w' => ∃ g c, e = .returned (.slice g LE c) ∧ ERow w' g LE ES ∧ Below W.heap.size W w') := fun W hb =>
            (redits_any X1 X2 X3 X4 D1 M1 G1 D2 M2 G2 D3 M3 G3 D4 M4 G4 Z1 Z2 Z3 Z4 Z5 Z6 Z7 W (HX2.out W (grown_any hb _))).mono (by
              rintro e w' ⟨g, c, rfl, how, hbe⟩
              rw [← hES, ← hLE] at *
              exact ⟨g, c, rfl, trow_of_owns eeE how (by omega) (by omega), hbe⟩)
          have hapc : ∀ W (g : Option Addr) (c : Nat), ERow W g LE ES → Calls Tryz.prog 10 #[.agg #[.slice none 0 0, .slice none 0 0, .slice none 0 0, .slice none 0 0, .int .i64 1, .int .i64 0, .int .i64 0, .int .i64 0, .int .i64 0, .int .i64 0, .int .i64 0], .slice g LE c] W (fun e w' => ∃ E1 L1 F1 E2 L2 F2 E3 L3 F3 E4 L4 F4, e = .returned (.tuple #[.agg #[.slice E1 L1 F1, .slice E2 L2 F2, .slice E3 L3 F3, .slice E4 L4 F4, .int .i64 Z1, .int .i64 Z2, .int .i64 Z3, .int .i64 Z4, .int .i64 Z5, .int .i64 Z6, .int .i64 Z7], .int .i64 0]) ∧ ROwn W.heap.size w' E1 L1 F1 E2 L2 F2 E3 L3 F3 E4 L4 F4 ⟨X1, X2, X3, X4, Z1, Z2, Z3, Z4, Z5, Z6, Z7⟩ ∧ Below W.heap.size W w') := fun W g c he => by
            have := rapply_any [] [] [] [] none 0 0 none 0 0 none 0 0 none 0 0 1 0 0 0 0 0 0 g LE c ES W (rin_first W) he hLE2
            have ha : Ro.apply ⟨[], [], [], [], 1, 0, 0, 0, 0, 0, 0⟩ ES = (⟨X1, X2, X3, X4, Z1, Z2, Z3, Z4, Z5, Z6, Z7⟩, 0) := by rw [hES]; exact Ro.again HCX.out
            rw [ha] at this
            exact this
          clear hES hLE hLE2
          have fP := HV2.out W2 (Below.refl _ _)
          obtain ⟨fp0, fp1, fp2, fp3, fp4, fp5, fp6, fp7, fp8, fp9, fp10⟩ := fP
          go_cut [7, 8] (fun s7 s8 wx => ∃ (E1 : Option Addr) (F1 : Nat) (E2 : Option Addr) (F2 : Nat) (E3 : Option Addr) (F3 : Nat) (E4 : Option Addr) (F4 : Nat) (gY : Nat), s7 = .pointer (some ⟨gY, 0, none⟩) ∧ s8 = .int .i64 0 ∧ Hid (wx.heap[gY]? = some (.cells #[.slice E1 M1 F1, .slice E2 M2 F2, .slice E3 M3 F3, .slice E4 M4 F4, .int .i64 Z1, .int .i64 Z2, .int .i64 Z3, .int .i64 Z4, .int .i64 Z5, .int .i64 Z6, .int .i64 Z7] 29 (0, 0))) ∧ Hid (wx.heap[P1]? = some (.cells #[.slice D1 M1 G1, .slice D2 M2 G2, .slice D3 M3 G3, .slice D4 M4 G4, .int .i64 Z1, .int .i64 Z2, .int .i64 Z3, .int .i64 Z4, .int .i64 Z5, .int .i64 Z6, .int .i64 Z7] 29 (0, 0))) ∧ Hid (RIx P1 wx E1 M1 F1 E2 M2 F2 E3 M3 F3 E4 M4 F4 ⟨X1, X2, X3, X4, Z1, Z2, Z3, Z4, Z5, Z6, Z7⟩) ∧ Hid (Below W2.heap.size W2 wx))
          case first =>
            refine wp_region_held_drew (S := (fun W => W.cell? ⟨P1, 0, none⟩ = some (.slice D1 M1 G1) ∧ W.cell? ⟨P1, 1, none⟩ = some (.slice D2 M2 G2) ∧ W.cell? ⟨P1, 2, none⟩ = some (.slice D3 M3 G3) ∧ W.cell? ⟨P1, 3, none⟩ = some (.slice D4 M4 G4) ∧ W.cell? ⟨P1, 4, none⟩ = some (.int .i64 Z1) ∧ W.cell? ⟨P1, 5, none⟩ = some (.int .i64 Z2) ∧ W.cell? ⟨P1, 6, none⟩ = some (.int .i64 Z3) ∧ W.cell? ⟨P1, 7, none⟩ = some (.int .i64 Z4) ∧ W.cell? ⟨P1, 8, none⟩ = some (.int .i64 Z5) ∧ W.cell? ⟨P1, 9, none⟩ = some (.int .i64 Z6) ∧ W.cell? ⟨P1, 10, none⟩ = some (.int .i64 Z7))) (by kernel_rfl) (HV2.out _ (Below.refl _ _).drew) (fun hHeld => ?_)
            refine wpAnyH_take (i := 1) (oi := ⟨some 40, _, _, _, _, _⟩) (v := ?_) rfl (by kernel_rfl) (by kernel_rfl) (by kernel_rfl) (fun _ _ _ h => h) (Or.inl ⟨by rfl, ?_⟩) (by assumption) ?_
            rotate_left
            · intro w hSw; (try dsimp only at hSw); go_simp <;> (try with_reducible rfl)
            go_frame
            refine wpAnyH_ready (rs := [0, 7]) (by kernel_rfl) (by simp) ?_
            refine AllReadyH.cons rfl (fun K hK => ?_) (AllReadyH.cons rfl (fun K hK => ?_) AllReadyH.nil)
            · skip
              go_simp; go_at_call 16; refine (rfirst_any _).mono ?_; rintro e v1 ⟨rfl, h1⟩; have b1 := ((Below.refl W2.heap.size W2).drew).trans (h1.mono (((Below.refl W2.heap.size W2).drew)).size)
              refine hK.out _ _ (HV2.out _ b1) (fun hHeld => ?_)
              clear hK K
              try go_frame
              refine wpAnyH_ready (rs := [2, 7]) (by kernel_rfl) (by simp) ?_
              refine AllReadyH.cons rfl (fun K hK => ?_) (AllReadyH.cons rfl (fun K hK => ?_) AllReadyH.nil)
              · skip
                go_simp; go_at_call 17; refine (hedc _ b1).mono ?_; rintro e v2 ⟨ga, gc, rfl, her, h2⟩; have b2 := b1.trans (h2.mono (b1).size)
                refine hK.out _ _ (HV2.out _ b2) (fun hHeld => ?_)
                clear hK K
                try go_frame
                have c2 := Below.refl v2.heap.size v2
                refine wpAnyH_ready (rs := [3, 7]) (by kernel_rfl) (by simp) ?_
                refine AllReadyH.cons rfl (fun K hK => ?_) (AllReadyH.cons rfl (fun K hK => ?_) AllReadyH.nil)
                · skip
                  go_simp; go_at_call 10; refine (hapc _ ga gc (her.below c2 (Nat.le_refl _))).mono ?_; rintro e v3 ⟨E1, L1, F1, E2, L2, F2, E3, L3, F3, E4, L4, F4, rfl, hro, h3⟩; have b3 := b2.trans (h3.mono (b2).size); have c3 := c2.trans (h3.mono (c2).size)
                  refine hK.out _ _ (HV2.out _ b3) (fun hHeld => ?_)
                  clear hK K
                  try go_frame
                  refine wpAnyH_take (i := 4) (oi := ⟨some 38, _, _, _, _, _⟩) (v := ?_) rfl (by kernel_rfl) (by kernel_rfl) (by kernel_rfl) (fun _ _ _ h => h) (Or.inl ⟨by rfl, ?_⟩) (by assumption) ?_
                  rotate_left
                  · intro w hSw; (try dsimp only at hSw); go_simp <;> (try with_reducible rfl)
                  go_frame
                  refine wpAnyH_take (i := 5) (oi := ⟨some 43, _, _, _, _, _⟩) (v := ?_) rfl (by kernel_rfl) (by kernel_rfl) (by kernel_rfl) (fun _ _ _ h => h) (Or.inl ⟨by rfl, ?_⟩) (by assumption) ?_
                  rotate_left
                  · intro w hSw; (try dsimp only at hSw); go_simp <;> (try with_reducible rfl)
                  go_frame
                  refine wpAnyH_take (i := 6) (oi := ⟨some 44, _, _, _, _, _⟩) (v := ?_) rfl (by kernel_rfl) (by kernel_rfl) (by kernel_rfl) (fun _ _ _ h => h) (Or.inl ⟨by rfl, ?_⟩) (by assumption) ?_
                  rotate_left
                  · intro w hSw; (try dsimp only at hSw); go_simp <;> (try with_reducible rfl)
                  go_frame
                  refine wpAnyH_ready (rs := [7]) (by kernel_rfl) (by simp) ?_
                  refine AllReadyH.cons rfl (fun K hK => ?_) AllReadyH.nil
                  go_simp
                  refine hK.out _ _ (HV2.out _ (b3.alloc (b3).size _)) (fun hHeld => ?_)
                  clear hK K
                  refine wpAnyH_ready (rs := [8]) (by kernel_rfl) (by simp) ?_
                  refine AllReadyH.cons rfl (fun K hK => ?_) AllReadyH.nil
                  go_simp
                  refine hK.out _ _ (HV2.out _ (b3.alloc (b3).size _)) (fun hHeld => ?_)
                  clear hK K
                  refine wpAnyH_take (i := 9) (oi := ⟨some 8, _, _, _, _, _⟩) (v := ?_) rfl (by kernel_rfl) (by kernel_rfl) (by kernel_rfl) (fun _ _ _ h => h) (Or.inl ⟨by rfl, ?_⟩) (by assumption) ?_
                  rotate_left
                  · intro w hSw; (try dsimp only at hSw); go_simp <;> (try with_reducible rfl)
                  go_frame
                  refine wpAnyH_done (by kernel_rfl) ?_ _
                  obtain ⟨V, hV⟩ : ∃ V, V = v3.alloc (.cells #[.slice E1 L1 F1, .slice E2 L2 F2, .slice E3 L3 F3, .slice E4 L4 F4, .int .i64 Z1, .int .i64 Z2, .int .i64 Z3, .int .i64 Z4, .int .i64 Z5, .int .i64 Z6, .int .i64 Z7] 29) := ⟨_, rfl⟩
                  rw [← hV]
                  have hY : Hid (V.heap[v3.heap.size]? = some (.cells #[.slice E1 L1 F1, .slice E2 L2 F2, .slice E3 L3 F3, .slice E4 L4 F4, .int .i64 Z1, .int .i64 Z2, .int .i64 Z3, .int .i64 Z4, .int .i64 Z5, .int .i64 Z6, .int .i64 Z7] 29 (0, 0))) := (by rw [hV]; exact heap_alloc_new _ _ : _ = _)
                  have hbV : Hid (Below W2.heap.size W2 V) := (by rw [hV]; exact b3.alloc b3.size _ : Below _ _ _)
                  have hRY : ROwn _ V E1 L1 F1 E2 L2 F2 E3 L3 F3 E4 L4 F4 ⟨X1, X2, X3, X4, Z1, Z2, Z3, Z4, Z5, Z6, Z7⟩ := hro.kept (by rw [hV]; exact below_alloc _ _)
                  have hlow := Nat.lt_of_lt_of_le (ob_ltB HP2.out) (b2).size
                  clear hV
                  obtain ⟨z1', z2', z3', z4'⟩ := hRY.len
                  dsimp only at z1' z2' z3' z4'
                  obtain ⟨q1, q2, q3, q4⟩ := HQ.out
                  obtain rfl : M1 = L1 := q1.symm.trans z1'
                  obtain rfl : M2 = L2 := q2.symm.trans z2'
                  obtain rfl : M3 = L3 := q3.symm.trans z3'
                  obtain rfl : M4 = L4 := q4.symm.trans z4'
                  have hP1 : Hid (V.heap[P1]? = some (.cells #[.slice D1 M1 G1, .slice D2 M2 G2, .slice D3 M3 G3, .slice D4 M4 G4, .int .i64 Z1, .int .i64 Z2, .int .i64 Z3, .int .i64 Z4, .int .i64 Z5, .int .i64 Z6, .int .i64 Z7] 29 (0, 0))) := ((hbV.out.block _ (ob_ltB HP2.out)).trans HP2.out : _ = _)
                  have hIX : Hid (RIx P1 V E1 M1 F1 E2 M2 F2 E3 M3 F3 E4 M4 F4 ⟨X1, X2, X3, X4, Z1, Z2, Z3, Z4, Z5, Z6, Z7⟩) := (rix_own hRY hlow HCX.out : RIx _ _ _ _ _ _ _ _ _ _ _ _ _ _ _)
                  go_wp2_with fail
                  go_meet
                  case rel => exact ⟨E1, F1, E2, F2, E3, F3, E4, F4, v3.heap.size, rfl, rfl, hY, hP1, hIX, hbV⟩
                · skip
                  go_simp
                  refine hK.out _ _ (HV2.out _ ((b2.alloc (b2).size (.cells #[.slice none 0 0, .slice none 0 0, .slice none 0 0, .slice none 0 0, .int .i64 0, .int .i64 0, .int .i64 0, .int .i64 0, .int .i64 0, .int .i64 0, .int .i64 0] 29)))) (fun hHeld => ?_)
                  clear hK K
                  have bz : Below W2.heap.size W2 (v2.alloc (.cells #[.slice none 0 0, .slice none 0 0, .slice none 0 0, .slice none 0 0, .int .i64 0, .int .i64 0, .int .i64 0, .int .i64 0, .int .i64 0, .int .i64 0, .int .i64 0] 29)) := (b2.alloc (b2).size (.cells #[.slice none 0 0, .slice none 0 0, .slice none 0 0, .slice none 0 0, .int .i64 0, .int .i64 0, .int .i64 0, .int .i64 0, .int .i64 0, .int .i64 0, .int .i64 0] 29))
                  have zz := (heap_alloc_new v2 (.cells #[.slice none 0 0, .slice none 0 0, .slice none 0 0, .slice none 0 0, .int .i64 0, .int .i64 0, .int .i64 0, .int .i64 0, .int .i64 0, .int .i64 0, .int .i64 0] 29))
                  have cz := c2.alloc (c2).size (.cells #[.slice none 0 0, .slice none 0 0, .slice none 0 0, .slice none 0 0, .int .i64 0, .int .i64 0, .int .i64 0, .int .i64 0, .int .i64 0, .int .i64 0, .int .i64 0] 29)
                  refine wpAnyH_ready (rs := [3]) (by kernel_rfl) (by simp) ?_
                  refine AllReadyH.cons rfl (fun K hK => ?_) AllReadyH.nil
                  go_simp; go_at_call 10; refine (hapc _ ga gc (her.below cz (Nat.le_refl _))).mono ?_; rintro e v3 ⟨E1, L1, F1, E2, L2, F2, E3, L3, F3, E4, L4, F4, rfl, hro, h3⟩; have b3 := bz.trans (h3.mono (bz).size); have c3 := cz.trans (h3.mono (cz).size); have z3 := (h3.block _ (ob_ltB zz)).trans zz; have zc0 := (blkc z3).1 0; have zf0 := (blkc z3).2 0; have zc1 := (blkc z3).1 1; have zf1 := (blkc z3).2 1; have zc2 := (blkc z3).1 2; have zf2 := (blkc z3).2 2; have zc3 := (blkc z3).1 3; have zf3 := (blkc z3).2 3; have zc4 := (blkc z3).1 4; have zf4 := (blkc z3).2 4; have zc5 := (blkc z3).1 5; have zf5 := (blkc z3).2 5; have zc6 := (blkc z3).1 6; have zf6 := (blkc z3).2 6; have zc7 := (blkc z3).1 7; have zf7 := (blkc z3).2 7; have zc8 := (blkc z3).1 8; have zf8 := (blkc z3).2 8; have zc9 := (blkc z3).1 9; have zf9 := (blkc z3).2 9; have zc10 := (blkc z3).1 10; have zf10 := (blkc z3).2 10
                  refine hK.out _ _ (HV2.out _ b3) (fun hHeld => ?_)
                  clear hK K
                  try go_frame
                  refine wpAnyH_take (i := 4) (oi := ⟨some 38, _, _, _, _, _⟩) (v := ?_) rfl (by kernel_rfl) (by kernel_rfl) (by kernel_rfl) (fun _ _ _ h => h) (Or.inl ⟨by rfl, ?_⟩) (by assumption) ?_
                  rotate_left
                  · intro w hSw; (try dsimp only at hSw); go_simp <;> (try with_reducible rfl)
                  go_frame
                  refine wpAnyH_take (i := 5) (oi := ⟨some 43, _, _, _, _, _⟩) (v := ?_) rfl (by kernel_rfl) (by kernel_rfl) (by kernel_rfl) (fun _ _ _ h => h) (Or.inl ⟨by rfl, ?_⟩) (by assumption) ?_
                  rotate_left
                  · intro w hSw; (try dsimp only at hSw); go_simp <;> (try with_reducible rfl)
                  go_frame
                  refine wpAnyH_take (i := 6) (oi := ⟨some 44, _, _, _, _, _⟩) (v := ?_) rfl (by kernel_rfl) (by kernel_rfl) (by kernel_rfl) (fun _ _ _ h => h) (Or.inl ⟨by rfl, ?_⟩) (by assumption) ?_
                  rotate_left
                  · intro w hSw; (try dsimp only at hSw); go_simp <;> (try with_reducible rfl)
                  go_frame
                  refine wpAnyH_ready (rs := [8]) (by kernel_rfl) (by simp) ?_
                  refine AllReadyH.cons rfl (fun K hK => ?_) AllReadyH.nil
                  go_simp
                  refine hK.out _ _ (HV2.out _ (below_grownB b3 (turned_setL (v2.heap.size) [.slice E1 L1 F1, .slice E2 L2 F2, .slice E3 L3 F3, .slice E4 L4 F4, .int .i64 Z1, .int .i64 Z2, .int .i64 Z3, .int .i64 Z4, .int .i64 Z5, .int .i64 Z6, .int .i64 Z7] 0 v3) (b3).size (fun q hq => by cases hq; exact b2.size))) (fun hHeld => ?_)
                  clear hK K
                  refine wpAnyH_take (i := 9) (oi := ⟨some 8, _, _, _, _, _⟩) (v := ?_) rfl (by kernel_rfl) (by kernel_rfl) (by kernel_rfl) (fun _ _ _ h => h) (Or.inl ⟨by rfl, ?_⟩) (by assumption) ?_
                  rotate_left
                  · intro w hSw; (try dsimp only at hSw); go_simp <;> (try with_reducible rfl)
                  go_frame
                  refine wpAnyH_done (by kernel_rfl) ?_ _
                  have Y0 : (v3.setCell ⟨v2.heap.size, 0, none⟩ (.slice E1 L1 F1)).heap[v2.heap.size]? = some (.cells #[.slice E1 L1 F1, .slice none 0 0, .slice none 0 0, .slice none 0 0, .int .i64 0, .int .i64 0, .int .i64 0, .int .i64 0, .int .i64 0, .int .i64 0, .int .i64 0] 29 (0, 0)) := bput z3 _ rfl
                  have Y1 : ((v3.setCell ⟨v2.heap.size, 0, none⟩ (.slice E1 L1 F1)).setCell ⟨v2.heap.size, 1, none⟩ (.slice E2 L2 F2)).heap[v2.heap.size]? = some (.cells #[.slice E1 L1 F1, .slice E2 L2 F2, .slice none 0 0, .slice none 0 0, .int .i64 0, .int .i64 0, .int .i64 0, .int .i64 0, .int .i64 0, .int .i64 0, .int .i64 0] 29 (0, 0)) := bput Y0 _ rfl
                  have Y2 : (((v3.setCell ⟨v2.heap.size, 0, none⟩ (.slice E1 L1 F1)).setCell ⟨v2.heap.size, 1, none⟩ (.slice E2 L2 F2)).setCell ⟨v2.heap.size, 2, none⟩ (.slice E3 L3 F3)).heap[v2.heap.size]? = some (.cells #[.slice E1 L1 F1, .slice E2 L2 F2, .slice E3 L3 F3, .slice none 0 0, .int .i64 0, .int .i64 0, .int .i64 0, .int .i64 0, .int .i64 0, .int .i64 0, .int .i64 0] 29 (0, 0)) := bput Y1 _ rfl
                  have Y3 : ((((v3.setCell ⟨v2.heap.size, 0, none⟩ (.slice E1 L1 F1)).setCell ⟨v2.heap.size, 1, none⟩ (.slice E2 L2 F2)).setCell ⟨v2.heap.size, 2, none⟩ (.slice E3 L3 F3)).setCell ⟨v2.heap.size, 3, none⟩ (.slice E4 L4 F4)).heap[v2.heap.size]? = some (.cells #[.slice E1 L1 F1, .slice E2 L2 F2, .slice E3 L3 F3, .slice E4 L4 F4, .int .i64 0, .int .i64 0, .int .i64 0, .int .i64 0, .int .i64 0, .int .i64 0, .int .i64 0] 29 (0, 0)) := bput Y2 _ rfl
                  have Y4 : (((((v3.setCell ⟨v2.heap.size, 0, none⟩ (.slice E1 L1 F1)).setCell ⟨v2.heap.size, 1, none⟩ (.slice E2 L2 F2)).setCell ⟨v2.heap.size, 2, none⟩ (.slice E3 L3 F3)).setCell ⟨v2.heap.size, 3, none⟩ (.slice E4 L4 F4)).setCell ⟨v2.heap.size, 4, none⟩ (.int .i64 Z1)).heap[v2.heap.size]? = some (.cells #[.slice E1 L1 F1, .slice E2 L2 F2, .slice E3 L3 F3, .slice E4 L4 F4, .int .i64 Z1, .int .i64 0, .int .i64 0, .int .i64 0, .int .i64 0, .int .i64 0, .int .i64 0] 29 (0, 0)) := bput Y3 _ rfl
                  have Y5 : ((((((v3.setCell ⟨v2.heap.size, 0, none⟩ (.slice E1 L1 F1)).setCell ⟨v2.heap.size, 1, none⟩ (.slice E2 L2 F2)).setCell ⟨v2.heap.size, 2, none⟩ (.slice E3 L3 F3)).setCell ⟨v2.heap.size, 3, none⟩ (.slice E4 L4 F4)).setCell ⟨v2.heap.size, 4, none⟩ (.int .i64 Z1)).setCell ⟨v2.heap.size, 5, none⟩ (.int .i64 Z2)).heap[v2.heap.size]? = some (.cells #[.slice E1 L1 F1, .slice E2 L2 F2, .slice E3 L3 F3, .slice E4 L4 F4, .int .i64 Z1, .int .i64 Z2, .int .i64 0, .int .i64 0, .int .i64 0, .int .i64 0, .int .i64 0] 29 (0, 0)) := bput Y4 _ rfl
                  have Y6 : (((((((v3.setCell ⟨v2.heap.size, 0, none⟩ (.slice E1 L1 F1)).setCell ⟨v2.heap.size, 1, none⟩ (.slice E2 L2 F2)).setCell ⟨v2.heap.size, 2, none⟩ (.slice E3 L3 F3)).setCell ⟨v2.heap.size, 3, none⟩ (.slice E4 L4 F4)).setCell ⟨v2.heap.size, 4, none⟩ (.int .i64 Z1)).setCell ⟨v2.heap.size, 5, none⟩ (.int .i64 Z2)).setCell ⟨v2.heap.size, 6, none⟩ (.int .i64 Z3)).heap[v2.heap.size]? = some (.cells #[.slice E1 L1 F1, .slice E2 L2 F2, .slice E3 L3 F3, .slice E4 L4 F4, .int .i64 Z1, .int .i64 Z2, .int .i64 Z3, .int .i64 0, .int .i64 0, .int .i64 0, .int .i64 0] 29 (0, 0)) := bput Y5 _ rfl
                  have Y7 : ((((((((v3.setCell ⟨v2.heap.size, 0, none⟩ (.slice E1 L1 F1)).setCell ⟨v2.heap.size, 1, none⟩ (.slice E2 L2 F2)).setCell ⟨v2.heap.size, 2, none⟩ (.slice E3 L3 F3)).setCell ⟨v2.heap.size, 3, none⟩ (.slice E4 L4 F4)).setCell ⟨v2.heap.size, 4, none⟩ (.int .i64 Z1)).setCell ⟨v2.heap.size, 5, none⟩ (.int .i64 Z2)).setCell ⟨v2.heap.size, 6, none⟩ (.int .i64 Z3)).setCell ⟨v2.heap.size, 7, none⟩ (.int .i64 Z4)).heap[v2.heap.size]? = some (.cells #[.slice E1 L1 F1, .slice E2 L2 F2, .slice E3 L3 F3, .slice E4 L4 F4, .int .i64 Z1, .int .i64 Z2, .int .i64 Z3, .int .i64 Z4, .int .i64 0, .int .i64 0, .int .i64 0] 29 (0, 0)) := bput Y6 _ rfl
                  have Y8 : (((((((((v3.setCell ⟨v2.heap.size, 0, none⟩ (.slice E1 L1 F1)).setCell ⟨v2.heap.size, 1, none⟩ (.slice E2 L2 F2)).setCell ⟨v2.heap.size, 2, none⟩ (.slice E3 L3 F3)).setCell ⟨v2.heap.size, 3, none⟩ (.slice E4 L4 F4)).setCell ⟨v2.heap.size, 4, none⟩ (.int .i64 Z1)).setCell ⟨v2.heap.size, 5, none⟩ (.int .i64 Z2)).setCell ⟨v2.heap.size, 6, none⟩ (.int .i64 Z3)).setCell ⟨v2.heap.size, 7, none⟩ (.int .i64 Z4)).setCell ⟨v2.heap.size, 8, none⟩ (.int .i64 Z5)).heap[v2.heap.size]? = some (.cells #[.slice E1 L1 F1, .slice E2 L2 F2, .slice E3 L3 F3, .slice E4 L4 F4, .int .i64 Z1, .int .i64 Z2, .int .i64 Z3, .int .i64 Z4, .int .i64 Z5, .int .i64 0, .int .i64 0] 29 (0, 0)) := bput Y7 _ rfl
                  have Y9 : ((((((((((v3.setCell ⟨v2.heap.size, 0, none⟩ (.slice E1 L1 F1)).setCell ⟨v2.heap.size, 1, none⟩ (.slice E2 L2 F2)).setCell ⟨v2.heap.size, 2, none⟩ (.slice E3 L3 F3)).setCell ⟨v2.heap.size, 3, none⟩ (.slice E4 L4 F4)).setCell ⟨v2.heap.size, 4, none⟩ (.int .i64 Z1)).setCell ⟨v2.heap.size, 5, none⟩ (.int .i64 Z2)).setCell ⟨v2.heap.size, 6, none⟩ (.int .i64 Z3)).setCell ⟨v2.heap.size, 7, none⟩ (.int .i64 Z4)).setCell ⟨v2.heap.size, 8, none⟩ (.int .i64 Z5)).setCell ⟨v2.heap.size, 9, none⟩ (.int .i64 Z6)).heap[v2.heap.size]? = some (.cells #[.slice E1 L1 F1, .slice E2 L2 F2, .slice E3 L3 F3, .slice E4 L4 F4, .int .i64 Z1, .int .i64 Z2, .int .i64 Z3, .int .i64 Z4, .int .i64 Z5, .int .i64 Z6, .int .i64 0] 29 (0, 0)) := bput Y8 _ rfl
                  have Y10 : (((((((((((v3.setCell ⟨v2.heap.size, 0, none⟩ (.slice E1 L1 F1)).setCell ⟨v2.heap.size, 1, none⟩ (.slice E2 L2 F2)).setCell ⟨v2.heap.size, 2, none⟩ (.slice E3 L3 F3)).setCell ⟨v2.heap.size, 3, none⟩ (.slice E4 L4 F4)).setCell ⟨v2.heap.size, 4, none⟩ (.int .i64 Z1)).setCell ⟨v2.heap.size, 5, none⟩ (.int .i64 Z2)).setCell ⟨v2.heap.size, 6, none⟩ (.int .i64 Z3)).setCell ⟨v2.heap.size, 7, none⟩ (.int .i64 Z4)).setCell ⟨v2.heap.size, 8, none⟩ (.int .i64 Z5)).setCell ⟨v2.heap.size, 9, none⟩ (.int .i64 Z6)).setCell ⟨v2.heap.size, 10, none⟩ (.int .i64 Z7)).heap[v2.heap.size]? = some (.cells #[.slice E1 L1 F1, .slice E2 L2 F2, .slice E3 L3 F3, .slice E4 L4 F4, .int .i64 Z1, .int .i64 Z2, .int .i64 Z3, .int .i64 Z4, .int .i64 Z5, .int .i64 Z6, .int .i64 Z7] 29 (0, 0)) := bput Y9 _ rfl
                  have hgz : v3.grownBy (((((((((((v3.setCell ⟨v2.heap.size, 0, none⟩ (.slice E1 L1 F1)).setCell ⟨v2.heap.size, 1, none⟩ (.slice E2 L2 F2)).setCell ⟨v2.heap.size, 2, none⟩ (.slice E3 L3 F3)).setCell ⟨v2.heap.size, 3, none⟩ (.slice E4 L4 F4)).setCell ⟨v2.heap.size, 4, none⟩ (.int .i64 Z1)).setCell ⟨v2.heap.size, 5, none⟩ (.int .i64 Z2)).setCell ⟨v2.heap.size, 6, none⟩ (.int .i64 Z3)).setCell ⟨v2.heap.size, 7, none⟩ (.int .i64 Z4)).setCell ⟨v2.heap.size, 8, none⟩ (.int .i64 Z5)).setCell ⟨v2.heap.size, 9, none⟩ (.int .i64 Z6)).setCell ⟨v2.heap.size, 10, none⟩ (.int .i64 Z7)) (some (v2.heap.size)) := turned_setL (v2.heap.size) [.slice E1 L1 F1, .slice E2 L2 F2, .slice E3 L3 F3, .slice E4 L4 F4, .int .i64 Z1, .int .i64 Z2, .int .i64 Z3, .int .i64 Z4, .int .i64 Z5, .int .i64 Z6, .int .i64 Z7] 0 v3
                  have hbV0 : Below W2.heap.size W2 (((((((((((v3.setCell ⟨v2.heap.size, 0, none⟩ (.slice E1 L1 F1)).setCell ⟨v2.heap.size, 1, none⟩ (.slice E2 L2 F2)).setCell ⟨v2.heap.size, 2, none⟩ (.slice E3 L3 F3)).setCell ⟨v2.heap.size, 3, none⟩ (.slice E4 L4 F4)).setCell ⟨v2.heap.size, 4, none⟩ (.int .i64 Z1)).setCell ⟨v2.heap.size, 5, none⟩ (.int .i64 Z2)).setCell ⟨v2.heap.size, 6, none⟩ (.int .i64 Z3)).setCell ⟨v2.heap.size, 7, none⟩ (.int .i64 Z4)).setCell ⟨v2.heap.size, 8, none⟩ (.int .i64 Z5)).setCell ⟨v2.heap.size, 9, none⟩ (.int .i64 Z6)).setCell ⟨v2.heap.size, 10, none⟩ (.int .i64 Z7)) := below_grownB b3 hgz b3.size (fun q hq => by cases hq; exact b2.size)
                  have hRY0 := hro.other z3 hgz
                  obtain ⟨V, hV⟩ : ∃ V, V = (((((((((((v3.setCell ⟨v2.heap.size, 0, none⟩ (.slice E1 L1 F1)).setCell ⟨v2.heap.size, 1, none⟩ (.slice E2 L2 F2)).setCell ⟨v2.heap.size, 2, none⟩ (.slice E3 L3 F3)).setCell ⟨v2.heap.size, 3, none⟩ (.slice E4 L4 F4)).setCell ⟨v2.heap.size, 4, none⟩ (.int .i64 Z1)).setCell ⟨v2.heap.size, 5, none⟩ (.int .i64 Z2)).setCell ⟨v2.heap.size, 6, none⟩ (.int .i64 Z3)).setCell ⟨v2.heap.size, 7, none⟩ (.int .i64 Z4)).setCell ⟨v2.heap.size, 8, none⟩ (.int .i64 Z5)).setCell ⟨v2.heap.size, 9, none⟩ (.int .i64 Z6)).setCell ⟨v2.heap.size, 10, none⟩ (.int .i64 Z7)) := ⟨_, rfl⟩
                  rw [← hV]
                  rw [← hV] at hbV0 hRY0 Y10
                  have hY : Hid (V.heap[v2.heap.size]? = some (.cells #[.slice E1 L1 F1, .slice E2 L2 F2, .slice E3 L3 F3, .slice E4 L4 F4, .int .i64 Z1, .int .i64 Z2, .int .i64 Z3, .int .i64 Z4, .int .i64 Z5, .int .i64 Z6, .int .i64 Z7] 29 (0, 0))) := Y10
                  have hbV : Hid (Below W2.heap.size W2 V) := hbV0
                  have hRY : ROwn _ V E1 L1 F1 E2 L2 F2 E3 L3 F3 E4 L4 F4 ⟨X1, X2, X3, X4, Z1, Z2, Z3, Z4, Z5, Z6, Z7⟩ := hRY0
                  have hlow := Nat.lt_of_lt_of_le (ob_ltB HP2.out) (bz).size
                  clear hV hgz hbV0 hRY0
                  obtain ⟨z1', z2', z3', z4'⟩ := hRY.len
                  dsimp only at z1' z2' z3' z4'
                  obtain ⟨q1, q2, q3, q4⟩ := HQ.out
                  obtain rfl : M1 = L1 := q1.symm.trans z1'
                  obtain rfl : M2 = L2 := q2.symm.trans z2'
                  obtain rfl : M3 = L3 := q3.symm.trans z3'
                  obtain rfl : M4 = L4 := q4.symm.trans z4'
                  have hP1 : Hid (V.heap[P1]? = some (.cells #[.slice D1 M1 G1, .slice D2 M2 G2, .slice D3 M3 G3, .slice D4 M4 G4, .int .i64 Z1, .int .i64 Z2, .int .i64 Z3, .int .i64 Z4, .int .i64 Z5, .int .i64 Z6, .int .i64 Z7] 29 (0, 0))) := ((hbV.out.block _ (ob_ltB HP2.out)).trans HP2.out : _ = _)
                  have hIX : Hid (RIx P1 V E1 M1 F1 E2 M2 F2 E3 M3 F3 E4 M4 F4 ⟨X1, X2, X3, X4, Z1, Z2, Z3, Z4, Z5, Z6, Z7⟩) := (rix_own hRY hlow HCX.out : RIx _ _ _ _ _ _ _ _ _ _ _ _ _ _ _)
                  go_wp2_with fail
                  go_meet
                  case rel => exact ⟨E1, F1, E2, F2, E3, F3, E4, F4, v2.heap.size, rfl, rfl, hY, hP1, hIX, hbV⟩
              · skip
                go_simp
                refine hK.out _ _ (HV2.out _ ((b1.alloc (b1).size (.cells #[.slice none 0 0, .slice none 0 0, .slice none 0 0, .slice none 0 0, .int .i64 0, .int .i64 0, .int .i64 0, .int .i64 0, .int .i64 0, .int .i64 0, .int .i64 0] 29)))) (fun hHeld => ?_)
                clear hK K
                have bz : Below W2.heap.size W2 (v1.alloc (.cells #[.slice none 0 0, .slice none 0 0, .slice none 0 0, .slice none 0 0, .int .i64 0, .int .i64 0, .int .i64 0, .int .i64 0, .int .i64 0, .int .i64 0, .int .i64 0] 29)) := (b1.alloc (b1).size (.cells #[.slice none 0 0, .slice none 0 0, .slice none 0 0, .slice none 0 0, .int .i64 0, .int .i64 0, .int .i64 0, .int .i64 0, .int .i64 0, .int .i64 0, .int .i64 0] 29))
                have zz := (heap_alloc_new v1 (.cells #[.slice none 0 0, .slice none 0 0, .slice none 0 0, .slice none 0 0, .int .i64 0, .int .i64 0, .int .i64 0, .int .i64 0, .int .i64 0, .int .i64 0, .int .i64 0] 29))
                refine wpAnyH_ready (rs := [2]) (by kernel_rfl) (by simp) ?_
                refine AllReadyH.cons rfl (fun K hK => ?_) AllReadyH.nil
                go_simp; go_at_call 17; refine (hedc _ bz).mono ?_; rintro e v2 ⟨ga, gc, rfl, her, h2⟩; have b2 := bz.trans (h2.mono (bz).size); have z2 := (h2.block _ (ob_ltB zz)).trans zz
                refine hK.out _ _ (HV2.out _ b2) (fun hHeld => ?_)
                clear hK K
                try go_frame
                have c2 := Below.refl v2.heap.size v2
                refine wpAnyH_ready (rs := [3]) (by kernel_rfl) (by simp) ?_
                refine AllReadyH.cons rfl (fun K hK => ?_) AllReadyH.nil
                go_simp; go_at_call 10; refine (hapc _ ga gc (her.below c2 (Nat.le_refl _))).mono ?_; rintro e v3 ⟨E1, L1, F1, E2, L2, F2, E3, L3, F3, E4, L4, F4, rfl, hro, h3⟩; have b3 := b2.trans (h3.mono (b2).size); have c3 := c2.trans (h3.mono (c2).size); have z3 := (h3.block _ (ob_ltB z2)).trans z2; have zc0 := (blkc z3).1 0; have zf0 := (blkc z3).2 0; have zc1 := (blkc z3).1 1; have zf1 := (blkc z3).2 1; have zc2 := (blkc z3).1 2; have zf2 := (blkc z3).2 2; have zc3 := (blkc z3).1 3; have zf3 := (blkc z3).2 3; have zc4 := (blkc z3).1 4; have zf4 := (blkc z3).2 4; have zc5 := (blkc z3).1 5; have zf5 := (blkc z3).2 5; have zc6 := (blkc z3).1 6; have zf6 := (blkc z3).2 6; have zc7 := (blkc z3).1 7; have zf7 := (blkc z3).2 7; have zc8 := (blkc z3).1 8; have zf8 := (blkc z3).2 8; have zc9 := (blkc z3).1 9; have zf9 := (blkc z3).2 9; have zc10 := (blkc z3).1 10; have zf10 := (blkc z3).2 10
                refine hK.out _ _ (HV2.out _ b3) (fun hHeld => ?_)
                clear hK K
                try go_frame
                refine wpAnyH_take (i := 4) (oi := ⟨some 38, _, _, _, _, _⟩) (v := ?_) rfl (by kernel_rfl) (by kernel_rfl) (by kernel_rfl) (fun _ _ _ h => h) (Or.inl ⟨by rfl, ?_⟩) (by assumption) ?_
                rotate_left
                · intro w hSw; (try dsimp only at hSw); go_simp <;> (try with_reducible rfl)
                go_frame
                refine wpAnyH_take (i := 5) (oi := ⟨some 43, _, _, _, _, _⟩) (v := ?_) rfl (by kernel_rfl) (by kernel_rfl) (by kernel_rfl) (fun _ _ _ h => h) (Or.inl ⟨by rfl, ?_⟩) (by assumption) ?_
                rotate_left
                · intro w hSw; (try dsimp only at hSw); go_simp <;> (try with_reducible rfl)
                go_frame
                refine wpAnyH_take (i := 6) (oi := ⟨some 44, _, _, _, _, _⟩) (v := ?_) rfl (by kernel_rfl) (by kernel_rfl) (by kernel_rfl) (fun _ _ _ h => h) (Or.inl ⟨by rfl, ?_⟩) (by assumption) ?_
                rotate_left
                · intro w hSw; (try dsimp only at hSw); go_simp <;> (try with_reducible rfl)
                go_frame
                refine wpAnyH_ready (rs := [8]) (by kernel_rfl) (by simp) ?_
                refine AllReadyH.cons rfl (fun K hK => ?_) AllReadyH.nil
                go_simp
                refine hK.out _ _ (HV2.out _ (below_grownB b3 (turned_setL (v1.heap.size) [.slice E1 L1 F1, .slice E2 L2 F2, .slice E3 L3 F3, .slice E4 L4 F4, .int .i64 Z1, .int .i64 Z2, .int .i64 Z3, .int .i64 Z4, .int .i64 Z5, .int .i64 Z6, .int .i64 Z7] 0 v3) (b3).size (fun q hq => by cases hq; exact b1.size))) (fun hHeld => ?_)
                clear hK K
                refine wpAnyH_take (i := 9) (oi := ⟨some 8, _, _, _, _, _⟩) (v := ?_) rfl (by kernel_rfl) (by kernel_rfl) (by kernel_rfl) (fun _ _ _ h => h) (Or.inl ⟨by rfl, ?_⟩) (by assumption) ?_
                rotate_left
                · intro w hSw; (try dsimp only at hSw); go_simp <;> (try with_reducible rfl)
                go_frame
                refine wpAnyH_done (by kernel_rfl) ?_ _
                have Y0 : (v3.setCell ⟨v1.heap.size, 0, none⟩ (.slice E1 L1 F1)).heap[v1.heap.size]? = some (.cells #[.slice E1 L1 F1, .slice none 0 0, .slice none 0 0, .slice none 0 0, .int .i64 0, .int .i64 0, .int .i64 0, .int .i64 0, .int .i64 0, .int .i64 0, .int .i64 0] 29 (0, 0)) := bput z3 _ rfl
                have Y1 : ((v3.setCell ⟨v1.heap.size, 0, none⟩ (.slice E1 L1 F1)).setCell ⟨v1.heap.size, 1, none⟩ (.slice E2 L2 F2)).heap[v1.heap.size]? = some (.cells #[.slice E1 L1 F1, .slice E2 L2 F2, .slice none 0 0, .slice none 0 0, .int .i64 0, .int .i64 0, .int .i64 0, .int .i64 0, .int .i64 0, .int .i64 0, .int .i64 0] 29 (0, 0)) := bput Y0 _ rfl
                have Y2 : (((v3.setCell ⟨v1.heap.size, 0, none⟩ (.slice E1 L1 F1)).setCell ⟨v1.heap.size, 1, none⟩ (.slice E2 L2 F2)).setCell ⟨v1.heap.size, 2, none⟩ (.slice E3 L3 F3)).heap[v1.heap.size]? = some (.cells #[.slice E1 L1 F1, .slice E2 L2 F2, .slice E3 L3 F3, .slice none 0 0, .int .i64 0, .int .i64 0, .int .i64 0, .int .i64 0, .int .i64 0, .int .i64 0, .int .i64 0] 29 (0, 0)) := bput Y1 _ rfl
                have Y3 : ((((v3.setCell ⟨v1.heap.size, 0, none⟩ (.slice E1 L1 F1)).setCell ⟨v1.heap.size, 1, none⟩ (.slice E2 L2 F2)).setCell ⟨v1.heap.size, 2, none⟩ (.slice E3 L3 F3)).setCell ⟨v1.heap.size, 3, none⟩ (.slice E4 L4 F4)).heap[v1.heap.size]? = some (.cells #[.slice E1 L1 F1, .slice E2 L2 F2, .slice E3 L3 F3, .slice E4 L4 F4, .int .i64 0, .int .i64 0, .int .i64 0, .int .i64 0, .int .i64 0, .int .i64 0, .int .i64 0] 29 (0, 0)) := bput Y2 _ rfl
                have Y4 : (((((v3.setCell ⟨v1.heap.size, 0, none⟩ (.slice E1 L1 F1)).setCell ⟨v1.heap.size, 1, none⟩ (.slice E2 L2 F2)).setCell ⟨v1.heap.size, 2, none⟩ (.slice E3 L3 F3)).setCell ⟨v1.heap.size, 3, none⟩ (.slice E4 L4 F4)).setCell ⟨v1.heap.size, 4, none⟩ (.int .i64 Z1)).heap[v1.heap.size]? = some (.cells #[.slice E1 L1 F1, .slice E2 L2 F2, .slice E3 L3 F3, .slice E4 L4 F4, .int .i64 Z1, .int .i64 0, .int .i64 0, .int .i64 0, .int .i64 0, .int .i64 0, .int .i64 0] 29 (0, 0)) := bput Y3 _ rfl
                have Y5 : ((((((v3.setCell ⟨v1.heap.size, 0, none⟩ (.slice E1 L1 F1)).setCell ⟨v1.heap.size, 1, none⟩ (.slice E2 L2 F2)).setCell ⟨v1.heap.size, 2, none⟩ (.slice E3 L3 F3)).setCell ⟨v1.heap.size, 3, none⟩ (.slice E4 L4 F4)).setCell ⟨v1.heap.size, 4, none⟩ (.int .i64 Z1)).setCell ⟨v1.heap.size, 5, none⟩ (.int .i64 Z2)).heap[v1.heap.size]? = some (.cells #[.slice E1 L1 F1, .slice E2 L2 F2, .slice E3 L3 F3, .slice E4 L4 F4, .int .i64 Z1, .int .i64 Z2, .int .i64 0, .int .i64 0, .int .i64 0, .int .i64 0, .int .i64 0] 29 (0, 0)) := bput Y4 _ rfl
                have Y6 : (((((((v3.setCell ⟨v1.heap.size, 0, none⟩ (.slice E1 L1 F1)).setCell ⟨v1.heap.size, 1, none⟩ (.slice E2 L2 F2)).setCell ⟨v1.heap.size, 2, none⟩ (.slice E3 L3 F3)).setCell ⟨v1.heap.size, 3, none⟩ (.slice E4 L4 F4)).setCell ⟨v1.heap.size, 4, none⟩ (.int .i64 Z1)).setCell ⟨v1.heap.size, 5, none⟩ (.int .i64 Z2)).setCell ⟨v1.heap.size, 6, none⟩ (.int .i64 Z3)).heap[v1.heap.size]? = some (.cells #[.slice E1 L1 F1, .slice E2 L2 F2, .slice E3 L3 F3, .slice E4 L4 F4, .int .i64 Z1, .int .i64 Z2, .int .i64 Z3, .int .i64 0, .int .i64 0, .int .i64 0, .int .i64 0] 29 (0, 0)) := bput Y5 _ rfl
                have Y7 : ((((((((v3.setCell ⟨v1.heap.size, 0, none⟩ (.slice E1 L1 F1)).setCell ⟨v1.heap.size, 1, none⟩ (.slice E2 L2 F2)).setCell ⟨v1.heap.size, 2, none⟩ (.slice E3 L3 F3)).setCell ⟨v1.heap.size, 3, none⟩ (.slice E4 L4 F4)).setCell ⟨v1.heap.size, 4, none⟩ (.int .i64 Z1)).setCell ⟨v1.heap.size, 5, none⟩ (.int .i64 Z2)).setCell ⟨v1.heap.size, 6, none⟩ (.int .i64 Z3)).setCell ⟨v1.heap.size, 7, none⟩ (.int .i64 Z4)).heap[v1.heap.size]? = some (.cells #[.slice E1 L1 F1, .slice E2 L2 F2, .slice E3 L3 F3, .slice E4 L4 F4, .int .i64 Z1, .int .i64 Z2, .int .i64 Z3, .int .i64 Z4, .int .i64 0, .int .i64 0, .int .i64 0] 29 (0, 0)) := bput Y6 _ rfl
                have Y8 : (((((((((v3.setCell ⟨v1.heap.size, 0, none⟩ (.slice E1 L1 F1)).setCell ⟨v1.heap.size, 1, none⟩ (.slice E2 L2 F2)).setCell ⟨v1.heap.size, 2, none⟩ (.slice E3 L3 F3)).setCell ⟨v1.heap.size, 3, none⟩ (.slice E4 L4 F4)).setCell ⟨v1.heap.size, 4, none⟩ (.int .i64 Z1)).setCell ⟨v1.heap.size, 5, none⟩ (.int .i64 Z2)).setCell ⟨v1.heap.size, 6, none⟩ (.int .i64 Z3)).setCell ⟨v1.heap.size, 7, none⟩ (.int .i64 Z4)).setCell ⟨v1.heap.size, 8, none⟩ (.int .i64 Z5)).heap[v1.heap.size]? = some (.cells #[.slice E1 L1 F1, .slice E2 L2 F2, .slice E3 L3 F3, .slice E4 L4 F4, .int .i64 Z1, .int .i64 Z2, .int .i64 Z3, .int .i64 Z4, .int .i64 Z5, .int .i64 0, .int .i64 0] 29 (0, 0)) := bput Y7 _ rfl
                have Y9 : ((((((((((v3.setCell ⟨v1.heap.size, 0, none⟩ (.slice E1 L1 F1)).setCell ⟨v1.heap.size, 1, none⟩ (.slice E2 L2 F2)).setCell ⟨v1.heap.size, 2, none⟩ (.slice E3 L3 F3)).setCell ⟨v1.heap.size, 3, none⟩ (.slice E4 L4 F4)).setCell ⟨v1.heap.size, 4, none⟩ (.int .i64 Z1)).setCell ⟨v1.heap.size, 5, none⟩ (.int .i64 Z2)).setCell ⟨v1.heap.size, 6, none⟩ (.int .i64 Z3)).setCell ⟨v1.heap.size, 7, none⟩ (.int .i64 Z4)).setCell ⟨v1.heap.size, 8, none⟩ (.int .i64 Z5)).setCell ⟨v1.heap.size, 9, none⟩ (.int .i64 Z6)).heap[v1.heap.size]? = some (.cells #[.slice E1 L1 F1, .slice E2 L2 F2, .slice E3 L3 F3, .slice E4 L4 F4, .int .i64 Z1, .int .i64 Z2, .int .i64 Z3, .int .i64 Z4, .int .i64 Z5, .int .i64 Z6, .int .i64 0] 29 (0, 0)) := bput Y8 _ rfl
                have Y10 : (((((((((((v3.setCell ⟨v1.heap.size, 0, none⟩ (.slice E1 L1 F1)).setCell ⟨v1.heap.size, 1, none⟩ (.slice E2 L2 F2)).setCell ⟨v1.heap.size, 2, none⟩ (.slice E3 L3 F3)).setCell ⟨v1.heap.size, 3, none⟩ (.slice E4 L4 F4)).setCell ⟨v1.heap.size, 4, none⟩ (.int .i64 Z1)).setCell ⟨v1.heap.size, 5, none⟩ (.int .i64 Z2)).setCell ⟨v1.heap.size, 6, none⟩ (.int .i64 Z3)).setCell ⟨v1.heap.size, 7, none⟩ (.int .i64 Z4)).setCell ⟨v1.heap.size, 8, none⟩ (.int .i64 Z5)).setCell ⟨v1.heap.size, 9, none⟩ (.int .i64 Z6)).setCell ⟨v1.heap.size, 10, none⟩ (.int .i64 Z7)).heap[v1.heap.size]? = some (.cells #[.slice E1 L1 F1, .slice E2 L2 F2, .slice E3 L3 F3, .slice E4 L4 F4, .int .i64 Z1, .int .i64 Z2, .int .i64 Z3, .int .i64 Z4, .int .i64 Z5, .int .i64 Z6, .int .i64 Z7] 29 (0, 0)) := bput Y9 _ rfl
                have hgz : v3.grownBy (((((((((((v3.setCell ⟨v1.heap.size, 0, none⟩ (.slice E1 L1 F1)).setCell ⟨v1.heap.size, 1, none⟩ (.slice E2 L2 F2)).setCell ⟨v1.heap.size, 2, none⟩ (.slice E3 L3 F3)).setCell ⟨v1.heap.size, 3, none⟩ (.slice E4 L4 F4)).setCell ⟨v1.heap.size, 4, none⟩ (.int .i64 Z1)).setCell ⟨v1.heap.size, 5, none⟩ (.int .i64 Z2)).setCell ⟨v1.heap.size, 6, none⟩ (.int .i64 Z3)).setCell ⟨v1.heap.size, 7, none⟩ (.int .i64 Z4)).setCell ⟨v1.heap.size, 8, none⟩ (.int .i64 Z5)).setCell ⟨v1.heap.size, 9, none⟩ (.int .i64 Z6)).setCell ⟨v1.heap.size, 10, none⟩ (.int .i64 Z7)) (some (v1.heap.size)) := turned_setL (v1.heap.size) [.slice E1 L1 F1, .slice E2 L2 F2, .slice E3 L3 F3, .slice E4 L4 F4, .int .i64 Z1, .int .i64 Z2, .int .i64 Z3, .int .i64 Z4, .int .i64 Z5, .int .i64 Z6, .int .i64 Z7] 0 v3
                have hbV0 : Below W2.heap.size W2 (((((((((((v3.setCell ⟨v1.heap.size, 0, none⟩ (.slice E1 L1 F1)).setCell ⟨v1.heap.size, 1, none⟩ (.slice E2 L2 F2)).setCell ⟨v1.heap.size, 2, none⟩ (.slice E3 L3 F3)).setCell ⟨v1.heap.size, 3, none⟩ (.slice E4 L4 F4)).setCell ⟨v1.heap.size, 4, none⟩ (.int .i64 Z1)).setCell ⟨v1.heap.size, 5, none⟩ (.int .i64 Z2)).setCell ⟨v1.heap.size, 6, none⟩ (.int .i64 Z3)).setCell ⟨v1.heap.size, 7, none⟩ (.int .i64 Z4)).setCell ⟨v1.heap.size, 8, none⟩ (.int .i64 Z5)).setCell ⟨v1.heap.size, 9, none⟩ (.int .i64 Z6)).setCell ⟨v1.heap.size, 10, none⟩ (.int .i64 Z7)) := below_grownB b3 hgz b3.size (fun q hq => by cases hq; exact b1.size)
                have hRY0 := hro.other z3 hgz
                obtain ⟨V, hV⟩ : ∃ V, V = (((((((((((v3.setCell ⟨v1.heap.size, 0, none⟩ (.slice E1 L1 F1)).setCell ⟨v1.heap.size, 1, none⟩ (.slice E2 L2 F2)).setCell ⟨v1.heap.size, 2, none⟩ (.slice E3 L3 F3)).setCell ⟨v1.heap.size, 3, none⟩ (.slice E4 L4 F4)).setCell ⟨v1.heap.size, 4, none⟩ (.int .i64 Z1)).setCell ⟨v1.heap.size, 5, none⟩ (.int .i64 Z2)).setCell ⟨v1.heap.size, 6, none⟩ (.int .i64 Z3)).setCell ⟨v1.heap.size, 7, none⟩ (.int .i64 Z4)).setCell ⟨v1.heap.size, 8, none⟩ (.int .i64 Z5)).setCell ⟨v1.heap.size, 9, none⟩ (.int .i64 Z6)).setCell ⟨v1.heap.size, 10, none⟩ (.int .i64 Z7)) := ⟨_, rfl⟩
                rw [← hV]
                rw [← hV] at hbV0 hRY0 Y10
                have hY : Hid (V.heap[v1.heap.size]? = some (.cells #[.slice E1 L1 F1, .slice E2 L2 F2, .slice E3 L3 F3, .slice E4 L4 F4, .int .i64 Z1, .int .i64 Z2, .int .i64 Z3, .int .i64 Z4, .int .i64 Z5, .int .i64 Z6, .int .i64 Z7] 29 (0, 0))) := Y10
                have hbV : Hid (Below W2.heap.size W2 V) := hbV0
                have hRY : ROwn _ V E1 L1 F1 E2 L2 F2 E3 L3 F3 E4 L4 F4 ⟨X1, X2, X3, X4, Z1, Z2, Z3, Z4, Z5, Z6, Z7⟩ := hRY0
                have hlow := Nat.lt_of_lt_of_le (ob_ltB HP2.out) (b2).size
                clear hV hgz hbV0 hRY0
                obtain ⟨z1', z2', z3', z4'⟩ := hRY.len
                dsimp only at z1' z2' z3' z4'
                obtain ⟨q1, q2, q3, q4⟩ := HQ.out
                obtain rfl : M1 = L1 := q1.symm.trans z1'
                obtain rfl : M2 = L2 := q2.symm.trans z2'
                obtain rfl : M3 = L3 := q3.symm.trans z3'
                obtain rfl : M4 = L4 := q4.symm.trans z4'
                have hP1 : Hid (V.heap[P1]? = some (.cells #[.slice D1 M1 G1, .slice D2 M2 G2, .slice D3 M3 G3, .slice D4 M4 G4, .int .i64 Z1, .int .i64 Z2, .int .i64 Z3, .int .i64 Z4, .int .i64 Z5, .int .i64 Z6, .int .i64 Z7] 29 (0, 0))) := ((hbV.out.block _ (ob_ltB HP2.out)).trans HP2.out : _ = _)
                have hIX : Hid (RIx P1 V E1 M1 F1 E2 M2 F2 E3 M3 F3 E4 M4 F4 ⟨X1, X2, X3, X4, Z1, Z2, Z3, Z4, Z5, Z6, Z7⟩) := (rix_own hRY hlow HCX.out : RIx _ _ _ _ _ _ _ _ _ _ _ _ _ _ _)
                go_wp2_with fail
                go_meet
                case rel => exact ⟨E1, F1, E2, F2, E3, F3, E4, F4, v1.heap.size, rfl, rfl, hY, hP1, hIX, hbV⟩
            · skip
              go_simp
              refine hK.out _ _ (HV2.out _ (((below_alloc _ _).drew : Below W2.heap.size W2 _))) (fun hHeld => ?_)
              clear hK K
              have bz : Below W2.heap.size W2 (W2.alloc (.cells #[.slice none 0 0, .slice none 0 0, .slice none 0 0, .slice none 0 0, .int .i64 0, .int .i64 0, .int .i64 0, .int .i64 0, .int .i64 0, .int .i64 0, .int .i64 0] 29)).drew := ((below_alloc _ _).drew : Below W2.heap.size W2 _)
              have zz := (heap_alloc_new W2 (.cells #[.slice none 0 0, .slice none 0 0, .slice none 0 0, .slice none 0 0, .int .i64 0, .int .i64 0, .int .i64 0, .int .i64 0, .int .i64 0, .int .i64 0, .int .i64 0] 29) : (W2.alloc (.cells #[.slice none 0 0, .slice none 0 0, .slice none 0 0, .slice none 0 0, .int .i64 0, .int .i64 0, .int .i64 0, .int .i64 0, .int .i64 0, .int .i64 0, .int .i64 0] 29)).drew.heap[W2.heap.size]? = _)
              refine wpAnyH_ready (rs := [0]) (by kernel_rfl) (by simp) ?_
              refine AllReadyH.cons rfl (fun K hK => ?_) AllReadyH.nil
              go_simp; go_at_call 16; refine (rfirst_any _).mono ?_; rintro e v1 ⟨rfl, h1⟩; have b1 := bz.trans (h1.mono (bz).size); have z1 := (h1.block _ (ob_ltB zz)).trans zz
              refine hK.out _ _ (HV2.out _ b1) (fun hHeld => ?_)
              clear hK K
              try go_frame
              refine wpAnyH_ready (rs := [2]) (by kernel_rfl) (by simp) ?_
              refine AllReadyH.cons rfl (fun K hK => ?_) AllReadyH.nil
              go_simp; go_at_call 17; refine (hedc _ b1).mono ?_; rintro e v2 ⟨ga, gc, rfl, her, h2⟩; have b2 := b1.trans (h2.mono (b1).size); have z2 := (h2.block _ (ob_ltB z1)).trans z1
              refine hK.out _ _ (HV2.out _ b2) (fun hHeld => ?_)
              clear hK K
              try go_frame
              have c2 := Below.refl v2.heap.size v2
              refine wpAnyH_ready (rs := [3]) (by kernel_rfl) (by simp) ?_
              refine AllReadyH.cons rfl (fun K hK => ?_) AllReadyH.nil
              go_simp; go_at_call 10; refine (hapc _ ga gc (her.below c2 (Nat.le_refl _))).mono ?_; rintro e v3 ⟨E1, L1, F1, E2, L2, F2, E3, L3, F3, E4, L4, F4, rfl, hro, h3⟩; have b3 := b2.trans (h3.mono (b2).size); have c3 := c2.trans (h3.mono (c2).size); have z3 := (h3.block _ (ob_ltB z2)).trans z2; have zc0 := (blkc z3).1 0; have zf0 := (blkc z3).2 0; have zc1 := (blkc z3).1 1; have zf1 := (blkc z3).2 1; have zc2 := (blkc z3).1 2; have zf2 := (blkc z3).2 2; have zc3 := (blkc z3).1 3; have zf3 := (blkc z3).2 3; have zc4 := (blkc z3).1 4; have zf4 := (blkc z3).2 4; have zc5 := (blkc z3).1 5; have zf5 := (blkc z3).2 5; have zc6 := (blkc z3).1 6; have zf6 := (blkc z3).2 6; have zc7 := (blkc z3).1 7; have zf7 := (blkc z3).2 7; have zc8 := (blkc z3).1 8; have zf8 := (blkc z3).2 8; have zc9 := (blkc z3).1 9; have zf9 := (blkc z3).2 9; have zc10 := (blkc z3).1 10; have zf10 := (blkc z3).2 10
              refine hK.out _ _ (HV2.out _ b3) (fun hHeld => ?_)
              clear hK K
              try go_frame
              refine wpAnyH_take (i := 4) (oi := ⟨some 38, _, _, _, _, _⟩) (v := ?_) rfl (by kernel_rfl) (by kernel_rfl) (by kernel_rfl) (fun _ _ _ h => h) (Or.inl ⟨by rfl, ?_⟩) (by assumption) ?_
              rotate_left
              · intro w hSw; (try dsimp only at hSw); go_simp <;> (try with_reducible rfl)
              go_frame
              refine wpAnyH_take (i := 5) (oi := ⟨some 43, _, _, _, _, _⟩) (v := ?_) rfl (by kernel_rfl) (by kernel_rfl) (by kernel_rfl) (fun _ _ _ h => h) (Or.inl ⟨by rfl, ?_⟩) (by assumption) ?_
              rotate_left
              · intro w hSw; (try dsimp only at hSw); go_simp <;> (try with_reducible rfl)
              go_frame
              refine wpAnyH_take (i := 6) (oi := ⟨some 44, _, _, _, _, _⟩) (v := ?_) rfl (by kernel_rfl) (by kernel_rfl) (by kernel_rfl) (fun _ _ _ h => h) (Or.inl ⟨by rfl, ?_⟩) (by assumption) ?_
              rotate_left
              · intro w hSw; (try dsimp only at hSw); go_simp <;> (try with_reducible rfl)
              go_frame
              refine wpAnyH_ready (rs := [8]) (by kernel_rfl) (by simp) ?_
              refine AllReadyH.cons rfl (fun K hK => ?_) AllReadyH.nil
              go_simp
              refine hK.out _ _ (HV2.out _ (below_grownB b3 (turned_setL (W2.heap.size) [.slice E1 L1 F1, .slice E2 L2 F2, .slice E3 L3 F3, .slice E4 L4 F4, .int .i64 Z1, .int .i64 Z2, .int .i64 Z3, .int .i64 Z4, .int .i64 Z5, .int .i64 Z6, .int .i64 Z7] 0 v3) (b3).size (fun q hq => by cases hq; exact (Nat.le_refl _)))) (fun hHeld => ?_)
              clear hK K
              refine wpAnyH_take (i := 9) (oi := ⟨some 8, _, _, _, _, _⟩) (v := ?_) rfl (by kernel_rfl) (by kernel_rfl) (by kernel_rfl) (fun _ _ _ h => h) (Or.inl ⟨by rfl, ?_⟩) (by assumption) ?_
              rotate_left
              · intro w hSw; (try dsimp only at hSw); go_simp <;> (try with_reducible rfl)
              go_frame
              refine wpAnyH_done (by kernel_rfl) ?_ _
              have Y0 : (v3.setCell ⟨W2.heap.size, 0, none⟩ (.slice E1 L1 F1)).heap[W2.heap.size]? = some (.cells #[.slice E1 L1 F1, .slice none 0 0, .slice none 0 0, .slice none 0 0, .int .i64 0, .int .i64 0, .int .i64 0, .int .i64 0, .int .i64 0, .int .i64 0, .int .i64 0] 29 (0, 0)) := bput z3 _ rfl
              have Y1 : ((v3.setCell ⟨W2.heap.size, 0, none⟩ (.slice E1 L1 F1)).setCell ⟨W2.heap.size, 1, none⟩ (.slice E2 L2 F2)).heap[W2.heap.size]? = some (.cells #[.slice E1 L1 F1, .slice E2 L2 F2, .slice none 0 0, .slice none 0 0, .int .i64 0, .int .i64 0, .int .i64 0, .int .i64 0, .int .i64 0, .int .i64 0, .int .i64 0] 29 (0, 0)) := bput Y0 _ rfl
              have Y2 : (((v3.setCell ⟨W2.heap.size, 0, none⟩ (.slice E1 L1 F1)).setCell ⟨W2.heap.size, 1, none⟩ (.slice E2 L2 F2)).setCell ⟨W2.heap.size, 2, none⟩ (.slice E3 L3 F3)).heap[W2.heap.size]? = some (.cells #[.slice E1 L1 F1, .slice E2 L2 F2, .slice E3 L3 F3, .slice none 0 0, .int .i64 0, .int .i64 0, .int .i64 0, .int .i64 0, .int .i64 0, .int .i64 0, .int .i64 0] 29 (0, 0)) := bput Y1 _ rfl
              have Y3 : ((((v3.setCell ⟨W2.heap.size, 0, none⟩ (.slice E1 L1 F1)).setCell ⟨W2.heap.size, 1, none⟩ (.slice E2 L2 F2)).setCell ⟨W2.heap.size, 2, none⟩ (.slice E3 L3 F3)).setCell ⟨W2.heap.size, 3, none⟩ (.slice E4 L4 F4)).heap[W2.heap.size]? = some (.cells #[.slice E1 L1 F1, .slice E2 L2 F2, .slice E3 L3 F3, .slice E4 L4 F4, .int .i64 0, .int .i64 0, .int .i64 0, .int .i64 0, .int .i64 0, .int .i64 0, .int .i64 0] 29 (0, 0)) := bput Y2 _ rfl
              have Y4 : (((((v3.setCell ⟨W2.heap.size, 0, none⟩ (.slice E1 L1 F1)).setCell ⟨W2.heap.size, 1, none⟩ (.slice E2 L2 F2)).setCell ⟨W2.heap.size, 2, none⟩ (.slice E3 L3 F3)).setCell ⟨W2.heap.size, 3, none⟩ (.slice E4 L4 F4)).setCell ⟨W2.heap.size, 4, none⟩ (.int .i64 Z1)).heap[W2.heap.size]? = some (.cells #[.slice E1 L1 F1, .slice E2 L2 F2, .slice E3 L3 F3, .slice E4 L4 F4, .int .i64 Z1, .int .i64 0, .int .i64 0, .int .i64 0, .int .i64 0, .int .i64 0, .int .i64 0] 29 (0, 0)) := bput Y3 _ rfl
              have Y5 : ((((((v3.setCell ⟨W2.heap.size, 0, none⟩ (.slice E1 L1 F1)).setCell ⟨W2.heap.size, 1, none⟩ (.slice E2 L2 F2)).setCell ⟨W2.heap.size, 2, none⟩ (.slice E3 L3 F3)).setCell ⟨W2.heap.size, 3, none⟩ (.slice E4 L4 F4)).setCell ⟨W2.heap.size, 4, none⟩ (.int .i64 Z1)).setCell ⟨W2.heap.size, 5, none⟩ (.int .i64 Z2)).heap[W2.heap.size]? = some (.cells #[.slice E1 L1 F1, .slice E2 L2 F2, .slice E3 L3 F3, .slice E4 L4 F4, .int .i64 Z1, .int .i64 Z2, .int .i64 0, .int .i64 0, .int .i64 0, .int .i64 0, .int .i64 0] 29 (0, 0)) := bput Y4 _ rfl
              have Y6 : (((((((v3.setCell ⟨W2.heap.size, 0, none⟩ (.slice E1 L1 F1)).setCell ⟨W2.heap.size, 1, none⟩ (.slice E2 L2 F2)).setCell ⟨W2.heap.size, 2, none⟩ (.slice E3 L3 F3)).setCell ⟨W2.heap.size, 3, none⟩ (.slice E4 L4 F4)).setCell ⟨W2.heap.size, 4, none⟩ (.int .i64 Z1)).setCell ⟨W2.heap.size, 5, none⟩ (.int .i64 Z2)).setCell ⟨W2.heap.size, 6, none⟩ (.int .i64 Z3)).heap[W2.heap.size]? = some (.cells #[.slice E1 L1 F1, .slice E2 L2 F2, .slice E3 L3 F3, .slice E4 L4 F4, .int .i64 Z1, .int .i64 Z2, .int .i64 Z3, .int .i64 0, .int .i64 0, .int .i64 0, .int .i64 0] 29 (0, 0)) := bput Y5 _ rfl
              have Y7 : ((((((((v3.setCell ⟨W2.heap.size, 0, none⟩ (.slice E1 L1 F1)).setCell ⟨W2.heap.size, 1, none⟩ (.slice E2 L2 F2)).setCell ⟨W2.heap.size, 2, none⟩ (.slice E3 L3 F3)).setCell ⟨W2.heap.size, 3, none⟩ (.slice E4 L4 F4)).setCell ⟨W2.heap.size, 4, none⟩ (.int .i64 Z1)).setCell ⟨W2.heap.size, 5, none⟩ (.int .i64 Z2)).setCell ⟨W2.heap.size, 6, none⟩ (.int .i64 Z3)).setCell ⟨W2.heap.size, 7, none⟩ (.int .i64 Z4)).heap[W2.heap.size]? = some (.cells #[.slice E1 L1 F1, .slice E2 L2 F2, .slice E3 L3 F3, .slice E4 L4 F4, .int .i64 Z1, .int .i64 Z2, .int .i64 Z3, .int .i64 Z4, .int .i64 0, .int .i64 0, .int .i64 0] 29 (0, 0)) := bput Y6 _ rfl
              have Y8 : (((((((((v3.setCell ⟨W2.heap.size, 0, none⟩ (.slice E1 L1 F1)).setCell ⟨W2.heap.size, 1, none⟩ (.slice E2 L2 F2)).setCell ⟨W2.heap.size, 2, none⟩ (.slice E3 L3 F3)).setCell ⟨W2.heap.size, 3, none⟩ (.slice E4 L4 F4)).setCell ⟨W2.heap.size, 4, none⟩ (.int .i64 Z1)).setCell ⟨W2.heap.size, 5, none⟩ (.int .i64 Z2)).setCell ⟨W2.heap.size, 6, none⟩ (.int .i64 Z3)).setCell ⟨W2.heap.size, 7, none⟩ (.int .i64 Z4)).setCell ⟨W2.heap.size, 8, none⟩ (.int .i64 Z5)).heap[W2.heap.size]? = some (.cells #[.slice E1 L1 F1, .slice E2 L2 F2, .slice E3 L3 F3, .slice E4 L4 F4, .int .i64 Z1, .int .i64 Z2, .int .i64 Z3, .int .i64 Z4, .int .i64 Z5, .int .i64 0, .int .i64 0] 29 (0, 0)) := bput Y7 _ rfl
              have Y9 : ((((((((((v3.setCell ⟨W2.heap.size, 0, none⟩ (.slice E1 L1 F1)).setCell ⟨W2.heap.size, 1, none⟩ (.slice E2 L2 F2)).setCell ⟨W2.heap.size, 2, none⟩ (.slice E3 L3 F3)).setCell ⟨W2.heap.size, 3, none⟩ (.slice E4 L4 F4)).setCell ⟨W2.heap.size, 4, none⟩ (.int .i64 Z1)).setCell ⟨W2.heap.size, 5, none⟩ (.int .i64 Z2)).setCell ⟨W2.heap.size, 6, none⟩ (.int .i64 Z3)).setCell ⟨W2.heap.size, 7, none⟩ (.int .i64 Z4)).setCell ⟨W2.heap.size, 8, none⟩ (.int .i64 Z5)).setCell ⟨W2.heap.size, 9, none⟩ (.int .i64 Z6)).heap[W2.heap.size]? = some (.cells #[.slice E1 L1 F1, .slice E2 L2 F2, .slice E3 L3 F3, .slice E4 L4 F4, .int .i64 Z1, .int .i64 Z2, .int .i64 Z3, .int .i64 Z4, .int .i64 Z5, .int .i64 Z6, .int .i64 0] 29 (0, 0)) := bput Y8 _ rfl
              have Y10 : (((((((((((v3.setCell ⟨W2.heap.size, 0, none⟩ (.slice E1 L1 F1)).setCell ⟨W2.heap.size, 1, none⟩ (.slice E2 L2 F2)).setCell ⟨W2.heap.size, 2, none⟩ (.slice E3 L3 F3)).setCell ⟨W2.heap.size, 3, none⟩ (.slice E4 L4 F4)).setCell ⟨W2.heap.size, 4, none⟩ (.int .i64 Z1)).setCell ⟨W2.heap.size, 5, none⟩ (.int .i64 Z2)).setCell ⟨W2.heap.size, 6, none⟩ (.int .i64 Z3)).setCell ⟨W2.heap.size, 7, none⟩ (.int .i64 Z4)).setCell ⟨W2.heap.size, 8, none⟩ (.int .i64 Z5)).setCell ⟨W2.heap.size, 9, none⟩ (.int .i64 Z6)).setCell ⟨W2.heap.size, 10, none⟩ (.int .i64 Z7)).heap[W2.heap.size]? = some (.cells #[.slice E1 L1 F1, .slice E2 L2 F2, .slice E3 L3 F3, .slice E4 L4 F4, .int .i64 Z1, .int .i64 Z2, .int .i64 Z3, .int .i64 Z4, .int .i64 Z5, .int .i64 Z6, .int .i64 Z7] 29 (0, 0)) := bput Y9 _ rfl
              have hgz : v3.grownBy (((((((((((v3.setCell ⟨W2.heap.size, 0, none⟩ (.slice E1 L1 F1)).setCell ⟨W2.heap.size, 1, none⟩ (.slice E2 L2 F2)).setCell ⟨W2.heap.size, 2, none⟩ (.slice E3 L3 F3)).setCell ⟨W2.heap.size, 3, none⟩ (.slice E4 L4 F4)).setCell ⟨W2.heap.size, 4, none⟩ (.int .i64 Z1)).setCell ⟨W2.heap.size, 5, none⟩ (.int .i64 Z2)).setCell ⟨W2.heap.size, 6, none⟩ (.int .i64 Z3)).setCell ⟨W2.heap.size, 7, none⟩ (.int .i64 Z4)).setCell ⟨W2.heap.size, 8, none⟩ (.int .i64 Z5)).setCell ⟨W2.heap.size, 9, none⟩ (.int .i64 Z6)).setCell ⟨W2.heap.size, 10, none⟩ (.int .i64 Z7)) (some (W2.heap.size)) := turned_setL (W2.heap.size) [.slice E1 L1 F1, .slice E2 L2 F2, .slice E3 L3 F3, .slice E4 L4 F4, .int .i64 Z1, .int .i64 Z2, .int .i64 Z3, .int .i64 Z4, .int .i64 Z5, .int .i64 Z6, .int .i64 Z7] 0 v3
              have hbV0 : Below W2.heap.size W2 (((((((((((v3.setCell ⟨W2.heap.size, 0, none⟩ (.slice E1 L1 F1)).setCell ⟨W2.heap.size, 1, none⟩ (.slice E2 L2 F2)).setCell ⟨W2.heap.size, 2, none⟩ (.slice E3 L3 F3)).setCell ⟨W2.heap.size, 3, none⟩ (.slice E4 L4 F4)).setCell ⟨W2.heap.size, 4, none⟩ (.int .i64 Z1)).setCell ⟨W2.heap.size, 5, none⟩ (.int .i64 Z2)).setCell ⟨W2.heap.size, 6, none⟩ (.int .i64 Z3)).setCell ⟨W2.heap.size, 7, none⟩ (.int .i64 Z4)).setCell ⟨W2.heap.size, 8, none⟩ (.int .i64 Z5)).setCell ⟨W2.heap.size, 9, none⟩ (.int .i64 Z6)).setCell ⟨W2.heap.size, 10, none⟩ (.int .i64 Z7)) := below_grownB b3 hgz b3.size (fun q hq => by cases hq; exact (Nat.le_refl _))
              have hRY0 := hro.other z3 hgz
              obtain ⟨V, hV⟩ : ∃ V, V = (((((((((((v3.setCell ⟨W2.heap.size, 0, none⟩ (.slice E1 L1 F1)).setCell ⟨W2.heap.size, 1, none⟩ (.slice E2 L2 F2)).setCell ⟨W2.heap.size, 2, none⟩ (.slice E3 L3 F3)).setCell ⟨W2.heap.size, 3, none⟩ (.slice E4 L4 F4)).setCell ⟨W2.heap.size, 4, none⟩ (.int .i64 Z1)).setCell ⟨W2.heap.size, 5, none⟩ (.int .i64 Z2)).setCell ⟨W2.heap.size, 6, none⟩ (.int .i64 Z3)).setCell ⟨W2.heap.size, 7, none⟩ (.int .i64 Z4)).setCell ⟨W2.heap.size, 8, none⟩ (.int .i64 Z5)).setCell ⟨W2.heap.size, 9, none⟩ (.int .i64 Z6)).setCell ⟨W2.heap.size, 10, none⟩ (.int .i64 Z7)) := ⟨_, rfl⟩
              rw [← hV]
              rw [← hV] at hbV0 hRY0 Y10
              have hY : Hid (V.heap[W2.heap.size]? = some (.cells #[.slice E1 L1 F1, .slice E2 L2 F2, .slice E3 L3 F3, .slice E4 L4 F4, .int .i64 Z1, .int .i64 Z2, .int .i64 Z3, .int .i64 Z4, .int .i64 Z5, .int .i64 Z6, .int .i64 Z7] 29 (0, 0))) := Y10
              have hbV : Hid (Below W2.heap.size W2 V) := hbV0
              have hRY : ROwn _ V E1 L1 F1 E2 L2 F2 E3 L3 F3 E4 L4 F4 ⟨X1, X2, X3, X4, Z1, Z2, Z3, Z4, Z5, Z6, Z7⟩ := hRY0
              have hlow := Nat.lt_of_lt_of_le (ob_ltB HP2.out) (b2).size
              clear hV hgz hbV0 hRY0
              obtain ⟨z1', z2', z3', z4'⟩ := hRY.len
              dsimp only at z1' z2' z3' z4'
              obtain ⟨q1, q2, q3, q4⟩ := HQ.out
              obtain rfl : M1 = L1 := q1.symm.trans z1'
              obtain rfl : M2 = L2 := q2.symm.trans z2'
              obtain rfl : M3 = L3 := q3.symm.trans z3'
              obtain rfl : M4 = L4 := q4.symm.trans z4'
              have hP1 : Hid (V.heap[P1]? = some (.cells #[.slice D1 M1 G1, .slice D2 M2 G2, .slice D3 M3 G3, .slice D4 M4 G4, .int .i64 Z1, .int .i64 Z2, .int .i64 Z3, .int .i64 Z4, .int .i64 Z5, .int .i64 Z6, .int .i64 Z7] 29 (0, 0))) := ((hbV.out.block _ (ob_ltB HP2.out)).trans HP2.out : _ = _)
              have hIX : Hid (RIx P1 V E1 M1 F1 E2 M2 F2 E3 M3 F3 E4 M4 F4 ⟨X1, X2, X3, X4, Z1, Z2, Z3, Z4, Z5, Z6, Z7⟩) := (rix_own hRY hlow HCX.out : RIx _ _ _ _ _ _ _ _ _ _ _ _ _ _ _)
              go_wp2_with fail
              go_meet
              case rel => exact ⟨E1, F1, E2, F2, E3, F3, E4, F4, W2.heap.size, rfl, rfl, hY, hP1, hIX, hbV⟩
          case rest =>
            clear hedc hapc HV2 fp0 fp1 fp2 fp3 fp4 fp5 fp6 fp7 fp8 fp9 fp10
            obtain ⟨E1, F1, E2, F2, E3, F3, E4, F4, gY, rfl, rfl, hY, hP1, hIY, hbW⟩ := hcut
            obtain ⟨V3, rfl⟩ : ∃ V3, V3 = wc := ⟨_, rfl⟩
            have hb23 : Hid (Below w.heap.size w V3) := (HB2.out.trans (hbW.out.mono HB2.out.size) : Below _ _ _)
            have hXV : Hid (RIx P1 V3 D1 M1 G1 D2 M2 G2 D3 M3 G3 D4 M4 G4 ⟨X1, X2, X3, X4, Z1, Z2, Z3, Z4, Z5, Z6, Z7⟩) := (HX2.out.go (grown_any hbW.out _) : RIx _ _ _ _ _ _ _ _ _ _ _ _ _ _ _)
            have hmy := rmay17_yes X1 X2 X3 X4 D1 M1 G1 D2 M2 G2 D3 M3 G3 D4 M4 G4 Z1 Z2 Z3 Z4 Z5 Z6 Z7 V3 (hXV.out _ (grown_any (Below.refl _ _) _)) HCX.out
            have hsm := fun W (hb : Below V3.heap.size V3 W) => rsame_eq X1 X2 X3 X4 E1 M1 F1 E2 M2 F2 E3 M3 F3 E4 M4 F4 Z1 Z2 Z3 Z4 Z5 Z6 Z7 D1 G1 D2 G2 D3 G3 D4 G4 W (hIY.out W (grown_any hb _)) (hXV.out W (grown_any hb _))
            have hcy := fun W (hb : Below V3.heap.size V3 W) => (blkc ((hb.block _ (ob_ltB hY.out)).trans hY.out)).1
            have hcp := fun W (hb : Below V3.heap.size V3 W) => (blkc ((hb.block _ (ob_ltB hP1.out)).trans hP1.out)).1
            have HCY : Hid (∀ W, Below V3.heap.size V3 W → ∀ i, W.cell? ⟨gY, i, none⟩ = (#[.slice E1 M1 F1, .slice E2 M2 F2, .slice E3 M3 F3, .slice E4 M4 F4, .int .i64 Z1, .int .i64 Z2, .int .i64 Z3, .int .i64 Z4, .int .i64 Z5, .int .i64 Z6, .int .i64 Z7] : Array Value)[i]?) := (hcy : ∀ W, _ → _)
            have HCP : Hid (∀ W, Below V3.heap.size V3 W → ∀ i, W.cell? ⟨P1, i, none⟩ = (#[.slice D1 M1 G1, .slice D2 M2 G2, .slice D3 M3 G3, .slice D4 M4 G4, .int .i64 Z1, .int .i64 Z2, .int .i64 Z3, .int .i64 Z4, .int .i64 Z5, .int .i64 Z6, .int .i64 Z7] : Array Value)[i]?) := (hcp : ∀ W, _ → _)
            have fa := HCP.out V3 (Below.refl _ _)
            have fp0 := fa 0
            have fp1 := fa 1
            have fp2 := fa 2
            have fp3 := fa 3
            have fp4 := fa 4
            have fp5 := fa 5
            have fp6 := fa 6
            have fp7 := fa 7
            have fp8 := fa 8
            have fp9 := fa 9
            have fp10 := fa 10
            clear hcy hcp fa
            go_wp2_with (first
              | (go_at_call 12; go_must (refine hmy.mono ?_; rintro e w4 ⟨rfl, hb4⟩; have fa := HCP.out w4 hb4; have ga := HCY.out w4 hb4; have gp0 := fa 0; have gy0 := ga 0; have gp1 := fa 1; have gy1 := ga 1; have gp2 := fa 2; have gy2 := ga 2; have gp3 := fa 3; have gy3 := ga 3; have gp4 := fa 4; have gy4 := ga 4; have gp5 := fa 5; have gy5 := ga 5; have gp6 := fa 6; have gy6 := ga 6; have gp7 := fa 7; have gy7 := ga 7; have gp8 := fa 8; have gy8 := ga 8; have gp9 := fa 9; have gy9 := ga 9; have gp10 := fa 10; have gy10 := ga 10; clear fa ga))
              | (go_at_call 14; go_must (refine (hsm _ hb4).mono ?_; rintro e w5 ⟨rfl, hb5⟩; have hb45 := hb4.trans (hb5.mono hb4.size))))
            go_roundg g
            case measure => omega
            case rel => exact ⟨k + 1, X1, X2, X3, X4, D1, M1, G1, D2, M2, G2, D3, M3, G3, D4, M4, G4, Z1, Z2, Z3, Z4, Z5, Z6, Z7, by omega, by go_num, HCX, ((hb45.block _ (ob_ltB hP1.out)).trans hP1.out : _ = _), (hXV.out.go (grown_any hb45 _) : RIx _ _ _ _ _ _ _ _ _ _ _ _ _ _ _), (hb23.out.trans (hb45.mono hb23.out.size) : Below _ _ _)⟩
    | zero =>
      obtain rfl : k = len := by omega
      have hedc : ∀ W, Calls Tryz.prog 17 #[.agg #[.slice none 0 0, .slice none 0 0, .slice none 0 0, .slice none 0 0, .int .i64 1, .int .i64 0, .int .i64 0, .int .i64 0, .int .i64 0, .int .i64 0, .int .i64 0]] W (fun e w' => ∃ g c, e = .returned (.slice g 0 c) ∧ Below W.heap.size W w') := fun W =>
        (redits_any [] [] [] [] none 0 0 none 0 0 none 0 0 none 0 0 1 0 0 0 0 0 0 W (rin_first W)).mono (by
          rintro e w' ⟨g, c, rfl, how, hbe⟩
          have h0 : (Ro.edits ⟨[], [], [], [], 1, 0, 0, 0, 0, 0, 0⟩).length = 0 := by have := Ro.edits_first; unfold Ro.first at this; rw [this]; rfl
          rw [h0]
          exact ⟨g, c, rfl, hbe⟩)
      have hsm := fun W => rsame_eq [] [] [] [] none 0 0 none 0 0 none 0 0 none 0 0 1 0 0 0 0 0 0 none 0 none 0 none 0 none 0 W (rin_first W) (rin_first W)
      clear HCK H1 HX
      go_wp2_with (first
        | (go_at_call 14; go_must (refine (hsm _).mono ?_; rintro e w5 ⟨rfl, hb5⟩; have b5 := b4.trans (hb5.mono b4.size)))
        | (go_at_call 17; go_must (refine (hedc _).mono ?_; rintro e w7 ⟨g, c, rfl, hb7⟩; have b7 := b6.trans (hb7.mono b6.size)))
        | (go_at_call 16; have := b5; go_must (refine (rfirst_any _).mono ?_; rintro e w6 ⟨rfl, hb6⟩; have b6 := b5.trans (hb6.mono b5.size)))
        | (go_at_call 16; go_must (refine (rfirst_any _).mono ?_; rintro e w3 ⟨rfl, b3⟩))
        | (go_at_call 18; go_must (refine (rfirst17_any _).mono ?_; rintro e w4 ⟨rfl, hb4⟩; have b4 := b3.trans (hb4.mono b3.size)))
        | (go_at_call 9; go_must (refine (hwa _).mono ?_; rintro e w8 ⟨rfl, hb8⟩; have b8 := b7.trans (hb8.mono b7.size))))
      go_ret
      exact ⟨rfl, HB.out.trans (b8.mono HB.out.size)⟩

set_option maxRecDepth 100000 in
set_option maxHeartbeats 2000000 in
theorem ragain_dark (ad : Option Addr) (len cap : Nat) (l : List Ed.E) (w : World) (hl0 : IsEdits w ad len cap l) (hd : (elgt l && l.all Ed.may) = false) :
    Calls Tryz.prog 4 #[.slice ad len cap] w fun e w' => e = .returned (.bool true) ∧ Below w.heap.size w w' := by
  have hwa := fun W => rawake_any W
  have hle := elight_any ad len cap l w hl0.1 hl0.2.2.2
  cases hr : elgt l with
  | false =>
    rw [hr] at hle
    clear hd hr hl0
    go_enter Tryz.func4, Tryz.ntmps4
    go_wp2_with (first
      | (go_at_call 8; go_must (refine hle.mono ?_; rintro e w2 ⟨rfl, hw2⟩; obtain rfl : w = w2 := hw2.symm))
      | (go_at_call 9; go_must (refine (hwa _).mono ?_; rintro e w7 ⟨rfl, hb7⟩)))
    go_ret
    exact ⟨rfl, hb7⟩
  | true =>
    have hlen : len ≤ 40 := by have := elgt_len hr; rw [hl0.1.1] at this; exact this
    have he : l.all Ed.may = false := by rw [hr, Bool.true_and] at hd; exact hd
    have hre := redits17_any ad len cap l w (by omega) hl0.1 false he.symm
    rw [hr] at hle
    clear hd hr hl0 he
    go_enter Tryz.func4, Tryz.ntmps4
    go_wp2_with (first
      | (go_at_call 8; go_must (refine hle.mono ?_; rintro e w2 ⟨rfl, hw2⟩; obtain rfl : w = w2 := hw2.symm))
      | (go_at_call 13; go_must (refine hre.mono ?_; rintro e w2 ⟨rfl, hb2⟩))
      | (go_at_call 9; go_must (refine (hwa _).mono ?_; rintro e w7 ⟨rfl, hb7⟩)))
    go_ret
    exact ⟨rfl, hb2.trans (hb7.mono hb2.size)⟩
theorem ragain_all (ad : Option Addr) (len cap : Nat) (l : List Ed.E) (w : World) (hl0 : IsEdits w ad len cap l) :
    Calls Tryz.prog 4 #[.slice ad len cap] w fun e w' => e = .returned (.bool true) ∧ Below w.heap.size w w' := by
  cases hd : (elgt l && l.all Ed.may) with
  | false => exact ragain_dark ad len cap l w hl0 hd
  | true =>
    rw [Bool.and_eq_true] at hd
    exact ragain_any ad len cap l w hl0 hd.1 hd.2
end Go.Proofs.YtmodogmjfbcddaaGreat
