/- The law of the edits that bytes are. -/
import Derived.Test.YtkbnojjjfonniaaEZ
namespace Go.Proofs.Ytkbnojjjfonniaa
open Go.RowKit

set_option maxRecDepth 100000 in
set_option maxHeartbeats 8000000 in
theorem editgets_any (a0 : Option Addr) (len0 cap0 : Nat) (z0 : List Int) (w : World) (h0 : IsRow .u8 w a0 len0 cap0 z0) :
    Calls Try.prog 4 #[.slice a0 len0 cap0] w fun e w' => e = .returned (.bool true) ∧ Below w.heap.size w w' := by
  have haw := fun W => eawake_any W
  by_cases hbig : (3000 : Int) < (len0 : Int)
  · go_enter Try.func4, Try.ntmps4
    go_wp2_with (go_at_call 7; go_must (refine (haw _).mono ?_; rintro e w3 ⟨rfl, hb3⟩))
    go_ret
    exact ⟨rfl, hb3⟩
  obtain ⟨bs, hrb⟩ := row_of (.inl rfl) h0 (by omega)
  have hshb := shape_of h0
  have hnil : a0 = none → len0 = 0 ∧ cap0 = 0 := fun h => by
    rcases hshb with h1 | ⟨_, _, h1, _⟩
    · exact h1
    · rw [h1] at h; cases h
  have hsm : ∀ x ∈ bs, x < 256 := hrb.2.2.1
  have hrl : Hid (bs.length = len0) := hrb.1
  have hrg := fun W h => rget16_any a0 len0 cap0 bs W (by omega) hshb h
  have hown0 := made_b w 5 1 w.heap.size (b := w.heap.size) rfl (Nat.le_refl _)
  have hb0 := below_alloc w (.cells #[] 5)
  have hr00 := hrb.below hb0 (Nat.le_refl _)
  cases hY : Ed.get bs with
  | nil =>
    have hgo := fun a c W s h => eget_no (a := a) (len := len0) (cap := c) (bs := bs) (w := W) hY (by omega) s h
    have hsa := fun ax c bx d W g1 g2 => ersame_any ax 0 c [] bx 0 d [] W true (by simp) g1 g2
    rw [hY] at hrg
    have hrg : ∀ W, Row .u8 W a0 len0 bs → Calls Try.prog 16 #[.slice a0 len0 cap0] W fun e w' => ∃ g c, e = .returned (.slice g 0 c) ∧ ERow w' g 0 [] ∧ Below W.heap.size W w' := hrg
    clear hY
    go_enter Try.func4, Try.ntmps4
    go_wp2_with (first
      | (at_builtin; go_must (refine append_u8g (w0 := w) (B := w.heap.size) rfl (.tmp 11) (.tmp 12) rfl _ 0 [] rfl hown0 a0 len0 cap0 bs rfl hr00 hnil (by omega) hb0 hb0.size ?_; intro a2 c2 w2 hown2 hb2 hs2 hg2; simp only [Nat.zero_add, List.nil_append] at hown2 ⊢; have hp2 := (row_of_owns hown2 hsm (by omega)).1; have hsh2 := shape_own hown2))
      | (go_at_call 15; go_must (refine (hgo _ _ _ hsh2 hp2).mono ?_; rintro e w3 ⟨rfl, hb3⟩; have hB3 := hb2.trans (hb3.mono hb2.size)))
      | (go_at_call 16; go_must (refine (hrg _ (hrb.below hB3 (Nat.le_refl _))).mono ?_; rintro e w4 ⟨g4, c4, rfl, hx4, hb4⟩; have hB4 := hB3.trans (hb4.mono hB3.size)))
      | (go_at_call 12; go_must (refine (hsa _ _ _ _ _ (TRow.nil _ _) hx4).mono ?_; rintro e w5 ⟨rfl, hb5⟩; have hB5 := hB4.trans (hb5.mono hB4.size)))
      | (go_at_call 7; go_must (refine (haw _).mono ?_; rintro e w6 ⟨rfl, hb6⟩; have hB6 := hB5.trans (hb6.mono hB5.size))))
    go_ret
    exact ⟨rfl, hB6⟩
  | cons y0 ys =>
    have hYne : y0 :: ys ≠ [] := List.cons_ne_nil _ _
    have hYl := (Ed.get_ok (fun x hx => hsm x hx) (by rw [hY]; exact hYne)).2.2
    rw [hY] at hYl
    have hgo := fun a c W s h => eget_yes (a := a) (len := len0) (cap := c) (bs := bs) (w := W) (y0 :: ys) hY hYne (by omega) s h
    rw [hY] at hrg
    have hyp : 0 < (y0 :: ys).length := by simp
    clear hY hYne
    generalize y0 :: ys = Y at *
    obtain ⟨ny, hny⟩ : ∃ ny, Y.length = ny := ⟨_, rfl⟩
    rw [hny] at hgo hYl hrg hyp
    clear hny
    have hsa := fun ax c bx d W g1 g2 => ersame_any ax ny c Y bx ny d Y W true (by simp) g1 g2
    have n1 : (0 : Int) < (ny : Int) := by omega
    have n2 : ¬ (ny : Int) = 0 := by omega
    have n3 : ¬ ny = 0 := by omega
    have n4 : ((ny : Int) == 0) = false := by simp; omega
    go_enter Try.func4, Try.ntmps4
    go_wp2_with (first
      | (at_builtin; go_must (refine append_u8g (w0 := w) (B := w.heap.size) rfl (.tmp 11) (.tmp 12) rfl _ 0 [] rfl hown0 a0 len0 cap0 bs rfl hr00 hnil (by omega) hb0 hb0.size ?_; intro a2 c2 w2 hown2 hb2 hs2 hg2; simp only [Nat.zero_add, List.nil_append] at hown2 ⊢; have hp2 := (row_of_owns hown2 hsm (by omega)).1; have hsh2 := shape_own hown2))
      | (go_at_call 15; go_must (refine (hgo _ _ _ hsh2 hp2).mono ?_; rintro e w3 ⟨g3, rfl, hown3, hb3⟩; have hB3 := hb2.trans (hb3.mono hb2.size); have hx3 : ERow w3 (some ⟨g3, 0, none⟩) ny Y := trow_of_owns (d := Ed.zero) eeE hown3 (by omega) (by omega)))
      | (go_at_call 16; go_must (refine (hrg _ (hrb.below hB3 (Nat.le_refl _))).mono ?_; rintro e w4 ⟨g4, c4, rfl, hx4, hb4⟩; have hB4 := hB3.trans (hb4.mono hB3.size); have hx34 := hx3.below hb4 (Nat.le_refl _)))
      | (go_at_call 12; go_must (refine (hsa _ _ _ _ _ hx34 hx4).mono ?_; rintro e w5 ⟨rfl, hb5⟩; have hB5 := hB4.trans (hb5.mono hB4.size)))
      | (go_at_call 7; go_must (refine (haw _).mono ?_; rintro e w6 ⟨rfl, hb6⟩; have hB6 := hB5.trans (hb6.mono hB5.size))))
    go_ret
    exact ⟨rfl, hB6⟩
end Go.Proofs.Ytkbnojjjfonniaa
