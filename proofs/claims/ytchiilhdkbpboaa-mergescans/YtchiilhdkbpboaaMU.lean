/- The law of all lists merged. -/
import Derived.Test.YtchiilhdkbpboaaMT
import Derived.Test.YtchiilhdkbpboaaML
import Derived.Test.YtchiilhdkbpboaaMM
import Derived.Test.YtchiilhdkbpboaaMP
namespace Go.Proofs.Ytchiilhdkbpboaa
open Go.RowKit

theorem Lite.le {n : Nat} {ps : List PH} {gss : List (List IH)} (h : Lite n ps gss) (K : Nat) (hK : 30 ≤ K) : ∀ i, i < n → (ps.getD i phz).n ≤ K := fun i hi => Nat.le_trans (h.2 i hi).1 hK

set_option maxRecDepth 100000 in
set_option maxHeartbeats 2000000 in
theorem mergeall_any (a : Option Addr) (n c : Nat) (ps : List PH) (gss : List (List IH)) (xss : List (List It.I)) (drop : Bool) (w : World) (hi : InQ w a n c ps gss xss) :
    Calls Try.prog 3 #[.slice a n c, .bool drop] w fun e w' => e = .returned (.bool true) ∧ Below w.heap.size w w' := by
  have hp := hi.1
  have hnc := hi.2.2
  have haw := fun W => mgawake W
  by_cases hL : Lite n ps gss
  · have hl := mlightT a n c ps gss xss w hp hL
    have hK := hL.le 100000 (by omega)
    have hK9 := hL.le 900 (by omega)
    have hK1 := hL.le 1000 (by omega)
    have hn := hL.1
    have hmay := fun W (hW : Below w.heap.size w W) => rmay_any a n c ps gss xss W (hp.below hW (Nat.le_refl _)) hK1
    cases hm : Mg.may xss with
    | true =>
      rw [hm] at hmay
      have hall := fun W (hW : Below w.heap.size w W) => mall_yes a n c ps gss xss drop W (hp.below hW (Nat.le_refl _)) hnc hK hm
      have hra := fun W (hW : Below w.heap.size w W) => rall_any a n c ps gss xss drop w W hp hW hn hK9
      have hsame := fun (w2 : World) a2 c2 (hs2 : List IH) a4 c4 (hs4 : List IH) W => isame_any w2 w a2 (Mg.all xss drop).length c2 hs2 (Mg.all xss drop) a4 (Mg.all xss drop).length c4 hs4 (Mg.all xss drop) W
      rw [show It.sameGo (Mg.all xss drop) (Mg.all xss drop) = true from (It.sameGo_iff _ _).mpr rfl] at hsame
      generalize Mg.all xss drop = L at *
      clear hi hp hL hK hK9 hK1 hm hnc
      go_enter Try.func3, Try.ntmps3
      go_wp2_with (first
        | (go_at_call 7; go_must (refine hl.mono ?_; rintro e w1 ⟨rfl, hb1⟩))
        | (go_at_call 9; go_must (refine (hall _ hb1).mono ?_; rintro e w2 ⟨a2, c2, hs2, rfl, hi2, hbel2⟩; have hb2 := hb1.trans (hbel2.mono hb1.size)))
        | (go_at_call 10; go_must (refine (hmay _ hb2).mono ?_; rintro e w3 ⟨rfl, hbel3⟩; have hb3 := hb2.trans (hbel3.mono hb2.size)))
        | (go_at_call 15; go_must (refine (hra _ hb3).mono ?_; rintro e w4 ⟨a4, c4, hs4, rfl, hle4, hnl4, ht4, hA4, hbel4⟩; have hb4 := hb3.trans (hbel4.mono hb3.size); have h24 := hbel3.trans (hbel4.mono hbel3.size)))
        | (go_at_call 14; go_must (refine (hsame w2 a2 c2 hs2 a4 c4 hs4 w4 (hi2.1.1.below h24 (Nat.le_refl _)) hi2.1.2 ht4 hA4 h24 hb4).mono ?_; rintro e w5 ⟨rfl, hbel5⟩; have hb5 := hb4.trans (hbel5.mono hb4.size)))
        | (go_at_call 8; go_must (refine (haw _).mono ?_; rintro e w6 ⟨rfl, hbel6⟩; have hb6 := hb5.trans (hbel6.mono hb5.size))))
      go_ret
      exact ⟨rfl, hb6⟩
    | false =>
      rw [hm] at hmay
      have hall := fun W (hW : Below w.heap.size w W) => mall_no a n c ps gss xss drop W (hp.below hW (Nat.le_refl _)) hK hm
      have hsc := fun W (hW : Below w.heap.size w W) => mscan_no a n c ps gss xss ⟨#[]⟩ ⟨#[]⟩ 9 W (hp.below hW (Nat.le_refl _)) hK hm
      have hge := fun W (hW : Below w.heap.size w W) => mget_no a n c ps gss xss ⟨#[97]⟩ W (hp.below hW (Nat.le_refl _)) hK hm
      have hbe := fun W (hW : Below w.heap.size w W) => mbegin_no a n c ps gss xss W (hp.below hW (Nat.le_refl _)) hK hm
      simp only [ihz, Po.zero] at hge
      clear hi hp hL hK hK9 hK1 hm hnc
      go_enter Try.func3, Try.ntmps3
      go_wp2_with (first
        | (go_at_call 7; go_must (refine hl.mono ?_; rintro e w1 ⟨rfl, hb1⟩))
        | (go_at_call 9; go_must (refine (hall _ hb1).mono ?_; rintro e w2 ⟨rfl, hbel2⟩; have hb2 := hb1.trans (hbel2.mono hb1.size)))
        | (go_at_call 10; go_must (refine (hmay _ hb2).mono ?_; rintro e w3 ⟨rfl, hbel3⟩; have hb3 := hb2.trans (hbel3.mono hb2.size)))
        | (go_at_call 11; go_must (refine (hsc _ hb3).mono ?_; rintro e w4 ⟨rfl, hbel4⟩; have hb4 := hb3.trans (hbel4.mono hb3.size)))
        | (go_at_call 12; go_must (refine (hge _ hb4).mono ?_; rintro e w5 ⟨rfl, hbel5⟩; have hb5 := hb4.trans (hbel5.mono hb4.size)))
        | (go_at_call 13; go_must (refine (hbe _ (hb5.alloc hb5.size _)).mono ?_; rintro e w6 ⟨rfl, hbel6⟩; have hb6 := (hb5.alloc hb5.size _).trans (hbel6.mono (hb5.alloc hb5.size _).size)))
        | (go_at_call 8; go_must (refine (haw _).mono ?_; rintro e w7 ⟨rfl, hbel7⟩; have hb7 := hb6.trans (hbel7.mono hb6.size))))
      go_ret
      exact ⟨rfl, hb7⟩
  · have hl := mlightF a n c ps gss xss w hp hL
    clear hi hp hL hnc
    go_enter Try.func3, Try.ntmps3
    go_wp2_with (first
      | (go_at_call 7; go_must (refine hl.mono ?_; rintro e w1 ⟨rfl, hb1⟩))
      | (go_at_call 8; go_must (refine (haw _).mono ?_; rintro e w2 ⟨rfl, hbel2⟩; have hb2 := hb1.trans (hbel2.mono hb1.size))))
    go_ret
    exact ⟨rfl, hb2⟩
end Go.Proofs.Ytchiilhdkbpboaa
