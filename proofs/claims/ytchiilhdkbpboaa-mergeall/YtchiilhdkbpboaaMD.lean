/- What the program's look at lists does. -/
import Derived.Test.YtchiilhdkbpboaaMC
import Derived.Deep.LoopGhost
namespace Go.Proofs.Ytchiilhdkbpboaa
open Go.RowKit

theorem all_drop {α : Type} (p : α → Bool) {l : List α} {k : Nat} (d : α) (hk : k < l.length) : (l.drop k).all p = (p (l.getD k d) && (l.drop (k + 1)).all p) := by
  rw [List.drop_eq_getElem_cons hk, List.all_cons, List.getD_eq_getElem?_getD, List.getElem?_eq_getElem hk]
  rfl

set_option maxRecDepth 100000 in
set_option maxHeartbeats 1000000 in
theorem mcheck_any (a : Option Addr) (n c : Nat) (ps : List PH) (gss : List (List IH)) (xss : List (List It.I)) (w : World) (hi : InP w a n ps gss xss) (hsz : ∀ i, i < n → (ps.getD i phz).n ≤ 100000) :
    Calls Try.prog 22 #[.slice a n c] w fun e w' => e = .returned (.int .i64 (if Mg.may xss = true then 0 else 1)) ∧ Below w.heap.size w w' := by
  have hll : Hid (xss.length = n) := hi.len
  have hm15 := hi.1.2.1
  by_cases h100 : 100 < n
  · have hno : Mg.may xss = false := by unfold Mg.may; rw [hll.out, decide_eq_false (by omega), Bool.and_false]
    rw [hno]
    have d1 : decide (100 < (n : Int)) = true := by simp; omega
    clear hi hsz hno
    go_enter Try.func22, Try.ntmps22
    go_wp2
    go_ret
    exact ⟨rfl, Below.refl _ _⟩
  · obtain ⟨R, hR⟩ : ∃ R, R = Mg.may xss := ⟨_, rfl⟩
    rw [← hR]
    have HR : Hid (R = (xss.drop 0).all It.sorted) := (by rw [hR]; unfold Mg.may; rw [hll.out, decide_eq_true (by omega), Bool.and_true]; rfl : R = (xss.drop 0).all It.sorted)
    have d1 : decide (100 < (n : Int)) = false := by simp; omega
    have d2 : ¬ (100 < n) := h100
    clear hR h100
    go_enter Try.func22, Try.ntmps22
    go_wp2_with fail
    go_loopw [10] (fun i wr => ∃ (k : Nat), k ≤ n ∧ i = .int .i64 k ∧ Hid (R = (xss.drop k).all It.sorted) ∧ Below w.heap.size w wr) (fun i _ => n - (intOf i).toNat)
    case atStart => exact ⟨0, by omega, rfl, HR, Below.refl _ _⟩
    case round =>
      obtain ⟨k, hk, rfl, H, hbel⟩ := hrel
      clear HR
      by_cases hlt : k < n
      · obtain ⟨bb, off, rfl, hc⟩ := hi.1.part (by omega)
        have hk' : k < xss.length := by rw [hll.out]; exact hlt
        have y0 := (hbel.cell (p := ⟨bb, off + k, none⟩) (cell_lt (hc k hlt))).trans (hc k hlt)
        have hst : Hid (R = (It.sorted (xss.getD k []) && (xss.drop (k + 1)).all It.sorted)) := (by rw [H.out, all_drop It.sorted [] hk'] : R = (It.sorted (xss.getD k []) && (xss.drop (k + 1)).all It.sorted))
        have hso := tsorted_any (ps.getD k phz).a (ps.getD k phz).n (ps.getD k phz).c (gss.getD k []) (xss.getD k []) wr (hsz k hlt) ((hi.2.2.2 k hk').below hbel (Nat.le_refl _))
        have i0 : (0 : Int) ≤ (k : Int) := by omega
        have i1 : (k : Int) < (n : Int) := by omega
        have i2 : IntKind.i64.wrap ((k : Int) + 1) = (k : Int) + 1 := by rw [IntKind.wrap_i64]; omega
        generalize ps.getD k phz = P at *
        obtain ⟨qa, qn, qc⟩ := P
        simp only at y0 hso
        cases hs : It.sorted (xss.getD k []) with
        | true =>
          rw [hs] at hso hst
          have hst2 : Hid (R = (xss.drop (k + 1)).all It.sorted) := hst.out
          clear hs hst H hk'
          go_wp2_with (go_at_call 31; go_must (refine hso.mono ?_; rintro e w1 ⟨rfl, hb1⟩))
          go_roundw
          case rel => exact ⟨k + 1, by omega, by go_num, hst2, hbel.trans (hb1.mono hbel.size)⟩
          case measure => simp [intOf]; omega
        | false =>
          rw [hs] at hso hst
          obtain rfl : R = false := hst.out
          clear hs hst H hk'
          go_wp2_with (go_at_call 31; go_must (refine hso.mono ?_; rintro e w1 ⟨rfl, hb1⟩))
          go_ret
          exact ⟨rfl, hbel.trans (hb1.mono hbel.size)⟩
      · obtain rfl : k = n := by omega
        obtain rfl : R = true := by rw [H.out, List.drop_of_length_le (by rw [hll.out]; omega)]; rfl
        clear H
        go_wp2
        go_ret
        exact ⟨rfl, hbel⟩
end Go.Proofs.Ytchiilhdkbpboaa
