/- Rows of shares; what the reference's May, Points, Get and Same of tallies do. -/
import Derived.Test.YtfeaablomceejaaTaMath
import Derived.Test.YtfeaablomceejaaGR
import Derived.Test.YtfeaablomceejaaS7
namespace Go.Proofs.Ytfeaablomceejaa
open Go.RowKit

/-- a share's cells -/
def se (x : Ta.S) : List Value := [.int .i64 x.1, .int .i64 x.2]
theorem seE : Enc 2 se := ⟨fun _ => rfl, fun x u hu => by simp only [se, List.mem_cons, List.not_mem_nil, or_false] at hu; rcases hu with rfl | rfl <;> rfl⟩
theorem shareE : Elem 22 47 2 16 (.agg #[.int .i64 0, .int .i64 0]) := ⟨Try.underlying22, by kernel_rfl, rfl, by decide, by decide⟩
abbrev ShRow (w : World) (a : Option Addr) (n : Nat) (l : List Ta.S) : Prop := TRow 2 se (0, 0) w a n l
theorem ShRow.cell {w : World} {a : Option Addr} {n : Nat} {l : List Ta.S} (h : ShRow w a n l) (hn : 0 < n) : ∃ b off, a = some ⟨b, off, none⟩ ∧ ∀ i, i < n → w.cell? ⟨b, off + i * 2, none⟩ = some (.int .i64 (l.getD i (0, 0)).1) ∧ w.cell? ⟨b, off + i * 2 + 1, none⟩ = some (.int .i64 (l.getD i (0, 0)).2) := by
  obtain ⟨b, off, e, hc⟩ := h.at hn
  exact ⟨b, off, e, fun i hi => ⟨hc i hi 0 _ rfl, hc i hi 1 _ rfl⟩⟩
namespace Ta
def prev (l : List S) (k : Nat) : Option Int := if k = 0 then none else some (l.getD (k - 1) (0, 0)).1
theorem chk_step {l : List S} {k : Nat} (hk : k < l.length) : chk (prev l k) (l.drop k) = (okOne (l.getD k (0, 0)) && after (prev l k) (l.getD k (0, 0)).1 && chk (prev l (k + 1)) (l.drop (k + 1))) := by
  rw [List.drop_eq_getElem_cons hk, chk]
  have e : l.getD k (0, 0) = l[k] := by simp [hk]
  rw [e]
  congr 1
  unfold prev
  rw [if_neg (by omega), Nat.add_sub_cancel, e]
theorem getD_drop {l : List S} {k : Nat} (hk : k < l.length) : l.drop k = l.getD k (0, 0) :: l.drop (k + 1) := by
  rw [List.drop_eq_getElem_cons hk]; simp [hk]
end Ta

set_option maxRecDepth 100000 in
set_option maxHeartbeats 4000000 in
theorem tmay_any (a : Option Addr) (len cap : Nat) (l : List Ta.S) (w : World) (hr : ShRow w a len l) :
    Calls Try.prog 10 #[.slice a len cap] w fun e w' => e = .returned (.bool (Ta.may l)) ∧ Below w.heap.size w w' := by
  have hll : Hid (l.length = len) := hr.1
  have hlb := hr.2.1
  obtain ⟨R, hR⟩ : ∃ R, R = Ta.may l := ⟨_, rfl⟩
  rw [← hR]
  have HR : Hid (R = Ta.may l) := hR
  clear hR
  go_enter Try.func10, Try.ntmps10
  go_wp2
  go_loopw [3] (fun i wr => ∃ k : Nat, k ≤ len ∧ i = .int .i64 k ∧ Hid (Ta.chk none l = Ta.chk (Ta.prev l k) (l.drop k)) ∧ Below w.heap.size w wr) (fun i _ => len - (intOf i).toNat)
  case atStart => exact ⟨0, by omega, rfl, (rfl : Ta.chk none l = Ta.chk (Ta.prev l 0) (l.drop 0)), Below.refl _ _⟩
  case round =>
    obtain ⟨k, hk, rfl, H, hbel⟩ := hrel
    by_cases hlt : k < len
    · obtain ⟨b, off, rfl, hc⟩ := hr.cell (by omega)
      obtain ⟨c0, c1⟩ := hc k hlt
      have p0 := (hbel.cell (p := ⟨b, off + k * 2, none⟩) (cell_lt c0)).trans c0
      have p1 := (hbel.cell (p := ⟨b, off + k * 2 + 1, none⟩) (cell_lt c1)).trans c1
      have hst : Hid (Ta.chk none l = (Ta.okOne (l.getD k (0, 0)) && Ta.after (Ta.prev l k) (l.getD k (0, 0)).1 && Ta.chk (Ta.prev l (k + 1)) (l.drop (k + 1)))) := (by rw [H.out]; exact Ta.chk_step (by rw [hll.out]; exact hlt) : Ta.chk none l = (Ta.okOne (l.getD k (0, 0)) && Ta.after (Ta.prev l k) (l.getD k (0, 0)).1 && Ta.chk (Ta.prev l (k + 1)) (l.drop (k + 1))))
      have HF : Hid (Ta.okOne (l.getD k (0, 0)) = false ∨ Ta.after (Ta.prev l k) (l.getD k (0, 0)).1 = false → R = false) := (fun h => by
        rw [HR.out, Ta.may, hst.out]
        rcases h with h | h <;> rw [h] <;> simp : Ta.okOne (l.getD k (0, 0)) = false ∨ Ta.after (Ta.prev l k) (l.getD k (0, 0)).1 = false → R = false)
      have HT : Hid (Ta.okOne (l.getD k (0, 0)) = true → Ta.after (Ta.prev l k) (l.getD k (0, 0)).1 = true → Ta.chk none l = Ta.chk (Ta.prev l (k + 1)) (l.drop (k + 1))) := (fun h h' => by rw [hst.out, h, h']; simp : Ta.okOne (l.getD k (0, 0)) = true → Ta.after (Ta.prev l k) (l.getD k (0, 0)).1 = true → Ta.chk none l = Ta.chk (Ta.prev l (k + 1)) (l.drop (k + 1)))
      have i0 : (0 : Int) ≤ (k : Int) := by omega
      have i1 : (k : Int) < (len : Int) := by omega
      unfold Ta.okOne at HF HT
      generalize hxe : l.getD k (0, 0) = x at *
      obtain ⟨x1, x2⟩ := x
      simp only at p0 p1 HF HT
      clear H hst c0 c1 hxe
      by_cases h0 : x1 < 1
      · have d0 : decide (x1 < 1) = true := by simp [h0]
        obtain rfl : R = false := HF.out (.inl (by simp only [decide_eq_false_iff_not]; omega))
        clear HF HT hc h0
        go_wp2_with fail
        go_quiet (fail)
        have hb2 : Below w.heap.size w (wr.drewN nq) := hbel.trans (below_drewN _ _ _)
        go_wp2
        go_ret
        exact ⟨rfl, hb2⟩
      · have d0 : decide (x1 < 1) = false := by simp [h0]
        by_cases h1 : 2147483647 < x1
        · have d1 : decide (2147483647 < x1) = true := by simp [h1]
          obtain rfl : R = false := HF.out (.inl (by simp only [decide_eq_false_iff_not]; omega))
          clear HF HT hc h0 h1
          go_wp2_with fail
          go_quiet (fail)
          have hb2 : Below w.heap.size w (wr.drewN nq) := hbel.trans (below_drewN _ _ _)
          go_wp2
          go_ret
          exact ⟨rfl, hb2⟩
        · have d1 : decide (2147483647 < x1) = false := by simp [h1]
          by_cases h2 : x2 < 1
          · have d2 : decide (x2 < 1) = true := by simp [h2]
            obtain rfl : R = false := HF.out (.inl (by simp only [decide_eq_false_iff_not]; omega))
            clear HF HT hc h0 h1 h2
            go_wp2_with fail
            go_quiet (fail)
            have hb2 : Below w.heap.size w (wr.drewN nq) := hbel.trans (below_drewN _ _ _)
            go_wp2
            go_ret
            exact ⟨rfl, hb2⟩
          · have d2 : decide (x2 < 1) = false := by simp [h2]
            by_cases h3 : 1099511627776 < x2
            · have d3 : decide (1099511627776 < x2) = true := by simp [h3]
              obtain rfl : R = false := HF.out (.inl (by simp only [decide_eq_false_iff_not]; omega))
              clear HF HT hc h0 h1 h2 h3
              go_wp2_with fail
              go_quiet (fail)
              have hb2 : Below w.heap.size w (wr.drewN nq) := hbel.trans (below_drewN _ _ _)
              go_wp2
              go_ret
              exact ⟨rfl, hb2⟩
            · have d3 : decide (1099511627776 < x2) = false := by simp [h3]
              rcases Nat.eq_zero_or_pos k with hk0 | hk0
              · have j2 : decide ((0 : Int) < (k : Int)) = false := by simp; omega
                have j2n : decide (0 < k) = false := by simp; omega
                have hpv : Ta.prev l k = none := by unfold Ta.prev; rw [if_pos hk0]
                rw [hpv] at HF HT
                have Hj : Hid (k = 0) := hk0
                clear hpv hk0
                have H2 := HT.out (by simp only [decide_eq_true_eq]; omega) (rfl)
                have H3 : Hid (Ta.chk none l = Ta.chk (Ta.prev l (k + 1)) (l.drop (k + 1))) := H2
                clear HF HT hc H2 h0 h1 h2 h3
                go_wp2_with fail
                go_quiet (fail)
                have hb2 : Below w.heap.size w (wr.drewN nq) := hbel.trans (below_drewN _ _ _)
                go_wp2
                go_roundw
                case rel => exact ⟨k + 1, by omega, by go_num, H3, hb2⟩
                case measure => simp [intOf]; omega
              · obtain ⟨j, hj⟩ : ∃ j : Nat, k = j + 1 := ⟨k - 1, by omega⟩
                obtain ⟨c0, _⟩ := hc j (by omega)
                have q0 := (hbel.cell (p := ⟨b, off + j * 2, none⟩) (cell_lt c0)).trans c0
                have hpv : Ta.prev l k = some (l.getD j (0, 0)).1 := by unfold Ta.prev; rw [if_neg (by omega), show k - 1 = j by omega]
                rw [hpv] at HF HT
                generalize (l.getD j (0, 0)).1 = y at *
                have j1 : IntKind.i64.wrap ((k : Int) - 1) = (j : Int) := by rw [IntKind.wrap_i64]; omega
                have j2 : decide ((0 : Int) < (k : Int)) = true := by simp; omega
                have j2n : decide (0 < k) = true := by simp; omega
                have j3 : (0 : Int) ≤ (j : Int) := by omega
                have j4 : (j : Int) < (len : Int) := by omega
                have Hj : Hid (k = j + 1) := hj
                clear hpv c0 hj
                by_cases h4 : x1 ≤ y
                · have d4 : decide (x1 ≤ y) = true := by simp [h4]
                  obtain rfl : R = false := HF.out (.inr (by simp only [Ta.after, decide_eq_false_iff_not]; omega))
                  clear HF HT hc h0 h1 h2 h3 h4
                  go_wp2_with fail
                  go_quiet (fail)
                  have hb2 : Below w.heap.size w (wr.drewN nq) := hbel.trans (below_drewN _ _ _)
                  go_wp2
                  go_ret
                  exact ⟨rfl, hb2⟩
                · have d4 : decide (x1 ≤ y) = false := by simp [h4]
                  have H2 := HT.out (by simp only [decide_eq_true_eq]; omega) (by simp only [Ta.after, decide_eq_true_eq]; omega)
                  have H3 : Hid (Ta.chk none l = Ta.chk (Ta.prev l (k + 1)) (l.drop (k + 1))) := H2
                  clear HF HT hc H2 h0 h1 h2 h3 h4
                  go_wp2_with fail
                  go_quiet (fail)
                  have hb2 : Below w.heap.size w (wr.drewN nq) := hbel.trans (below_drewN _ _ _)
                  go_wp2
                  go_roundw
                  case rel => exact ⟨k + 1, by omega, by go_num, H3, hb2⟩
                  case measure => simp [intOf]; omega
    · obtain rfl : k = len := by omega
      have HE : Hid (R = decide (k ≤ 4096)) := (by
        rw [HR.out, Ta.may, H.out, List.drop_of_length_le (by rw [hll.out]; omega), hll.out]
        simp [Ta.chk] : R = decide (k ≤ 4096))
      clear HR H
      go_wp2
      go_ret
      exact ⟨by rw [HE.out]; simp; omega, hbel⟩
end Go.Proofs.Ytfeaablomceejaa
