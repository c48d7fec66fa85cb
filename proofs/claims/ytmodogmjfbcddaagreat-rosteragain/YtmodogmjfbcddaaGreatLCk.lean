/- What the program's Check does. -/
import Derived.Test.YtmodogmjfbcddaaGreatLFa
import Derived.Test.YtmodogmjfbcddaaGreatLB
namespace Go.Proofs.YtmodogmjfbcddaaGreat
open Go.RowKit

theorem may_step {l : List Lv.T} {k : Nat} (hk : k < l.length) : Lv.mayGo (l.take k) (l.drop k) = (Lv.one (l.getD k Lv.zero) && ((l.take k).all (fun y => !Lv.clash (l.getD k Lv.zero) y) && Lv.mayGo (l.take (k + 1)) (l.drop (k + 1)))) := by
  rw [ldrop hk, Lv.mayGo]
  congr 3
  rw [List.take_succ_eq_append_getElem hk]; simp [hk]
theorem all_take {l : List Lv.T} {p : Lv.T → Bool} {m : Nat} (h : ∀ j, j < m → p (l.getD j Lv.zero) = true) : (l.take m).all p = true := by
  rw [List.all_eq_true]
  intro x hx
  obtain ⟨j, hj, rfl⟩ := List.getElem_of_mem hx
  rw [List.length_take] at hj
  have := h j (by omega)
  rw [List.getElem_take]
  have hj' : j < l.length := by omega
  simpa [hj'] using this
theorem all_take_not {l : List Lv.T} {p : Lv.T → Bool} {m j : Nat} (hm : m ≤ l.length) (hj : j < m) (h : p (l.getD j Lv.zero) = false) : (l.take m).all p = false := by
  rw [List.all_eq_false]
  have hj' : j < l.length := by omega
  refine ⟨l.getD j Lv.zero, ?_, by rw [h]; simp⟩
  rw [show l.getD j Lv.zero = l[j] by simp [hj']]
  exact List.mem_take_iff_getElem.mpr ⟨j, by omega, rfl⟩

set_option maxRecDepth 100000 in
set_option maxHeartbeats 1000000 in
theorem lcheck_any (a : Option Addr) (len cap : Nat) (l : List Lv.T) (w : World) (hlc : len ≤ cap) (hr : LRow w a len l) (R : Int) (hR : R = if Lv.may l = true then 0 else 1) :
    Calls Tryz.prog 28 #[.slice a len cap] w fun e w' => e = .returned (.int .i64 R) ∧ Below w.heap.size w w' := by
  have hll : Hid (l.length = len) := hr.1
  have hone := fun x1 x2 x3 x4 x5 V => lmaybe_any x1 x2 x3 x4 x5 V
  have hcla := fun x1 x2 x3 x4 x5 y1 y2 y3 y4 y5 V => lclash_any x1 x2 x3 x4 x5 y1 y2 y3 y4 y5 V
  by_cases h64 : 64 < len
  · have HR : Hid (R = 1) := (by rw [hR, if_neg]; intro h; have := ((Lv.may_iff l).mp h).len; rw [hll.out] at this; omega : R = 1)
    clear hR
    go_enter Tryz.func28, Tryz.ntmps28
    go_wp2
    go_ret
    obtain rfl := HR.out
    exact ⟨rfl, Below.refl _ _⟩
  have HM : Hid (R = if Lv.mayGo [] l = true then 0 else 1) := (by
    rw [hR, Lv.may, hll.out, decide_eq_true (by omega), Bool.true_and] : R = if Lv.mayGo [] l = true then 0 else 1)
  clear hR
  go_enter Tryz.func28, Tryz.ntmps28
  go_wp2
  go_loopw [12] (fun i wr => ∃ k : Nat, k ≤ len ∧ i = .int .i64 k ∧ Hid (R = if Lv.mayGo (l.take k) (l.drop k) = true then 0 else 1) ∧ Below w.heap.size w wr) (fun i _ => len - (intOf i).toNat)
  case atStart => exact ⟨0, by omega, rfl, (by simpa using HM.out : R = if Lv.mayGo (l.take 0) (l.drop 0) = true then 0 else 1), Below.refl _ _⟩
  case round =>
    obtain ⟨k, hk, rfl, H, hbel⟩ := hrel
    obtain ⟨W1, rfl⟩ : ∃ W1, W1 = wr := ⟨_, rfl⟩
    by_cases hlt : k < len
    · obtain ⟨b, off, x1, x2, x3, x4, x5, rfl, hx, q0, q1, q2, q3, q4⟩ := lget hr hbel hlt
      have hk' : k < l.length := by rw [hll.out]; exact hlt
      have i0 : (0 : Int) ≤ (k : Int) := by omega
      have i1 : (k : Int) < (len : Int) := by omega
      have hb2 := hbel.alloc hbel.size (otab x1 x2 x3 x4 x5)
      have HS : Hid (Lv.mayGo (l.take k) (l.drop k) = (Lv.one ⟨x1, x2, x3, x4, x5⟩ && ((l.take k).all (fun y => !Lv.clash ⟨x1, x2, x3, x4, x5⟩ y) && Lv.mayGo (l.take (k + 1)) (l.drop (k + 1))))) := (hx.out ▸ may_step hk' : Lv.mayGo (l.take k) (l.drop k) = _)
      cases ho : Lv.one ⟨x1, x2, x3, x4, x5⟩ with
      | false =>
        have HR : Hid (R = 1) := (by rw [H.out, HS.out, ho]; rfl : R = 1)
        clear H HS HM hx
        go_wp2_with (go_at_call 71; go_must (refine (hone _ _ _ _ _ _).mono ?_; rintro e w2 ⟨rfl, hbm⟩))
        go_ret
        obtain rfl := HR.out
        exact ⟨rfl, hb2.trans (hbm.mono hb2.size)⟩
      | true =>
        have H2 : Hid (R = if ((l.take k).all (fun y => !Lv.clash ⟨x1, x2, x3, x4, x5⟩ y) && Lv.mayGo (l.take (k + 1)) (l.drop (k + 1))) = true then 0 else 1) := (by rw [H.out, HS.out, ho, Bool.true_and] : R = _)
        clear H HS HM hx
        have hkc : (k : Int) ≤ (cap : Int) := by omega
        go_wp2_with (go_at_call 71; go_must (refine (hone _ _ _ _ _ _).mono ?_; rintro e w2 ⟨rfl, hbm⟩; obtain ⟨t0, t1, t2, t3, t4⟩ := tab_past hbm (by simp)))
        go_loopw [24] (fun j wy => ∃ m : Nat, m ≤ k ∧ j = .int .i64 m ∧ Hid (∀ j, j < m → (!Lv.clash ⟨x1, x2, x3, x4, x5⟩ (l.getD j Lv.zero)) = true) ∧ Below (W1.heap.size + 1) (W1.alloc (otab x1 x2 x3 x4 x5)) wy) (fun j _ => k - (intOf j).toNat)
        case atStart => exact ⟨0, by omega, rfl, (fun j hj => by omega : ∀ j, j < 0 → (!Lv.clash ⟨x1, x2, x3, x4, x5⟩ (l.getD j Lv.zero)) = true), by simpa using hbm⟩
        case round =>
          obtain ⟨m, hm, rfl, HA, hby⟩ := hrel
          have hys : W1.heap.size + 1 ≤ wr.heap.size := by have := hby.size; simp at this; omega
          have hbw : Below w.heap.size w wr := hb2.trans (hby.mono (by have := hbel.size; omega))
          by_cases hmlt : m < k
          · obtain ⟨b', off', y1, y2, y3, y4, y5, e', hy, p0, p1, p2, p3, p4⟩ := lget hr hbw (Nat.lt_trans hmlt hlt)
            simp only [Option.some.injEq, Addr.mk.injEq] at e'
            obtain ⟨rfl, rfl, _⟩ := e'
            obtain ⟨s0, s1, s2, s3, s4⟩ := tab_past (hby.alloc hys (otab y1 y2 y3 y4 y5)) (Nat.lt_succ_self _)
            have j0 : (0 : Int) ≤ (m : Int) := by omega
            have j1 : (m : Int) < (k : Int) := by omega
            clear q0 q1 q2 q3 q4 t0 t1 t2 t3 t4
            cases hc : Lv.clash ⟨x1, x2, x3, x4, x5⟩ ⟨y1, y2, y3, y4, y5⟩ with
            | true =>
              have HR : Hid (R = 1) := (by rw [H2.out, all_take_not (by omega) hmlt (by rw [hy.out, hc]; rfl), Bool.false_and]; rfl : R = 1)
              clear H2 HA hy
              go_wp2_with (go_at_call 72; go_must (refine (hcla _ _ _ _ _ _ _ _ _ _ _).mono ?_; rintro e w3 ⟨rfl, hbc⟩))
              go_ret
              obtain rfl := HR.out
              have hb4 := hbw.alloc hbw.size (otab y1 y2 y3 y4 y5)
              exact ⟨rfl, hb4.trans (hbc.mono hb4.size)⟩
            | false =>
              have HA2 : Hid (∀ j, j < m + 1 → (!Lv.clash ⟨x1, x2, x3, x4, x5⟩ (l.getD j Lv.zero)) = true) := (by
                intro j hj
                rcases Nat.lt_or_ge j m with h | h
                · exact HA.out j h
                · obtain rfl : j = m := by omega
                  rw [hy.out, hc]; rfl : ∀ j, j < m + 1 → (!Lv.clash ⟨x1, x2, x3, x4, x5⟩ (l.getD j Lv.zero)) = true)
              clear HA hy
              go_wp2_with (go_at_call 72; go_must (refine (hcla _ _ _ _ _ _ _ _ _ _ _).mono ?_; rintro e w3 ⟨rfl, hbc⟩))
              go_roundw
              case rel => exact ⟨m + 1, by omega, by go_num, HA2, (hby.alloc hys _).trans (hbc.mono (by simp; omega))⟩
              case measure => simp [intOf]; omega
          · obtain rfl : m = k := by omega
            have H3 : Hid (R = if Lv.mayGo (l.take (m + 1)) (l.drop (m + 1)) = true then 0 else 1) := (by rw [H2.out, all_take HA.out, Bool.true_and] : R = _)
            clear HA H2
            go_wp2
            go_roundw
            case rel => exact ⟨m + 1, by omega, by go_num, H3, hbw⟩
            case measure => simp [intOf]; omega
    · obtain rfl : k = len := by omega
      have HE : Hid (R = 0) := (by rw [H.out, List.drop_of_length_le (by rw [hll.out]; omega)]; rfl : R = 0)
      clear H HM
      go_wp2
      go_ret
      obtain rfl := HE.out
      exact ⟨rfl, hbel⟩
end Go.Proofs.YtmodogmjfbcddaaGreat
