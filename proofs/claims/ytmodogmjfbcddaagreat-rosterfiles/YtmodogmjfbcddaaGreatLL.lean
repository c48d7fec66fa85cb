/- What the reference's May does. -/
import Derived.Test.YtmodogmjfbcddaaGreatLCk
import Derived.Deep.QuietTactic
import Derived.BigQuiet
import Derived.Deep.RegionLawGrows
namespace Go.Proofs.YtmodogmjfbcddaaGreat
open Go.RowKit
theorem size_ne {x : ByteArray} (h : ¬ x.toList = []) : 1 ≤ x.size := by
  refine Nat.one_le_iff_ne_zero.mpr fun e => h ?_
  rw [Lib.toList_data]
  exact List.length_eq_zero_iff.mp (by simpa using e)
theorem ne_of_key {x : ByteArray} (h : Lv.key x = true) : ¬ x.toList = [] := by
  intro e
  rw [Lib.toList_data] at e
  simp only [Lv.key, Bool.and_eq_true, decide_eq_true_eq] at h
  have : x.data.toList.length = 0 := by rw [e]; rfl
  have e2 : x.size = x.data.toList.length := by simp
  omega
theorem key_of {x : ByteArray} (h : ¬ x.toList = []) (h2 : ((x.size : Nat) : Int) ≤ 64) : Lv.key x = true := by
  have := size_ne h
  simp only [Lv.key, Bool.and_eq_true, decide_eq_true_eq]
  omega
/-- the reference asks the later one of the earlier ones: the same -/
theorem rmay_step {l : List Lv.T} {k : Nat} (hk : k < l.length) : Lv.mayGo (l.take k) (l.drop k) = (Lv.one (l.getD k Lv.zero) && ((l.take k).all (fun y => !Lv.clash y (l.getD k Lv.zero)) && Lv.mayGo (l.take (k + 1)) (l.drop (k + 1)))) := by
  rw [may_step hk]
  congr 3
  funext y
  rw [Lv.clash_comm]
set_option maxRecDepth 100000 in
set_option maxHeartbeats 4000000 in
theorem rmay_any (a : Option Addr) (len cap : Nat) (l : List Lv.T) (w : World) (hlen : len ≤ 1000) (hr : LRow w a len l) :
    Calls Tryz.prog 31 #[.slice a len cap] w fun e w' => e = .returned (.bool (Lv.may l)) ∧ Below w.heap.size w w' := by
  have hll : Hid (l.length = len) := hr.1
  have hmee := fun x1 x2 x3 x4 x5 y1 y2 y3 y4 y5 V => rmeet_any x1 x2 x3 x4 x5 y1 y2 y3 y4 y5 V
  obtain ⟨R, hR⟩ : ∃ R, R = Lv.may l := ⟨_, rfl⟩
  rw [← hR]
  have HR : Hid (R = (decide ((len : Int) ≤ 64) && Lv.mayGo (l.take 0) (l.drop 0))) := (by rw [hR, Lv.may, hll.out]; congr 1; exact decide_eq_decide.mpr (by omega) : R = (decide ((len : Int) ≤ 64) && Lv.mayGo (l.take 0) (l.drop 0)))
  clear hR
  go_enter Tryz.func31, Tryz.ntmps31
  go_wp2
  go_loopw [3] (fun i wr => ∃ k : Nat, k ≤ len ∧ i = .int .i64 k ∧ Hid (R = (decide ((len : Int) ≤ 64) && Lv.mayGo (l.take k) (l.drop k))) ∧ Below w.heap.size w wr) (fun i _ => len - (intOf i).toNat)
  case atStart => exact ⟨0, by omega, rfl, HR, Below.refl _ _⟩
  case round =>
    obtain ⟨k, hk, rfl, H, hbel⟩ := hrel
    clear HR
    obtain ⟨W1, rfl⟩ : ∃ W1, W1 = wr := ⟨_, rfl⟩
    by_cases hlt : k < len
    · obtain ⟨b, off, x1, x2, x3, x4, x5, rfl, hx, q0, q1, q2, q3, q4⟩ := lget hr hbel hlt
      have hk' : k < l.length := by rw [hll.out]; exact hlt
      have i0 : (0 : Int) ≤ (k : Int) := by omega
      have i1 : (k : Int) < (len : Int) := by omega
      have HS : Hid (Lv.mayGo (l.take k) (l.drop k) = (Lv.one ⟨x1, x2, x3, x4, x5⟩ && ((l.take k).all (fun y => !Lv.clash y ⟨x1, x2, x3, x4, x5⟩) && Lv.mayGo (l.take (k + 1)) (l.drop (k + 1))))) := (hx.out ▸ rmay_step hk' : Lv.mayGo (l.take k) (l.drop k) = _)
      have hb2 := hbel.alloc hbel.size (otab x1 x2 x3 x4 x5)
      cases ho : Lv.one ⟨x1, x2, x3, x4, x5⟩ with
      | false =>
        have HE : Hid (R = false) := (by rw [H.out, HS.out, ho, Bool.false_and, Bool.and_false] : R = false)
        have Ho : Hid (Lv.one ⟨x1, x2, x3, x4, x5⟩ = false) := ho
        clear H HS hx hmee ho hr
        go_wp2_with fail
        all_goals first
          | (go_ret; obtain rfl := HE.out; exact ⟨rfl, hb2⟩)
          | (exfalso
             have hcon : Lv.one ⟨x1, x2, x3, x4, x5⟩ = true := by
               rename_i g1 g2 g3 g4 g5 g6 g7 g8 g9 g10 g11
               rw [Lv.one_iff]
               refine ⟨g1, g2, g3, g4, g5, g6, key_of g7 g9, key_of g8 g10, ?_⟩
               show Lv.slt x5 x4 = false
               have e := bl_le x4 x5
               cases hz : Lv.slt x5 x4 with
               | false => rfl
               | true =>
                 rw [hz] at e
                 simp only [Bool.not_true, Bool.or_eq_false_iff] at e
                 have hq := g11.2
                 rw [e.1, e.2] at hq
                 simp at hq
             rw [Ho.out] at hcon
             cases hcon)
      | true =>
        have H2 : Hid (R = (decide ((len : Int) ≤ 64) && ((l.take k).all (fun y => !Lv.clash y ⟨x1, x2, x3, x4, x5⟩) && Lv.mayGo (l.take (k + 1)) (l.drop (k + 1))))) := (by rw [H.out, HS.out, ho, Bool.true_and] : R = _)
        obtain ⟨g1, g2, g3, g4, g5, g6, g7, g8, g9⟩ := (Lv.one_iff _).mp ho
        simp only at g1 g2 g3 g4 g5 g6 g7 g8
        have n4 := ne_of_key g7
        have n5 := ne_of_key g8
        have m4 : ((x4.size : Nat) : Int) ≤ 64 := by simp only [Lv.key, Bool.and_eq_true, decide_eq_true_eq] at g7; omega
        have m5 : ((x5.size : Nat) : Int) ≤ 64 := by simp only [Lv.key, Bool.and_eq_true, decide_eq_true_eq] at g8; omega
        have eC : (!Op.bytesLess x4.toList x5.toList && !(x4.toList == x5.toList)) = false := by
          have e := bl_le x4 x5
          rw [show Lv.slt x5 x4 = false from g9] at e
          rw [← Bool.not_or, e]; rfl
        clear H HS hx ho g7 g8 g9
        have d1 : decide (x1 < 1) = false := decide_eq_false (by omega)
        have d2 : decide (2147483647 < x1) = false := decide_eq_false (by omega)
        have d3 : decide (x2 < 0) = false := decide_eq_false (by omega)
        have d4 : decide (4 < x2) = false := decide_eq_false (by omega)
        have d5 : decide (x3 < 0) = false := decide_eq_false (by omega)
        have d6 : decide (1073741824 < x3) = false := decide_eq_false (by omega)
        have d7 : x4.toList.isEmpty = false := by simpa using n4
        have d8 : x5.toList.isEmpty = false := by simpa using n5
        have d9 : decide (64 < ((x4.size : Nat) : Int)) = false := decide_eq_false (by omega)
        have d10 : decide (64 < ((x5.size : Nat) : Int)) = false := decide_eq_false (by omega)
        go_wp2
        clear d1 d2 d3 d4 d5 d6 d7 d8 d9 d10 g1 g2 g3 g4 g5 g6 n4 n5 m4 m5 eC q0 q1 q2 q3 q4
        go_loopw [5] (fun j wy => ∃ m : Nat, m ≤ k ∧ j = .int .i64 m ∧ Hid (∀ j, j < m → (!Lv.clash (l.getD j Lv.zero) ⟨x1, x2, x3, x4, x5⟩) = true) ∧ Below (W1.heap.size + 1) (W1.alloc (otab x1 x2 x3 x4 x5)) wy) (fun j _ => k - (intOf j).toNat)
        case atStart => exact ⟨0, by omega, rfl, (fun j hj => by omega : ∀ j, j < 0 → (!Lv.clash (l.getD j Lv.zero) ⟨x1, x2, x3, x4, x5⟩) = true), Below.refl _ _⟩
        case round =>
          obtain ⟨m, hm, rfl, HA, hby⟩ := hrel
          have hys : W1.heap.size + 1 ≤ wr.heap.size := by have := hby.size; simp at this; omega
          have hbw : Below w.heap.size w wr := hb2.trans (hby.mono (by have := hbel.size; omega))
          by_cases hmlt : m < k
          · obtain ⟨b', off', y1, y2, y3, y4, y5, e', hy, p0, p1, p2, p3, p4⟩ := lget hr hbw (Nat.lt_trans hmlt hlt)
            simp only [Option.some.injEq, Addr.mk.injEq] at e'
            obtain ⟨rfl, rfl, _⟩ := e'
            obtain ⟨s0, s1, s2, s3, s4⟩ := tab_past hby (Nat.lt_succ_self _)
            have j0 : (0 : Int) ≤ (m : Int) := by omega
            have j1 : (m : Int) < (k : Int) := by omega
            have j2 : (m : Int) < (len : Int) := by omega
            have hmx := hmee y1 y2 y3 y4 y5 x1 x2 x3 x4 x5
            clear hmee
            by_cases h1 : y1 = x1
            · have d1 : (y1 == x1) = true := by simp [h1]
              have hc : Lv.clash ⟨y1, y2, y3, y4, y5⟩ ⟨x1, x2, x3, x4, x5⟩ = true := by simp [Lv.clash, h1]
              have HE : Hid (R = false) := (by rw [H2.out, all_take_not (by omega) hmlt (by rw [hy.out, hc]; rfl), Bool.false_and, Bool.and_false] : R = false)
              clear H2 HA hy hmx hc
              go_wp2_with fail
              go_quiet (fail)
              go_wp2
              go_ret
              obtain rfl := HE.out
              exact ⟨rfl, hbw.trans (below_drewN _ _ _)⟩
            have d1 : (y1 == x1) = false := by simp [h1]
            by_cases h2 : y2 = x2
            · have d2 : (y2 == x2) = true := by simp [h2]
              by_cases h3 : 0 < x2
              · have d3 : decide (0 < x2) = true := decide_eq_true h3
                have hc0 : Lv.clash ⟨y1, y2, y3, y4, y5⟩ ⟨x1, x2, x3, x4, x5⟩ = Lv.meet ⟨y1, y2, y3, y4, y5⟩ ⟨x1, x2, x3, x4, x5⟩ := by simp [Lv.clash, h1, h2, h3]
                cases hc : Lv.clash ⟨y1, y2, y3, y4, y5⟩ ⟨x1, x2, x3, x4, x5⟩ with
                | true =>
                  rw [← hc0, hc] at hmx
                  have HE : Hid (R = false) := (by rw [H2.out, all_take_not (by omega) hmlt (by rw [hy.out, hc]; rfl), Bool.false_and, Bool.and_false] : R = false)
                  clear H2 HA hy hc hc0 h1 h2 h3
                  go_wp2_with fail
                  go_region_held3 (fun w' => w'.cell? ⟨W1.heap.size, 0, none⟩ = some (.int .i64 x1) ∧ w'.cell? ⟨W1.heap.size, 1, none⟩ = some (.int .i64 x2) ∧ w'.cell? ⟨W1.heap.size, 2, none⟩ = some (.int .i64 x3) ∧ w'.cell? ⟨W1.heap.size, 3, none⟩ = some (.string x4) ∧ w'.cell? ⟨W1.heap.size, 4, none⟩ = some (.string x5) ∧ w'.cell? ⟨b, off + m * 5, none⟩ = some (.int .i64 y1) ∧ w'.cell? ⟨b, off + m * 5 + 1, none⟩ = some (.int .i64 y2) ∧ w'.cell? ⟨b, off + m * 5 + 2, none⟩ = some (.int .i64 y3) ∧ w'.cell? ⟨b, off + m * 5 + 3, none⟩ = some (.string y4) ∧ w'.cell? ⟨b, off + m * 5 + 4, none⟩ = some (.string y5)) (first | go_keep | (refine ⟨?_, ?_, ?_, ?_, ?_, ?_, ?_, ?_, ?_, ?_⟩ <;> assumption))
          ((go_at_call 76; refine (hmx _).mono ?_; rintro e w2 ⟨rfl, hbel2⟩; have hb4 : Below wr.heap.size wr w2 := below_of_drew hbel2; obtain ⟨u0, u1, u2, u3, u4⟩ := L5.below (x := ⟨x1, x2, x3, x4, x5⟩) (o := 0) ⟨s0, s1, s2, s3, s4⟩ hb4 (Nat.le_refl _); obtain ⟨v0, v1, v2, v3, v4⟩ := L5.below (x := ⟨y1, y2, y3, y4, y5⟩) ⟨p0, p1, p2, p3, p4⟩ hb4 (Nat.le_refl _); simp only [Nat.zero_add] at u0 u1 u2 u3 u4 v0 v1 v2 v3 v4))
                  go_wp2
                  go_ret
                  obtain rfl := HE.out
                  exact ⟨rfl, hbw.trans (hb4.mono hbw.size)⟩
                | false =>
                  rw [← hc0, hc] at hmx
                  have HA2 : Hid (∀ j, j < m + 1 → (!Lv.clash (l.getD j Lv.zero) ⟨x1, x2, x3, x4, x5⟩) = true) := (by
                    intro j hj
                    rcases Nat.lt_or_ge j m with h | h
                    · exact HA.out j h
                    · obtain rfl : j = m := by omega
                      rw [hy.out, hc]; rfl : ∀ j, j < m + 1 → (!Lv.clash (l.getD j Lv.zero) ⟨x1, x2, x3, x4, x5⟩) = true)
                  clear H2 HA hy hc hc0 h1 h2 h3
                  go_wp2_with fail
                  go_region_held3 (fun w' => w'.cell? ⟨W1.heap.size, 0, none⟩ = some (.int .i64 x1) ∧ w'.cell? ⟨W1.heap.size, 1, none⟩ = some (.int .i64 x2) ∧ w'.cell? ⟨W1.heap.size, 2, none⟩ = some (.int .i64 x3) ∧ w'.cell? ⟨W1.heap.size, 3, none⟩ = some (.string x4) ∧ w'.cell? ⟨W1.heap.size, 4, none⟩ = some (.string x5) ∧ w'.cell? ⟨b, off + m * 5, none⟩ = some (.int .i64 y1) ∧ w'.cell? ⟨b, off + m * 5 + 1, none⟩ = some (.int .i64 y2) ∧ w'.cell? ⟨b, off + m * 5 + 2, none⟩ = some (.int .i64 y3) ∧ w'.cell? ⟨b, off + m * 5 + 3, none⟩ = some (.string y4) ∧ w'.cell? ⟨b, off + m * 5 + 4, none⟩ = some (.string y5)) (first | go_keep | (refine ⟨?_, ?_, ?_, ?_, ?_, ?_, ?_, ?_, ?_, ?_⟩ <;> assumption))
          ((go_at_call 76; refine (hmx _).mono ?_; rintro e w2 ⟨rfl, hbel2⟩; have hb4 : Below wr.heap.size wr w2 := below_of_drew hbel2; obtain ⟨u0, u1, u2, u3, u4⟩ := L5.below (x := ⟨x1, x2, x3, x4, x5⟩) (o := 0) ⟨s0, s1, s2, s3, s4⟩ hb4 (Nat.le_refl _); obtain ⟨v0, v1, v2, v3, v4⟩ := L5.below (x := ⟨y1, y2, y3, y4, y5⟩) ⟨p0, p1, p2, p3, p4⟩ hb4 (Nat.le_refl _); simp only [Nat.zero_add] at u0 u1 u2 u3 u4 v0 v1 v2 v3 v4))
                  go_wp2
                  go_roundw
                  case rel => exact ⟨m + 1, by omega, by go_num, HA2, hby.trans (hb4.mono hys)⟩
                  case measure => simp [intOf]; omega
              · have d3 : decide (0 < x2) = false := decide_eq_false h3
                have hc : Lv.clash ⟨y1, y2, y3, y4, y5⟩ ⟨x1, x2, x3, x4, x5⟩ = false := by simp [Lv.clash, h1, h2, h3]
                have HA2 : Hid (∀ j, j < m + 1 → (!Lv.clash (l.getD j Lv.zero) ⟨x1, x2, x3, x4, x5⟩) = true) := (by
                  intro j hj
                  rcases Nat.lt_or_ge j m with h | h
                  · exact HA.out j h
                  · obtain rfl : j = m := by omega
                    rw [hy.out, hc]; rfl : ∀ j, j < m + 1 → (!Lv.clash (l.getD j Lv.zero) ⟨x1, x2, x3, x4, x5⟩) = true)
                clear H2 HA hy hmx hc h1 h2 h3
                go_wp2_with fail
                go_quiet (fail)
                go_wp2
                go_roundw
                case rel => exact ⟨m + 1, by omega, by go_num, HA2, hby.trans (below_drewN _ _ _)⟩
                case measure => simp [intOf]; omega
            · have d2 : (y2 == x2) = false := by simp [h2]
              have hc : Lv.clash ⟨y1, y2, y3, y4, y5⟩ ⟨x1, x2, x3, x4, x5⟩ = false := by simp [Lv.clash, h1, h2]
              have HA2 : Hid (∀ j, j < m + 1 → (!Lv.clash (l.getD j Lv.zero) ⟨x1, x2, x3, x4, x5⟩) = true) := (by
                intro j hj
                rcases Nat.lt_or_ge j m with h | h
                · exact HA.out j h
                · obtain rfl : j = m := by omega
                  rw [hy.out, hc]; rfl : ∀ j, j < m + 1 → (!Lv.clash (l.getD j Lv.zero) ⟨x1, x2, x3, x4, x5⟩) = true)
              clear H2 HA hy hmx hc h1 h2
              go_wp2_with fail
              go_quiet (fail)
              go_wp2
              go_roundw
              case rel => exact ⟨m + 1, by omega, by go_num, HA2, hby.trans (below_drewN _ _ _)⟩
              case measure => simp [intOf]; omega
          · obtain rfl : m = k := by omega
            have H3 : Hid (R = (decide ((len : Int) ≤ 64) && Lv.mayGo (l.take (m + 1)) (l.drop (m + 1)))) := (by rw [H2.out, all_take HA.out, Bool.true_and] : R = _)
            clear HA H2
            go_wp2
            go_roundw
            case rel => exact ⟨m + 1, by omega, by go_num, H3, hbw⟩
            case measure => simp [intOf]; omega
    · obtain rfl : k = len := by omega
      have HE : Hid (R = decide ((k : Int) ≤ 64)) := (by rw [H.out, List.drop_of_length_le (by rw [hll.out]; omega)]; simp [Lv.mayGo] : R = decide ((k : Int) ≤ 64))
      clear H
      go_wp2
      go_ret
      obtain rfl := HE.out
      exact ⟨rfl, hbel⟩
end Go.Proofs.YtmodogmjfbcddaaGreat
