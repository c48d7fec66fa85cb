/- What the reference's has, Set and Of of sieves do. -/
import Derived.Test.YtfcijbplfokinaaSV1
namespace Go.Proofs.Ytfcijbplfokinaa
open Go.RowKit

set_option maxRecDepth 100000 in
set_option maxHeartbeats 1000000 in
theorem vin_any (a : Option Addr) (len cap : Nat) (l : List Nat) (b : Nat) (w : World) (hr : IRow w a len l) :
    Calls Try.prog 27 #[.slice a len cap, .int .i64 b] w fun e w' => e = .returned (.bool (decide (b ∈ l))) ∧ Below w.heap.size w w' := by
  have hll : Hid (l.length = len) := hr.1
  have hlb := hr.2.1
  obtain ⟨R, hR⟩ : ∃ R, R = decide (b ∈ l) := ⟨_, rfl⟩
  rw [← hR]
  have HR : Hid (R = decide (b ∈ l)) := hR
  clear hR
  go_enter Try.func27, Try.ntmps27
  go_wp2
  go_loopw [5] (fun i wr => ∃ k : Nat, k ≤ len ∧ i = .int .i64 k ∧ Hid (R = decide (b ∈ l.drop k)) ∧ Below w.heap.size w wr) (fun i _ => len - (intOf i).toNat)
  case atStart => exact ⟨0, by omega, rfl, (HR.out : R = decide (b ∈ l.drop 0)), Below.refl _ _⟩
  case round =>
    obtain ⟨k, hk, rfl, H, hbel⟩ := hrel
    clear HR
    by_cases hlt : k < len
    · obtain ⟨bb, off, rfl, hc⟩ := hr.cell (by omega)
      have p0 := (hbel.cell (p := ⟨bb, off + k, none⟩) (cell_lt (hc k hlt))).trans (hc k hlt)
      have hst : Hid (R = (decide (b = l.getD k 0) || decide (b ∈ l.drop (k + 1)))) := (by
        have hk' : k < l.length := by rw [hll.out]; exact hlt
        have hm : b ∈ l.drop k ↔ b = l.getD k 0 ∨ b ∈ l.drop (k + 1) := by rw [List.drop_eq_getElem_cons hk', List.mem_cons, show l.getD k 0 = l[k] by simp [hk']]
        rw [H.out, ← Bool.decide_or]
        exact decide_eq_decide.mpr hm : R = (decide (b = l.getD k 0) || decide (b ∈ l.drop (k + 1))))
      generalize l.getD k 0 = x at *
      have i0 : (0 : Int) ≤ (k : Int) := by omega
      have i1 : (k : Int) < (len : Int) := by omega
      clear H hc
      by_cases he : b = x
      · subst he
        obtain rfl : R = true := by rw [hst.out]; simp
        have hd : ((b : Int) == (b : Int)) = true := by simp
        clear hst
        go_wp2
        go_ret
        exact ⟨rfl, hbel⟩
      · have H2 : Hid (R = decide (b ∈ l.drop (k + 1))) := (by rw [hst.out]; simp [he] : R = decide (b ∈ l.drop (k + 1)))
        have hd : ((x : Int) == (b : Int)) = false := by simp; omega
        have hd2 : (x == b) = false := by simp; omega
        clear hst he
        go_wp2
        go_roundw
        case rel => exact ⟨k + 1, by omega, by go_num, H2, hbel⟩
        case measure => simp [intOf]; omega
    · obtain rfl : k = len := by omega
      have HE : Hid (R = false) := (by rw [H.out, List.drop_of_length_le (by rw [hll.out]; omega)]; simp : R = false)
      go_wp2
      go_ret
      exact ⟨by rw [HE.out]; rfl, hbel⟩

set_option maxRecDepth 100000 in
set_option maxHeartbeats 1000000 in
theorem vset_any (a : Option Addr) (len cap : Nat) (ks : List ByteArray) (n b : Nat) (w : World) (hr : StRow w a len ks) (hn : 1 ≤ n ∧ n ≤ 1048576) (hs : ∀ s ∈ ks, s.size ≤ 1000000) :
    Calls Try.prog 22 #[.slice a len cap, .int .i64 n, .int .i64 b] w fun e w' => e = .returned (.bool (Sv.set (ks.map kb) n b)) ∧ Below w.heap.size w w' := by
  have hll : Hid (ks.length = len) := hr.1
  have hlb := hr.2.1
  have Hs : Hid (∀ s ∈ ks, s.size ≤ 1000000) := hs
  obtain ⟨R, hR⟩ : ∃ R, R = Sv.set (ks.map kb) n b := ⟨_, rfl⟩
  rw [← hR]
  have HR : Hid (R = Sv.set (ks.map kb) n b) := hR
  clear hR hs
  go_enter Try.func22, Try.ntmps22
  go_wp2
  go_loopw [7] (fun i wr => ∃ k : Nat, k ≤ len ∧ i = .int .i64 k ∧ Hid (R = Sv.set ((ks.drop k).map kb) n b) ∧ Below w.heap.size w wr) (fun i _ => len - (intOf i).toNat)
  case atStart => exact ⟨0, by omega, rfl, (HR.out : R = Sv.set ((ks.drop 0).map kb) n b), Below.refl _ _⟩
  case round =>
    obtain ⟨k, hk, rfl, H, hbel⟩ := hrel
    clear HR
    by_cases hlt : k < len
    · obtain ⟨bb, off, rfl, hc⟩ := hr.cell (by omega)
      have p0 := (hbel.cell (p := ⟨bb, off + k, none⟩) (cell_lt (hc k hlt))).trans (hc k hlt)
      have hk' : k < ks.length := by rw [hll.out]; exact hlt
      have hst : Hid (R = (decide (b ∈ Sv.bits n (kb (ks.getD k ⟨#[]⟩))) || Sv.set ((ks.drop (k + 1)).map kb) n b)) := (by
        rw [H.out, List.drop_eq_getElem_cons hk', show ks.getD k ⟨#[]⟩ = ks[k] by simp [hk']]
        rfl : R = (decide (b ∈ Sv.bits n (kb (ks.getD k ⟨#[]⟩))) || Sv.set ((ks.drop (k + 1)).map kb) n b))
      have hsz : (ks.getD k ⟨#[]⟩).size ≤ 1000000 := Hs.out _ (by rw [show ks.getD k ⟨#[]⟩ = ks[k] by simp [hk']]; exact List.getElem_mem _)
      generalize ks.getD k ⟨#[]⟩ = s at *
      have hB := fun W => vbits_any n s W hn hsz
      have hI := fun (a : Option Addr) (c : Nat) W (h : IRow W a (Sv.bits n (kb s)).length (Sv.bits n (kb s))) => vin_any a _ c _ b W h
      have hl6 : Hid ((Sv.bits n (kb s)).length = 6) := Sv.bits_len n (kb s)
      generalize Sv.bits n (kb s) = L at *
      have i0 : (0 : Int) ≤ (k : Int) := by omega
      have i1 : (k : Int) < (len : Int) := by omega
      clear H hc hk' hsz
      cases hq : decide (b ∈ L) with
      | true =>
        rw [hq] at hI
        obtain rfl : R = true := by rw [hst.out, hq]; rfl
        clear hst hq
        go_wp2_with (first
          | (go_at_call 10; go_must (refine (hB _).mono ?_; rintro e w1 ⟨a1, c1, rfl, _, _, hown1, hb1⟩; have hw1 := hbel.trans (hb1.mono hbel.size)))
          | (go_at_call 27; go_must (refine (hI _ _ _ (trow_of_owns ieE hown1 (by omega) (by have := hl6.out; omega))).mono ?_; rintro e w2 ⟨rfl, hb2⟩; have hw2 := hw1.trans (hb2.mono hw1.size))))
        go_ret
        exact ⟨rfl, hw2⟩
      | false =>
        rw [hq] at hI
        have H2 : Hid (R = Sv.set ((ks.drop (k + 1)).map kb) n b) := (by rw [hst.out, hq]; rfl : R = Sv.set ((ks.drop (k + 1)).map kb) n b)
        clear hst hq
        go_wp2_with (first
          | (go_at_call 10; go_must (refine (hB _).mono ?_; rintro e w1 ⟨a1, c1, rfl, _, _, hown1, hb1⟩; have hw1 := hbel.trans (hb1.mono hbel.size)))
          | (go_at_call 27; go_must (refine (hI _ _ _ (trow_of_owns ieE hown1 (by omega) (by have := hl6.out; omega))).mono ?_; rintro e w2 ⟨rfl, hb2⟩; have hw2 := hw1.trans (hb2.mono hw1.size))))
        go_roundw
        case rel => exact ⟨k + 1, by omega, by go_num, H2, hw2⟩
        case measure => simp [intOf]; omega
    · obtain rfl : k = len := by omega
      have HE : Hid (R = false) := (by rw [H.out, List.drop_of_length_le (by rw [hll.out]; omega)]; rfl : R = false)
      go_wp2
      go_ret
      exact ⟨by rw [HE.out]; rfl, hbel⟩
end Go.Proofs.Ytfcijbplfokinaa
