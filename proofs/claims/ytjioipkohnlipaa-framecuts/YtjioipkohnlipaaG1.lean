/- What the laws' own Light and may do. -/
import Derived.Test.YtjioipkohnlipaaO1
namespace Go.Proofs.Ytjioipkohnlipaa
open Go.RowKit

def tot (fs : List Fr.F) : Nat := (fs.map fun f => f.2.length).sum
def lightB (fs : List Fr.F) : Bool := decide (fs.length < 100 ∧ tot fs ≤ 4000)
theorem tot_take (fs : List Fr.F) (k : Nat) (h : k < fs.length) : tot (fs.take (k + 1)) = tot (fs.take k) + (fs.getD k (0, [])).2.length := by
  rw [List.take_succ_eq_append_getElem h]; simp only [tot, List.map_append, List.sum_append]; simp [h]
theorem tot_le (fs : List Fr.F) (k : Nat) : tot (fs.take k) ≤ tot fs := by
  have : tot fs = tot (fs.take k) + tot (fs.drop k) := by
    conv => lhs; rw [← List.take_append_drop k fs]
    simp only [tot, List.map_append, List.sum_append]
  omega

set_option maxRecDepth 100000 in
set_option maxHeartbeats 1000000 in
theorem light_any (a : Option Addr) (len cap : Nat) (fs : List Fr.F) (w : World) (h : IsFrames w a len cap fs) :
    Calls Try.prog 7 #[.slice a len cap] w fun e w' => e = .returned (.bool (lightB fs)) ∧ w' = w := by
  obtain ⟨hr, hnil, _, hls, hlb⟩ := h
  have hll : Hid (fs.length = len) := hr.1
  obtain ⟨B, hB⟩ : ∃ B, B = lightB fs := ⟨_, rfl⟩
  rw [← hB]
  have HB : Hid (B = lightB fs) := hB
  clear hB
  go_enter Try.func7, Try.ntmps7
  go_wp2
  go_loop [3, 4] (fun t i => ∃ k n : Nat, k ≤ len ∧ k ≤ 100 ∧ i = .int .i64 k ∧ t = .int .i64 n ∧ n ≤ 140737488359328 ∧ Hid (n = tot (fs.take k))) (fun _ i => len - (intOf i).toNat)
  case atStart => exact ⟨0, 0, by omega, by omega, rfl, rfl, by omega, (rfl : 0 = tot (fs.take 0))⟩
  case round =>
    obtain ⟨k, n, hk, hk100, rfl, rfl, hnb, hn⟩ := hrel
    by_cases hgo : k < len ∧ k < 100 ∧ n ≤ 4000
    · obtain ⟨hlt, hlt100, hn4⟩ := hgo
      obtain ⟨b, off, rfl, hc⟩ := hr.at (by omega)
      obtain ⟨A, L, C, p1, q1, r1, s1, t1, lo1, hi1⟩ := hc k hlt
      have hL : Hid ((fs.getD k (0, [])).2.length = L) := r1.1
      have hLb : L ≤ 140737488355328 := by
        rw [← hL.out]
        have hk' : k < fs.length := by rw [hll.out]; exact hlt
        have : fs.getD k (0, []) = fs[k] := by simp [hk']
        rw [this]; exact hls _ (List.getElem_mem hk')
      have H : Hid (n + L = tot (fs.take (k + 1))) := (by rw [tot_take fs k (by rw [hll.out]; exact hlt), ← hn.out, hL.out] : n + L = tot (fs.take (k + 1)))
      clear hc r1 s1 t1
      go_wp2
      go_round
      case rel => exact ⟨k + 1, n + L, by omega, by omega, by go_num, by go_num, by omega, H⟩
      case measure => simp [intOf]; omega
    · have hend : (k = len) ∨ (k < len ∧ k = 100) ∨ (k < len ∧ k < 100 ∧ 4000 < n) := by omega
      rcases hend with rfl | ⟨h1, rfl⟩ | ⟨h1, h2, h3⟩
      · have H : Hid (B = decide (k < 100 ∧ n ≤ 4000)) := (by rw [HB.out, lightB, hll.out, hn.out, List.take_of_length_le (by rw [hll.out]; omega)] : B = decide (k < 100 ∧ n ≤ 4000))
        by_cases h4 : k < 100
        · by_cases h5 : n ≤ 4000
          · have H2 : Hid (B = true) := (by rw [H.out]; simp; omega : B = true)
            go_wp2
            go_ret
            exact ⟨by first | (rw [H2.out]; rfl) | exact ret_bool (by rw [H2.out]; simp; omega), rfl⟩
          · have H2 : Hid (B = false) := (by rw [H.out]; simp; omega : B = false)
            go_wp2
            go_ret
            exact ⟨by first | (rw [H2.out]; rfl) | exact ret_bool (by rw [H2.out]; simp; omega), rfl⟩
        · have H2 : Hid (B = false) := (by rw [H.out]; simp; omega : B = false)
          go_wp2
          go_ret
          exact ⟨by first | (rw [H2.out]; rfl) | exact ret_bool (by rw [H2.out]; simp; omega), rfl⟩
      · have H2 : Hid (B = false) := (by rw [HB.out, lightB, hll.out]; simp; omega : B = false)
        go_wp2
        go_ret
        exact ⟨by first | (rw [H2.out]; rfl) | exact ret_bool (by rw [H2.out]; simp; omega), rfl⟩
      · have H2 : Hid (B = false) := (by
          have := tot_le fs k
          rw [← hn.out] at this
          rw [HB.out, lightB]; simp; omega : B = false)
        by_cases h6 : len < 100
        · go_wp2
          go_ret
          exact ⟨by first | (rw [H2.out]; rfl) | exact ret_bool (by rw [H2.out]; simp; omega), rfl⟩
        · go_wp2
          go_ret
          exact ⟨by first | (rw [H2.out]; rfl) | exact ret_bool (by rw [H2.out]; simp; omega), rfl⟩

/-- may frames be, not too great? -/
def goodB (fs : List Fr.F) : Bool := (fs.take 100).all Fr.may && lightB fs

set_option maxRecDepth 100000 in
set_option maxHeartbeats 1000000 in
theorem lmay_any (a : Option Addr) (len cap : Nat) (fs : List Fr.F) (w : World) (h : IsFrames w a len cap fs) :
    Calls Try.prog 22 #[.slice a len cap] w fun e w' => e = .returned (.bool (goodB fs)) ∧ Below w.heap.size w w' := by
  have hr := h.1
  have hlb := h.2.2.2.2
  have hll : Hid (fs.length = len) := hr.1
  have hlight : ∀ W, Below w.heap.size w W → Calls Try.prog 7 #[.slice a len cap] W fun e w' => e = .returned (.bool (lightB fs)) ∧ w' = W := fun W hW =>
    light_any a len cap fs W ⟨hr.below hW (Nat.le_refl _), h.2.1, h.2.2.1, h.2.2.2.1, h.2.2.2.2⟩
  obtain ⟨B, hB⟩ : ∃ B, B = goodB fs := ⟨_, rfl⟩
  rw [← hB]
  have HB : Hid (B = goodB fs) := hB
  clear hB h
  go_enter Try.func22, Try.ntmps22
  go_wp2
  go_loopw [3] (fun i wr => ∃ k : Nat, k ≤ len ∧ k ≤ 100 ∧ i = .int .i64 k ∧ Below w.heap.size w wr ∧ Hid ((fs.take k).all Fr.may = true)) (fun i _ => len - (intOf i).toNat)
  case atStart => exact ⟨0, by omega, by omega, rfl, Below.refl _ _, (rfl : ([] : List Fr.F).all Fr.may = true)⟩
  case round =>
    obtain ⟨k, hk, hk100, rfl, hbel, hall⟩ := hrel
    have hsz := hbel.size
    by_cases hgo : k < len ∧ k < 100
    · obtain ⟨hlt, hlt100⟩ := hgo
      obtain ⟨b, off, rfl, hc⟩ := (hr.below hbel (Nat.le_refl _)).at (by omega)
      obtain ⟨A, L, C, p1, q1, r1, s1, t1, lo1, hi1⟩ := hc k hlt
      have hk' : k < fs.length := by rw [hll.out]; exact hlt
      have ht : Hid (fs.take (k + 1) = fs.take k ++ [fs.getD k (0, [])]) := (by rw [List.take_succ_eq_append_getElem hk']; simp [hk'] : fs.take (k + 1) = fs.take k ++ [fs.getD k (0, [])])
      have hg : Hid (fs.getD k (0, []) = fs[k]) := (by simp [hk'] : fs.getD k (0, []) = fs[k])
      clear hc s1 t1
      obtain ⟨⟨x, y⟩, hf⟩ : ∃ f, f = fs.getD k (0, []) := ⟨_, rfl⟩
      rw [← hf] at p1 r1 lo1 hi1 ht hg
      clear hf
      simp only at p1 r1
      have hy : Hid (y.length = L) := r1.1
      have hm := may1_any x A L C wr r1.2.1
      have hmm : Hid (mayB x L = Fr.may (x, y)) := (by rw [← hy.out]; rfl : mayB x L = Fr.may (x, y))
      clear r1
      cases hmb : mayB x L with
      | true =>
        rw [hmb] at hm
        have H : Hid ((fs.take (k + 1)).all Fr.may = true) := (by rw [ht.out, List.all_append, hall.out]; simp [← hmm.out, hmb] : (fs.take (k + 1)).all Fr.may = true)
        clear hmb
        go_wp2_with (go_at_call 12; refine hm.mono ?_; rintro e w1 ⟨rfl, hbel1⟩)
        go_roundw
        case rel => exact ⟨k + 1, by omega, by omega, by go_num, hbel.trans (hbel1.mono hsz), H⟩
        case measure => simp [intOf]; omega
      | false =>
        rw [hmb] at hm
        have H : Hid (B = false) := (by
          rw [HB.out, goodB]
          have : (fs.take 100).all Fr.may = false := by
            rw [List.all_eq_false]
            refine ⟨(x, y), ?_, by rw [← hmm.out, hmb]; simp⟩
            rw [hg.out]
            have : fs[k] = (fs.take 100)[k]'(by rw [List.length_take]; omega) := by simp
            rw [this]; exact List.getElem_mem _
          rw [this]; rfl : B = false)
        clear hmb
        go_wp2_with (go_at_call 12; refine hm.mono ?_; rintro e w1 ⟨rfl, hbel1⟩)
        go_ret
        exact ⟨by rw [H.out]; rfl, hbel.trans (hbel1.mono hsz)⟩
    · have ht : fs.take k = fs.take 100 := by
        by_cases h1 : k = 100
        · rw [h1]
        · rw [List.take_of_length_le (by rw [hll.out]; omega), List.take_of_length_le (by rw [hll.out]; omega)]
      have H : Hid (B = lightB fs) := (by rw [HB.out, goodB, ← ht, hall.out]; rfl : B = lightB fs)
      have hL := hlight wr hbel
      clear hlight ht
      by_cases h1 : k < len
      · have h2 : ¬ k < 100 := by omega
        go_wp2_with (go_at_call 7; refine hL.mono ?_; rintro e w1 ⟨rfl, hw⟩; subst hw)
        go_ret
        exact ⟨by rw [H.out]; rfl, hbel⟩
      · go_wp2_with (go_at_call 7; refine hL.mono ?_; rintro e w1 ⟨rfl, hw⟩; subst hw)
        go_ret
        exact ⟨by rw [H.out]; rfl, hbel⟩
end Go.Proofs.Ytjioipkohnlipaa
