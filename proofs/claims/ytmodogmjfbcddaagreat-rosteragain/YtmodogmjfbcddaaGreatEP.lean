/- Edits: Parts and has of the reference. -/
import Derived.Test.YtmodogmjfbcddaaGreatEF
import Derived.Test.YtmodogmjfbcddaaGreatEIa
import Derived.Test.YtmodogmjfbcddaaGreatOB
namespace Go.Proofs.YtmodogmjfbcddaaGreat
open Go.RowKit

/-- the letters of a kind, as a text -/
def pstr (k : Int) : ByteArray :=
  if k = 1 then ⟨#[78]⟩ else if k = 2 then ⟨#[78, 73]⟩ else if k = 3 then ⟨#[73]⟩ else if k = 4 then ⟨#[66]⟩ else if k = 5 then ⟨#[78]⟩
  else if k = 6 then ⟨#[78, 73, 84]⟩ else if k = 7 then ⟨#[73]⟩ else if k = 8 then ⟨#[78, 73, 84, 72]⟩ else if k = 9 then ⟨#[73]⟩ else ⟨#[]⟩
theorem pstr_none {k : Int} (h : k < 1 ∨ 9 < k) : pstr k = ⟨#[]⟩ := by
  unfold pstr
  rw [if_neg (by omega), if_neg (by omega), if_neg (by omega), if_neg (by omega), if_neg (by omega), if_neg (by omega), if_neg (by omega), if_neg (by omega), if_neg (by omega)]
theorem pstr_parts (k : Int) : kb (pstr k) = Ed.parts k := by
  rcases Ed.kinds k with rfl | rfl | rfl | rfl | rfl | rfl | rfl | rfl | rfl | h
  case inr.inr.inr.inr.inr.inr.inr.inr.inr => rw [pstr_none h, Ed.parts_none h]; rfl
  all_goals decide
set_option maxRecDepth 100000 in
set_option maxHeartbeats 1000000 in
theorem rparts_any (k : Int) (w : World) : Calls Tryz.prog 78 #[.int .i64 k] w fun e w' => e = .returned (.string (pstr k)) ∧ Below w.heap.size w w' := by
  rcases Ed.kinds k with rfl | rfl | rfl | rfl | rfl | rfl | rfl | rfl | rfl | h
  case inr.inr.inr.inr.inr.inr.inr.inr.inr =>
    have HE : Hid (pstr k = ⟨#[]⟩) := (pstr_none h : pstr k = ⟨#[]⟩)
    rcases h with h | h
    · go_enter Tryz.func78, Tryz.ntmps78
      go_wp2
      go_ret
      rw [HE.out]
      exact ⟨rfl, below_alloc _ _⟩
    · have h1 : ¬ k < 1 := by omega
      go_enter Tryz.func78, Tryz.ntmps78
      go_wp2
      go_ret
      rw [HE.out]
      exact ⟨rfl, below_alloc _ _⟩
  all_goals
    go_enter Tryz.func78, Tryz.ntmps78
    go_wp2
    go_ret
    exact ⟨rfl, below_alloc _ _⟩
theorem kb_getD {s : ByteArray} {j : Nat} (h : j < s.size) : (kb s).getD j 0 = (s[j]'h).toNat := by
  have hl : j < s.data.toList.length := by simpa using h
  simp only [kb, List.getD_eq_getElem?_getD, List.getElem?_map, List.getElem?_eq_getElem hl]
  simp; rfl
set_option maxRecDepth 100000 in
set_option maxHeartbeats 1000000 in
theorem rhasc_any (s : ByteArray) (c : Nat) (w : World) (hs : s.size ≤ 1000000) : Calls Tryz.prog 80 #[.string s, .int .u8 (c : Nat)] w fun e w' => e = .returned (.bool (Ed.has (kb s) c)) ∧ w' = w := by
  obtain ⟨R, hR⟩ : ∃ R, R = Ed.has (kb s) c := ⟨_, rfl⟩
  rw [← hR]
  have H : Hid (R = Ed.has (kb s) c) := hR
  clear hR
  obtain ⟨n, hn⟩ : ∃ n, s.size = n := ⟨_, rfl⟩
  have hlk : Hid ((kb s).length = n) := (by rw [kb_len, hn] : (kb s).length = n)
  go_enter Tryz.func80, Tryz.ntmps80
  go_wp2
  go_loop [5] (fun iv => ∃ j : Nat, j ≤ n ∧ iv = .int .i64 j ∧ Hid (∀ m, m < j → (kb s).getD m 0 ≠ c)) (fun iv => n - (intOf iv).toNat)
  case atStart => exact ⟨0, by omega, rfl, (fun m hm => by omega : ∀ m, m < 0 → (kb s).getD m 0 ≠ c)⟩
  case round =>
    obtain ⟨j, hj, rfl, HM⟩ := hrel
    by_cases hlt : j < n
    · have hj' : j < s.size := by omega
      have hg := kb_getD hj'
      have i0 : (0 : Int) ≤ (j : Int) := by omega
      have i1 : (j : Int) < (n : Int) := by omega
      obtain ⟨x, hx⟩ : ∃ x, (s[j]'hj').toNat = x := ⟨_, rfl⟩
      rw [hx] at hg
      have hg : Hid (_ = _) := hg
      by_cases hxc : x = c
      · have d : ((x : Int) == (c : Int)) = true := by simp [hxc]
        have HT : Hid (R = true) := (by
          rw [H.out, Ed.has, List.contains_iff_mem]
          have : (kb s).getD j 0 ∈ kb s := by
            rw [List.getD_eq_getElem?_getD, List.getElem?_eq_getElem (by rw [hlk.out]; exact hlt)]
            exact List.getElem_mem _
          rw [hg.out, hxc] at this
          exact this : R = true)
        clear hg HM
        go_wp2
        go_ret
        rw [HT.out]
        exact ⟨rfl, rfl⟩
      · have d : ((x : Int) == (c : Int)) = false := by simp; omega
        have d2 : ¬ (x : Int) = (c : Int) := by omega
        have HM2 : Hid (∀ m, m < j + 1 → (kb s).getD m 0 ≠ c) := (by
          intro m hm
          rcases Nat.lt_or_ge m j with h | h
          · exact HM.out m h
          · obtain rfl : m = j := by omega
            rw [hg.out]; exact hxc : ∀ m, m < j + 1 → (kb s).getD m 0 ≠ c)
        clear hg HM
        go_wp2
        go_round
        case rel => exact ⟨j + 1, by omega, by go_num, HM2⟩
        case measure => simp [intOf]; omega
    · obtain rfl : j = n := by omega
      have HF : Hid (R = false) := (by
        rw [H.out, Ed.has, List.contains_eq_any_beq, List.any_eq_false]
        intro x hx
        obtain ⟨m, hm, rfl⟩ := List.getElem_of_mem hx
        have := HM.out m (by rw [hlk.out] at hm; exact hm)
        rw [List.getD_eq_getElem?_getD, List.getElem?_eq_getElem hm] at this
        simp only [Option.getD_some] at this
        simp; omega : R = false)
      clear HM
      go_wp2
      go_ret
      rw [HF.out]
      exact ⟨rfl, rfl⟩
end Go.Proofs.YtmodogmjfbcddaaGreat
