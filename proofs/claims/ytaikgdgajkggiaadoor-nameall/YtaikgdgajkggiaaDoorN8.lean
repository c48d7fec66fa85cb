/- The law NameAll, given what is asked of the program's All. -/
import Derived.Test.YtaikgdgajkggiaaDoorN7
import Derived.Test.YtaikgdgajkggiaaDoorI1
namespace Go.Proofs.YtaikgdgajkggiaaDoor
open Go.RowKit

def NAllC : Prop := ∀ (a : Option Addr) (len cap : Nat) (ss : List ByteArray) (kind : Int) (w : World), len ≤ 60 → (∀ s ∈ ss, s.size ≤ 100) → SRow w a len ss → (a = none → len = 0 ∧ cap = 0) → (-9223372036854775808 ≤ kind ∧ kind ≤ 9223372036854775807) → Calls Tryd.prog 13 #[.slice a len cap, .int .i64 kind] w fun e w' => ∃ a' c', e = .returned (.slice a' (Na.all (ss.map kb) kind).length c') ∧ Row .i64 w' a' (Na.all (ss.map kb) kind).length (Na.all (ss.map kb) kind) ∧ Below w.heap.size w w'

set_option maxRecDepth 100000 in
set_option maxHeartbeats 2000000 in
theorem naall_any (hO : NOfC) (hN : NAllC) (a : Option Addr) (len cap : Nat) (ss : List ByteArray) (kind : Int) (w : World) (hr : SRow w a len ss) (hnil : a = none → len = 0 ∧ cap = 0) (hsz : ∀ i, i < len → (ss.getD i ⟨#[]⟩).size ≤ maxLen) (hkind : -9223372036854775808 ≤ kind ∧ kind ≤ 9223372036854775807) (hT : Tab w) :
    Calls Tryd.prog 5 #[.slice a len cap, .int .i64 kind] w fun e w' => e = .returned (.bool true) ∧ Below w.heap.size w w' := by
  have hA := fun W (h : Tab W) => naawake hO W h
  have hb := hr.2.1
  by_cases h60 : 60 < len
  · have hd : decide ((60 : Int) < (len : Int)) = true := by simp; omega
    clear hr hsz
    go_enter Tryd.func5, Tryd.ntmps5
    go_wp2_with (go_at_call 9; refine (hA _ hT).mono ?_; rintro e w1 ⟨rfl, hbel⟩)
    go_ret
    exact ⟨rfl, hbel⟩
  · have hd : decide ((60 : Int) < (len : Int)) = false := by simp; omega
    have hlen : Hid (ss.length = len) := hr.1
    have HN : Hid ((∀ i, i < len → (ss.getD i ⟨#[]⟩).size ≤ 100) → ∀ W, Below w.heap.size w W → Calls Tryd.prog 13 #[.slice a len cap, .int .i64 kind] W fun e w' => ∃ a' c', e = .returned (.slice a' (Na.all (ss.map kb) kind).length c') ∧ Row .i64 w' a' (Na.all (ss.map kb) kind).length (Na.all (ss.map kb) kind) ∧ Below W.heap.size W w') := (fun h W hW => hN a len cap ss kind W (by omega) (fun s hs => by
        obtain ⟨i, hi, rfl⟩ := List.mem_iff_getElem.mp hs
        have := h i (by rw [← hlen.out]; exact hi)
        rw [show ss.getD i ⟨#[]⟩ = ss[i] by simp [hi]] at this
        exact this) (hr.below hW (Nat.le_refl _)) hnil hkind : (∀ i, i < len → (ss.getD i ⟨#[]⟩).size ≤ 100) → ∀ W, Below w.heap.size w W → Calls Tryd.prog 13 #[.slice a len cap, .int .i64 kind] W fun e w' => ∃ a' c', e = .returned (.slice a' (Na.all (ss.map kb) kind).length c') ∧ Row .i64 w' a' (Na.all (ss.map kb) kind).length (Na.all (ss.map kb) kind) ∧ Below W.heap.size W w')
    have hR := fun W (h : Below w.heap.size w W) => nrefall_any a len cap ss kind W (by omega) (hr.below h (Nat.le_refl _))
    have hsm : ∀ x ∈ Na.all (ss.map kb) kind, x < lim .i64 := fun x hx => by
      have := Na.all_small kind _ x hx
      show x < 18446744073709551616
      omega
    have hll : (Na.all (ss.map kb) kind).length ≤ 60 := by
      have := Na.all_len kind (ss.map kb)
      rw [List.length_map, hlen.out] at this
      omega
    have hcc : ∀ k, k < len → ∃ b off, a = some ⟨b, off, none⟩ ∧ w.cell? ⟨b, off + k, none⟩ = some (.string (ss.getD k ⟨#[]⟩)) := fun k hk => by
      obtain ⟨b, off, e, hc⟩ := hr.at (by omega)
      exact ⟨b, off, e, hc k hk⟩
    unfold NAllRes at hR
    generalize Na.all (ss.map kb) kind = L at *
    clear hr hN hkind
    go_enter Tryd.func5, Tryd.ntmps5
    go_wp2
    go_loopw [5] (fun i wr => ∃ k : Nat, k ≤ len ∧ i = .int .i64 k ∧ Below w.heap.size w wr ∧ Hid (∀ j, j < k → (ss.getD j ⟨#[]⟩).size ≤ 100)) (fun i _ => len - (intOf i).toNat)
    case atStart => exact ⟨0, by omega, rfl, Below.refl _ _, (fun j hj => by omega : ∀ j, j < 0 → (ss.getD j ⟨#[]⟩).size ≤ 100)⟩
    case round =>
      obtain ⟨k, hk, rfl, hbel, hall⟩ := hrel
      by_cases hlt : k < len
      · obtain ⟨b, off, rfl, hc⟩ := hcc k hlt
        have p0 := (hbel.cell (p := ⟨b, off + k, none⟩) (cell_lt hc)).trans hc
        have hz := hsz k hlt
        have i0 : (0 : Int) ≤ (k : Int) := by omega
        have i1 : (k : Int) < (len : Int) := by omega
        have Hs : Hid (∀ s, s = ss.getD k ⟨#[]⟩ → s.size ≤ 100 → ∀ j, j < k + 1 → (ss.getD j ⟨#[]⟩).size ≤ 100) := (fun s hs h j hj => by
          rcases Nat.lt_or_ge j k with h' | h'
          · exact hall.out j h'
          · obtain rfl : j = k := by omega
            rw [← hs]; exact h : ∀ s, s = ss.getD k ⟨#[]⟩ → s.size ≤ 100 → ∀ j, j < k + 1 → (ss.getD j ⟨#[]⟩).size ≤ 100)
        obtain ⟨s, hs⟩ : ∃ s, s = ss.getD k ⟨#[]⟩ := ⟨_, rfl⟩
        rw [← hs] at p0 hz
        unfold maxLen at hz
        by_cases h1 : s.size ≤ 100
        · have H : Hid (∀ j, j < k + 1 → (ss.getD j ⟨#[]⟩).size ≤ 100) := Hs.out s hs h1
          have d1 : decide ((100 : Int) < (s.size : Int)) = false := by simp; omega
          clear Hs hs hall HN hR hcc hc
          go_wp2
          go_roundw
          case rel => exact ⟨k + 1, by omega, by go_num, hbel, H⟩
          case measure => simp [intOf]; omega
        · have d1 : decide ((100 : Int) < (s.size : Int)) = true := by simp; omega
          clear Hs hs hall HN hR hcc hc
          go_wp2_with (go_at_call 9; refine (hA _ (hT.keep hbel)).mono ?_; rintro e w1 ⟨rfl, hbel1⟩)
          go_ret
          exact ⟨rfl, hbel.trans (hbel1.mono hbel.size)⟩
      · obtain rfl : k = len := by omega
        have hN := HN.out hall.out
        clear HN hall hcc hsz
        go_wp2_with (first
          | (go_at_call 13; go_must (refine (hN _ hbel).mono ?_; rintro e w1 ⟨a1, c1, rfl, r1, hbel1⟩; have hb1 := hbel.trans (hbel1.mono hbel.size)))
          | (go_at_call 14; go_must (refine (hR _ hb1).mono ?_; rintro e w2 ⟨a2, c2, rfl, own2, hbel2⟩; have hb2 := hb1.trans (hbel2.mono hb1.size)))
          | (go_at_call 12; go_must (refine (ints_any _ _ _ L _ _ _ L _ (r1.below hbel2 (Nat.le_refl _)) (row_of_owns own2 hsm (by omega)).1).mono ?_; rintro e w3 ⟨rfl, n3, rfl⟩; have hb3 := hb2.trans (below_drewN _ _ n3)))
          | (go_at_call 9; go_must (refine (hA _ (hT.keep hb3)).mono ?_; rintro e w4 ⟨rfl, hbel4⟩)))
        go_ret
        exact ⟨by simp, hb3.trans (hbel4.mono hb3.size)⟩
end Go.Proofs.YtaikgdgajkggiaaDoor
