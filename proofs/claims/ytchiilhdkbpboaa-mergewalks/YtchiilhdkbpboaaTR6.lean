/- awake, Light; the laws TreeHolds and TreeScans, given what is asked of the program. -/
import Derived.Test.YtchiilhdkbpboaaTRa
namespace Go.Proofs.Ytchiilhdkbpboaa
open Go.RowKit

def itB : It.I := ([98], false, Ce.zero)
def itA : It.I := ([97], true, Ce.zero)
theorem it_ex1 : It.put [] itB = [itB] := rfl
theorem it_ex2 : It.put [itB] itA = [itA, itB] := rfl
theorem item_b (w : World) : IsItem w ⟨⟨#[98]⟩, false, false, none, 0, 0, Po.zero⟩ itB := ⟨rfl, rfl, rfl, rfl, ⟨rfl, by decide, (fun x hx => by cases hx), .inl rfl⟩, (fun _ => ⟨rfl, rfl⟩), Nat.le_refl _, by unfold Po.Fits; decide, by decide⟩
theorem item_a (w : World) : IsItem w ⟨⟨#[97]⟩, true, false, none, 0, 0, Po.zero⟩ itA := ⟨rfl, rfl, rfl, rfl, ⟨rfl, by decide, (fun x hx => by cases hx), .inl rfl⟩, (fun _ => ⟨rfl, rfl⟩), Nat.le_refl _, by unfold Po.Fits; decide, by decide⟩

theorem It.putGo_mem {x z : It.I} : ∀ (d : Bool) (l : List It.I), z ∈ It.putGo x d l → z ∈ l ∨ z = x
  | d, [], h => by
    rw [It.putGo] at h
    split at h
    · cases h
    · exact .inr (List.mem_singleton.mp h)
  | d, y :: l, h => by
    rw [It.putGo, List.mem_append, List.mem_append] at h
    rcases h with h | h | h
    · split at h
      · exact .inr (List.mem_singleton.mp h)
      · cases h
    · split at h
      · cases h
      · exact .inl (by rw [List.mem_singleton.mp h]; exact List.mem_cons_self)
    · rcases It.putGo_mem _ l h with h | h
      · exact .inl (List.mem_cons_of_mem _ h)
      · exact .inr h
theorem It.fold_mem {z : It.I} : ∀ (p l : List It.I), z ∈ p.foldl It.put l → z ∈ l ∨ z ∈ p
  | [], _, h => .inl h
  | x :: p, l, h => by
    rw [List.foldl_cons] at h
    rcases It.fold_mem p _ h with h | h
    · rcases It.putGo_mem false l h with h | h
      · exact .inl h
      · exact .inr (by rw [h]; exact List.mem_cons_self)
    · exact .inr (List.mem_cons_of_mem _ h)
theorem It.all_mem {l : List It.I} {z : It.I} (h : z ∈ It.all l) : z ∈ l ∧ It.may z = true := by
  rcases It.fold_mem _ _ h with h | h
  · cases h
  · exact List.mem_filter.mp h
/-- items that are not too great -/
def Fine (gs : List IH) (n : Nat) : Prop := n ≤ 100 ∧ ∀ i, i < n → (gs.getD i ihz).key.size ≤ 200 ∧ (gs.getD i ihz).n ≤ 200

set_option maxRecDepth 100000 in
set_option maxHeartbeats 1000000 in
theorem trlight (a : Option Addr) (n c : Nat) (gs : List IH) (xs : List It.I) (w : World) (hi : ItRow w a n gs xs) :
    Calls Try.prog 21 #[.slice a n c] w fun e w' => ∃ r : Bool, e = .returned (.bool r) ∧ (r = true ↔ Fine gs n) ∧ Below w.heap.size w w' := by
  have hlb := hi.1.2.1
  have hz : Hid (∀ i, i < n → (gs.getD i ihz).key.size ≤ 9223372036854775807 ∧ (gs.getD i ihz).n ≤ 1000000000000000000) := (fun i hin => ⟨(hi.item hin).ksz, (hi.item hin).row.2.1⟩ : ∀ i, i < n → (gs.getD i ihz).key.size ≤ 9223372036854775807 ∧ (gs.getD i ihz).n ≤ 1000000000000000000)
  have hr := hi.1
  clear hi
  go_enter Try.func21, Try.ntmps21
  go_wp2
  go_loopw [3] (fun i wr => ∃ k : Nat, k ≤ n ∧ k ≤ 101 ∧ i = .int .i64 k ∧ Hid (∀ j, j < k → (gs.getD j ihz).key.size ≤ 200 ∧ (gs.getD j ihz).n ≤ 200) ∧ Below w.heap.size w wr) (fun i _ => 101 - (intOf i).toNat)
  case atStart => exact ⟨0, by omega, by omega, rfl, (fun j hj => by omega : ∀ j, j < 0 → (gs.getD j ihz).key.size ≤ 200 ∧ (gs.getD j ihz).n ≤ 200), Below.refl _ _⟩
  case round =>
    obtain ⟨k, hk, hk31, rfl, H, hbel⟩ := hrel
    by_cases hlt : k < n ∧ k ≤ 100
    · obtain ⟨bb, off, rfl, hc⟩ := hr.items (by omega)
      obtain ⟨y0, y1, y2, y3, y4, y5, y6, y7⟩ := (hc k hlt.1).below hbel (Nat.le_refl _)
      have hzk := hz.out k hlt.1
      have Hs : Hid (∀ q, q = gs.getD k ihz → q.key.size ≤ 200 ∧ q.n ≤ 200 → ∀ j, j < k + 1 → (gs.getD j ihz).key.size ≤ 200 ∧ (gs.getD j ihz).n ≤ 200) := (fun q hq h j hj => by
        rcases Nat.lt_or_ge j k with h' | h'
        · exact H.out j h'
        · obtain rfl : j = k := by omega
          rw [← hq]; exact h : ∀ q, q = gs.getD k ihz → q.key.size ≤ 200 ∧ q.n ≤ 200 → ∀ j, j < k + 1 → (gs.getD j ihz).key.size ≤ 200 ∧ (gs.getD j ihz).n ≤ 200)
      obtain ⟨q, hq⟩ : ∃ q, q = gs.getD k ihz := ⟨_, rfl⟩
      have HF : Hid (¬ (q.key.size ≤ 200 ∧ q.n ≤ 200) → ¬ Fine gs n) := (fun h hF => h (by rw [hq]; exact hF.2 k hlt.1) : ¬ (q.key.size ≤ 200 ∧ q.n ≤ 200) → ¬ Fine gs n)
      rw [← hq] at y0 y1 y2 y3 y4 y5 y6 y7 hzk
      have i0 : (0 : Int) ≤ (k : Int) := by omega
      have i1 : (k : Int) < (n : Int) := by omega
      have i2 : (k : Int) ≤ 100 := by omega
      by_cases h1 : q.key.size ≤ 200
      · have d1 : decide ((200 : Int) < (q.key.size : Int)) = false := by simp; omega
        by_cases h2 : q.n ≤ 200
        · have d2 : decide ((200 : Int) < (q.n : Int)) = false := by simp; omega
          have H2 : Hid (∀ j, j < k + 1 → (gs.getD j ihz).key.size ≤ 200 ∧ (gs.getD j ihz).n ≤ 200) := Hs.out q hq ⟨h1, h2⟩
          clear Hs hq H hc HF
          go_wp2
          go_roundw
          case rel => exact ⟨k + 1, by omega, by omega, by go_num, H2, hbel⟩
          case measure => simp [intOf]; omega
        · have d2 : decide ((200 : Int) < (q.n : Int)) = true := by simp; omega
          have HF2 := HF.out (fun h => h2 h.2)
          clear Hs hq H hc HF
          go_wp2
          go_ret
          exact ⟨false, rfl, ⟨(fun h => by cases h), fun h => absurd h HF2⟩, hbel⟩
      · have d1 : decide ((200 : Int) < (q.key.size : Int)) = true := by simp; omega
        have HF2 := HF.out (fun h => h1 h.1)
        clear Hs hq H hc HF
        go_wp2
        go_ret
        exact ⟨false, rfl, ⟨(fun h => by cases h), fun h => absurd h HF2⟩, hbel⟩
    · by_cases hkn : k < n
      · have i1 : (k : Int) < (n : Int) := by omega
        have i2 : decide ((k : Int) ≤ 100) = false := by simp; omega
        have i3 : decide ((n : Int) ≤ 100) = false := by simp; omega
        have HF2 : ¬ Fine gs n := fun h => by have := h.1; omega
        clear hr hz
        go_wp2
        go_ret
        exact ⟨false, rfl, ⟨(fun h => by cases h), fun h => absurd h HF2⟩, hbel⟩
      · obtain rfl : k = n := by omega
        by_cases hk30 : k ≤ 100
        · have i3 : decide ((k : Int) ≤ 100) = true := by simp; omega
          clear hr hz
          go_wp2
          go_ret
          exact ⟨true, rfl, ⟨(fun _ => ⟨hk30, H.out⟩), fun _ => rfl⟩, hbel⟩
        · have i3 : decide ((k : Int) ≤ 100) = false := by simp; omega
          have HF2 : ¬ Fine gs k := fun h => by have := h.1; omega
          clear hr hz
          go_wp2
          go_ret
          exact ⟨false, rfl, ⟨(fun h => by cases h), fun h => absurd h HF2⟩, hbel⟩
theorem trlightT (a : Option Addr) (n c : Nat) (gs : List IH) (xs : List It.I) (w : World) (hi : ItRow w a n gs xs) (h : Fine gs n) : Calls Try.prog 21 #[.slice a n c] w fun e w' => e = .returned (.bool true) ∧ Below w.heap.size w w' :=
  (trlight a n c gs xs w hi).mono (fun e w' ⟨r, h1, h2, h3⟩ => ⟨by rw [h1, h2.mpr h], h3⟩)
theorem trlightF (a : Option Addr) (n c : Nat) (gs : List IH) (xs : List It.I) (w : World) (hi : ItRow w a n gs xs) (h : ¬ Fine gs n) : Calls Try.prog 21 #[.slice a n c] w fun e w' => e = .returned (.bool false) ∧ Below w.heap.size w w' :=
  (trlight a n c gs xs w hi).mono (fun e w' ⟨r, h1, h2, h3⟩ => ⟨by
    cases r with
    | true => exact absurd (h2.mp rfl) h
    | false => exact h1, h3⟩)
theorem Fine.all {w : World} {a : Option Addr} {n : Nat} {gs : List IH} {xs : List It.I} (h : Fine gs n) (hi : ItRow w a n gs xs) : (∀ x ∈ xs, x.1.length ≤ 200 ∧ x.2.2.2.1.length ≤ 200) ∧ xs.length ≤ 100 := by
  refine ⟨fun x hx => ?_, by rw [hi.len]; exact h.1⟩
  obtain ⟨i, hil, rfl⟩ := List.mem_iff_getElem.mp hx
  have hin : i < n := by rw [← hi.len]; exact hil
  have h1 := h.2 i hin
  have h2 := hi.item hin
  rw [show xs.getD i It.zero = xs[i] by simp [hil]] at h2
  rw [← h2.key, kb_len, h2.row.1]
  exact h1
end Go.Proofs.Ytchiilhdkbpboaa
