/- awake, Light; the laws TreeHolds and TreeScans, given what is asked of the program. -/
import Derived.Test.YtpoocjffkhjeaaaTR5
namespace Go.Proofs.Ytpoocjffkhjeaaa
open Go.RowKit

def itB : It.I := ([98], false, Ce.zero)
def itA : It.I := ([97], true, Ce.zero)
theorem it_ex1 : It.put [] itB = [itB] := rfl
theorem it_ex2 : It.put [itB] itA = [itA, itB] := rfl
theorem item_b (w : World) : IsItem w ⟨⟨#[98]⟩, false, false, none, 0, 0, Po.zero⟩ itB := ⟨rfl, rfl, rfl, rfl, ⟨rfl, by decide, (fun x hx => by cases hx), .inl rfl⟩, (fun _ => ⟨rfl, rfl⟩), Nat.le_refl _, by unfold Po.Fits; decide, by decide⟩
theorem item_a (w : World) : IsItem w ⟨⟨#[97]⟩, true, false, none, 0, 0, Po.zero⟩ itA := ⟨rfl, rfl, rfl, rfl, ⟨rfl, by decide, (fun x hx => by cases hx), .inl rfl⟩, (fun _ => ⟨rfl, rfl⟩), Nat.le_refl _, by unfold Po.Fits; decide, by decide⟩

set_option maxRecDepth 100000 in
set_option maxHeartbeats 2000000 in
theorem trawake {T : World → Addr → List It.I → (Nat → Prop) → Prop} (hC : TreeC T) (w : World) : Calls Try.prog 9 #[] w fun e w' => e = .returned (.bool true) ∧ Below w.heap.size w w' := by
  have hnew := hC.new w
  have hp1 : ∀ (p : Addr) (S : Nat → Prop) W, T W p [] S → Calls Try.prog 23 #[.pointer (some p), .agg #[.string ⟨#[98]⟩, .bool false, .bool false, .slice none 0 0, .int .i64 0, .int .i64 0, .int .i64 0, .int .u32 0]] W fun e w' => ∃ S', e = .returned (.int .i64 0) ∧ T w' p [itB] S' ∧ (∀ k, S' k → S k ∨ W.heap.size ≤ k) ∧ Only S W w' := fun p S W hT => hC.put p [] S _ _ W hT (by decide) (item_b W)
  have hp2 : ∀ (p : Addr) (S : Nat → Prop) W, T W p [itB] S → Calls Try.prog 23 #[.pointer (some p), .agg #[.string ⟨#[97]⟩, .bool true, .bool false, .slice none 0 0, .int .i64 0, .int .i64 0, .int .i64 0, .int .u32 0]] W fun e w' => ∃ S', e = .returned (.int .i64 0) ∧ T w' p [itA, itB] S' ∧ (∀ k, S' k → S k ∨ W.heap.size ≤ k) ∧ Only S W w' := fun p S W hT => hC.put p [itB] S _ _ W hT (by decide) (item_a W)
  have hall := fun (p : Addr) (S : Nat → Prop) W (hT : T W p [itA, itB] S) => hC.all p [itA, itB] S W hT (by decide)
  have hsrt := fun (a : Option Addr) (c : Nat) (hs : List IH) W (h : InI W a 2 c hs [itA, itB]) => hC.sorted a 2 c hs [itA, itB] W (by omega) h
  have hwt := fun (p : Addr) (S : Nat → Prop) W (hT : T W p [itA, itB] S) => hC.weight p [itA, itB] S W hT (by decide)
  rw [show It.sorted [itA, itB] = true by decide] at hsrt
  rw [show It.weight [itA, itB] = 34 by decide] at hwt
  go_enter Try.func9, Try.ntmps9
  go_wp2_with (first
    | (go_at_call 15; have := hw5; go_must (refine (hwt _ _ _ (hC.on (hC.on hT3 hb4) hb5)).mono ?_; rintro e w6 ⟨rfl, hb6⟩; have hw6 := hw5.trans (hb6.mono hw5.size)))
    | (go_at_call 26; have := hw4; go_must (refine (hsrt _ _ _ _ hi4).mono ?_; rintro e w5 ⟨rfl, hb5⟩; have hw5 := hw4.trans (hb5.mono hw4.size)))
    | (go_at_call 13; have := hw3; go_must (refine (hall _ _ _ hT3).mono ?_; rintro e w4 ⟨a4, c4, hs4, rfl, hi4, hb4⟩; have hw4 := hw3.trans (hb4.mono hw3.size); obtain ⟨bb, off, rfl, hc⟩ := hi4.1.1.items (by decide); obtain ⟨y0, y1, _⟩ := hc 0 (by decide); have hk0 := (hi4.1.item (i := 0) (by decide)).key; have hd0 := (hi4.1.item (i := 0) (by decide)).dead; simp only [Nat.zero_mul, Nat.add_zero] at y0 y1; rw [hd0] at y1; have hkk : (hs4.getD 0 ihz).key = ⟨#[97]⟩ := kb_inj hk0; rw [hkk] at y0; have y1' : w4.cell? ⟨bb, off + 1, none⟩ = some (.bool true) := y1))
    | (go_at_call 23; have := hw2; go_must (refine (hp2 _ _ _ hT2).mono ?_; rintro e w3 ⟨S3, rfl, hT3, hS3, ho3⟩; have HS3 : Hid (∀ k, S3 k → w.heap.size ≤ k) := (fun k hk => by rcases hS3 k hk with h | h; exact HS2.out k h; exact Nat.le_trans hw2.size h : ∀ k, S3 k → w.heap.size ≤ k); have hw3 : Below w.heap.size w w3 := ho3.below HS2.out hw2 hw2.size))
    | (go_at_call 23; have := hb1; go_must (refine (hp1 _ _ _ hT1).mono ?_; rintro e w2 ⟨S2, rfl, hT2, hS2, ho2⟩; have HS2 : Hid (∀ k, S2 k → w.heap.size ≤ k) := (fun k hk => by rcases hS2 k hk with h | h; exact HS1.out k h; exact Nat.le_trans hb1.size h : ∀ k, S2 k → w.heap.size ≤ k); have hw2 : Below w.heap.size w w2 := ho2.below HS1.out hb1 hb1.size))
    | (go_at_call 22; go_must (refine hnew.mono ?_; rintro e w1 ⟨p, S1, rfl, hT1, hS1, hb1⟩; have HS1 : Hid (∀ k, S1 k → w.heap.size ≤ k) := hS1; clear hS1)))
  go_ret
  exact ⟨by simp, hw6⟩

theorem It.putGo_mem {x z : It.I} : ∀ (d : Bool) (l : List It.I), z ∈ It.putGo x d l → z ∈ l ∨ z = x
  | d, [], h => by
    rw [It.putGo] at h
    split at h
    · cases h
    · exact .inr (List.mem_singleton.mp h)
  | d, y :: l, h => by
    rw [It.putGo, List.mem_append, List.mem_append] at h
    rcases h with h | h | h
    · split at h
      · exact .inr (List.mem_singleton.mp h)
      · cases h
    · split at h
      · cases h
      · exact .inl (by rw [List.mem_singleton.mp h]; exact List.mem_cons_self)
    · rcases It.putGo_mem _ l h with h | h
      · exact .inl (List.mem_cons_of_mem _ h)
      · exact .inr h
theorem It.fold_mem {z : It.I} : ∀ (p l : List It.I), z ∈ p.foldl It.put l → z ∈ l ∨ z ∈ p
  | [], _, h => .inl h
  | x :: p, l, h => by
    rw [List.foldl_cons] at h
    rcases It.fold_mem p _ h with h | h
    · rcases It.putGo_mem false l h with h | h
      · exact .inl h
      · exact .inr (by rw [h]; exact List.mem_cons_self)
    · exact .inr (List.mem_cons_of_mem _ h)
theorem It.all_mem {l : List It.I} {z : It.I} (h : z ∈ It.all l) : z ∈ l ∧ It.may z = true := by
  rcases It.fold_mem _ _ h with h | h
  · cases h
  · exact List.mem_filter.mp h
/-- items that are not too great -/
def Fine (gs : List IH) (n : Nat) : Prop := n ≤ 100 ∧ ∀ i, i < n → (gs.getD i ihz).key.size ≤ 200 ∧ (gs.getD i ihz).n ≤ 200

set_option maxRecDepth 100000 in
set_option maxHeartbeats 1000000 in
theorem trlight (a : Option Addr) (n c : Nat) (gs : List IH) (xs : List It.I) (w : World) (hi : ItRow w a n gs xs) :
    Calls Try.prog 8 #[.slice a n c] w fun e w' => ∃ r : Bool, e = .returned (.bool r) ∧ (r = true ↔ Fine gs n) ∧ Below w.heap.size w w' := by
  have hlb := hi.1.2.1
  have hz : Hid (∀ i, i < n → (gs.getD i ihz).key.size ≤ 9223372036854775807 ∧ (gs.getD i ihz).n ≤ 1000000000000000000) := (fun i hin => ⟨(hi.item hin).ksz, (hi.item hin).row.2.1⟩ : ∀ i, i < n → (gs.getD i ihz).key.size ≤ 9223372036854775807 ∧ (gs.getD i ihz).n ≤ 1000000000000000000)
  have hr := hi.1
  clear hi
  go_enter Try.func8, Try.ntmps8
  go_wp2
  go_loopw [3] (fun i wr => ∃ k : Nat, k ≤ n ∧ k ≤ 101 ∧ i = .int .i64 k ∧ Hid (∀ j, j < k → (gs.getD j ihz).key.size ≤ 200 ∧ (gs.getD j ihz).n ≤ 200) ∧ Below w.heap.size w wr) (fun i _ => 101 - (intOf i).toNat)
  case atStart => exact ⟨0, by omega, by omega, rfl, (fun j hj => by omega : ∀ j, j < 0 → (gs.getD j ihz).key.size ≤ 200 ∧ (gs.getD j ihz).n ≤ 200), Below.refl _ _⟩
  case round =>
    obtain ⟨k, hk, hk31, rfl, H, hbel⟩ := hrel
    by_cases hlt : k < n ∧ k ≤ 100
    · obtain ⟨bb, off, rfl, hc⟩ := hr.items (by omega)
      obtain ⟨y0, y1, y2, y3, y4, y5, y6, y7⟩ := (hc k hlt.1).below hbel (Nat.le_refl _)
      have hzk := hz.out k hlt.1
      have Hs : Hid (∀ q, q = gs.getD k ihz → q.key.size ≤ 200 ∧ q.n ≤ 200 → ∀ j, j < k + 1 → (gs.getD j ihz).key.size ≤ 200 ∧ (gs.getD j ihz).n ≤ 200) := (fun q hq h j hj => by
        rcases Nat.lt_or_ge j k with h' | h'
        · exact H.out j h'
        · obtain rfl : j = k := by omega
          rw [← hq]; exact h : ∀ q, q = gs.getD k ihz → q.key.size ≤ 200 ∧ q.n ≤ 200 → ∀ j, j < k + 1 → (gs.getD j ihz).key.size ≤ 200 ∧ (gs.getD j ihz).n ≤ 200)
      obtain ⟨q, hq⟩ : ∃ q, q = gs.getD k ihz := ⟨_, rfl⟩
      have HF : Hid (¬ (q.key.size ≤ 200 ∧ q.n ≤ 200) → ¬ Fine gs n) := (fun h hF => h (by rw [hq]; exact hF.2 k hlt.1) : ¬ (q.key.size ≤ 200 ∧ q.n ≤ 200) → ¬ Fine gs n)
      rw [← hq] at y0 y1 y2 y3 y4 y5 y6 y7 hzk
      have i0 : (0 : Int) ≤ (k : Int) := by omega
      have i1 : (k : Int) < (n : Int) := by omega
      have i2 : (k : Int) ≤ 100 := by omega
      by_cases h1 : q.key.size ≤ 200
      · have d1 : decide ((200 : Int) < (q.key.size : Int)) = false := by simp; omega
        by_cases h2 : q.n ≤ 200
        · have d2 : decide ((200 : Int) < (q.n : Int)) = false := by simp; omega
          have H2 : Hid (∀ j, j < k + 1 → (gs.getD j ihz).key.size ≤ 200 ∧ (gs.getD j ihz).n ≤ 200) := Hs.out q hq ⟨h1, h2⟩
          clear Hs hq H hc HF
          go_wp2
          go_roundw
          case rel => exact ⟨k + 1, by omega, by omega, by go_num, H2, hbel⟩
          case measure => simp [intOf]; omega
        · have d2 : decide ((200 : Int) < (q.n : Int)) = true := by simp; omega
          have HF2 := HF.out (fun h => h2 h.2)
          clear Hs hq H hc HF
          go_wp2
          go_ret
          exact ⟨false, rfl, ⟨(fun h => by cases h), fun h => absurd h HF2⟩, hbel⟩
      · have d1 : decide ((200 : Int) < (q.key.size : Int)) = true := by simp; omega
        have HF2 := HF.out (fun h => h1 h.1)
        clear Hs hq H hc HF
        go_wp2
        go_ret
        exact ⟨false, rfl, ⟨(fun h => by cases h), fun h => absurd h HF2⟩, hbel⟩
    · by_cases hkn : k < n
      · have i1 : (k : Int) < (n : Int) := by omega
        have i2 : decide ((k : Int) ≤ 100) = false := by simp; omega
        have i3 : decide ((n : Int) ≤ 100) = false := by simp; omega
        have HF2 : ¬ Fine gs n := fun h => by have := h.1; omega
        clear hr hz
        go_wp2
        go_ret
        exact ⟨false, rfl, ⟨(fun h => by cases h), fun h => absurd h HF2⟩, hbel⟩
      · obtain rfl : k = n := by omega
        by_cases hk30 : k ≤ 100
        · have i3 : decide ((k : Int) ≤ 100) = true := by simp; omega
          clear hr hz
          go_wp2
          go_ret
          exact ⟨true, rfl, ⟨(fun _ => ⟨hk30, H.out⟩), fun _ => rfl⟩, hbel⟩
        · have i3 : decide ((k : Int) ≤ 100) = false := by simp; omega
          have HF2 : ¬ Fine gs k := fun h => by have := h.1; omega
          clear hr hz
          go_wp2
          go_ret
          exact ⟨false, rfl, ⟨(fun h => by cases h), fun h => absurd h HF2⟩, hbel⟩
theorem trlightT (a : Option Addr) (n c : Nat) (gs : List IH) (xs : List It.I) (w : World) (hi : ItRow w a n gs xs) (h : Fine gs n) : Calls Try.prog 8 #[.slice a n c] w fun e w' => e = .returned (.bool true) ∧ Below w.heap.size w w' :=
  (trlight a n c gs xs w hi).mono (fun e w' ⟨r, h1, h2, h3⟩ => ⟨by rw [h1, h2.mpr h], h3⟩)
theorem trlightF (a : Option Addr) (n c : Nat) (gs : List IH) (xs : List It.I) (w : World) (hi : ItRow w a n gs xs) (h : ¬ Fine gs n) : Calls Try.prog 8 #[.slice a n c] w fun e w' => e = .returned (.bool false) ∧ Below w.heap.size w w' :=
  (trlight a n c gs xs w hi).mono (fun e w' ⟨r, h1, h2, h3⟩ => ⟨by
    cases r with
    | true => exact absurd (h2.mp rfl) h
    | false => exact h1, h3⟩)
theorem Fine.all {w : World} {a : Option Addr} {n : Nat} {gs : List IH} {xs : List It.I} (h : Fine gs n) (hi : ItRow w a n gs xs) : (∀ x ∈ xs, x.1.length ≤ 200 ∧ x.2.2.2.1.length ≤ 200) ∧ xs.length ≤ 100 := by
  refine ⟨fun x hx => ?_, by rw [hi.len]; exact h.1⟩
  obtain ⟨i, hil, rfl⟩ := List.mem_iff_getElem.mp hx
  have hin : i < n := by rw [← hi.len]; exact hil
  have h1 := h.2 i hin
  have h2 := hi.item hin
  rw [show xs.getD i It.zero = xs[i] by simp [hil]] at h2
  rw [← h2.key, kb_len, h2.row.1]
  exact h1
end Go.Proofs.Ytpoocjffkhjeaaa
