/- Edits: what the program's mayBe does. -/
import Derived.Test.YtmodogmjfbcddaaGreatED
namespace Go.Proofs.YtmodogmjfbcddaaGreat
open Go.RowKit

def pmay (k n i t a b c p q r : Int) (f g : ByteArray) : Bool :=
  if k = 1 ∨ k = 5 then Ed.counts n else if k = 2 then Ed.counts i && Ed.cz n else if k = 3 ∨ k = 7 ∨ k = 9 then Ed.counts i
  else if k = 4 then Lv.one ⟨p, q, r, f, g⟩ else if k = 6 then (Ed.counts n && Ed.counts i) && Ed.counts t
  else if k = 8 then (Ed.counts n && ((Ed.counts i && Ed.counts t) || (decide (i = 0) && decide (t = 0)))) && (Ed.cz a && (Ed.cz b && Ed.cz c)) else false
theorem lmay_one (x : Lv.T) : Lv.may [x] = Lv.one x := by
  simp [Lv.may, Lv.mayGo]

set_option maxRecDepth 100000 in
set_option maxHeartbeats 1000000 in
theorem emaybe_num (k n i t a b c p q r : Int) (f g : ByteArray) (w : World) (hk : k = 1 ∨ k = 5) : Calls Tryz.prog 90 #[ed12 k n i t a b c p q r f g] w fun e w' => e = .returned (.bool (Ed.counts n)) ∧ Below w.heap.size w w' := by
  have hc := fun x W => ecounts_any x W
  have hb := below_alloc w (oed k n i t a b c p q r f g)
  rcases hk with rfl | rfl
  all_goals
    go_enter Tryz.func90, Tryz.ntmps90
    go_wp2_with (go_at_call 118; refine (hc _ _).mono ?_; rintro e w2 ⟨rfl, rfl⟩)
    go_ret
    exact ⟨rfl, hb⟩
set_option maxRecDepth 100000 in
set_option maxHeartbeats 1000000 in
theorem emaybe_idx (k n i t a b c p q r : Int) (f g : ByteArray) (w : World) (hk : k = 3 ∨ k = 7 ∨ k = 9) : Calls Tryz.prog 90 #[ed12 k n i t a b c p q r f g] w fun e w' => e = .returned (.bool (Ed.counts i)) ∧ Below w.heap.size w w' := by
  have hc := fun x W => ecounts_any x W
  have hb := below_alloc w (oed k n i t a b c p q r f g)
  rcases hk with rfl | rfl | rfl
  all_goals
    go_enter Tryz.func90, Tryz.ntmps90
    go_wp2_with (go_at_call 118; refine (hc _ _).mono ?_; rintro e w2 ⟨rfl, rfl⟩)
    go_ret
    exact ⟨rfl, hb⟩
set_option maxRecDepth 100000 in
set_option maxHeartbeats 1000000 in
theorem emaybe_move (n i t a b c p q r : Int) (f g : ByteArray) (w : World) : Calls Tryz.prog 90 #[ed12 2 n i t a b c p q r f g] w fun e w' => e = .returned (.bool (Ed.counts i && Ed.cz n)) ∧ Below w.heap.size w w' := by
  have hc := fun x W => ecounts_any x W
  have hz := fun x W => ecz_any x W
  have hb := below_alloc w (oed 2 n i t a b c p q r f g)
  cases h1 : Ed.counts i with
  | true =>
    go_enter Tryz.func90, Tryz.ntmps90
    go_wp2_with (first | (go_at_call 118; refine (hc _ _).mono ?_; rintro e w2 ⟨rfl, rfl⟩) | (go_at_call 119; refine (hz _ _).mono ?_; rintro e w2 ⟨rfl, rfl⟩))
    go_ret
    exact ⟨by simp, hb⟩
  | false =>
    go_enter Tryz.func90, Tryz.ntmps90
    go_wp2_with (first | (go_at_call 118; refine (hc _ _).mono ?_; rintro e w2 ⟨rfl, rfl⟩) | (go_at_call 119; refine (hz _ _).mono ?_; rintro e w2 ⟨rfl, rfl⟩))
    go_ret
    exact ⟨by simp, hb⟩
set_option maxRecDepth 100000 in
set_option maxHeartbeats 1000000 in
theorem emaybe_tab (n i t a b c p q r : Int) (f g : ByteArray) (w : World) : Calls Tryz.prog 90 #[ed12 4 n i t a b c p q r f g] w fun e w' => e = .returned (.bool (Lv.one ⟨p, q, r, f, g⟩)) ∧ Below w.heap.size w w' := by
  have hb := below_alloc w (oed 4 n i t a b c p q r f g)
  have hr := lit_tab (w.alloc (oed 4 n i t a b c p q r f g)) p q r f g (g := w.heap.size + 1) (by simp)
  have hm := lmay_one ⟨p, q, r, f, g⟩
  cases ho : Lv.one ⟨p, q, r, f, g⟩ with
  | true =>
    have hc := lcheck_any (some ⟨w.heap.size + 1, 0, none⟩) 1 1 [⟨p, q, r, f, g⟩] _ (Nat.le_refl _) hr 0 (by rw [hm, ho]; rfl)
    go_enter Tryz.func90, Tryz.ntmps90
    go_wp2_with (go_at_call 28; refine hc.mono ?_; rintro e w2 ⟨rfl, hb2⟩)
    go_ret
    exact ⟨rfl, (hb.alloc (by simp) _).trans (hb2.mono (by simp; omega))⟩
  | false =>
    have hc := lcheck_any (some ⟨w.heap.size + 1, 0, none⟩) 1 1 [⟨p, q, r, f, g⟩] _ (Nat.le_refl _) hr 1 (by rw [hm, ho]; rfl)
    go_enter Tryz.func90, Tryz.ntmps90
    go_wp2_with (go_at_call 28; refine hc.mono ?_; rintro e w2 ⟨rfl, hb2⟩)
    go_ret
    exact ⟨rfl, (hb.alloc (by simp) _).trans (hb2.mono (by simp; omega))⟩
set_option maxRecDepth 100000 in
set_option maxHeartbeats 1000000 in
theorem emaybe_still (n i t a b c p q r : Int) (f g : ByteArray) (w : World) : Calls Tryz.prog 90 #[ed12 6 n i t a b c p q r f g] w fun e w' => e = .returned (.bool ((Ed.counts n && Ed.counts i) && Ed.counts t)) ∧ Below w.heap.size w w' := by
  have hc := fun x W => ecounts_any x W
  have hb := below_alloc w (oed 6 n i t a b c p q r f g)
  cases h1 : Ed.counts n with
  | true =>
    cases h2 : Ed.counts i with
    | true =>
      go_enter Tryz.func90, Tryz.ntmps90
      go_wp2_with (go_at_call 118; refine (hc _ _).mono ?_; rintro e w2 ⟨rfl, rfl⟩)
      go_ret
      exact ⟨by simp, hb⟩
    | false =>
      go_enter Tryz.func90, Tryz.ntmps90
      go_wp2_with (go_at_call 118; refine (hc _ _).mono ?_; rintro e w2 ⟨rfl, rfl⟩)
      go_ret
      exact ⟨by simp, hb⟩
  | false =>
    go_enter Tryz.func90, Tryz.ntmps90
    go_wp2_with (go_at_call 118; refine (hc _ _).mono ?_; rintro e w2 ⟨rfl, rfl⟩)
    go_ret
    exact ⟨by simp, hb⟩
set_option maxRecDepth 100000 in
set_option maxHeartbeats 1000000 in
theorem emaybe_base (n i t a b c p q r : Int) (f g : ByteArray) (w : World) (r1 r2 : Bool) (e1 : r1 = ((Ed.counts i && Ed.counts t) || (decide (i = 0) && decide (t = 0)))) (e2 : r2 = (Ed.cz a && (Ed.cz b && Ed.cz c))) :
    Calls Tryz.prog 90 #[ed12 8 n i t a b c p q r f g] w fun e w' => e = .returned (.bool ((Ed.counts n && r1) && r2)) ∧ Below w.heap.size w w' := by
  have hc := fun x W => ecounts_any x W
  have hp := fun W => eplace_any i t r1 e1 W
  have hh := fun W => ehard_any a b c r2 e2 W
  have hb := below_alloc w (oed 8 n i t a b c p q r f g)
  clear e1 e2
  cases h1 : Ed.counts n with
  | true =>
    cases r1 with
    | true =>
      go_enter Tryz.func90, Tryz.ntmps90
      go_wp2_with (first | (go_at_call 118; refine (hc _ _).mono ?_; rintro e w2 ⟨rfl, rfl⟩) | (go_at_call 120; refine (hp _).mono ?_; rintro e w2 ⟨rfl, rfl⟩) | (go_at_call 121; refine (hh _).mono ?_; rintro e w3 ⟨rfl, hb3⟩))
      go_ret
      exact ⟨by simp, hb.trans (hb3.mono (by simp))⟩
    | false =>
      go_enter Tryz.func90, Tryz.ntmps90
      go_wp2_with (first | (go_at_call 118; refine (hc _ _).mono ?_; rintro e w2 ⟨rfl, rfl⟩) | (go_at_call 120; refine (hp _).mono ?_; rintro e w2 ⟨rfl, rfl⟩))
      go_ret
      exact ⟨by simp, hb⟩
  | false =>
    go_enter Tryz.func90, Tryz.ntmps90
    go_wp2_with (go_at_call 118; refine (hc _ _).mono ?_; rintro e w2 ⟨rfl, rfl⟩)
    go_ret
    exact ⟨by simp, hb⟩
set_option maxRecDepth 100000 in
set_option maxHeartbeats 1000000 in
theorem emaybe_none (k n i t a b c p q r : Int) (f g : ByteArray) (w : World) (h : k < 1 ∨ 9 < k) : Calls Tryz.prog 90 #[ed12 k n i t a b c p q r f g] w fun e w' => e = .returned (.bool false) ∧ Below w.heap.size w w' := by
  have hb := below_alloc w (oed k n i t a b c p q r f g)
  have h1 : ¬ k = 1 := by omega
  have h2 : ¬ k = 2 := by omega
  have h3 : ¬ k = 3 := by omega
  have h4 : ¬ k = 4 := by omega
  have h5 : ¬ k = 5 := by omega
  have h6 : ¬ k = 6 := by omega
  have h7 : ¬ k = 7 := by omega
  have h8 : ¬ k = 8 := by omega
  have h9 : ¬ k = 9 := by omega
  clear h
  go_enter Tryz.func90, Tryz.ntmps90
  go_wp2
  go_ret
  exact ⟨rfl, hb⟩
theorem emaybe_any (k n i t a b c p q r : Int) (f g : ByteArray) (w : World) : Calls Tryz.prog 90 #[ed12 k n i t a b c p q r f g] w fun e w' => e = .returned (.bool (pmay k n i t a b c p q r f g)) ∧ Below w.heap.size w w' := by
  rcases Ed.kinds k with rfl | rfl | rfl | rfl | rfl | rfl | rfl | rfl | rfl | h
  · exact emaybe_num 1 n i t a b c p q r f g w (.inl rfl)
  · exact emaybe_move n i t a b c p q r f g w
  · exact emaybe_idx 3 n i t a b c p q r f g w (.inl rfl)
  · exact emaybe_tab n i t a b c p q r f g w
  · exact emaybe_num 5 n i t a b c p q r f g w (.inr rfl)
  · exact emaybe_still n i t a b c p q r f g w
  · exact emaybe_idx 7 n i t a b c p q r f g w (.inr (.inl rfl))
  · exact emaybe_base n i t a b c p q r f g w _ _ rfl rfl
  · exact emaybe_idx 9 n i t a b c p q r f g w (.inr (.inr rfl))
  · have : pmay k n i t a b c p q r f g = false := by
      unfold pmay
      rw [if_neg (by omega), if_neg (by omega), if_neg (by omega), if_neg (by omega), if_neg (by omega), if_neg (by omega)]
    rw [this]
    exact emaybe_none k n i t a b c p q r f g w h
end Go.Proofs.YtmodogmjfbcddaaGreat
