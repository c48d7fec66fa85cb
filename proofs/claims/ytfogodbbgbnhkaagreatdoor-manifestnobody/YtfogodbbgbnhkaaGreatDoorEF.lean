/- Edits: bare of any kind. -/
import Derived.Test.YtfogodbbgbnhkaaGreatDoorEC
import Derived.Deep.RegionHeld3
namespace Go.Proofs.YtfogodbbgbnhkaaGreatDoor
open Go.RowKit

/-- what is left of the row's j-th number -/
def sel (k : Int) (j : Nat) (x : Int) : Int := if pfr k ≤ j ∧ j < pto k then x else 0
def selt (k : Int) (x : Int) : Int := if k = 4 then x else 0
def sels (k : Int) (x : ByteArray) : ByteArray := if k = 4 then x else ⟨#[]⟩
theorem ebare_any (k n i t a b c p q r : Int) (f g : ByteArray) (w : World) :
    Calls Tryz.prog 124 #[ed12 k n i t a b c p q r f g] w fun e w' => e = .returned (ed12 k (sel k 0 n) (sel k 1 i) (sel k 2 t) (sel k 3 a) (sel k 4 b) (sel k 5 c) (selt k p) (selt k q) (selt k r) (sels k f) (sels k g)) ∧ Below w.heap.size w w' := by
  rcases Ed.kinds k with rfl | rfl | rfl | rfl | rfl | rfl | rfl | rfl | rfl | h
  · exact ebare_01 1 n i t a b c p q r f g w (by decide) (fun W => enamed_any 1 W)
  · exact ebare_02 2 n i t a b c p q r f g w (by decide) (fun W => enamed_any 2 W)
  · exact ebare_12 3 n i t a b c p q r f g w (by decide) (fun W => enamed_any 3 W)
  · exact ebare_00t n i t a b c p q r f g w (fun W => enamed_any 4 W)
  · exact ebare_01 5 n i t a b c p q r f g w (by decide) (fun W => enamed_any 5 W)
  · exact ebare_03 6 n i t a b c p q r f g w (by decide) (fun W => enamed_any 6 W)
  · exact ebare_12 7 n i t a b c p q r f g w (by decide) (fun W => enamed_any 7 W)
  · exact ebare_06 8 n i t a b c p q r f g w (by decide) (fun W => enamed_any 8 W)
  · exact ebare_12 9 n i t a b c p q r f g w (by decide) (fun W => enamed_any 9 W)
  · have e1 : pfr k = 0 := by unfold pfr; rw [if_neg (by omega)]
    have e2 : pto k = 0 := by unfold pto; rw [if_neg (by omega), if_neg (by omega), if_neg (by omega), if_neg (by omega)]
    have e3 : ¬ k = 4 := by omega
    have := ebare_00 k n i t a b c p q r f g w e3 (fun W => by have := enamed_any k W; rw [e1, e2] at this; exact this)
    simpa [sel, selt, sels, e1, e2, e3] using this
end Go.Proofs.YtfogodbbgbnhkaaGreatDoor

/- Edits: what the program's mayBe does. -/
namespace Go.Proofs.YtfogodbbgbnhkaaGreatDoor
open Go.RowKit

def pmay (k n i t a b c p q r : Int) (f g : ByteArray) : Bool :=
  if k = 1 ∨ k = 5 then Ed.counts n else if k = 2 then Ed.counts i && Ed.cz n else if k = 3 ∨ k = 7 ∨ k = 9 then Ed.counts i
  else if k = 4 then Lv.one ⟨p, q, r, f, g⟩ else if k = 6 then (Ed.counts n && Ed.counts i) && Ed.counts t
  else if k = 8 then (Ed.counts n && ((Ed.counts i && Ed.counts t) || (decide (i = 0) && decide (t = 0)))) && (Ed.cz a && (Ed.cz b && Ed.cz c)) else false
theorem lmay_one (x : Lv.T) : Lv.may [x] = Lv.one x := by
  simp [Lv.may, Lv.mayGo]

set_option maxRecDepth 100000 in
set_option maxHeartbeats 1000000 in
theorem emaybe_num (k n i t a b c p q r : Int) (f g : ByteArray) (w : World) (hk : k = 1 ∨ k = 5) : Calls Tryz.prog 125 #[ed12 k n i t a b c p q r f g] w fun e w' => e = .returned (.bool (Ed.counts n)) ∧ Below w.heap.size w w' := by
  have hc := fun x W => ecounts_any x W
  have hb := below_alloc w (oed k n i t a b c p q r f g)
  rcases hk with rfl | rfl
  all_goals
    go_enter Tryz.func125, Tryz.ntmps125
    go_wp2_with (go_at_call 167; refine (hc _ _).mono ?_; rintro e w2 ⟨rfl, rfl⟩)
    go_ret
    exact ⟨rfl, hb⟩
set_option maxRecDepth 100000 in
set_option maxHeartbeats 1000000 in
theorem emaybe_idx (k n i t a b c p q r : Int) (f g : ByteArray) (w : World) (hk : k = 3 ∨ k = 7 ∨ k = 9) : Calls Tryz.prog 125 #[ed12 k n i t a b c p q r f g] w fun e w' => e = .returned (.bool (Ed.counts i)) ∧ Below w.heap.size w w' := by
  have hc := fun x W => ecounts_any x W
  have hb := below_alloc w (oed k n i t a b c p q r f g)
  rcases hk with rfl | rfl | rfl
  all_goals
    go_enter Tryz.func125, Tryz.ntmps125
    go_wp2_with (go_at_call 167; refine (hc _ _).mono ?_; rintro e w2 ⟨rfl, rfl⟩)
    go_ret
    exact ⟨rfl, hb⟩
set_option maxRecDepth 100000 in
set_option maxHeartbeats 1000000 in
theorem emaybe_move (n i t a b c p q r : Int) (f g : ByteArray) (w : World) : Calls Tryz.prog 125 #[ed12 2 n i t a b c p q r f g] w fun e w' => e = .returned (.bool (Ed.counts i && Ed.cz n)) ∧ Below w.heap.size w w' := by
  have hc := fun x W => ecounts_any x W
  have hz := fun x W => ecz_any x W
  have hb := below_alloc w (oed 2 n i t a b c p q r f g)
  cases h1 : Ed.counts i with
  | true =>
    go_enter Tryz.func125, Tryz.ntmps125
    go_wp2_with (first | (go_at_call 167; refine (hc _ _).mono ?_; rintro e w2 ⟨rfl, rfl⟩) | (go_at_call 168; refine (hz _ _).mono ?_; rintro e w2 ⟨rfl, rfl⟩))
    go_ret
    exact ⟨by simp, hb⟩
  | false =>
    go_enter Tryz.func125, Tryz.ntmps125
    go_wp2_with (first | (go_at_call 167; refine (hc _ _).mono ?_; rintro e w2 ⟨rfl, rfl⟩) | (go_at_call 168; refine (hz _ _).mono ?_; rintro e w2 ⟨rfl, rfl⟩))
    go_ret
    exact ⟨by simp, hb⟩
set_option maxRecDepth 100000 in
set_option maxHeartbeats 1000000 in
theorem emaybe_tab (n i t a b c p q r : Int) (f g : ByteArray) (w : World) : Calls Tryz.prog 125 #[ed12 4 n i t a b c p q r f g] w fun e w' => e = .returned (.bool (Lv.one ⟨p, q, r, f, g⟩)) ∧ Below w.heap.size w w' := by
  have hb := below_alloc w (oed 4 n i t a b c p q r f g)
  have hr := lit_tab (w.alloc (oed 4 n i t a b c p q r f g)) p q r f g (g := w.heap.size + 1) (by simp)
  have hm := lmay_one ⟨p, q, r, f, g⟩
  cases ho : Lv.one ⟨p, q, r, f, g⟩ with
  | true =>
    have hc := lcheck_any (some ⟨w.heap.size + 1, 0, none⟩) 1 1 [⟨p, q, r, f, g⟩] _ (Nat.le_refl _) hr 0 (by rw [hm, ho]; rfl)
    go_enter Tryz.func125, Tryz.ntmps125
    go_wp2_with (go_at_call 60; refine hc.mono ?_; rintro e w2 ⟨rfl, hb2⟩)
    go_ret
    exact ⟨rfl, (hb.alloc (by simp) _).trans (hb2.mono (by simp; omega))⟩
  | false =>
    have hc := lcheck_any (some ⟨w.heap.size + 1, 0, none⟩) 1 1 [⟨p, q, r, f, g⟩] _ (Nat.le_refl _) hr 1 (by rw [hm, ho]; rfl)
    go_enter Tryz.func125, Tryz.ntmps125
    go_wp2_with (go_at_call 60; refine hc.mono ?_; rintro e w2 ⟨rfl, hb2⟩)
    go_ret
    exact ⟨rfl, (hb.alloc (by simp) _).trans (hb2.mono (by simp; omega))⟩
set_option maxRecDepth 100000 in
set_option maxHeartbeats 1000000 in
theorem emaybe_still (n i t a b c p q r : Int) (f g : ByteArray) (w : World) : Calls Tryz.prog 125 #[ed12 6 n i t a b c p q r f g] w fun e w' => e = .returned (.bool ((Ed.counts n && Ed.counts i) && Ed.counts t)) ∧ Below w.heap.size w w' := by
  have hc := fun x W => ecounts_any x W
  have hb := below_alloc w (oed 6 n i t a b c p q r f g)
  cases h1 : Ed.counts n with
  | true =>
    cases h2 : Ed.counts i with
    | true =>
      go_enter Tryz.func125, Tryz.ntmps125
      go_wp2_with (go_at_call 167; refine (hc _ _).mono ?_; rintro e w2 ⟨rfl, rfl⟩)
      go_ret
      exact ⟨by simp, hb⟩
    | false =>
      go_enter Tryz.func125, Tryz.ntmps125
      go_wp2_with (go_at_call 167; refine (hc _ _).mono ?_; rintro e w2 ⟨rfl, rfl⟩)
      go_ret
      exact ⟨by simp, hb⟩
  | false =>
    go_enter Tryz.func125, Tryz.ntmps125
    go_wp2_with (go_at_call 167; refine (hc _ _).mono ?_; rintro e w2 ⟨rfl, rfl⟩)
    go_ret
    exact ⟨by simp, hb⟩
set_option maxRecDepth 100000 in
set_option maxHeartbeats 1000000 in
theorem emaybe_base (n i t a b c p q r : Int) (f g : ByteArray) (w : World) (r1 r2 : Bool) (e1 : r1 = ((Ed.counts i && Ed.counts t) || (decide (i = 0) && decide (t = 0)))) (e2 : r2 = (Ed.cz a && (Ed.cz b && Ed.cz c))) :
    Calls Tryz.prog 125 #[ed12 8 n i t a b c p q r f g] w fun e w' => e = .returned (.bool ((Ed.counts n && r1) && r2)) ∧ Below w.heap.size w w' := by
  have hc := fun x W => ecounts_any x W
  have hp := fun W => eplace_any i t r1 e1 W
  have hh := fun W => ehard_any a b c r2 e2 W
  have hb := below_alloc w (oed 8 n i t a b c p q r f g)
  clear e1 e2
  cases h1 : Ed.counts n with
  | true =>
    cases r1 with
    | true =>
      go_enter Tryz.func125, Tryz.ntmps125
      go_wp2_with (first | (go_at_call 167; refine (hc _ _).mono ?_; rintro e w2 ⟨rfl, rfl⟩) | (go_at_call 169; refine (hp _).mono ?_; rintro e w2 ⟨rfl, rfl⟩) | (go_at_call 170; refine (hh _).mono ?_; rintro e w3 ⟨rfl, hb3⟩))
      go_ret
      exact ⟨by simp, hb.trans (hb3.mono (by simp))⟩
    | false =>
      go_enter Tryz.func125, Tryz.ntmps125
      go_wp2_with (first | (go_at_call 167; refine (hc _ _).mono ?_; rintro e w2 ⟨rfl, rfl⟩) | (go_at_call 169; refine (hp _).mono ?_; rintro e w2 ⟨rfl, rfl⟩))
      go_ret
      exact ⟨by simp, hb⟩
  | false =>
    go_enter Tryz.func125, Tryz.ntmps125
    go_wp2_with (go_at_call 167; refine (hc _ _).mono ?_; rintro e w2 ⟨rfl, rfl⟩)
    go_ret
    exact ⟨by simp, hb⟩
set_option maxRecDepth 100000 in
set_option maxHeartbeats 1000000 in
theorem emaybe_none (k n i t a b c p q r : Int) (f g : ByteArray) (w : World) (h : k < 1 ∨ 9 < k) : Calls Tryz.prog 125 #[ed12 k n i t a b c p q r f g] w fun e w' => e = .returned (.bool false) ∧ Below w.heap.size w w' := by
  have hb := below_alloc w (oed k n i t a b c p q r f g)
  have h1 : ¬ k = 1 := by omega
  have h2 : ¬ k = 2 := by omega
  have h3 : ¬ k = 3 := by omega
  have h4 : ¬ k = 4 := by omega
  have h5 : ¬ k = 5 := by omega
  have h6 : ¬ k = 6 := by omega
  have h7 : ¬ k = 7 := by omega
  have h8 : ¬ k = 8 := by omega
  have h9 : ¬ k = 9 := by omega
  clear h
  go_enter Tryz.func125, Tryz.ntmps125
  go_wp2
  go_ret
  exact ⟨rfl, hb⟩
theorem emaybe_any (k n i t a b c p q r : Int) (f g : ByteArray) (w : World) : Calls Tryz.prog 125 #[ed12 k n i t a b c p q r f g] w fun e w' => e = .returned (.bool (pmay k n i t a b c p q r f g)) ∧ Below w.heap.size w w' := by
  rcases Ed.kinds k with rfl | rfl | rfl | rfl | rfl | rfl | rfl | rfl | rfl | h
  · exact emaybe_num 1 n i t a b c p q r f g w (.inl rfl)
  · exact emaybe_move n i t a b c p q r f g w
  · exact emaybe_idx 3 n i t a b c p q r f g w (.inl rfl)
  · exact emaybe_tab n i t a b c p q r f g w
  · exact emaybe_num 5 n i t a b c p q r f g w (.inr rfl)
  · exact emaybe_still n i t a b c p q r f g w
  · exact emaybe_idx 7 n i t a b c p q r f g w (.inr (.inl rfl))
  · exact emaybe_base n i t a b c p q r f g w _ _ rfl rfl
  · exact emaybe_idx 9 n i t a b c p q r f g w (.inr (.inr rfl))
  · have : pmay k n i t a b c p q r f g = false := by
      unfold pmay
      rw [if_neg (by omega), if_neg (by omega), if_neg (by omega), if_neg (by omega), if_neg (by omega), if_neg (by omega)]
    rw [this]
    exact emaybe_none k n i t a b c p q r f g w h
end Go.Proofs.YtfogodbbgbnhkaaGreatDoor

/- Edits: what the program's Check does. -/
namespace Go.Proofs.YtfogodbbgbnhkaaGreatDoor
open Go.RowKit

def C12 (w : World) (o : Nat) (k n i t a b c p q r : Int) (f g : ByteArray) : Prop :=
    w.cell? ⟨o, 0, none⟩ = some (.int .i64 k) ∧ w.cell? ⟨o, 1, none⟩ = some (.int .i64 n) ∧ w.cell? ⟨o, 2, none⟩ = some (.int .i64 i) ∧ w.cell? ⟨o, 3, none⟩ = some (.int .i64 t) ∧ w.cell? ⟨o, 4, none⟩ = some (.int .i64 a) ∧ w.cell? ⟨o, 5, none⟩ = some (.int .i64 b) ∧ w.cell? ⟨o, 6, none⟩ = some (.int .i64 c) ∧ w.cell? ⟨o, 7, none⟩ = some (.int .i64 p) ∧ w.cell? ⟨o, 8, none⟩ = some (.int .i64 q) ∧ w.cell? ⟨o, 9, none⟩ = some (.int .i64 r) ∧ w.cell? ⟨o, 10, none⟩ = some (.string f) ∧ w.cell? ⟨o, 11, none⟩ = some (.string g)
theorem c12_of {W : World} {k n i t a b c p q r : Int} {f g : ByteArray} {o : Nat} (h : W.heap[o]? = some (oed k n i t a b c p q r f g)) : C12 W o k n i t a b c p q r f g := blk12 h

set_option maxRecDepth 100000 in
set_option maxHeartbeats 1000000 in
theorem echeck_same (k n i t a b c p q r : Int) (f g : ByteArray) (w : World) (m : Bool) (R : Int) (hR : R = if m = true then 0 else 1)
    (hbare : ∀ W, Calls Tryz.prog 124 #[ed12 k n i t a b c p q r f g] W fun e w' => e = .returned (ed12 k n i t a b c p q r f g) ∧ Below W.heap.size W w')
    (hmay : ∀ W, Calls Tryz.prog 125 #[ed12 k n i t a b c p q r f g] W fun e w' => e = .returned (.bool m) ∧ Below W.heap.size W w') :
    Calls Tryz.prog 64 #[ed12 k n i t a b c p q r f g] w fun e w' => e = .returned (.int .i64 R) ∧ Below w.heap.size w w' := by
  obtain ⟨c0, c1, c2, c3, c4, c5, c6, c7, c8, c9, c10, c11⟩ := blk12 (heap_alloc_new w (oed k n i t a b c p q r f g))
  have hb := below_alloc w (oed k n i t a b c p q r f g)
  have hK : ∀ W, Below (w.heap.size + 1) (w.alloc (oed k n i t a b c p q r f g)) W → C12 W w.heap.size k n i t a b c p q r f g := fun W h => c12_of ((h.block _ (by omega)).trans (heap_alloc_new w _))
  have hR : Hid (_ = _) := hR
  cases m
  all_goals
    go_enter Tryz.func64, Tryz.ntmps64
    go_wp2_with fail
    go_region_held3 (fun w' => w'.cell? ⟨w.heap.size, 0, none⟩ = some (.int .i64 k) ∧ w'.cell? ⟨w.heap.size, 1, none⟩ = some (.int .i64 n) ∧ w'.cell? ⟨w.heap.size, 2, none⟩ = some (.int .i64 i) ∧ w'.cell? ⟨w.heap.size, 3, none⟩ = some (.int .i64 t) ∧ w'.cell? ⟨w.heap.size, 4, none⟩ = some (.int .i64 a) ∧ w'.cell? ⟨w.heap.size, 5, none⟩ = some (.int .i64 b) ∧ w'.cell? ⟨w.heap.size, 6, none⟩ = some (.int .i64 c) ∧ w'.cell? ⟨w.heap.size, 7, none⟩ = some (.int .i64 p) ∧ w'.cell? ⟨w.heap.size, 8, none⟩ = some (.int .i64 q) ∧ w'.cell? ⟨w.heap.size, 9, none⟩ = some (.int .i64 r) ∧ w'.cell? ⟨w.heap.size, 10, none⟩ = some (.string f) ∧ w'.cell? ⟨w.heap.size, 11, none⟩ = some (.string g)) (first | go_keep | (refine ⟨?_, ?_, ?_, ?_, ?_, ?_, ?_, ?_, ?_, ?_, ?_, ?_⟩ <;> assumption))
      ((first | (go_at_call 125; refine (hmay _).mono ?_; rintro e w3 ⟨rfl, hb3⟩; have hB3 := hB2.trans (hb3.mono hs2); obtain ⟨u0, u1, u2, u3, u4, u5, u6, u7, u8, u9, u10, u11⟩ := hK _ hB3) | (go_at_call 124; refine (hbare _).mono ?_; rintro e w2 ⟨rfl, hb2⟩; have hB2 : Below (w.heap.size + 1) (w.alloc (oed k n i t a b c p q r f g)) w2 := below_of_drew (by simpa using hb2); have hs2 : w.heap.size + 1 ≤ w2.heap.size := (by have := hB2.size; simpa using this); obtain ⟨d0, d1, d2, d3, d4, d5, d6, d7, d8, d9, d10, d11⟩ := hK _ hB2)))
    go_wp2
    go_ret
    rw [hR.out]
    exact ⟨rfl, hb.trans (hB3.mono (by omega))⟩
set_option maxRecDepth 100000 in
set_option maxHeartbeats 1000000 in
theorem echeck_other (k n i t a b c p q r n' i' t' a' b' c' p' q' r' : Int) (f g f' g' : ByteArray) (w : World) (hne : Hid (¬ (n = n' ∧ i = i' ∧ t = t' ∧ a = a' ∧ b = b' ∧ c = c' ∧ p = p' ∧ q = q' ∧ r = r' ∧ f.toList = f'.toList ∧ g.toList = g'.toList)))
    (hbare : ∀ W, Calls Tryz.prog 124 #[ed12 k n i t a b c p q r f g] W fun e w' => e = .returned (ed12 k n' i' t' a' b' c' p' q' r' f' g') ∧ Below W.heap.size W w') :
    Calls Tryz.prog 64 #[ed12 k n i t a b c p q r f g] w fun e w' => e = .returned (.int .i64 1) ∧ Below w.heap.size w w' := by
  obtain ⟨c0, c1, c2, c3, c4, c5, c6, c7, c8, c9, c10, c11⟩ := blk12 (heap_alloc_new w (oed k n i t a b c p q r f g))
  have hb := below_alloc w (oed k n i t a b c p q r f g)
  have hKX : ∀ W, Below (w.heap.size + 1) (w.alloc (oed k n i t a b c p q r f g)) W → C12 W w.heap.size k n i t a b c p q r f g := fun W h => c12_of ((h.block _ (by omega)).trans (heap_alloc_new w _))
  go_enter Tryz.func64, Tryz.ntmps64
  go_wp2_with fail
  refine wp_region_held_drew (S := (fun w' => w'.cell? ⟨w.heap.size, 0, none⟩ = some (.int .i64 k) ∧ w'.cell? ⟨w.heap.size, 1, none⟩ = some (.int .i64 n) ∧ w'.cell? ⟨w.heap.size, 2, none⟩ = some (.int .i64 i) ∧ w'.cell? ⟨w.heap.size, 3, none⟩ = some (.int .i64 t) ∧ w'.cell? ⟨w.heap.size, 4, none⟩ = some (.int .i64 a) ∧ w'.cell? ⟨w.heap.size, 5, none⟩ = some (.int .i64 b) ∧ w'.cell? ⟨w.heap.size, 6, none⟩ = some (.int .i64 c) ∧ w'.cell? ⟨w.heap.size, 7, none⟩ = some (.int .i64 p) ∧ w'.cell? ⟨w.heap.size, 8, none⟩ = some (.int .i64 q) ∧ w'.cell? ⟨w.heap.size, 9, none⟩ = some (.int .i64 r) ∧ w'.cell? ⟨w.heap.size, 10, none⟩ = some (.string f) ∧ w'.cell? ⟨w.heap.size, 11, none⟩ = some (.string g))) (by kernel_rfl) ⟨c0, c1, c2, c3, c4, c5, c6, c7, c8, c9, c10, c11⟩ (fun hHeld => ?_)
  refine wpAnyH_take (i := 0) (oi := ⟨some 3, _, _, _, _, _⟩) (v := ?_) rfl (by kernel_rfl) (by kernel_rfl) (by kernel_rfl) (fun _ _ _ h => h) (Or.inl ⟨by rfl, ?_⟩) (by assumption) ?_
  rotate_left
  · intro w hSw; (try dsimp only at hSw); (try obtain ⟨s0, s1, s2, s3, s4, s5, s6, s7, s8, s9, s10, s11⟩ := hSw); go_simp <;> (try with_reducible rfl)
  simp only [Act.put, List.setIfInBounds_toArray, List.set_cons_zero, List.set_cons_succ]
  refine wpAnyH_take (i := 1) (oi := ⟨some 4, _, _, _, _, _⟩) (v := ?_) rfl (by kernel_rfl) (by kernel_rfl) (by kernel_rfl) (fun _ _ _ h => h) (Or.inl ⟨by rfl, ?_⟩) (by assumption) ?_
  rotate_left
  · intro w hSw; (try dsimp only at hSw); (try obtain ⟨s0, s1, s2, s3, s4, s5, s6, s7, s8, s9, s10, s11⟩ := hSw); go_simp <;> (try with_reducible rfl)
  simp only [Act.put, List.setIfInBounds_toArray, List.set_cons_zero, List.set_cons_succ]
  refine wpAnyH_ready (rs := [2]) (by kernel_rfl) (by simp) ?_
  refine AllReadyH.cons rfl (fun K hK => ?_) AllReadyH.nil
  go_simp
  (go_at_call 124; refine (hbare _).mono ?_; rintro e w2 ⟨rfl, hb2⟩; have hB2 : Below (w.heap.size + 1) (w.alloc (oed k n i t a b c p q r f g)) w2 := below_of_drew (by simpa using hb2))
  refine hK.out _ _ (hKX _ hB2) (fun hHeld1 => ?_)
  clear hK K hHeld
  refine wpAnyH_take (i := 3) (oi := ⟨some 6, _, _, _, _, _⟩) (v := .bool true) rfl (by kernel_rfl) (by kernel_rfl) (by kernel_rfl) (fun _ _ _ h => h) (Or.inl ⟨by rfl, ?_⟩) (by assumption) ?_
  · intro w hSw; clear hSw; go_simp; exact fun h1 h2 h3 h4 h5 h6 h7 h8 h9 h10 h11 => hne.out ⟨h1, h2, h3, h4, h5, h6, h7, h8, h9, h10, h11⟩
  simp only [Act.put, List.setIfInBounds_toArray, List.set_cons_zero, List.set_cons_succ]
  refine wpAnyH_take (i := 4) (oi := ⟨some 7, _, _, _, _, _⟩) (v := ?_) rfl (by kernel_rfl) (by kernel_rfl) (by kernel_rfl) (fun _ _ _ h => h) (Or.inl ⟨by rfl, ?_⟩) (by assumption) ?_
  rotate_left
  · intro w hSw; (try dsimp only at hSw); (try obtain ⟨s0, s1, s2, s3, s4, s5, s6, s7, s8, s9, s10, s11⟩ := hSw); go_simp <;> (try with_reducible rfl)
  simp only [Act.put, List.setIfInBounds_toArray, List.set_cons_zero, List.set_cons_succ]
  refine wpAnyH_take (i := 5) (oi := ⟨some 8, _, _, _, _, _⟩) (v := undef) rfl (by kernel_rfl) (by kernel_rfl) (by kernel_rfl) (fun _ _ _ h => h) (Or.inr ⟨by rfl, rfl⟩) (by assumption) ?_
  simp only [Act.put, List.setIfInBounds_toArray, List.set_cons_zero, List.set_cons_succ]
  refine wpAnyH_take (i := 6) (oi := ⟨some 9, _, _, _, _, _⟩) (v := undef) rfl (by kernel_rfl) (by kernel_rfl) (by kernel_rfl) (fun _ _ _ h => h) (Or.inr ⟨by rfl, rfl⟩) (by assumption) ?_
  simp only [Act.put, List.setIfInBounds_toArray, List.set_cons_zero, List.set_cons_succ]
  refine wpAnyH_take (i := 7) (oi := ⟨some 10, _, _, _, _, _⟩) (v := undef) rfl (by kernel_rfl) (by kernel_rfl) (by kernel_rfl) (fun _ _ _ h => h) (Or.inr ⟨by rfl, rfl⟩) (by assumption) ?_
  simp only [Act.put, List.setIfInBounds_toArray, List.set_cons_zero, List.set_cons_succ]
  refine wpAnyH_take (i := 8) (oi := ⟨some 11, _, _, _, _, _⟩) (v := ?_) rfl (by kernel_rfl) (by kernel_rfl) (by kernel_rfl) (fun _ _ _ h => h) (Or.inl ⟨by rfl, ?_⟩) (by assumption) ?_
  rotate_left
  · intro w hSw; (try dsimp only at hSw); (try obtain ⟨s0, s1, s2, s3, s4, s5, s6, s7, s8, s9, s10, s11⟩ := hSw); go_simp <;> (try with_reducible rfl)
  simp only [Act.put, List.setIfInBounds_toArray, List.set_cons_zero, List.set_cons_succ]
  refine wpAnyH_done (by kernel_rfl) ?_ _
  go_wp2
  go_ret
  exact ⟨rfl, hb.trans (hB2.mono (by omega))⟩

theorem toList_inj {x y : ByteArray} (h : x.toList = y.toList) : x = y := by
  rw [Lib.toList_data, Lib.toList_data] at h
  obtain ⟨x⟩ := x; obtain ⟨y⟩ := y
  simp only at h
  rw [Array.toList_inj.mp h]
/-- the program's Check is 'may' -/
theorem echeck_may (k n i t a b c p q r : Int) (f g : ByteArray) : Ed.may ⟨k, n, i, t, a, b, c, ⟨p, q, r, f, g⟩⟩ = (decide (n = sel k 0 n ∧ i = sel k 1 i ∧ t = sel k 2 t ∧ a = sel k 3 a ∧ b = sel k 4 b ∧ c = sel k 5 c ∧ p = selt k p ∧ q = selt k q ∧ r = selt k r ∧ f = sels k f ∧ g = sels k g) && pmay k n i t a b c p q r f g) := by
  rw [Bool.eq_iff_iff]
  rcases Ed.kinds k with rfl | rfl | rfl | rfl | rfl | rfl | rfl | rfl | rfl | h
  case inr.inr.inr.inr.inr.inr.inr.inr.inr =>
    have e : pmay k n i t a b c p q r f g = false := by
      unfold pmay
      rw [if_neg (by omega), if_neg (by omega), if_neg (by omega), if_neg (by omega), if_neg (by omega), if_neg (by omega)]
    rw [Ed.may_none h, e, Bool.and_false]
  all_goals
    simp [Ed.may, pmay, sel, selt, sels, pfr, pto, Ed.hz, Ed.tz, Ed.counts_iff, Ed.cz_iff]
    try grind
theorem echeck_any (k n i t a b c p q r : Int) (f g : ByteArray) (w : World) (R : Int) (hR : R = if Ed.may ⟨k, n, i, t, a, b, c, ⟨p, q, r, f, g⟩⟩ = true then 0 else 1) :
    Calls Tryz.prog 64 #[ed12 k n i t a b c p q r f g] w fun e w' => e = .returned (.int .i64 R) ∧ Below w.heap.size w w' := by
  rw [echeck_may] at hR
  by_cases h : n = sel k 0 n ∧ i = sel k 1 i ∧ t = sel k 2 t ∧ a = sel k 3 a ∧ b = sel k 4 b ∧ c = sel k 5 c ∧ p = selt k p ∧ q = selt k q ∧ r = selt k r ∧ f = sels k f ∧ g = sels k g
  · rw [decide_eq_true h, Bool.true_and] at hR
    obtain ⟨h1, h2, h3, h4, h5, h6, h7, h8, h9, h10, h11⟩ := h
    refine echeck_same k n i t a b c p q r f g w _ R hR (fun W => ?_) (fun W => emaybe_any k n i t a b c p q r f g W)
    have := ebare_any k n i t a b c p q r f g W
    rw [← h1, ← h2, ← h3, ← h4, ← h5, ← h6, ← h7, ← h8, ← h9, ← h10, ← h11] at this
    exact this
  · rw [decide_eq_false h, Bool.false_and] at hR
    obtain rfl : R = 1 := hR
    refine echeck_other k n i t a b c p q r _ _ _ _ _ _ _ _ _ f g _ _ w ?_ (fun W => ebare_any k n i t a b c p q r f g W)
    show ¬ _
    exact (fun ⟨h1, h2, h3, h4, h5, h6, h7, h8, h9, h10, h11⟩ => h ⟨h1, h2, h3, h4, h5, h6, h7, h8, h9, toList_inj h10, toList_inj h11⟩)
end Go.Proofs.YtfogodbbgbnhkaaGreatDoor
