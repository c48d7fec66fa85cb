/- What the program's compare and Less of points do. -/
import Derived.Test.YtmafbgfldojbbaaS6
namespace Go.Proofs.Ytmafbgfldojbbaa
open Go.RowKit

/-- Compare of two integers -/
def icmp (a b : Int) : Int := if a < b then -1 else if b < a then 1 else 0
theorem icmp_lt {a b : Int} (h : a < b) : icmp a b = -1 := by simp [icmp, h]
theorem icmp_gt {a b : Int} (h : b < a) : icmp a b = 1 := by rw [icmp, if_neg (by omega), if_pos h]
theorem icmp_eq (a : Int) : icmp a a = 0 := by rw [icmp, if_neg (by omega), if_neg (by omega)]
theorem icmp_zero {a b : Int} : icmp a b = 0 ↔ a = b := by unfold icmp; split <;> (try split) <;> omega
theorem icmp_abs (a b : Int) : -1 ≤ icmp a b ∧ icmp a b ≤ 1 := by unfold icmp; split <;> (try split) <;> omega
/-- the first of two that is not zero -/
def or2 (x y : Int) : Int := if x = 0 then y else x
def pcmp (f g : Po.P) : Int := if icmp f.1 g.1 = 0 then icmp f.2.1 g.2.1 else icmp f.1 g.1
theorem pcmp_less (f g : Po.P) : decide (pcmp f g < 0) = Po.less f g := by
  unfold pcmp Po.less
  by_cases h : f.1 = g.1
  · rw [if_pos (icmp_zero.mpr h), if_pos h]; unfold icmp; congr 1; apply propext; constructor <;> intro h' <;> (repeat' split at *) <;> omega
  · rw [if_neg (fun e => h (icmp_zero.mp e)), if_neg h]; unfold icmp; congr 1; apply propext; constructor <;> intro h' <;> (repeat' split at *) <;> omega

set_option maxRecDepth 100000 in
set_option maxHeartbeats 400000 in
theorem isnan_any (a : Int) (w : World) : Calls Try.prog 40 #[.int .i64 a] w fun e w' => e = .returned (.bool false) ∧ w' = w := by
  go_enter Try.func40, Try.ntmps40
  go_wp2
  go_ret
  exact ⟨by simp, rfl⟩

set_option maxRecDepth 100000 in
set_option maxHeartbeats 400000 in
theorem compare_any (a b : Int) (w : World) : Calls Try.prog 36 #[.int .i64 a, .int .i64 b] w fun e w' => e = .returned (.int .i64 (icmp a b)) ∧ w' = w := by
  rcases Int.lt_trichotomy a b with h | h | h
  · have H : Hid (icmp a b = -1) := icmp_lt h
    generalize icmp a b = r at *
    go_enter Try.func36, Try.ntmps36
    go_wp2_with (go_at_call 40; refine (isnan_any _ _).mono ?_; rintro e w' ⟨rfl, rfl⟩)
    go_ret
    exact ⟨ret_int H.out.symm, rfl⟩
  · subst h
    have H : Hid (icmp a a = 0) := icmp_eq a
    generalize icmp a a = r at *
    go_enter Try.func36, Try.ntmps36
    go_wp2_with (go_at_call 40; refine (isnan_any _ _).mono ?_; rintro e w' ⟨rfl, rfl⟩)
    go_ret
    exact ⟨ret_int H.out.symm, rfl⟩
  · have H : Hid (icmp a b = 1) := icmp_gt h
    generalize icmp a b = r at *
    have h' : ¬ a < b := by omega
    go_enter Try.func36, Try.ntmps36
    go_wp2_with (go_at_call 40; refine (isnan_any _ _).mono ?_; rintro e w' ⟨rfl, rfl⟩)
    go_ret
    exact ⟨ret_int H.out.symm, rfl⟩

set_option maxRecDepth 100000 in
set_option maxHeartbeats 400000 in
theorem or2_any (g : Nat) (x y : Int) (w : World) (h0 : w.cell? ⟨g, 0, none⟩ = some (.int .i64 x)) (h1 : w.cell? ⟨g, 1, none⟩ = some (.int .i64 y)) :
    Calls Try.prog 35 #[.slice (some ⟨g, 0, none⟩) 2 2] w fun e w' => e = .returned (.int .i64 (or2 x y)) ∧ w' = w := by
  unfold or2
  by_cases hx : x = 0
  · subst hx
    rw [if_pos rfl]
    by_cases hy : y = 0
    · subst hy
      go_enter Try.func35, Try.ntmps35
      go_wp2
      go_loop [8] (fun i => i = .int .i64 0 ∨ i = .int .i64 1 ∨ i = .int .i64 2) (fun i => 2 - (intOf i).toNat)
      case atStart => exact .inl rfl
      case round =>
        rcases hrel with rfl | rfl | rfl
        · go_wp2
          go_round
          case rel => exact .inr (.inl rfl)
          case measure => simp [intOf]
        · go_wp2
          go_round
          case rel => exact .inr (.inr rfl)
          case measure => simp [intOf]
        · go_wp2
          go_ret
          exact ⟨rfl, rfl⟩
    · have hd : (y == 0) = false := by simpa using hy
      go_enter Try.func35, Try.ntmps35
      go_wp2
      go_loop [8] (fun i => i = .int .i64 0 ∨ i = .int .i64 1) (fun i => 2 - (intOf i).toNat)
      case atStart => exact .inl rfl
      case round =>
        rcases hrel with rfl | rfl
        · go_wp2
          go_round
          case rel => exact .inr rfl
          case measure => simp [intOf]
        · go_wp2
          go_ret
          exact ⟨rfl, rfl⟩
  · have hd : (x == 0) = false := by simpa using hx
    rw [if_neg hx]
    go_enter Try.func35, Try.ntmps35
    go_wp2
    go_loop [8] (fun i => i = .int .i64 0) (fun i => 2 - (intOf i).toNat)
    case atStart => rfl
    case round =>
      subst hrel
      go_wp2
      go_ret
      exact ⟨rfl, rfl⟩

set_option maxRecDepth 100000 in
set_option maxHeartbeats 1000000 in
theorem pcompare_any (f g : Po.P) (w : World) :
    Calls Try.prog 28 #[pv f, pv g] w fun e w' => e = .returned (.int .i64 (pcmp f g)) ∧ Below w.heap.size w w' := by
  obtain ⟨s, a, l, m⟩ := f
  obtain ⟨s', a', l', m'⟩ := g
  simp only [pv]
  have Hp : Hid (pcmp (s, a, l, m) (s', a', l', m') = or2 (icmp s s') (icmp a a')) := (rfl : pcmp (s, a, l, m) (s', a', l', m') = or2 (icmp s s') (icmp a a'))
  generalize pcmp (s, a, l, m) (s', a', l', m') = r at *
  have hb0 : Below w.heap.size w ((w.alloc (.cells #[.int .i64 s, .int .i64 a, .int .i64 l, .int .u32 (m : Nat)] 24)).alloc (.cells #[.int .i64 s', .int .i64 a', .int .i64 l', .int .u32 (m' : Nat)] 24)) := (below_alloc _ _).alloc (by simp) _
  go_enter Try.func28, Try.ntmps28
  go_wp2_with fail
  have k0 : ((w.alloc (.cells #[.int .i64 s, .int .i64 a, .int .i64 l, .int .u32 (m : Nat)] 24)).alloc (.cells #[.int .i64 s', .int .i64 a', .int .i64 l', .int .u32 (m' : Nat)] 24)).cell? ⟨w.heap.size, 0, none⟩ = some (.int .i64 s) := by rw [cell_past _ _ _ (by simp)]; rw [cell_new]; rfl
  have k1 : ((w.alloc (.cells #[.int .i64 s, .int .i64 a, .int .i64 l, .int .u32 (m : Nat)] 24)).alloc (.cells #[.int .i64 s', .int .i64 a', .int .i64 l', .int .u32 (m' : Nat)] 24)).cell? ⟨w.heap.size, 1, none⟩ = some (.int .i64 a) := by rw [cell_past _ _ _ (by simp)]; rw [cell_new]; rfl
  have k2 : ((w.alloc (.cells #[.int .i64 s, .int .i64 a, .int .i64 l, .int .u32 (m : Nat)] 24)).alloc (.cells #[.int .i64 s', .int .i64 a', .int .i64 l', .int .u32 (m' : Nat)] 24)).cell? ⟨w.heap.size + 1, 0, none⟩ = some (.int .i64 s') := by rw [cell_newb _ _ _ _ (by simp)]; rfl
  have k3 : ((w.alloc (.cells #[.int .i64 s, .int .i64 a, .int .i64 l, .int .u32 (m : Nat)] 24)).alloc (.cells #[.int .i64 s', .int .i64 a', .int .i64 l', .int .u32 (m' : Nat)] 24)).cell? ⟨w.heap.size + 1, 1, none⟩ = some (.int .i64 a') := by rw [cell_newb _ _ _ _ (by simp)]; rfl
  generalize (w.alloc (.cells #[.int .i64 s, .int .i64 a, .int .i64 l, .int .u32 (m : Nat)] 24)).alloc (.cells #[.int .i64 s', .int .i64 a', .int .i64 l', .int .u32 (m' : Nat)] 24) = W0 at *
  go_region_held3 (fun w' => w'.cell? ⟨w.heap.size, 0, none⟩ = some (.int .i64 s) ∧ w'.cell? ⟨w.heap.size, 1, none⟩ = some (.int .i64 a) ∧ w'.cell? ⟨w.heap.size + 1, 0, none⟩ = some (.int .i64 s') ∧ w'.cell? ⟨w.heap.size + 1, 1, none⟩ = some (.int .i64 a')) (first | go_keep | (refine ⟨?_, ?_, ?_, ?_⟩ <;> assumption))
    (first
      | ((go_at_call 36; refine (compare_any _ _ _).mono ?_; rintro e w2 ⟨rfl, rfl⟩))
      | ((go_at_call 35; refine (or2_any _ (icmp s s') (icmp a a') _ ?_ ?_).mono ?_; rw [World.cell?_drew, cell_newb _ _ _ _ rfl]; rfl; rw [World.cell?_drew, cell_newb _ _ _ _ rfl]; rfl; rintro e w2 ⟨rfl, rfl⟩)))
  all_goals
    go_wp2
    go_ret
    exact ⟨by rw [Hp.out]; rfl, (hb0.alloc hb0.size _).drew⟩

set_option maxRecDepth 100000 in
set_option maxHeartbeats 1000000 in
theorem plessC : PLessC := by
  intro f g w _ _
  rw [← pcmp_less]
  have hc := fun W => pcompare_any f g W
  generalize pcmp f g = r at *
  obtain ⟨s, a, l, m⟩ := f
  obtain ⟨s', a', l', m'⟩ := g
  simp only [pv] at hc ⊢
  have hb0 : Below w.heap.size w ((w.alloc (.cells #[.int .i64 s, .int .i64 a, .int .i64 l, .int .u32 (m : Nat)] 24)).alloc (.cells #[.int .i64 s', .int .i64 a', .int .i64 l', .int .u32 (m' : Nat)] 24)) := (below_alloc _ _).alloc (by simp) _
  go_enter Try.func15, Try.ntmps15
  go_wp2_with (go_at_call 28; go_must (refine (hc _).mono ?_; rintro e w1 ⟨rfl, hbel1⟩))
  go_ret
  exact ⟨rfl, hb0.trans (hbel1.mono hb0.size)⟩
end Go.Proofs.Ytmafbgfldojbbaa
