/- What the law VarintReads does. -/
import Derived.Test.YtiekjkgnljoccaaW9
import Derived.Deep.RegionHeld3
namespace Go.Proofs.Ytiekjkgnljoccaa
open Go.RowKit

theorem reads_long (a1 a2 : Option Addr) (l1 c1 l2 c2 : Nat) (w : World) (h : 500 < l1 ∨ 500 < l2) :
    Calls Try.prog 5 #[.slice a1 l1 c1, .slice a2 l2 c2] w fun e w' => e = .returned (.bool true) ∧ Below w.heap.size w w' := by
  by_cases h1 : 500 < l1
  · clear h
    go_enter Try.func5, Try.ntmps5
    go_wp2_with (go_at_call 7; refine (awake_any _).mono ?_; rintro e w' ⟨rfl, hbel⟩)
    go_ret
    exact ⟨rfl, by assumption⟩
  · have h2 : 500 < l2 := by omega
    clear h
    go_enter Try.func5, Try.ntmps5
    go_wp2_with (go_at_call 7; refine (awake_any _).mono ?_; rintro e w' ⟨rfl, hbel⟩)
    go_ret
    exact ⟨rfl, by assumption⟩

theorem shape_of_owns {w : World} {base : Nat} {e : TypeId} {a : Option Addr} {n cap : Nat} {xs : List Value} (h : w.ownsRow base e 1 (.slice a n cap) n xs) : Shape a n cap := by
  rcases h.2 with ⟨e, rfl⟩ | ⟨g, cap, cur, e, _, hh, hnc, _⟩
  · simp only [Value.slice.injEq] at e
    exact .inl ⟨rfl, e.2.2⟩
  · simp only [Value.slice.injEq] at e
    obtain ⟨rfl, _, rfl⟩ := e
    exact .inr ⟨g, 0, rfl, hnc⟩

set_option maxRecDepth 100000 in
set_option maxHeartbeats 1000000 in
theorem reads_any (a1 a2 : Option Addr) (l1 c1 l2 c2 : Nat) (l more : List Nat) (w : World) (h1 : l1 ≤ 500) (h2 : l2 ≤ 500)
    (hr1 : Row .u64 w a1 l1 l) (hr2 : Row .u8 w a2 l2 more) (hn2 : a2 = none → l2 = 0 ∧ c2 = 0) :
    Calls Try.prog 5 #[.slice a1 l1 c1, .slice a2 l2 c2] w fun e w' => e = .returned (.bool true) ∧ Below w.heap.size w w' := by
  have hp := put_any a1 l1 c1 l w (by omega) hr1
  have hpl : Hid ((Va.put l).length ≤ 5000) := (by
    have := Va.put_len l hr1.2.2.1
    rw [hr1.1] at this; omega : (Va.put l).length ≤ 5000)
  have hps := Va.put_small l
  have hms : ∀ x ∈ more, x < 256 := hr2.2.2.1
  have hall : Va.all (Va.put l ++ more) l1 = (l, (Va.put l).length, 0) := by
    have := Va.all_put l more hr1.2.2.1 hr2.2.2.1
    rw [hr1.1] at this; exact this
  have hsm3 : ∀ x ∈ Va.put l ++ more, x < lim .u8 := by
    intro x hx
    rcases List.mem_append.mp hx with h | h
    · exact hps x h
    · exact hms x h
  have hm : Hid (more.length = l2) := hr2.1
  have hll : Hid (l.length = l1) := hr1.1
  generalize Va.put l = r at *
  obtain ⟨n, hn⟩ : ∃ n, n = r.length := ⟨_, rfl⟩
  have hnr : Hid (n = r.length) := hn
  have hn5 : n ≤ 5000 := by rw [hn]; exact hpl.out
  rw [← hn] at hall
  unfold Made at hp
  rw [← hn] at hp
  clear hn
  go_enter Try.func5, Try.ntmps5
  go_wp2_with (first
    | (go_at_call 10; refine hp.mono ?_; rintro e w1 ⟨b1, d1, rfl, hown1, hbel1⟩; have hsz1 := hbel1.size)
    | (at_builtin; have := hown2; go_must (refine append_u8 (w0 := w1) rfl (.tmp 24) (.tmp 25) rfl _ _ _ rfl hown2 a2 l2 c2 more rfl ((hr2.below hbel1 (Nat.le_refl _)).below hbel2 (Nat.le_refl _)) hn2 (by omega) hbel2 hsz2 ?_; intro b3 d3 w3 hown3 hbel3 hsz3))
    | (at_builtin; have := hown1; go_must (have hB1 : Below w1.heap.size w1 (w1.alloc (.cells #[] 5)) := (Below.refl _ _).alloc (Nat.le_refl _) _; obtain ⟨hrb, hnb, hcb⟩ := row_of_owns hown1 hps (by omega); refine append_u8 (w0 := w1) rfl (.tmp 22) (.tmp 23) rfl _ 0 [] rfl (World.ownsRow_made (base := w1.heap.size) (e := 5) (size := 1) w1 #[] 0 (Nat.le_refl _) (by decide) (by simp)) b1 n d1 r rfl (hrb.below hB1 (Nat.le_refl _)) hnb (by omega) hB1 hB1.size ?_; intro b2 d2 w2 hown2 hbel2 hsz2; simp only [Nat.zero_add, List.nil_append] at hown2))
    | (go_at_call 18; have := hown3; go_must (have hA := all_any b3 (n + l2) d3 _ l1 w3 (by omega) (by omega) (shape_of_owns hown3) (row_of_owns hown3 hsm3 (by omega)).1; rw [hall] at hA; refine hA.mono ?_; rintro e w4 ⟨b4, d4, rfl, hown4, hbel4⟩)))
  have hB3 : Below w.heap.size w w3 := hbel1.trans (hbel3.mono hsz1)
  have hB4 : Below w.heap.size w w4 := hB3.trans (hbel4.mono hB3.size)
  have hra := hr1.below hB4 (Nat.le_refl _)
  have hrx := (row_of_owns hown4 hr1.2.2.1 (by have := hll.out; show l.length ≤ _; omega)).1
  have hsz4 := hB4.size
  clear hown1 hown2 hown3 hown4 hbel1 hbel2 hbel3 hbel4 hB3 hp hall hr1 hr2
  go_loopw [9] (fun i wr => ∃ k : Nat, k ≤ l1 ∧ i = .int .i64 k ∧ Below w4.heap.size w4 wr) (fun i _ => l1 - (intOf i).toNat)
  case atStart => exact ⟨0, by omega, rfl, Below.refl _ _⟩
  case round =>
    obtain ⟨k, hk, rfl, hbw⟩ := hrel
    by_cases hlt : k < l1
    · obtain ⟨b, off, rfl, hc⟩ := (hra.below hbw (Nat.le_refl _)).at (by omega)
      have hcell := hc k hlt
      have hx := getD_lt64 hra.2.2.1 k
      clear hc hra hrx
      generalize l.getD k 0 = x at *
      have i0 : (0 : Int) ≤ (k : Int) := Int.natCast_nonneg _
      have i1 : (k : Int) < (l1 : Int) := by omega
      have hu1 := Va.unfold_lt hx
      have hf1 := fun W => unfold_any x W hx
      have hf2 := fun W => fold_any (Va.unfold x) W hu1.1 hu1.2
      simp only [Va.fold_unfold] at hf2
      generalize Va.unfold x = y at *
      go_wp2_with fail
      go_region_held3 (fun w' => w'.cell? ⟨b, off + k, none⟩ = some (.int .u64 x)) (first | go_keep | assumption)
        (first | ((go_at_call 15; refine (hf1 _).mono ?_; rintro e w' ⟨rfl, rfl⟩)) | ((go_at_call 13; refine (hf2 _).mono ?_; rintro e w' ⟨rfl, rfl⟩)))
      go_wp2
      go_roundw
      case rel => exact ⟨k + 1, by omega, by go_num, hbw.drew⟩
      case measure => simp [intOf]; omega
    · have hS := Same_any _ _ d4 _ _ _ c1 _ wr (hrx.below hbw (Nat.le_refl _)) (hra.below hbw (Nat.le_refl _))
      simp only [decide_true] at hS
      clear hra hrx
      go_wp2_with (first | (go_at_call 20; refine hS.mono ?_; rintro e w5 ⟨rfl, m5, rfl⟩) | (go_at_call 7; refine (awake_any _).mono ?_; rintro e w6 ⟨rfl, hbel6⟩))
      have hB5 := (hB4.trans (hbw.mono hsz4)).trans (below_drewN _ _ m5)
      go_ret
      exact ⟨rfl, hB5.trans (hbel6.mono hB5.size)⟩
end Go.Proofs.Ytiekjkgnljoccaa
