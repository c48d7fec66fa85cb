/- What is asked of the program's own functions over tallies; awake, light. -/
import Derived.Test.YtfeaablomceejaaTA4
namespace Go.Proofs.Ytfeaablomceejaa
open Go.RowKit

namespace Ta
def addR (l : List S) (ps : List Po.P) : Nat × List S := if may l = false ∨ points ps = false then (1, []) else if may (add l ps) = false then (7, []) else (0, add l ps)
def subR (l : List S) (ps : List Po.P) : Nat × List S := if may l = false ∨ points ps = false then (1, []) else match sub l ps with | none => (3, []) | some m => (0, m)
def joinR (l m : List S) : Nat × List S := if may l = false ∨ may m = false then (1, []) else if may (join l m) = false then (7, []) else (0, join l m)
def getR (l : List S) (s : Int) : Int := if may l = true then get l s else 0
end Ta
def SFit (l : List Ta.S) : Prop := ∀ x ∈ l, (-9223372036854775808 ≤ x.1 ∧ x.1 ≤ 9223372036854775807) ∧ (-9223372036854775808 ≤ x.2 ∧ x.2 ≤ 9223372036854775807)
/-- a slice of shares as it may come in -/
def InS (w : World) (a : Option Addr) (len cap : Nat) (l : List Ta.S) : Prop := ShRow w a len l ∧ SFit l ∧ (a = none → len = 0 ∧ cap = 0) ∧ len ≤ cap
def InP (w : World) (a : Option Addr) (len cap : Nat) (ps : List Po.P) : Prop := PRow w a len ps ∧ (a = none → len = 0 ∧ cap = 0) ∧ len ≤ cap
theorem InS.below {w w' : World} {B : Nat} {a : Option Addr} {n c : Nat} {l : List Ta.S} (h : InS w a n c l) (hb : Below B w w') (hB : w.heap.size ≤ B) : InS w' a n c l := ⟨h.1.below hb hB, h.2⟩
theorem InP.below {w w' : World} {B : Nat} {a : Option Addr} {n c : Nat} {l : List Po.P} (h : InP w a n c l) (hb : Below B w w') (hB : w.heap.size ≤ B) : InP w' a n c l := ⟨h.1.below hb hB, h.2⟩
def TPRes (w : World) (R : Nat × List Ta.S) (e : Ending) (w' : World) : Prop :=
  ∃ a c, e = .returned (.tuple #[.slice a R.2.length c, .int .i64 (R.1 : Nat)]) ∧ InS w' a R.2.length c R.2 ∧ Below w.heap.size w w'
def TCheckC : Prop := ∀ (a : Option Addr) (n c : Nat) (l : List Ta.S) (w : World), n ≤ 1000 → InS w a n c l → Calls Try.prog 12 #[.slice a n c] w fun e w' => e = .returned (.int .i64 (if Ta.may l = true then 0 else 1)) ∧ Below w.heap.size w w'
def TGetC : Prop := ∀ (a : Option Addr) (n c : Nat) (l : List Ta.S) (s : Int) (w : World), n ≤ 1000 → InS w a n c l → (-9223372036854775808 ≤ s ∧ s ≤ 9223372036854775807) → Calls Try.prog 13 #[.slice a n c, .int .i64 s] w fun e w' => e = .returned (.int .i64 (Ta.getR l s)) ∧ Below w.heap.size w w'
def TAddC : Prop := ∀ (a : Option Addr) (n c : Nat) (l : List Ta.S) (a' : Option Addr) (n' c' : Nat) (ps : List Po.P) (w : World), n ≤ 1000 → n' ≤ 1000 → InS w a n c l → InP w a' n' c' ps → Calls Try.prog 9 #[.slice a n c, .slice a' n' c'] w (TPRes w (Ta.addR l ps))
def TSubC : Prop := ∀ (a : Option Addr) (n c : Nat) (l : List Ta.S) (a' : Option Addr) (n' c' : Nat) (ps : List Po.P) (w : World), n ≤ 1000 → n' ≤ 1000 → InS w a n c l → InP w a' n' c' ps → Calls Try.prog 18 #[.slice a n c, .slice a' n' c'] w (TPRes w (Ta.subR l ps))
def TOfC : Prop := ∀ (a' : Option Addr) (n' c' : Nat) (ps : List Po.P) (w : World), n' ≤ 1000 → InP w a' n' c' ps → Calls Try.prog 15 #[.slice a' n' c'] w (TPRes w (Ta.addR [] ps))
def TJoinC : Prop := ∀ (a : Option Addr) (n c : Nat) (l : List Ta.S) (a' : Option Addr) (n' c' : Nat) (m : List Ta.S) (w : World), n ≤ 1000 → n' ≤ 1000 → InS w a n c l → InS w a' n' c' m → Calls Try.prog 20 #[.slice a n c, .slice a' n' c'] w (TPRes w (Ta.joinR l m))

theorem ta_ex : Ta.addR [] [(3, 0, 5, 0), (3, 9, 7, 0)] = (0, [(3, 12)]) := by decide
theorem ta_ex2 : Ta.getR [(3, 12)] 3 = 12 := by decide
theorem two_points (w : World) {g : Nat} (hg : w.heap.size = g) : InP (w.alloc (.cells #[.int .i64 3, .int .i64 0, .int .i64 5, .int .u32 0, .int .i64 3, .int .i64 9, .int .i64 7, .int .u32 0] 41)) (some ⟨g, 0, none⟩) 2 2 [(3, 0, 5, 0), (3, 9, 7, 0)] := by
  subst hg
  refine ⟨⟨rfl, by omega, .inr ⟨_, 0, rfl, fun i hi => ?_⟩⟩, (fun h => by cases h), by omega⟩
  have hf1 : Po.Fits (3, 0, 5, 0) := by unfold Po.Fits; decide
  have hf2 : Po.Fits (3, 9, 7, 0) := by unfold Po.Fits; decide
  match i, hi with
  | 0, _ => exact ⟨cell_new w _ _ 0, cell_new w _ _ 1, cell_new w _ _ 2, cell_new w _ _ 3, hf1⟩
  | 1, _ => exact ⟨cell_new w _ _ 4, cell_new w _ _ 5, cell_new w _ _ 6, cell_new w _ _ 7, hf2⟩

set_option maxRecDepth 100000 in
set_option maxHeartbeats 1000000 in
theorem taawake (hO : TOfC) (hG : TGetC) (w : World) : Calls Try.prog 8 #[] w fun e w' => e = .returned (.bool true) ∧ Below w.heap.size w w' := by
  have hb0 := below_alloc w (.cells #[.int .i64 3, .int .i64 0, .int .i64 5, .int .u32 0, .int .i64 3, .int .i64 9, .int .i64 7, .int .u32 0] 41)
  have ho := hO _ 2 2 _ _ (by omega) (two_points w rfl)
  rw [ta_ex] at ho
  go_enter Try.func8, Try.ntmps8
  go_wp2_with (first
    | (go_at_call 13; have := hb1; go_must (refine (hG _ 1 _ [(3, 12)] 3 _ (by omega) hi1 (by omega)).mono ?_; rw [ta_ex2]; rintro e w2 ⟨rfl, hb2⟩))
    | (go_at_call 15; go_must (refine ho.mono ?_; rintro e w1 ⟨a1, c1, rfl, hi1, hb1⟩; have hw1 := hb0.trans (hb1.mono hb0.size))))
  go_ret
  exact ⟨by simp, hw1.trans (hb2.mono hw1.size)⟩

theorem talight (a : Option Addr) (n c : Nat) (a' : Option Addr) (n' c' : Nat) (w : World) (r : Bool) (hr : r = decide (n ≤ 100 ∧ n' ≤ 60)) (h1 : n ≤ 140737488355328) (h2 : n' ≤ 140737488355328) : Calls Try.prog 7 #[.slice a n c, .slice a' n' c'] w fun e w' => e = .returned (.bool r) ∧ w' = w := by
  by_cases h : n ≤ 100
  · have d1 : decide ((n : Int) ≤ 100) = true := by simp; omega
    have e : decide (n ≤ 100 ∧ n' ≤ 60) = decide (n' ≤ 60) := by simp [h]
    rw [e] at hr
    by_cases h' : n' ≤ 60
    · obtain rfl : r = true := by rw [hr]; simp [h']
      have d2 : decide ((n' : Int) ≤ 60) = true := by simp; omega
      clear hr e
      go_enter Try.func7, Try.ntmps7
      go_wp2
      go_ret
      exact ⟨rfl, rfl⟩
    · obtain rfl : r = false := by rw [hr]; simp [h']
      have d2 : decide ((n' : Int) ≤ 60) = false := by simp; omega
      clear hr e
      go_enter Try.func7, Try.ntmps7
      go_wp2
      go_ret
      exact ⟨rfl, rfl⟩
  · obtain rfl : r = false := by rw [hr]; simp [h]
    have d1 : decide ((n : Int) ≤ 100) = false := by simp; omega
    clear hr
    go_enter Try.func7, Try.ntmps7
    go_wp2
    go_ret
    exact ⟨rfl, rfl⟩
end Go.Proofs.Ytfeaablomceejaa
