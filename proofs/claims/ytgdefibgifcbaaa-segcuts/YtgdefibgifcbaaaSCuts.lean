/- SegCuts: of any beginning of what is put just the values that end within it are told, for every input. -/
import Derived.Test.YtgdefibgifcbaaaRows
import Derived.Test.YtgdefibgifcbaaaSGi
import Derived.Test.YtgdefibgifcbaaaVR
import Derived.Test.YtgdefibgifcbaaaOT
import Derived.WalkKit
import Derived.ProofKit
import Derived.OpenShut
import Derived.ShutString
import Derived.ChangeOld
import Derived.Below
import Derived.SizedLaws
namespace Go.Proofs.Ytgdefibgifcbaaa.segCuts
open Go.ChangeShapes Go.WideShapes Go.ChangeAt Go.RowKit
open Go.ChangeMaps (open_string shut_string)
set_option linter.unusedVariables false

theorem own : ownKnob Try.prog.godebug = none := by kernel_rfl
theorem laidOut : laidOutB Try.prog = true := by kernel_rfl

theorem walk (a0 : Option Addr) (len0 cap0 : Nat) (hs0 : List VH) (vs0 : List (List Nat)) (a1 : Int) (w : World) (w0 : InV w a0 len0 cap0 hs0 vs0) (x0 : len0 ≤ 140737488355328 ∧ ∀ v ∈ vs0, v.length ≤ 140737488355328) (w1 : (Lit.int .u16 a1).wf = true) :
    Calls Try.prog 6 #[.slice a0 len0 cap0, .int .u16 a1] w fun e w' => e = .returned (.bool true) ∧ Below w.heap.size w w' := by
  have h1 : 0 ≤ a1 ∧ a1 < 65536 := by
    have := w1
    simp [Lit.wf, IntKind.min, IntKind.max, IntKind.bits, IntKind.signed] at this
    omega
  obtain ⟨n, rfl⟩ : ∃ n : Nat, a1 = (n : Int) := ⟨a1.toNat, by omega⟩
  by_cases hL : Sg.lightB vs0 = true
  · by_cases hG : Sg.longB vs0 = false
    · exact sgcuts_any a0 len0 cap0 hs0 vs0 n w w0 x0.2 x0.1 (by omega) hL hG
    · exact sgcuts_dark a0 len0 cap0 hs0 vs0 (n : Int) w w0 x0.2 x0.1 (.inr (by simpa using hG))
  · exact sgcuts_dark a0 len0 cap0 hs0 vs0 (n : Int) w w0 x0.2 x0.1 (.inl (by simpa using hL))

set_option maxRecDepth 100000 in
theorem lifted (os : Os) (started : os.Started) (H : Type) (enc : TypeId × Value → H) :
    ReturnsInHanded {} Try.checked os 6 .any (Rows.segCutsSpec.pre6 enc Try.prog Try.f6 Rows.segCutsRow.domain false) (Rows.segCutsSpec.post enc Try.prog Try.f6 false true false false) := by
  refine returnsInHanded_of_change_sized (C := Try.checked) own started (by kernel_rfl) Try.func6
    (ChangeSpec.witness6 (enc := enc) (C := Try.checked) false ⟨#[], #[.slice none 0 0, .int .u16 0], []⟩ 8 (by kernel_rfl) (by kernel_rfl) (by kernel_rfl) (by kernel_rfl)) ?_
  intro W base args ds gs before hval0 hW hcnd hsz0 _
  have hval : ∀ (j : Nat) t v, Try.f6.params[j]? = some t → args[j]? = some v → Value.okWide Try.prog W .any base t v := hval0
  have hW' := hW
  obtain ⟨p, q, hA0, hV, rfl, hfz, hnd⟩ := hW
  have hA : DataW.TrodAll enc Try.prog W 0 (fun _ => true) true Try.f6.params.toList args.toList ds p := hA0
  rw [Try.params6] at hA hval
  obtain ⟨v0, vs0, d0, ds0, p0, q0, hargs, rfl, rfl, h0, r0⟩ := trodAll_cons hA
  obtain ⟨v1, vs1, d1, ds1, p1, q1, rfl, rfl, rfl, h1, r1⟩ := trodAll_cons r0
  obtain ⟨rfl, rfl, rfl⟩ := trodAll_nil r1
  obtain rfl : args = #[v0, v1] := by cases args; simp_all
  obtain ⟨rfl, rfl⟩ := trodVars_none hV
  obtain ⟨a0, len0, cap0, rfl⟩ := okWide_slice Try.underlying22 (hval 0 22 v0 rfl rfl)
  have k0 := h0
  have lt0 : ∀ x ∈ p0, x.block < W.heap.size := by obtain ⟨m, hm⟩ := k0; exact DataW.trod_lt m _ _ _ hm
  obtain ⟨hs0, vs0, w0, x0⟩ : ∃ hs vs, InV W a0 len0 cap0 hs vs ∧ len0 ≤ 140737488355328 ∧ ∀ v ∈ vs, v.length ≤ 140737488355328 := by
    obtain ⟨fuel, hf⟩ := h0
    exact open_vals hf (by simp [Value.cells]) hsz0 (j := 0) rfl rfl
  obtain ⟨a1, rfl, rfl, rfl, w1⟩ := open_int Try.underlying49 (hval 1 49 v1 rfl rfl) h1
  clear hA0 hval0
  refine (walk a0 len0 cap0 hs0 vs0 a1 W w0 x0 w1).mono fun e W' ⟨he, bel⟩ => ?_
  subst he
  exact ⟨_, rfl, _, _, _, [], _, [], hW', trodAll_mk1 (shut_bool Try.underlying4 _), (trodAll_cons_mk (Below.trod laidOut (by kernel_rfl) (of_decide_eq_true (by kernel_rfl)) k0 bel lt0) (trodAll_cons_mk (shut_int Try.underlying49 w1) trodAll_mk0)), rfl, bel.frame _, fun h => by cases h⟩

theorem over : Rows.segCutsRow.holds Try.pinned (OpenSpec.ofChange Rows.segCutsSpec) :=
  OpenClaim.holds_of_wide 6 Try.f6 rfl rfl rfl rfl rfl rfl rfl ⟨rfl, rfl, rfl, rfl, rfl⟩ rfl rfl rfl rfl rfl (by kernel_rfl) Try.func6 (by kernel_rfl)
    (of_decide_eq_true (by kernel_rfl)) (by unfold Func.isWrapper; first | (rw [if_pos (by decide +kernel)]; kernel_rfl) | (rw [if_neg (by decide +kernel)]; exact ⟨rfl, rfl⟩))
    (fun os started H enc _ => lifted os started H enc)

theorem proved : Rows.SegCutsSaid := over
end Go.Proofs.Ytgdefibgifcbaaa.segCuts
namespace Go.Proofs.Ytgdefibgifcbaaa
theorem segCuts_holds : Rows.SegCutsSaid := segCuts.proved
#print axioms segCuts_holds
end Go.Proofs.Ytgdefibgifcbaaa
