/- What is proved: CellPuts returns true for every input, and its arguments read as before. No condition. -/
import Derived.Test.YtgmcjalcpgldhaaRows
import Derived.Test.YtgmcjalcpgldhaaV6
import Derived.Test.YtgmcjalcpgldhaaX5
import Derived.Test.YtgmcjalcpgldhaaO3
import Derived.WalkKit
import Derived.ProofKit
import Derived.OpenShut
import Derived.ShutString
import Derived.ChangeOld
import Derived.Below
import Derived.SizedLaws
namespace Go.Proofs.Ytgmcjalcpgldhaa.cellPuts
open Go.ChangeShapes Go.WideShapes Go.ChangeAt Go.RowKit
open Go.ChangeMaps (open_string shut_string)
set_option linter.unusedVariables false

theorem own : ownKnob Try.prog.godebug = none := by kernel_rfl
theorem laidOut : laidOutB Try.prog = true := by kernel_rfl

theorem walk (f0 : Bool) (a0 : Option Addr) (n0 c0 : Nat) (bs0 : List Nat) (q0 : Po.P) (f1 : Bool) (a1 : Option Addr) (n1 c1 : Nat) (bs1 : List Nat) (q1 : Po.P) (w : World) (w0 : IsBytes w a0 n0 c0 bs0) (x0 : Po.Fits q0) (w1 : IsBytes w a1 n1 c1 bs1) (x1 : Po.Fits q1) :
    Calls Try.prog 3 #[cv f0 a0 n0 c0 q0, cv f1 a1 n1 c1 q1] w fun e w' => e = .returned (.bool true) ∧ Below w.heap.size w w' := by
  by_cases h : 200 < n0 ∨ 200 < n1
  · exact ceputs_long cputC f0 a0 n0 c0 q0 f1 a1 n1 c1 q1 w h
  · exact ceputs_any cputC ccheckC csameC f0 a0 n0 c0 bs0 q0 f1 a1 n1 c1 bs1 q1 w w0.1 w0.2.1 x0 w1.1 (by omega) (by omega)

set_option maxRecDepth 100000 in
theorem lifted (os : Os) (started : os.Started) (H : Type) (enc : TypeId × Value → H) :
    ReturnsInHanded {} Try.checked os 3 .any (Rows.cellPutsSpec.pre6 enc Try.prog Try.f3 Rows.cellPutsRow.domain false) (Rows.cellPutsSpec.post enc Try.prog Try.f3 false true false false) := by
  refine returnsInHanded_of_change_sized (C := Try.checked) own started (by kernel_rfl) Try.func3
    (ChangeSpec.witness6 (enc := enc) (C := Try.checked) false ⟨#[], #[.agg #[.bool false, .slice none 0 0, .int .i64 0, .int .i64 0, .int .i64 0, .int .u32 0], .agg #[.bool false, .slice none 0 0, .int .i64 0, .int .i64 0, .int .i64 0, .int .u32 0]], []⟩ 8 (by kernel_rfl) (by kernel_rfl) (by kernel_rfl) (by kernel_rfl)) ?_
  intro W base args ds gs before hval0 hW hcnd hsz0 _
  have hval : ∀ (j : Nat) t v, Try.f3.params[j]? = some t → args[j]? = some v → Value.okWide Try.prog W .any base t v := hval0
  have hW' := hW
  obtain ⟨p, q, hA0, hV, rfl, hfz, hnd⟩ := hW
  have hA : DataW.TrodAll enc Try.prog W 0 (fun _ => true) true Try.f3.params.toList args.toList ds p := hA0
  rw [Try.params3] at hA hval
  obtain ⟨v0, vs0, d0, ds0, p0, q0, hargs, rfl, rfl, h0, r0⟩ := trodAll_cons hA
  obtain ⟨v1, vs1, d1, ds1, p1, q1, rfl, rfl, rfl, h1, r1⟩ := trodAll_cons r0
  obtain ⟨rfl, rfl, rfl⟩ := trodAll_nil r1
  obtain rfl : args = #[v0, v1] := by cases args; simp_all
  obtain ⟨rfl, rfl⟩ := trodVars_none hV
  have k0 := h0
  have lt0 : ∀ x ∈ p0, x.block < W.heap.size := by obtain ⟨m, hm⟩ := k0; exact DataW.trod_lt m _ _ _ hm
  obtain ⟨cf0, ca0, cn0, cc0, cb0, cq0, rfl, w0, x0⟩ := open_cell (hval 0 27 v0 rfl rfl) h0 hsz0 (j := 0) rfl rfl
  have k1 := h1
  have lt1 : ∀ x ∈ p1, x.block < W.heap.size := by obtain ⟨m, hm⟩ := k1; exact DataW.trod_lt m _ _ _ hm
  obtain ⟨cf1, ca1, cn1, cc1, cb1, cq1, rfl, w1, x1⟩ := open_cell (hval 1 27 v1 rfl rfl) h1 hsz0 (j := 1) rfl rfl
  clear hA0 hval0
  refine (walk cf0 ca0 cn0 cc0 cb0 cq0 cf1 ca1 cn1 cc1 cb1 cq1 W w0 x0 w1 x1).mono fun e W' ⟨he, bel⟩ => ?_
  subst he
  exact ⟨_, rfl, _, _, _, [], _, [], hW', trodAll_mk1 (shut_bool Try.underlying4 _), (trodAll_cons_mk (Below.trod laidOut (by kernel_rfl) (of_decide_eq_true (by kernel_rfl)) k0 bel lt0) (trodAll_cons_mk (Below.trod laidOut (by kernel_rfl) (of_decide_eq_true (by kernel_rfl)) k1 bel lt1) trodAll_mk0)), rfl, bel.frame _, fun h => by cases h⟩

theorem over : Rows.cellPutsRow.holds Try.pinned (OpenSpec.ofChange Rows.cellPutsSpec) :=
  OpenClaim.holds_of_wide 3 Try.f3 rfl rfl rfl rfl rfl rfl rfl ⟨rfl, rfl, rfl, rfl, rfl⟩ rfl rfl rfl rfl rfl (by kernel_rfl) Try.func3 (by kernel_rfl)
    (of_decide_eq_true (by kernel_rfl)) (by unfold Func.isWrapper; first | (rw [if_pos (by decide +kernel)]; kernel_rfl) | (rw [if_neg (by decide +kernel)]; exact ⟨rfl, rfl⟩))
    (fun os started H enc _ => lifted os started H enc)

theorem proved : Rows.CellPutsSaid := over
end Go.Proofs.Ytgmcjalcpgldhaa.cellPuts
namespace Go.Proofs.Ytgmcjalcpgldhaa
theorem cellPuts_holds : Rows.CellPutsSaid := cellPuts.proved
#print axioms cellPuts_holds
end Go.Proofs.Ytgmcjalcpgldhaa
