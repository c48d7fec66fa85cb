/- Rosters: which may be, the files that any roster names in their order, the edits that make it again (done at first by the reference they make it), and when two are alike, for all rosters of at most 100 segments, moves and snapshots and 70 tables, whose texts have at most 200 bytes; of greater ones the example alone. -/
import Derived.Test.YtmodogmjfbcddaaGreatRows
import Derived.Test.YtmodogmjfbcddaaGreatSN
import Derived.Test.YtmodogmjfbcddaaGreatOR
import Derived.WalkKit
import Derived.ProofKit
import Derived.OpenShut
import Derived.ShutString
import Derived.ChangeOld
import Derived.Below
import Derived.SizedLaws
namespace Go.Proofs.YtmodogmjfbcddaaGreat.rosterFiles
open Go.ChangeShapes Go.WideShapes Go.ChangeAt Go.RowKit
open Go.ChangeMaps (open_string shut_string)
set_option linter.unusedVariables false

theorem own : ownKnob Tryz.prog.godebug = none := by kernel_rfl
theorem laidOut : laidOutB Tryz.prog = true := by kernel_rfl

theorem walk (rs0 : List Int) (rm0 : List (Int × Int)) (rt0 : List Lv.T) (rk0 : List (Int × Int × Int)) (ra10 : Option Addr) (rn10 rc10 : Nat) (ra20 : Option Addr) (rn20 rc20 : Nat) (ra30 : Option Addr) (rn30 rc30 : Nat) (ra40 : Option Addr) (rn40 rc40 : Nat) (ri10 ri20 ri30 ri40 ri50 ri60 ri70 : Int) (rs1 : List Int) (rm1 : List (Int × Int)) (rt1 : List Lv.T) (rk1 : List (Int × Int × Int)) (ra11 : Option Addr) (rn11 rc11 : Nat) (ra21 : Option Addr) (rn21 rc21 : Nat) (ra31 : Option Addr) (rn31 rc31 : Nat) (ra41 : Option Addr) (rn41 rc41 : Nat) (ri11 ri21 ri31 ri41 ri51 ri61 ri71 : Int) (w : World) (w0 : IsRos w ra10 rn10 rc10 ra20 rn20 rc20 ra30 rn30 rc30 ra40 rn40 rc40 ⟨rs0, rm0, rt0, rk0, ri10, ri20, ri30, ri40, ri50, ri60, ri70⟩) (w1 : IsRos w ra11 rn11 rc11 ra21 rn21 rc21 ra31 rn31 rc31 ra41 rn41 rc41 ⟨rs1, rm1, rt1, rk1, ri11, ri21, ri31, ri41, ri51, ri61, ri71⟩) :
    Calls Tryz.prog 5 #[.agg #[.slice ra10 rn10 rc10, .slice ra20 rn20 rc20, .slice ra30 rn30 rc30, .slice ra40 rn40 rc40, .int .i64 ri10, .int .i64 ri20, .int .i64 ri30, .int .i64 ri40, .int .i64 ri50, .int .i64 ri60, .int .i64 ri70], .agg #[.slice ra11 rn11 rc11, .slice ra21 rn21 rc21, .slice ra31 rn31 rc31, .slice ra41 rn41 rc41, .int .i64 ri11, .int .i64 ri21, .int .i64 ri31, .int .i64 ri41, .int .i64 ri51, .int .i64 ri61, .int .i64 ri71]] w fun e w' => e = .returned (.bool true) ∧ Below w.heap.size w w' := by
  exact rfil_all rs0 rm0 rt0 rk0 ra10 rn10 rc10 ra20 rn20 rc20 ra30 rn30 rc30 ra40 rn40 rc40 ri10 ri20 ri30 ri40 ri50 ri60 ri70 rs1 rm1 rt1 rk1 ra11 rn11 rc11 ra21 rn21 rc21 ra31 rn31 rc31 ra41 rn41 rc41 ri11 ri21 ri31 ri41 ri51 ri61 ri71 w w0 w1

set_option maxRecDepth 100000 in
theorem lifted (os : Os) (started : os.Started) (H : Type) (enc : TypeId × Value → H) :
    ReturnsInHanded {} Tryz.checked os 5 .any (Rows.rosterFilesSpec.pre6 enc Tryz.prog Tryz.f5 Rows.rosterFilesRow.domain false) (Rows.rosterFilesSpec.post enc Tryz.prog Tryz.f5 false true false false) := by
  refine returnsInHanded_of_change_sized (C := Tryz.checked) own started (by kernel_rfl) Tryz.func5
    (ChangeSpec.witness6 (enc := enc) (C := Tryz.checked) false ⟨#[], #[.agg #[.slice none 0 0, .slice none 0 0, .slice none 0 0, .slice none 0 0, .int .i64 0, .int .i64 0, .int .i64 0, .int .i64 0, .int .i64 0, .int .i64 0, .int .i64 0], .agg #[.slice none 0 0, .slice none 0 0, .slice none 0 0, .slice none 0 0, .int .i64 0, .int .i64 0, .int .i64 0, .int .i64 0, .int .i64 0, .int .i64 0, .int .i64 0]], []⟩ 8 (by kernel_rfl) (by kernel_rfl) (by kernel_rfl) (by kernel_rfl)) ?_
  intro W base args ds gs before hval0 hW hcnd hsz0 _
  have hval : ∀ (j : Nat) t v, Tryz.f5.params[j]? = some t → args[j]? = some v → Value.okWide Tryz.prog W .any base t v := hval0
  have hW' := hW
  obtain ⟨p, q, hA0, hV, rfl, hfz, hnd⟩ := hW
  have hA : DataW.TrodAll enc Tryz.prog W 0 (fun _ => true) true Tryz.f5.params.toList args.toList ds p := hA0
  rw [Tryz.params5] at hA hval
  obtain ⟨v0, vs0, d0, ds0, p0, q0, hargs, rfl, rfl, h0, r0⟩ := trodAll_cons hA
  obtain ⟨v1, vs1, d1, ds1, p1, q1, rfl, rfl, rfl, h1, r1⟩ := trodAll_cons r0
  obtain ⟨rfl, rfl, rfl⟩ := trodAll_nil r1
  obtain rfl : args = #[v0, v1] := by cases args; simp_all
  obtain ⟨rfl, rfl⟩ := trodVars_none hV
  have k0 := h0
  have lt0 : ∀ x ∈ p0, x.block < W.heap.size := by obtain ⟨m, hm⟩ := k0; exact DataW.trod_lt m _ _ _ hm
  obtain ⟨rs0, rm0, rt0, rk0, ra10, rn10, rc10, ra20, rn20, rc20, ra30, rn30, rc30, ra40, rn40, rc40, ri10, ri20, ri30, ri40, ri50, ri60, ri70, rfl, w0⟩ := open_roster (hval 0 29 v0 rfl rfl) h0 hsz0 (j := 0) rfl rfl
  have k1 := h1
  have lt1 : ∀ x ∈ p1, x.block < W.heap.size := by obtain ⟨m, hm⟩ := k1; exact DataW.trod_lt m _ _ _ hm
  obtain ⟨rs1, rm1, rt1, rk1, ra11, rn11, rc11, ra21, rn21, rc21, ra31, rn31, rc31, ra41, rn41, rc41, ri11, ri21, ri31, ri41, ri51, ri61, ri71, rfl, w1⟩ := open_roster (hval 1 29 v1 rfl rfl) h1 hsz0 (j := 1) rfl rfl
  clear hA0 hval0
  refine (walk rs0 rm0 rt0 rk0 ra10 rn10 rc10 ra20 rn20 rc20 ra30 rn30 rc30 ra40 rn40 rc40 ri10 ri20 ri30 ri40 ri50 ri60 ri70 rs1 rm1 rt1 rk1 ra11 rn11 rc11 ra21 rn21 rc21 ra31 rn31 rc31 ra41 rn41 rc41 ri11 ri21 ri31 ri41 ri51 ri61 ri71 W w0 w1).mono fun e W' ⟨he, bel⟩ => ?_
  subst he
  exact ⟨_, rfl, _, _, _, [], _, [], hW', trodAll_mk1 (shut_bool Tryz.underlying4 _), (trodAll_cons_mk (Below.trod laidOut (by kernel_rfl) (of_decide_eq_true (by kernel_rfl)) k0 bel lt0) (trodAll_cons_mk (Below.trod laidOut (by kernel_rfl) (of_decide_eq_true (by kernel_rfl)) k1 bel lt1) trodAll_mk0)), rfl, bel.frame _, fun h => by cases h⟩

theorem over : Rows.rosterFilesRow.holds Tryz.pinned (OpenSpec.ofChange Rows.rosterFilesSpec) :=
  OpenClaim.holds_of_wide 5 Tryz.f5 rfl rfl rfl rfl rfl rfl rfl ⟨rfl, rfl, rfl, rfl, rfl⟩ rfl rfl rfl rfl rfl (by kernel_rfl) Tryz.func5 (by kernel_rfl)
    (of_decide_eq_true (by kernel_rfl)) (by unfold Func.isWrapper; first | (rw [if_pos (by decide +kernel)]; kernel_rfl) | (rw [if_neg (by decide +kernel)]; exact ⟨rfl, rfl⟩))
    (fun os started H enc _ => lifted os started H enc)

theorem proved : Rows.RosterFilesSaid := over
end Go.Proofs.YtmodogmjfbcddaaGreat.rosterFiles
namespace Go.Proofs.YtmodogmjfbcddaaGreat
theorem rosterFiles_holds : Rows.RosterFilesSaid := rosterFiles.proved
#print axioms rosterFiles_holds
end Go.Proofs.YtmodogmjfbcddaaGreat
