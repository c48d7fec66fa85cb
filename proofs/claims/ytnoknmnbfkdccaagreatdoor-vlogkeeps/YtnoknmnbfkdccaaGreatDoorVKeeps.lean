/- What was put and synced is got behind any crash. -/
import Derived.Test.YtnoknmnbfkdccaaGreatDoorRows
import Derived.Test.YtnoknmnbfkdccaaGreatDoorVLs
import Derived.Test.YtnoknmnbfkdccaaGreatDoorVR
import Derived.Test.YtnoknmnbfkdccaaGreatDoorOT
import Derived.Test.YtnoknmnbfkdccaaGreatDoorLD
import Derived.WalkKit
import Derived.ProofKit
import Derived.OpenShut
import Derived.ShutString
import Derived.ChangeOld
import Derived.Below
import Derived.SizedLaws
import Derived.Test.YtnoknmnbfkdccaaGreatDoorCards
import Derived.Test.YtnoknmnbfkdccaaGreatDoorTie
import Derived.SevenTiedAt
namespace Go.Proofs.YtnoknmnbfkdccaaGreatDoor.vlogKeeps
open Go.ChangeShapes Go.WideShapes Go.ChangeAt Go.RowKit
open Go.ChangeMaps (open_string shut_string)
set_option linter.unusedVariables false

theorem own : ownKnob Tryz.prog.godebug = none := by kernel_rfl
theorem laidOut : laidOutB Tryz.prog = true := by kernel_rfl

theorem walk (a0 : Option Addr) (len0 cap0 : Nat) (hs0 : List VH) (vs0 : List (List Nat)) (a1 : Option Addr) (len1 cap1 : Nat) (hs1 : List VH) (vs1 : List (List Nat)) (st2 kn2 : Int) (ta2 : Option Addr) (tn2 tc2 : Nat) (zs2 : List Int) (w : World) (w0 : InV w a0 len0 cap0 hs0 vs0) (x0 : len0 ≤ 140737488355328 ∧ ∀ v ∈ vs0, v.length ≤ 140737488355328) (w1 : InV w a1 len1 cap1 hs1 vs1) (x1 : len1 ≤ 140737488355328 ∧ ∀ v ∈ vs1, v.length ≤ 140737488355328) (w2 : ZIn w ta2 tn2 tc2 zs2 ∧ tn2 ≤ 140737488355328 ∧ (-9223372036854775808 ≤ st2 ∧ st2 ≤ 9223372036854775807)) (hT : Tab w) :
    Calls Tryz.prog 4 #[.slice a0 len0 cap0, .slice a1 len1 cap1, .agg #[.int .i64 st2, .int .i64 kn2, .slice ta2 tn2 tc2]] w fun e w' => e = .returned (.bool true) ∧ Below w.heap.size w w' := by
  exact vkeeps_all a0 len0 cap0 hs0 vs0 a1 len1 cap1 hs1 vs1 st2 kn2 ta2 tn2 tc2 zs2 w w0 x0 w1 x1 w2 hT

set_option maxRecDepth 100000 in
theorem lifted (os : Os) (started : os.Started) (H : Type) (enc : TypeId × Value → H) :
    ReturnsInHanded {} Tryz.checked os 4 .any (fun w args => (Rows.vlogKeepsSpec.pre enc Tryz.prog Tryz.f4 [] false w args ∧ laidMetH Tryz.prog Rows.vlogKeepsRow.laid w) ∧ sizedMet enc Tryz.prog Tryz.f4 (OpenSpec.ofChange Rows.vlogKeepsSpec) false w args)
      (Rows.vlogKeepsSpec.post enc Tryz.prog Tryz.f4 false true false false) := by
  refine returnsInHanded_of_change_and (C := Tryz.checked) (X := fun w _ => laidMetH Tryz.prog Rows.vlogKeepsRow.laid w) (fun _ _ _ hh h => h.of_heap hh) own started (by kernel_rfl) Tryz.func4
    (ChangeSpec.witness_shaped (enc := enc) (C := Tryz.checked) (os := os) (X := fun w _ => laidMetH Tryz.prog Rows.vlogKeepsRow.laid w) false (World.doorLaid Tryz.prog 24 os) #[.slice none 0 0, .slice none 0 0, .agg #[.int .i64 0, .int .i64 0, .slice none 0 0]] 8 rfl (World.shaped_of_RefB (by kernel_rfl) (by kernel_rfl)) (by kernel_rfl) (by kernel_rfl) (by kernel_rfl) (door_met os _)) ?_
  intro W base args ds gs before hval0 hW hcnd hsz0 hL _
  have hT := tab_of_laid hL
  have hval : ∀ (j : Nat) t v, Tryz.f4.params[j]? = some t → args[j]? = some v → Value.okWide Tryz.prog W .any base t v := hval0
  have hW' := hW
  obtain ⟨p, q, hA0, hV, rfl, hfz, hnd⟩ := hW
  have hA : DataW.TrodAll enc Tryz.prog W 0 (fun _ => true) true Tryz.f4.params.toList args.toList ds p := hA0
  rw [Tryz.params4] at hA hval
  obtain ⟨v0, vs0, d0, ds0, p0, q0, hargs, rfl, rfl, h0, r0⟩ := trodAll_cons hA
  obtain ⟨v1, vs1, d1, ds1, p1, q1, rfl, rfl, rfl, h1, r1⟩ := trodAll_cons r0
  obtain ⟨v2, vs2, d2, ds2, p2, q2, rfl, rfl, rfl, h2, r2⟩ := trodAll_cons r1
  obtain ⟨rfl, rfl, rfl⟩ := trodAll_nil r2
  obtain rfl : args = #[v0, v1, v2] := by cases args; simp_all
  obtain ⟨rfl, rfl⟩ := trodVars_none hV
  obtain ⟨a0, len0, cap0, rfl⟩ := okWide_slice Tryz.underlying48 (hval 0 48 v0 rfl rfl)
  have k0 := h0
  have lt0 : ∀ x ∈ p0, x.block < W.heap.size := by obtain ⟨m, hm⟩ := k0; exact DataW.trod_lt m _ _ _ hm
  obtain ⟨hs0, vs0, w0, x0⟩ : ∃ hs vs, InV W a0 len0 cap0 hs vs ∧ len0 ≤ 140737488355328 ∧ ∀ v ∈ vs, v.length ≤ 140737488355328 := by
    obtain ⟨fuel, hf⟩ := h0
    exact open_vals hf (by simp [Value.cells]) hsz0 (j := 0) rfl rfl
  obtain ⟨a1, len1, cap1, rfl⟩ := okWide_slice Tryz.underlying48 (hval 1 48 v1 rfl rfl)
  have k1 := h1
  have lt1 : ∀ x ∈ p1, x.block < W.heap.size := by obtain ⟨m, hm⟩ := k1; exact DataW.trod_lt m _ _ _ hm
  obtain ⟨hs1, vs1, w1, x1⟩ : ∃ hs vs, InV W a1 len1 cap1 hs vs ∧ len1 ≤ 140737488355328 ∧ ∀ v ∈ vs, v.length ≤ 140737488355328 := by
    obtain ⟨fuel, hf⟩ := h1
    exact open_vals hf (by simp [Value.cells]) hsz0 (j := 1) rfl rfl
  have k2 := h2
  have lt2 : ∀ x ∈ p2, x.block < W.heap.size := by obtain ⟨m, hm⟩ := k2; exact DataW.trod_lt m _ _ _ hm
  obtain ⟨st2, kn2, ta2, tn2, tc2, zs2, rfl, w2⟩ := open_crash (hval 2 52 v2 rfl rfl) h2 hsz0 (j := 2) rfl rfl
  clear hA0 hval0
  refine (walk a0 len0 cap0 hs0 vs0 a1 len1 cap1 hs1 vs1 st2 kn2 ta2 tn2 tc2 zs2 W w0 x0 w1 x1 w2 hT).mono fun e W' ⟨he, bel⟩ => ?_
  subst he
  exact ⟨_, rfl, _, _, _, [], _, [], hW', trodAll_mk1 (shut_bool Tryz.underlying4 _), (trodAll_cons_mk (Below.trod laidOut (by kernel_rfl) (of_decide_eq_true (by kernel_rfl)) k0 bel lt0) (trodAll_cons_mk (Below.trod laidOut (by kernel_rfl) (of_decide_eq_true (by kernel_rfl)) k1 bel lt1) (trodAll_cons_mk (Below.trod laidOut (by kernel_rfl) (of_decide_eq_true (by kernel_rfl)) k2 bel lt2) trodAll_mk0))), rfl, bel.frame _, fun h => by cases h⟩

theorem over : Rows.vlogKeepsRow.holds Tryz.pinned (OpenSpec.ofChange Rows.vlogKeepsSpec) :=
  OpenClaim.holds_of_wide 4 Tryz.f4 rfl rfl rfl rfl rfl rfl rfl ⟨rfl, rfl, rfl, rfl, rfl⟩ rfl rfl rfl rfl rfl (by kernel_rfl) Tryz.func4 (by kernel_rfl)
    (of_decide_eq_true (by kernel_rfl)) (by unfold Func.isWrapper; first | (rw [if_pos (by decide +kernel)]; kernel_rfl) | (rw [if_neg (by decide +kernel)]; exact ⟨rfl, rfl⟩))
    (fun os started H enc _ => lifted os started H enc)

theorem proved : Rows.VlogKeepsCardSaid :=
  Claim7.holds_tied_plain_at .later [] Rows.vlogKeepsCard.laidKinds true Rows.vlogKeepsCard.stood.harness Rows.vlogKeepsCard.stood.looks
    over (fun _ h => by cases h) (by kernel_rfl) (fun _ h => by cases h) vlogKeeps_row_tie rfl ⟨rfl, rfl⟩ (by kernel_rfl) rfl
    (fun f fn hf hfn => by
      obtain rfl : f = 4 := Option.some.inj ((show Tryz.prog.funcNamed Rows.vlogKeepsRow.func = some 4 by kernel_rfl).symm.trans hf) |>.symm
      obtain rfl : fn = Tryz.f4 := (Option.some.inj (Tryz.func4.symm.trans hfn)).symm
      exact ⟨by kernel_rfl, fun j t ht => by
        rw [Tryz.params4] at ht
        have hm : t ∈ [48, 48, 52] := by simpa using Array.mem_of_getElem? ht
        have hall : ([48, 48, 52].all fun u => !Tryz.prog.wantsStandIn u) = true := by kernel_rfl
        exact (show Tryz.prog.wantsStandIn t = false by simpa using List.all_eq_true.1 hall t hm)⟩)
    (by kernel_rfl)
end Go.Proofs.YtnoknmnbfkdccaaGreatDoor.vlogKeeps
namespace Go.Proofs.YtnoknmnbfkdccaaGreatDoor
theorem vlogKeeps_holds : Rows.VlogKeepsCardSaid := vlogKeeps.proved
#print axioms vlogKeeps_holds
end Go.Proofs.YtnoknmnbfkdccaaGreatDoor
