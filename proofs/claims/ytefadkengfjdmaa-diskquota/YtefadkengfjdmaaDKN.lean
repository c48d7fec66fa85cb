/- The disk's Names: all of them, in order. -/
import Derived.Test.YtefadkengfjdmaaDKJ
import Derived.Test.YtefadkengfjdmaaIter
namespace Go.Proofs.Ytefadkengfjdmaa
open Go.RowKit Go.Shelf Go.Maps
open Go.WideElems (Fit rd rg)

/-- all names, in order -/
def Dk.order (D : Dk.D) : List ByteArray := ((D.names.map fun x => x.1.data.toList).mergeSort leB).map fun l => ⟨l.toArray⟩
theorem Dk.order_mem {D : Dk.D} {s : ByteArray} (h : s ∈ Dk.order D) : s ∈ D.names.map (·.1) := by
  unfold Dk.order at h
  obtain ⟨l, hl, rfl⟩ := List.mem_map.1 h
  rw [(List.mergeSort_perm _ leB).mem_iff] at hl
  obtain ⟨x, hx, rfl⟩ := List.mem_map.1 hl
  exact List.mem_map.2 ⟨x, hx, by simp⟩
theorem Dk.order_length (D : Dk.D) : (Dk.order D).length = D.names.length := by
  unfold Dk.order
  rw [List.length_map, (List.mergeSort_perm _ leB).length_eq, List.length_map]

theorem flat_one {α β : Type} (f : α → β) : ∀ l : List α, l.flatMap (fun a => [f a]) = l.map f
  | [] => rfl
  | a :: l => by rw [List.flatMap_cons, flat_one f l]; rfl
theorem steE1 : Enc 1 ste := ⟨fun _ => rfl, fun x u hu => by simp only [ste, List.mem_cons, List.not_mem_nil, or_false] at hu; rw [hu]; rfl⟩
def rnil (_ : Value) : Option (DataW Unit × List MemPlace) := some (.nil, [])
theorem names_owns {w : World} {nm : Nat} {l : List (ByteArray × Nat)} (h : MapAt sk ik w nm l) (hk : (l.map (·.1)).Nodup) (hs : ∀ x ∈ l, x.1.size ≤ 16) (hl : l.length ≤ 1000000) :
    ∃ D0 : DataW Unit, w.ownsMap Try.prog 9 rnil nm l.length D0 ∧ (strKeys D0).Perm (l.map fun x => x.1.data.toList) ∧ Maps.size D0 = l.length := by
  obtain ⟨es, clock, hb, he, hlt, hnd⟩ := h
  have hsz : es.size = l.length := by
    have := congrArg List.length he
    simpa [EntsAre] using this
  have hkn : (es.toList.map (·.key)).Nodup := by
    have h1 : es.toList.map (·.key) = (l.map (·.1)).map sk := by
      have := congrArg (List.map Prod.fst) he
      simpa [List.map_map, Function.comp_def] using this
    rw [h1]
    exact nodup_map (fun a b hab => by simpa [sk] using hab) hk
  have hkey : ∀ s : ByteArray, s.size ≤ 16 → keyOf Try.prog 9 (.string s) = some (.string s.data.toList) := fun s hs => by
    have : s.size ≤ maxLen := by unfold maxLen; omega
    simp [keyOf, Try.underlying9, mapKey, this]
  have hrd : ∀ e ∈ es.toList, ∃ s : ByteArray, e.key = .string s ∧ s.size ≤ 16 ∧ rd Try.prog 9 rnil e = some (.string s.data.toList, .nil) := fun e hm => by
    obtain ⟨k, v, hkv, h1, _⟩ := ents_mem he hm
    refine ⟨k, h1, hs _ hkv, ?_⟩
    unfold rd
    rw [h1, show sk k = .string k from rfl, hkey k (hs _ hkv)]
    rfl
  have F : Fit Try.prog 9 rnil es clock := ⟨by unfold maxLen; omega, ⟨hlt, hnd, hkn⟩, fun e hm => by obtain ⟨s, _, _, h3⟩ := hrd e hm; exact ⟨_, h3⟩⟩
  have hmap : (es.toList.map (rg Try.prog 9 rnil)).map (fun p => strOf p.1) = l.map fun x => x.1.data.toList := by
    have h1 : es.toList.map (·.key) = l.map fun x => sk x.1 := by
      have := congrArg (List.map Prod.fst) he
      simpa [List.map_map, Function.comp_def] using this
    have h2 : (es.toList.map (rg Try.prog 9 rnil)).map (fun p => strOf p.1) = (es.toList.map (·.key)).map (fun v => match v with | .string s => s.data.toList | _ => []) := by
      rw [List.map_map, List.map_map]
      refine List.map_congr_left fun e hm => ?_
      obtain ⟨s, h1, _, h3⟩ := hrd e hm
      simp only [Function.comp_def, rg, h3, h1, Option.getD_some, strOf]
    rw [h2, h1, List.map_map]
    rfl
  refine ⟨.map ((es.toList.map (rg Try.prog 9 rnil)).foldr DataW.insert []), ⟨es, clock, hb, F, by omega, rfl⟩, ?_, ?_⟩
  · show (List.map (fun p : Lit × DataW Unit => strOf p.1) _).Perm _
    rw [← hmap]
    exact (WideShapes.sorted_perm _).map _
  · rw [size_eq, (WideShapes.sorted_perm _).length_eq, List.length_map]
    simpa using hsz

set_option maxRecDepth 100000 in
set_option maxHeartbeats 2000000 in
theorem names_any {w : World} {p fm nm sm : Nat} {D : Dk.D} {tv : Value} {J : List (Nat × FH × Dk.F)} (hO : Dk.Ok D) (hP : Parts w p D (Dk.sum D.files) fm nm sm tv J) (hl : D.names.length ≤ 1000000) :
    Calls Try.prog 40 #[.pointer (some ⟨p, 0, none⟩)] w fun e w' => ∃ a c, e = .returned (.slice a D.names.length c) ∧ StRow w' a D.names.length (Dk.order D) ∧ (a = none → D.names.length = 0 ∧ c = 0) ∧ D.names.length ≤ c ∧ (∀ b o, a = some ⟨b, o, none⟩ → w.heap.size ≤ b) ∧ Below w.heap.size w w' := by
  obtain ⟨D0, hown, hperm, hsize⟩ := names_owns hP.names hO.nk hO.ns hl
  have hm := made_any hP
  have q4 := hP.cells.1.2.2.2.2.1
  have hS := Try.slices_Sorted_keys_43_44 nm D.names.length D0 rnil w hown (by rw [hsize]; unfold maxLen; omega) (by rw [hsize]; omega)
  have hSc := (callsIn_wide).1 hS
  have hKc := (callsIn_wide).1 (Try.maps_Keys_44 (some nm) w)
  go_enter Try.func40, Try.ntmps40
  go_wp2_with (first
    | (go_at_call 20; go_must (refine hm.mono ?_; rintro e w1 ⟨rfl, hw⟩; rw [hw]; clear hw w1))
    | (go_at_call 44; go_must (refine hKc.mono ?_; rintro e w1 ⟨rfl, hw⟩; rw [hw]; clear hw w1))
    | (go_at_call 43; go_must (refine hSc.mono ?_; rintro e w1 ⟨v, ss, rfl, hp, hrow, hnil, hb⟩)))
  go_ret
  have hp2 : ss.Perm (D.names.map fun x => x.1.data.toList) := hp.trans hperm
  have hlen : ss.length = D.names.length := by rw [hp2.length_eq, List.length_map]
  have hms : ss.mergeSort leB = (D.names.map fun x => x.1.data.toList).mergeSort leB := mergeSort_of_perm hp2
  obtain ⟨a, c, rfl, h1, h2⟩ := t_shape hrow
  have hcs : (ss.mergeSort (fun x y => decide (x ≤ y))).map encStr = tcells ste (Dk.order D) := by
    have : (ss.mergeSort (fun x y => decide (x ≤ y))) = (D.names.map fun x => x.1.data.toList).mergeSort leB := hms
    rw [this]
    unfold Dk.order tcells
    rw [List.flatMap_map]
    simp only [ste]
    exact (flat_one _ _).symm
  have hnew : ∀ b o, a = some ⟨b, o, none⟩ → w.heap.size ≤ b := fun b o e => by
    rcases hrow.2 with ⟨h0, _⟩ | ⟨g, cap, cur, h0, h1, _⟩
    · simp only [Value.slice.injEq] at h0; rw [h0.1] at e; cases e
    · simp only [Value.slice.injEq] at h0
      rw [h0.1] at e
      simp only [Option.some.injEq, Addr.mk.injEq] at e
      simp at h1
      omega
  rw [hcs] at hrow
  have hr := trow_of_owns (d := (⟨#[]⟩ : ByteArray)) steE1 hrow (by decide) (by omega)
  rw [hlen] at hr h1 h2
  refine ⟨a, c, (by rw [← hlen]; rfl), hr, h1, h2, hnew, ?_⟩
  exact (below_alloc w _).trans (hb.mono (by simp))
end Go.Proofs.Ytefadkengfjdmaa
