/- The disk's Names: all of them, in order. -/
import Derived.Test.YtnoknmnbfkdccaaGreatDoorDKJ
import Derived.Test.YtnoknmnbfkdccaaGreatDoorIter
namespace Go.Proofs.YtnoknmnbfkdccaaGreatDoor
open Go.RowKit Go.Shelf Go.Maps
open Go.WideElems (Fit rd rg)

/-- all names, in order -/
def Dk.order (D : Dk.D) : List ByteArray := ((D.names.map fun x => x.1.data.toList).mergeSort leB).map fun l => ⟨l.toArray⟩
theorem Dk.order_mem {D : Dk.D} {s : ByteArray} (h : s ∈ Dk.order D) : s ∈ D.names.map (·.1) := by
  unfold Dk.order at h
  obtain ⟨l, hl, rfl⟩ := List.mem_map.1 h
  rw [(List.mergeSort_perm _ leB).mem_iff] at hl
  obtain ⟨x, hx, rfl⟩ := List.mem_map.1 hl
  exact List.mem_map.2 ⟨x, hx, by simp⟩
theorem Dk.order_length (D : Dk.D) : (Dk.order D).length = D.names.length := by
  unfold Dk.order
  rw [List.length_map, (List.mergeSort_perm _ leB).length_eq, List.length_map]

theorem flat_one {α β : Type} (f : α → β) : ∀ l : List α, l.flatMap (fun a => [f a]) = l.map f
  | [] => rfl
  | a :: l => by rw [List.flatMap_cons, flat_one f l]; rfl
theorem steE1 : Enc 1 ste := ⟨fun _ => rfl, fun x u hu => by simp only [ste, List.mem_cons, List.not_mem_nil, or_false] at hu; rw [hu]; rfl⟩
def rnil (_ : Value) : Option (DataW Unit × List MemPlace) := some (.nil, [])
theorem names_owns {w : World} {nm : Nat} {l : List (ByteArray × Nat)} (h : MapAt sk ik w nm l) (hk : (l.map (·.1)).Nodup) (hs : ∀ x ∈ l, x.1.size ≤ 16) (hl : l.length ≤ 1000000) :
    ∃ D0 : DataW Unit, w.ownsMap Tryz.prog 9 rnil nm l.length D0 ∧ (strKeys D0).Perm (l.map fun x => x.1.data.toList) ∧ Maps.size D0 = l.length := by
  obtain ⟨es, clock, hb, he, hlt, hnd⟩ := h
  have hsz : es.size = l.length := by
    have := congrArg List.length he
    simpa [EntsAre] using this
  have hkn : (es.toList.map (·.key)).Nodup := by
    have h1 : es.toList.map (·.key) = (l.map (·.1)).map sk := by
      have := congrArg (List.map Prod.fst) he
      simpa [List.map_map, Function.comp_def] using this
    rw [h1]
    exact nodup_map (fun a b hab => by simpa [sk] using hab) hk
  have hkey : ∀ s : ByteArray, s.size ≤ 16 → keyOf Tryz.prog 9 (.string s) = some (.string s.data.toList) := fun s hs => by
    have : s.size ≤ maxLen := by unfold maxLen; omega
    simp [keyOf, Tryz.underlying9, mapKey, this]
  have hrd : ∀ e ∈ es.toList, ∃ s : ByteArray, e.key = .string s ∧ s.size ≤ 16 ∧ rd Tryz.prog 9 rnil e = some (.string s.data.toList, .nil) := fun e hm => by
    obtain ⟨k, v, hkv, h1, _⟩ := ents_mem he hm
    refine ⟨k, h1, hs _ hkv, ?_⟩
    unfold rd
    rw [h1, show sk k = .string k from rfl, hkey k (hs _ hkv)]
    rfl
  have F : Fit Tryz.prog 9 rnil es clock := ⟨by unfold maxLen; omega, ⟨hlt, hnd, hkn⟩, fun e hm => by obtain ⟨s, _, _, h3⟩ := hrd e hm; exact ⟨_, h3⟩⟩
  have hmap : (es.toList.map (rg Tryz.prog 9 rnil)).map (fun p => strOf p.1) = l.map fun x => x.1.data.toList := by
    have h1 : es.toList.map (·.key) = l.map fun x => sk x.1 := by
      have := congrArg (List.map Prod.fst) he
      simpa [List.map_map, Function.comp_def] using this
    have h2 : (es.toList.map (rg Tryz.prog 9 rnil)).map (fun p => strOf p.1) = (es.toList.map (·.key)).map (fun v => match v with | .string s => s.data.toList | _ => []) := by
      rw [List.map_map, List.map_map]
      refine List.map_congr_left fun e hm => ?_
      obtain ⟨s, h1, _, h3⟩ := hrd e hm
      simp only [Function.comp_def, rg, h3, h1, Option.getD_some, strOf]
    rw [h2, h1, List.map_map]
    rfl
  refine ⟨.map ((es.toList.map (rg Tryz.prog 9 rnil)).foldr DataW.insert []), ⟨es, clock, hb, F, by omega, rfl⟩, ?_, ?_⟩
  · show (List.map (fun p : Lit × DataW Unit => strOf p.1) _).Perm _
    rw [← hmap]
    exact (WideShapes.sorted_perm _).map _
  · rw [size_eq, (WideShapes.sorted_perm _).length_eq, List.length_map]
    simpa using hsz

set_option maxRecDepth 100000 in
set_option maxHeartbeats 2000000 in
theorem names_any {w : World} {p fm nm sm : Nat} {D : Dk.D} {tv : Value} {J : List (Nat × FH × Dk.F)} (hO : Dk.Ok D) (hP : Parts w p D (Dk.sum D.files) fm nm sm tv J) (hl : D.names.length ≤ 1000000) :
    Calls Tryz.prog 80 #[.pointer (some ⟨p, 0, none⟩)] w fun e w' => ∃ a c, e = .returned (.slice a D.names.length c) ∧ StRow w' a D.names.length (Dk.order D) ∧ (a = none → D.names.length = 0 ∧ c = 0) ∧ D.names.length ≤ c ∧ (∀ b o, a = some ⟨b, o, none⟩ → w.heap.size ≤ b) ∧ Below w.heap.size w w' := by
  obtain ⟨D0, hown, hperm, hsize⟩ := names_owns hP.names hO.nk hO.ns hl
  have hm := made_any hP
  have q4 := hP.cells.1.2.2.2.2.1
  have hS := Tryz.slices_Sorted_keys_109_110 nm D.names.length D0 rnil w hown (by rw [hsize]; unfold maxLen; omega) (by rw [hsize]; omega)
  have hSc := (callsIn_wide).1 hS
  have hKc := (callsIn_wide).1 (Tryz.maps_Keys_110 (some nm) w)
  go_enter Tryz.func80, Tryz.ntmps80
  go_wp2_with (first
    | (go_at_call 46; go_must (refine hm.mono ?_; rintro e w1 ⟨rfl, hw⟩; rw [hw]; clear hw w1))
    | (go_at_call 110; go_must (refine hKc.mono ?_; rintro e w1 ⟨rfl, hw⟩; rw [hw]; clear hw w1))
    | (go_at_call 109; go_must (refine hSc.mono ?_; rintro e w1 ⟨v, ss, rfl, hp, hrow, hnil, hb⟩)))
  go_ret
  have hp2 : ss.Perm (D.names.map fun x => x.1.data.toList) := hp.trans hperm
  have hlen : ss.length = D.names.length := by rw [hp2.length_eq, List.length_map]
  have hms : ss.mergeSort leB = (D.names.map fun x => x.1.data.toList).mergeSort leB := mergeSort_of_perm hp2
  obtain ⟨a, c, rfl, h1, h2⟩ := t_shape hrow
  have hcs : (ss.mergeSort (fun x y => decide (x ≤ y))).map encStr = tcells ste (Dk.order D) := by
    have : (ss.mergeSort (fun x y => decide (x ≤ y))) = (D.names.map fun x => x.1.data.toList).mergeSort leB := hms
    rw [this]
    unfold Dk.order tcells
    rw [List.flatMap_map]
    simp only [ste]
    exact (flat_one _ _).symm
  have hnew : ∀ b o, a = some ⟨b, o, none⟩ → w.heap.size ≤ b := fun b o e => by
    rcases hrow.2 with ⟨h0, _⟩ | ⟨g, cap, cur, h0, h1, _⟩
    · simp only [Value.slice.injEq] at h0; rw [h0.1] at e; cases e
    · simp only [Value.slice.injEq] at h0
      rw [h0.1] at e
      simp only [Option.some.injEq, Addr.mk.injEq] at e
      simp at h1
      omega
  rw [hcs] at hrow
  have hr := trow_of_owns (d := (⟨#[]⟩ : ByteArray)) steE1 hrow (by decide) (by omega)
  rw [hlen] at hr h1 h2
  refine ⟨a, c, (by rw [← hlen]; rfl), hr, h1, h2, hnew, ?_⟩
  exact (below_alloc w _).trans (hb.mono (by simp))
end Go.Proofs.YtnoknmnbfkdccaaGreatDoor

/- The disk's keepTails. -/
namespace Go.Proofs.YtnoknmnbfkdccaaGreatDoor
open Go.RowKit Go.Shelf

def ize (z : Int) : List Value := [.int .i64 z]
/-- a slice of ints as it comes in -/
def ZIn (w : World) (a : Option Addr) (n c : Nat) (zs : List Int) : Prop := TRow 1 ize 0 w a n zs ∧ (a = none → n = 0 ∧ c = 0) ∧ n ≤ c

theorem ZIn.next {w : World} {b o n c : Nat} {z : Int} {ys : List Int} (h : ZIn w (some ⟨b, o, none⟩) (n + 1) c (z :: ys)) : ZIn w (some ⟨b, o + 1, none⟩) n (c - 1) ys := by
  obtain ⟨⟨h1, h2, h3⟩, _, h5⟩ := h
  refine ⟨⟨by simpa using h1, by omega, ?_⟩, (fun e => by cases e), by omega⟩
  rcases h3 with h3 | ⟨b', off, e, hc⟩
  · omega
  · simp only [Option.some.injEq, Addr.mk.injEq] at e
    obtain ⟨rfl, rfl, _⟩ := e
    refine .inr ⟨b, o + 1, rfl, fun i hi j v hj => ?_⟩
    have := hc (i + 1) (by omega) j v (by simpa using hj)
    rw [show o + 1 + i * 1 + j = o + (i + 1) * 1 + j by omega]
    exact this

/-- how many bytes that are not safe stay -/
def Dk.keep1 (zs : List Int) (loose : Nat) : Nat := match zs with | [] => 0 | z :: _ => (min (max z 0) (loose : Int)).toNat
theorem Dk.keep1_le (zs : List Int) (loose : Nat) : Dk.keep1 zs loose ≤ loose := by
  unfold Dk.keep1
  split <;> omega
def Dk.tailF (f : Dk.F) (k : Nat) : Dk.F := ⟨f.bs.take (f.safe + k), f.safe + k⟩
/-- a file's tail is kept, or lost -/
def Dk.tail1 (st : Dk.D × List Int) (s : ByteArray) : Dk.D × List Int := match Dk.find st.1 s with
  | none => st
  | some (n, f) => if f.bs.length - f.safe = 0 then st else ({ st.1 with files := mput st.1.files n (Dk.tailF f (Dk.keep1 st.2 (f.bs.length - f.safe))) }, st.2.tail)
def Dk.tails (D : Dk.D) (zs : List Int) (l : List ByteArray) : Dk.D × List Int := l.foldl Dk.tail1 (D, zs)
theorem Dk.tails_take {D : Dk.D} {zs : List Int} {l : List ByteArray} {k : Nat} {s : ByteArray} (h : l[k]? = some s) : Dk.tails D zs (l.take (k + 1)) = Dk.tail1 (Dk.tails D zs (l.take k)) s := by
  unfold Dk.tails
  rw [List.take_add_one, h]
  simp
theorem Dk.tail1_names (st : Dk.D × List Int) (s : ByteArray) : (Dk.tail1 st s).1.names = st.1.names := by
  unfold Dk.tail1
  split
  · rfl
  · split <;> rfl
theorem Dk.tails_names (D : Dk.D) (zs : List Int) (l : List ByteArray) : (Dk.tails D zs l).1.names = D.names := by
  unfold Dk.tails
  induction l generalizing D zs with
  | nil => rfl
  | cons s l ih =>
    rw [List.foldl_cons]
    rw [show Dk.tail1 (D, zs) s = ((Dk.tail1 (D, zs) s).1, (Dk.tail1 (D, zs) s).2) from rfl, ih]
    exact Dk.tail1_names (D, zs) s

theorem trow_only {α : Type} {sz : Nat} {en : α → List Value} {d : α} {S : Nat → Prop} {w w' : World} {a : Option Addr} {n : Nat} {l : List α} (h : TRow sz en d w a n l) (ho : OnlyIn S w w') (hb : ∀ b o, a = some ⟨b, o, none⟩ → S b → n = 0) : TRow sz en d w' a n l := by
  obtain ⟨h1, h2, h3⟩ := h
  refine ⟨h1, h2, ?_⟩
  rcases h3 with h3 | ⟨b, off, e, hc⟩
  · exact .inl h3
  · refine .inr ⟨b, off, e, fun i hi j v hj => ?_⟩
    have := hc i hi j v hj
    exact (World.cell?_of_block (ho.block b (cell_lt this) (fun hs => by have := hb b off e hs; omega))).trans this
theorem mput_mput {α β : Type} [DecidableEq α] : ∀ (l : List (α × β)) (k : α) (v v' : β), mput (mput l k v) k v' = mput l k v'
  | [], k, v, v' => by simp [mput]
  | (a, x) :: l, k, v, v' => by
    by_cases hk : a = k
    · simp [mput, hk]
    · simp only [mput, hk, if_false]
      rw [mput_mput l k v v']

set_option maxRecDepth 100000 in
set_option maxHeartbeats 4000000 in
theorem keepTails_any {w : World} {p : Nat} {D : Dk.D} {S : Nat → Prop} (h : DK w p D S) (hSw : ∀ k, S k → k < w.heap.size) (ta : Option Addr) (tn tc : Nat) (zs : List Int) (hz : ZIn w ta tn tc zs) (hts : ∀ b o, ta = some ⟨b, o, none⟩ → S b → tn = 0) (hl : D.names.length ≤ 1000000) :
    Calls Tryz.prog 48 #[.pointer (some ⟨p, 0, none⟩), .slice ta tn tc] w fun e w' => e = .returned (.tuple #[]) ∧ DK w' p (Dk.tails D zs (Dk.order D)).1 S ∧ OnlyIn S w w' := by
  have hnc := (by obtain ⟨hO, fm, nm, sm, tv, J, hP, hS⟩ := id h; exact names_any hO hP hl :
    Calls Tryz.prog 80 #[.pointer (some ⟨p, 0, none⟩)] w fun e w' => ∃ a c, e = .returned (.slice a D.names.length c) ∧ StRow w' a D.names.length (Dk.order D) ∧ (a = none → D.names.length = 0 ∧ c = 0) ∧ D.names.length ≤ c ∧ (∀ b o, a = some ⟨b, o, none⟩ → w.heap.size ≤ b) ∧ Below w.heap.size w w')
  obtain ⟨N, hN⟩ : ∃ N, N = D.names.length := ⟨_, rfl⟩
  rw [← hN] at hnc hl
  have hol : (Dk.order D).length = N := by rw [Dk.order_length, hN]
  have HO : Hid ((Dk.order D).length = N) := hol
  clear hN hol
  go_enter Tryz.func48, Tryz.ntmps48
  go_wp2_with (go_at_call 80; go_must (refine hnc.mono ?_; rintro e w1 ⟨na, nc, rfl, hnr, hna, hnn, hnew, hb1⟩))
  have hD1 : DK w1 p D S := h.keep (fun k hk _ => hb1.block k hk) fun _ _ h => h
  have hz1 : ZIn w1 ta tn tc zs := ⟨hz.1.below hb1 (Nat.le_refl _), hz.2⟩
  have hnb : Hid (∀ b o, na = some ⟨b, o, none⟩ → ¬ S b) := (fun b o e hs => by have := hnew b o e; have := hSw b hs; omega : ∀ b o, na = some ⟨b, o, none⟩ → ¬ S b)
  clear hnew
  go_loopw [1, 12] (fun tl i wr => ∃ (k n c : Nat) (a : Option Addr) (ys : List Int) (E : Dk.D), k ≤ N ∧ i = .int .i64 k ∧ tl = .slice a n c ∧ ZIn wr a n c ys ∧ Hid (∀ b o, a = some ⟨b, o, none⟩ → S b → n = 0) ∧ StRow wr na N (Dk.order D) ∧ Hid ((E, ys) = Dk.tails D zs ((Dk.order D).take k)) ∧ DK wr p E S ∧ OnlyIn S w wr) (fun _ i _ => N - (intOf i).toNat)
  case atStart => exact ⟨0, tn, tc, ta, zs, D, by omega, rfl, rfl, hz1, hts, hnr, rfl, hD1, OnlyIn.of_below hb1⟩
  case round =>
    obtain ⟨k, n, c, a, ys, E, hk, rfl, rfl, hzr, HS, hnrr, HE, hDr, honr⟩ := hrel
    by_cases hlt : k < N
    · have hko : k < (Dk.order D).length := by rw [HO.out]; exact hlt
      obtain ⟨s, hs⟩ : ∃ s, (Dk.order D)[k]? = some s := ⟨(Dk.order D)[k], List.getElem?_eq_getElem hko⟩
      obtain ⟨nb, noff, rfl, hat⟩ := hnrr.at (by omega)
      have hatk := hat k hlt
      rw [show (Dk.order D).getD k ⟨#[]⟩ = s by rw [List.getD_eq_getElem?_getD, hs]; rfl] at hatk
      have y0 : wr.cell? ⟨nb, noff + k, none⟩ = some (.string s) := by have := hatk 0 _ rfl; simpa using this
      have hEn : E.names = D.names := by have := Dk.tails_names D zs ((Dk.order D).take k); rw [← HE.out] at this; exact this
      have hmem : s ∈ E.names.map (·.1) := by rw [hEn]; exact Dk.order_mem (List.mem_of_getElem? hs)
      obtain ⟨hOr, fm, nm, sm, tv, J, hP, hS⟩ := id hDr
      rcases hP.findJ hOr s with ⟨e1, e2⟩ | ⟨num, x, f, e1, e2, e3, e4⟩
      · exact absurd hmem (look_none.1 e2)
      · have hfd := find_some hP s e2 e3
        have hx : FileAt wr x f := hP.each _ (look_mem e3)
        obtain ⟨d0, d1, hfx⟩ := hx.cells
        obtain ⟨va, vc, hv, _, _⟩ := t_shape hx.row
        have hsafe := hx.safe
        have hlen : f.bs.length ≤ 4194304 := Nat.le_trans (Dk.le_sum e4) (Nat.le_trans hOr.use hOr.q)
        have HT : Hid (Dk.tails D zs ((Dk.order D).take (k + 1)) = Dk.tail1 (E, ys) s) := (by rw [Dk.tails_take hs, ← HE.out] : Dk.tails D zs ((Dk.order D).take (k + 1)) = Dk.tail1 (E, ys) s)
        have HF : Hid (Dk.find E s = some (num, f)) := e1
        rw [hv] at d0
        obtain ⟨L, hL⟩ : ∃ L, L = f.bs.length := ⟨_, rfl⟩
        rw [← hL] at d0 hsafe hlen
        have HL : Hid (L = f.bs.length) := hL
        have i3 : (0 : Int) ≤ (k : Int) := by omega
        have i4 : (k : Int) < (N : Int) := by omega
        have i5 : IntKind.i64.wrap ((k : Int) + 1) = ((k + 1 : Nat) : Int) := by rw [IntKind.wrap_i64]; omega
        have i6 : IntKind.i64.wrap ((L : Int) - (f.safe : Int)) = ((L - f.safe : Nat) : Int) := by rw [IntKind.wrap_i64]; omega
        obtain ⟨M, hM⟩ : ∃ M, M = L - f.safe := ⟨_, rfl⟩
        rw [← hM] at i6
        have HM : Hid (M = L - f.safe) := hM
        clear hat hatk hmem hs hko hv hL hM e1
        by_cases hM0 : M = 0
        · have hMz : (M : Int) = 0 := by omega
          have HZ : Hid (M = 0) := hM0
          rw [hMz] at i6
          clear hM0 hMz
          go_wp2_with (go_at_call 71; go_must (refine hfd.mono ?_; rintro e w2 ⟨rfl, mm, hw⟩; rw [hw]; clear hw w2))
          go_quiet (fail)
          go_wp2
          go_roundw
          case rel =>
            refine ⟨k + 1, n, c, a, ys, E, by omega, rfl, rfl, ⟨hzr.1.below (bdr (Below.refl _ wr) _) (Nat.le_refl _), hzr.2⟩, HS, hnrr.below (bdr (Below.refl _ wr) _) (Nat.le_refl _), ?_, hDr.keep (fun _ _ _ => rfl) fun _ _ h => h, honr.trans (OnlyIn.of_below (bdr (Below.refl _ wr) _))⟩
            show (E, ys) = Dk.tails D zs ((Dk.order D).take (k + 1))
            rw [HT.out]
            unfold Dk.tail1
            simp only [HF.out]
            rw [if_pos (by rw [← HL.out, ← HM.out, HZ.out])]
          case measure => simp [intOf]; omega
        · skip
          have hx' : x = ⟨x.q, x.v⟩ := rfl
          have hle := Dk.le_sum e4
          have hqq := hOr.q
          have huu := hOr.use
          obtain ⟨N1, hN1⟩ : ∃ N1, N1 = f.safe + Dk.keep1 ys M := ⟨_, rfl⟩
          have hkl := Dk.keep1_le ys M
          have hN1L : N1 ≤ f.bs.length := by rw [hN1, ← HL.out]; have := HM.out; omega
          have HN1 : Hid (N1 = f.safe + Dk.keep1 ys M) := hN1
          have HNL : Hid (N1 ≤ f.bs.length) := hN1L
          have HM0 : Hid (¬ (M = 0)) := hM0
          have HC : Hid ((Dk.cutF f N1).bs.length = N1) := (by simp only [Dk.cutF, List.length_take]; omega : (Dk.cutF f N1).bs.length = N1)
          obtain ⟨A, B, hAB, hA⟩ := look_part e3
          subst hAB
          have HAA : Hid (∀ y ∈ A, y.1 ≠ num) := hA
          have HFL : Hid (look E.files num = some f) := e4
          have hcut := fun (W : World) (hb : Below wr.heap.size wr W) => cut_any (hP.keep (w' := W) fun q hq => hb.block q (hP.lt hq)) hA N1 hN1L (by omega) (by omega) (by omega)
          have hM1 : ((M : Int) == 0) = false := by simp; omega
          have HS0 : Hid (∀ q, foot p fm nm sm tv (A ++ (num, x, f) :: B) q → S q) := hS
          cases ys with
          | nil =>
            have hn0 : n = 0 := by have := hzr.1.1; simpa using this.symm
            subst hn0
            have j7 : IntKind.i64.wrap ((f.safe : Int) + 0) = (N1 : Int) := by rw [IntKind.wrap_i64, hN1]; simp only [Dk.keep1]; omega
            have j8 : IntKind.i64.wrap (f.safe : Int) = (N1 : Int) := by rw [IntKind.wrap_i64, hN1]; simp only [Dk.keep1]; omega
            clear hN1 hkl hN1L hx'
            go_wp2_with (go_at_call 71; go_must (refine hfd.mono ?_; rintro e w2 ⟨rfl, mm, hw⟩; rw [hw]; clear hw w2))
            go_quiet (fail)
            go_wp2_with (go_at_call 81; go_must (refine Calls.mono (hcut _ ?_) ?_; (focus (repeat first | exact Below.refl _ _ | refine bdr ?_ _)); rintro e w3 ⟨rfl, ⟨v3, hP3, hv3⟩, hon3⟩; have hx3 : FileAt w3 ⟨x.q, v3⟩ (Dk.cutF f N1) := hP3.each (num, ⟨x.q, v3⟩, Dk.cutF f N1) (by simp); obtain ⟨g0, g1, hg3⟩ := hx3.cells; obtain ⟨va3, vc3, hv33, _, _⟩ := t_shape hx3.row; have hl3 : (Dk.cutF f N1).bs.length = N1 := HC.out; rw [hl3] at hv33; simp only at hv33 g0 g1 hg3; rw [hv33] at g0))
            have HV3 : Hid (v3 = .slice va3 N1 vc3) := hv33
            have hq3 := hx3.blk
            have hset3 : ∀ q, q ≠ x.q → (w3.setCell ⟨x.q, 1, none⟩ (.int .i64 (N1 : Int))).heap[q]? = w3.heap[q]? := fun q hq => set_other w3 x.q 1 _ hq
            have hfile : FileAt (w3.setCell ⟨x.q, 1, none⟩ (.int .i64 (N1 : Int))) ⟨x.q, v3⟩ (Dk.tailF f (Dk.keep1 [] M)) := by
              have hN1 : f.safe + Dk.keep1 [] M = N1 := HN1.out.symm
              have hr3 := hx3.row
              have hs3 := hx3.small
              have hl3 := HC.out
              refine hx3.set v3 (N1 : Int) (Dk.tailF f (Dk.keep1 [] M)) (by unfold Dk.tailF; rw [hN1]) ?_ ?_ ?_ (Go.Joins.block_setCell hq3 _) fun q _ hq => hset3 q hq
              · unfold Dk.tailF; rw [hN1]; exact hr3
              · unfold Dk.tailF; rw [hN1]; exact hs3
              · unfold Dk.tailF; rw [hN1]; exact Nat.le_of_eq hl3.symm
            have hP4 := hP3.file (h' := ⟨x.q, v3⟩) (f' := Dk.tailF f (Dk.keep1 [] M)) (fun q _ hq _ => hset3 q hq) HAA.out hfile rfl (fun g hg => .inl hg)
            simp only [mput_mput] at hP4
            have hl4 : (Dk.tailF f (Dk.keep1 [] M)).bs.length = N1 := by unfold Dk.tailF; rw [← HN1.out]; exact HC.out
            have hsum4 := Dk.sum_mput (Dk.tailF f (Dk.keep1 [] M)) HFL.out
            have hNL := HNL.out
            have hOr4 : Dk.Ok { E with files := mput E.files num (Dk.tailF f (Dk.keep1 [] M)) } := hOr.setF _ HFL.out (by have := hOr.use; omega)
            have hD4 : DK (w3.setCell ⟨x.q, 1, none⟩ (.int .i64 (N1 : Int))) p { E with files := mput E.files num (Dk.tailF f (Dk.keep1 [] M)) } S := by
              refine ⟨hOr4, fm, nm, sm, tv, _, ?_, foot_file (x := x) (x' := ⟨x.q, v3⟩) (f := f) (f' := Dk.tailF f (Dk.keep1 [] M)) HS0.out rfl fun g hg => HS0.out g (.inr (.inr (.inr (.inr (.inr ⟨(num, x, f), by simp, .inr (hv3 g hg)⟩)))))⟩
              show Parts _ p _ (Dk.sum (mput E.files num (Dk.tailF f (Dk.keep1 [] M)))) fm nm sm tv _
              rw [show Dk.sum (mput E.files num (Dk.tailF f (Dk.keep1 [] M))) = Dk.sum E.files - (f.bs.length - N1) by omega]
              exact hP4
            have hSp : S p := HS0.out p (.inl rfl)
            have hSq : S x.q := HS0.out x.q (.inr (.inr (.inr (.inr (.inr ⟨(num, x, f), by simp, .inl rfl⟩)))))
            have hon5 : OnlyIn S wr (w3.setCell ⟨x.q, 1, none⟩ (.int .i64 (N1 : Int))) := ((OnlyIn.of_below (bdr (Below.refl _ wr) _)).trans (hon3.mono fun q _ hq => by rcases hq with rfl | rfl; exact .inl hSp; exact .inl hSq)).trans (only_set w3 x.q 1 _ (.inl hSq))
            have hrk : ∀ {α : Type} {sz : Nat} {en : α → List Value} {d : α} {aa : Option Addr} {nn : Nat} {ll : List α}, TRow sz en d wr aa nn ll → (∀ b o, aa = some ⟨b, o, none⟩ → S b → nn = 0) → TRow sz en d (w3.setCell ⟨x.q, 1, none⟩ (.int .i64 (N1 : Int))) aa nn ll := fun h hb => trow_only h hon5 hb
            have HT2 : ({ E with files := mput E.files num (Dk.tailF f (Dk.keep1 [] M)) }, []) = Dk.tails D zs ((Dk.order D).take (k + 1)) := by
              rw [HT.out]
              unfold Dk.tail1
              simp only [HF.out]
              rw [if_neg (by rw [← HL.out, ← HM.out]; exact HM0.out), ← HL.out, ← HM.out]
              rfl
            generalize w3.setCell ⟨x.q, 1, none⟩ (.int .i64 (N1 : Int)) = W5 at *
            go_roundw
            case rel =>
              refine ⟨k + 1, _, _, _, [], _, by omega, rfl, rfl, ⟨hrk hzr.1 (fun _ _ _ _ => rfl), hzr.2⟩, (fun _ _ _ _ => rfl), hrk hnrr (fun b o e hs => absurd hs (hnb.out b o e)), HT2, hD4, honr.trans (hon5.mono fun _ _ h => .inl h)⟩
            case measure => simp [intOf]; omega
          | cons z ys' =>
            have hnl : ys'.length + 1 = n := hzr.1.1
            obtain ⟨n', hn'⟩ : ∃ n', n' = ys'.length := ⟨_, rfl⟩
            obtain rfl : n = n' + 1 := by omega
            have HY : Hid (n' = ys'.length) := hn'
            obtain ⟨tb, toff, rfl, hta⟩ := hzr.1.at (by omega)
            have t0 : wr.cell? ⟨tb, toff, none⟩ = some (.int .i64 z) := by have := hta 0 (by omega) 0 _ rfl; simpa using this
            have hkq : ∃ kq : Nat, min (max z 0) (M : Int) = (kq : Int) ∧ Dk.keep1 (z :: ys') M = kq := ⟨(min (max z 0) (M : Int)).toNat, by omega, rfl⟩
            obtain ⟨kq, hk1, hk2⟩ := hkq
            have hcl := fun W => clamp_any z (M : Int) W
            rw [hk1] at hcl
            have j7 : IntKind.i64.wrap ((f.safe : Int) + (kq : Int)) = (N1 : Int) := by rw [IntKind.wrap_i64, hN1, hk2]; have := HM.out; omega
            have hcz := hzr.2.2
            have c1 : (1 : Int) ≤ (n' : Int) + 1 := by omega
            have c2 : (0 : Int) < (n' : Int) + 1 := by omega
            have ZT : Hid (ZIn wr (some ⟨tb, toff + 1, none⟩) n' (c - 1) ys') := ZIn.next hzr
            have ZT0 : Hid (c = 1 → ZIn wr (some ⟨tb, toff, none⟩) 0 0 ys' ∧ n' = 0) := (fun hc1 => by
              have h0 : n' = 0 := by omega
              have hy : ys' = [] := List.length_eq_zero_iff.1 (by omega)
              rw [hy]
              exact ⟨⟨⟨rfl, by omega, .inl rfl⟩, (fun e => by cases e), Nat.le_refl _⟩, h0⟩ : c = 1 → ZIn wr (some ⟨tb, toff, none⟩) 0 0 ys' ∧ n' = 0)
            have HS1 : Hid (∀ b o, (some ⟨tb, toff + 1, none⟩ : Option Addr) = some ⟨b, o, none⟩ → S b → n' = 0) := (fun b o e hs => by cases e; exact absurd (HS.out tb toff rfl hs) (Nat.succ_ne_zero _) : ∀ b o, (some ⟨tb, toff + 1, none⟩ : Option Addr) = some ⟨b, o, none⟩ → S b → n' = 0)
            clear hN1 hkl hN1L hx' hnl hn' hta hk1 hk2
            by_cases hc1 : c = 1
            · subst hc1
              have hn0 : n' = 0 := (ZT0.out rfl).2
              have ZT1 : Hid (ZIn wr (some ⟨tb, toff, none⟩) 0 0 ys') := (ZT0.out rfl).1
              subst hn0
              go_wp2_with (go_at_call 71; go_must (refine hfd.mono ?_; rintro e w2 ⟨rfl, mm, hw⟩; rw [hw]; clear hw w2))
              go_quiet (fail)
              go_wp2_with (first | (go_at_call 81; go_must (refine Calls.mono (hcut _ ?_) ?_; (focus (repeat first | exact Below.refl _ _ | refine bdr ?_ _)); rintro e w3 ⟨rfl, ⟨v3, hP3, hv3⟩, hon3⟩; have hx3 : FileAt w3 ⟨x.q, v3⟩ (Dk.cutF f N1) := hP3.each (num, ⟨x.q, v3⟩, Dk.cutF f N1) (by simp); obtain ⟨g0, g1, hg3⟩ := hx3.cells; obtain ⟨va3, vc3, hv33, _, _⟩ := t_shape hx3.row; have hl3 : (Dk.cutF f N1).bs.length = N1 := HC.out; rw [hl3] at hv33; simp only at hv33 g0 g1 hg3; rw [hv33] at g0)) | (go_at_call 47; go_must (refine (hcl _).mono ?_; rintro e w9 ⟨rfl, hw⟩; rw [hw]; clear hw w9)))
              have HV3 : Hid (v3 = .slice va3 N1 vc3) := hv33
              have hq3 := hx3.blk
              have hset3 : ∀ q, q ≠ x.q → (w3.setCell ⟨x.q, 1, none⟩ (.int .i64 (N1 : Int))).heap[q]? = w3.heap[q]? := fun q hq => set_other w3 x.q 1 _ hq
              have hfile : FileAt (w3.setCell ⟨x.q, 1, none⟩ (.int .i64 (N1 : Int))) ⟨x.q, v3⟩ (Dk.tailF f (Dk.keep1 (z :: ys') M)) := by
                have hN1 : f.safe + Dk.keep1 (z :: ys') M = N1 := HN1.out.symm
                have hr3 := hx3.row
                have hs3 := hx3.small
                have hl3 := HC.out
                refine hx3.set v3 (N1 : Int) (Dk.tailF f (Dk.keep1 (z :: ys') M)) (by unfold Dk.tailF; rw [hN1]) ?_ ?_ ?_ (Go.Joins.block_setCell hq3 _) fun q _ hq => hset3 q hq
                · unfold Dk.tailF; rw [hN1]; exact hr3
                · unfold Dk.tailF; rw [hN1]; exact hs3
                · unfold Dk.tailF; rw [hN1]; exact Nat.le_of_eq hl3.symm
              have hP4 := hP3.file (h' := ⟨x.q, v3⟩) (f' := Dk.tailF f (Dk.keep1 (z :: ys') M)) (fun q _ hq _ => hset3 q hq) HAA.out hfile rfl (fun g hg => .inl hg)
              simp only [mput_mput] at hP4
              have hl4 : (Dk.tailF f (Dk.keep1 (z :: ys') M)).bs.length = N1 := by unfold Dk.tailF; rw [← HN1.out]; exact HC.out
              have hsum4 := Dk.sum_mput (Dk.tailF f (Dk.keep1 (z :: ys') M)) HFL.out
              have hNL := HNL.out
              have hOr4 : Dk.Ok { E with files := mput E.files num (Dk.tailF f (Dk.keep1 (z :: ys') M)) } := hOr.setF _ HFL.out (by have := hOr.use; omega)
              have hD4 : DK (w3.setCell ⟨x.q, 1, none⟩ (.int .i64 (N1 : Int))) p { E with files := mput E.files num (Dk.tailF f (Dk.keep1 (z :: ys') M)) } S := by
                refine ⟨hOr4, fm, nm, sm, tv, _, ?_, foot_file (x := x) (x' := ⟨x.q, v3⟩) (f := f) (f' := Dk.tailF f (Dk.keep1 (z :: ys') M)) HS0.out rfl fun g hg => HS0.out g (.inr (.inr (.inr (.inr (.inr ⟨(num, x, f), by simp, .inr (hv3 g hg)⟩)))))⟩
                show Parts _ p _ (Dk.sum (mput E.files num (Dk.tailF f (Dk.keep1 (z :: ys') M)))) fm nm sm tv _
                rw [show Dk.sum (mput E.files num (Dk.tailF f (Dk.keep1 (z :: ys') M))) = Dk.sum E.files - (f.bs.length - N1) by omega]
                exact hP4
              have hSp : S p := HS0.out p (.inl rfl)
              have hSq : S x.q := HS0.out x.q (.inr (.inr (.inr (.inr (.inr ⟨(num, x, f), by simp, .inl rfl⟩)))))
              have hon5 : OnlyIn S wr (w3.setCell ⟨x.q, 1, none⟩ (.int .i64 (N1 : Int))) := ((OnlyIn.of_below (bdr (Below.refl _ wr) _)).trans (hon3.mono fun q _ hq => by rcases hq with rfl | rfl; exact .inl hSp; exact .inl hSq)).trans (only_set w3 x.q 1 _ (.inl hSq))
              have hrk : ∀ {α : Type} {sz : Nat} {en : α → List Value} {d : α} {aa : Option Addr} {nn : Nat} {ll : List α}, TRow sz en d wr aa nn ll → (∀ b o, aa = some ⟨b, o, none⟩ → S b → nn = 0) → TRow sz en d (w3.setCell ⟨x.q, 1, none⟩ (.int .i64 (N1 : Int))) aa nn ll := fun h hb => trow_only h hon5 hb
              have HT2 : ({ E with files := mput E.files num (Dk.tailF f (Dk.keep1 (z :: ys') M)) }, ys') = Dk.tails D zs ((Dk.order D).take (k + 1)) := by
                rw [HT.out]
                unfold Dk.tail1
                simp only [HF.out]
                rw [if_neg (by rw [← HL.out, ← HM.out]; exact HM0.out), ← HL.out, ← HM.out]
                rfl
              generalize w3.setCell ⟨x.q, 1, none⟩ (.int .i64 (N1 : Int)) = W5 at *
              go_roundw
              case rel =>
                refine ⟨k + 1, _, _, _, ys', _, by omega, rfl, rfl, ⟨hrk ZT1.out.1 (fun _ _ _ _ => rfl), ZT1.out.2⟩, (fun _ _ _ _ => rfl), hrk hnrr (fun b o e hs => absurd hs (hnb.out b o e)), HT2, hD4, honr.trans (hon5.mono fun _ _ h => .inl h)⟩
              case measure => simp [intOf]; omega
            · have hc2 : ¬ ((c : Int) = 1) := by omega
              go_wp2_with (go_at_call 71; go_must (refine hfd.mono ?_; rintro e w2 ⟨rfl, mm, hw⟩; rw [hw]; clear hw w2))
              go_quiet (fail)
              go_wp2_with (first | (go_at_call 81; go_must (refine Calls.mono (hcut _ ?_) ?_; (focus (repeat first | exact Below.refl _ _ | refine bdr ?_ _)); rintro e w3 ⟨rfl, ⟨v3, hP3, hv3⟩, hon3⟩; have hx3 : FileAt w3 ⟨x.q, v3⟩ (Dk.cutF f N1) := hP3.each (num, ⟨x.q, v3⟩, Dk.cutF f N1) (by simp); obtain ⟨g0, g1, hg3⟩ := hx3.cells; obtain ⟨va3, vc3, hv33, _, _⟩ := t_shape hx3.row; have hl3 : (Dk.cutF f N1).bs.length = N1 := HC.out; rw [hl3] at hv33; simp only at hv33 g0 g1 hg3; rw [hv33] at g0)) | (go_at_call 47; go_must (refine (hcl _).mono ?_; rintro e w9 ⟨rfl, hw⟩; rw [hw]; clear hw w9)))
              have HV3 : Hid (v3 = .slice va3 N1 vc3) := hv33
              have hq3 := hx3.blk
              have hset3 : ∀ q, q ≠ x.q → (w3.setCell ⟨x.q, 1, none⟩ (.int .i64 (N1 : Int))).heap[q]? = w3.heap[q]? := fun q hq => set_other w3 x.q 1 _ hq
              have hfile : FileAt (w3.setCell ⟨x.q, 1, none⟩ (.int .i64 (N1 : Int))) ⟨x.q, v3⟩ (Dk.tailF f (Dk.keep1 (z :: ys') M)) := by
                have hN1 : f.safe + Dk.keep1 (z :: ys') M = N1 := HN1.out.symm
                have hr3 := hx3.row
                have hs3 := hx3.small
                have hl3 := HC.out
                refine hx3.set v3 (N1 : Int) (Dk.tailF f (Dk.keep1 (z :: ys') M)) (by unfold Dk.tailF; rw [hN1]) ?_ ?_ ?_ (Go.Joins.block_setCell hq3 _) fun q _ hq => hset3 q hq
                · unfold Dk.tailF; rw [hN1]; exact hr3
                · unfold Dk.tailF; rw [hN1]; exact hs3
                · unfold Dk.tailF; rw [hN1]; exact Nat.le_of_eq hl3.symm
              have hP4 := hP3.file (h' := ⟨x.q, v3⟩) (f' := Dk.tailF f (Dk.keep1 (z :: ys') M)) (fun q _ hq _ => hset3 q hq) HAA.out hfile rfl (fun g hg => .inl hg)
              simp only [mput_mput] at hP4
              have hl4 : (Dk.tailF f (Dk.keep1 (z :: ys') M)).bs.length = N1 := by unfold Dk.tailF; rw [← HN1.out]; exact HC.out
              have hsum4 := Dk.sum_mput (Dk.tailF f (Dk.keep1 (z :: ys') M)) HFL.out
              have hNL := HNL.out
              have hOr4 : Dk.Ok { E with files := mput E.files num (Dk.tailF f (Dk.keep1 (z :: ys') M)) } := hOr.setF _ HFL.out (by have := hOr.use; omega)
              have hD4 : DK (w3.setCell ⟨x.q, 1, none⟩ (.int .i64 (N1 : Int))) p { E with files := mput E.files num (Dk.tailF f (Dk.keep1 (z :: ys') M)) } S := by
                refine ⟨hOr4, fm, nm, sm, tv, _, ?_, foot_file (x := x) (x' := ⟨x.q, v3⟩) (f := f) (f' := Dk.tailF f (Dk.keep1 (z :: ys') M)) HS0.out rfl fun g hg => HS0.out g (.inr (.inr (.inr (.inr (.inr ⟨(num, x, f), by simp, .inr (hv3 g hg)⟩)))))⟩
                show Parts _ p _ (Dk.sum (mput E.files num (Dk.tailF f (Dk.keep1 (z :: ys') M)))) fm nm sm tv _
                rw [show Dk.sum (mput E.files num (Dk.tailF f (Dk.keep1 (z :: ys') M))) = Dk.sum E.files - (f.bs.length - N1) by omega]
                exact hP4
              have hSp : S p := HS0.out p (.inl rfl)
              have hSq : S x.q := HS0.out x.q (.inr (.inr (.inr (.inr (.inr ⟨(num, x, f), by simp, .inl rfl⟩)))))
              have hon5 : OnlyIn S wr (w3.setCell ⟨x.q, 1, none⟩ (.int .i64 (N1 : Int))) := ((OnlyIn.of_below (bdr (Below.refl _ wr) _)).trans (hon3.mono fun q _ hq => by rcases hq with rfl | rfl; exact .inl hSp; exact .inl hSq)).trans (only_set w3 x.q 1 _ (.inl hSq))
              have hrk : ∀ {α : Type} {sz : Nat} {en : α → List Value} {d : α} {aa : Option Addr} {nn : Nat} {ll : List α}, TRow sz en d wr aa nn ll → (∀ b o, aa = some ⟨b, o, none⟩ → S b → nn = 0) → TRow sz en d (w3.setCell ⟨x.q, 1, none⟩ (.int .i64 (N1 : Int))) aa nn ll := fun h hb => trow_only h hon5 hb
              have HT2 : ({ E with files := mput E.files num (Dk.tailF f (Dk.keep1 (z :: ys') M)) }, ys') = Dk.tails D zs ((Dk.order D).take (k + 1)) := by
                rw [HT.out]
                unfold Dk.tail1
                simp only [HF.out]
                rw [if_neg (by rw [← HL.out, ← HM.out]; exact HM0.out), ← HL.out, ← HM.out]
                rfl
              generalize w3.setCell ⟨x.q, 1, none⟩ (.int .i64 (N1 : Int)) = W5 at *
              go_roundw
              case rel =>
                refine ⟨k + 1, _, _, _, ys', _, by omega, rfl, rfl, ⟨hrk ZT.out.1 HS1.out, ZT.out.2⟩, HS1, hrk hnrr (fun b o e hs => absurd hs (hnb.out b o e)), HT2, hD4, honr.trans (hon5.mono fun _ _ h => .inl h)⟩
              case measure => simp [intOf]; omega
    · have hkN : k = N := by omega
      subst hkN
      have hi : ¬ ((k : Int) < (k : Int)) := by omega
      have HE2 : Hid (E = (Dk.tails D zs (Dk.order D)).1) := (by have := HE.out; rw [List.take_of_length_le (by rw [HO.out]; exact Nat.le_refl _)] at this; rw [← this] : E = (Dk.tails D zs (Dk.order D)).1)
      go_wp2
      first | go_end0 | refine bodyPost_ret (results_none rfl _ _ _) rfl ?_
      rw [← HE2.out]
      exact ⟨rfl, hDr, honr⟩
end Go.Proofs.YtnoknmnbfkdccaaGreatDoor

/- The disk's Crash. -/
namespace Go.Proofs.YtnoknmnbfkdccaaGreatDoor
open Go.RowKit Go.Shelf

/-- what a crash leaves -/
def Dk.crash (D : Dk.D) (kn : Int) (zs : List Int) : Dk.D :=
  { (Dk.tails (Dk.settle D (min (max kn 0) (D.turns.length : Int)).toNat) zs (Dk.order (Dk.settle D (min (max kn 0) (D.turns.length : Int)).toNat))).1 with stop := 0, fault := 0, dead := false }

theorem DK.tight {w : World} {p : Nat} {D : Dk.D} {S : Nat → Prop} (h : DK w p D S) : DK w p D (fun k => S k ∧ k < w.heap.size) := by
  obtain ⟨hO, fm, nm, sm, tv, J, hP, hS⟩ := h
  exact ⟨hO, fm, nm, sm, tv, J, hP, fun k hk => ⟨hS k hk, hP.lt hk⟩⟩

theorem Dk.turns_length : ∀ (l : List Dk.T) (K : List (ByteArray × Nat)), (Dk.turns l K).length ≤ K.length + l.length
  | [], K => by simp [Dk.turns]
  | t :: l, K => by
    have h1 : (Dk.turn t K).length ≤ K.length + 1 := by
      have h2 := (mdel_sub K t.taken).length_le
      unfold Dk.turn
      split
      · omega
      · have : ∀ (l : List (ByteArray × Nat)) (k : ByteArray) (v : Nat), (mput l k v).length ≤ l.length + 1 := fun l k v => by
          induction l with
          | nil => simp [mput]
          | cons a l ih =>
            obtain ⟨b, x⟩ := a
            by_cases hb : b = k
            · simp [mput, hb]
            · simp [mput, hb, ih]
        have := this (mdel K t.taken) t.given t.file
        omega
    have := Dk.turns_length l (Dk.turn t K)
    simp only [Dk.turns, List.foldl_cons, List.length_cons] at this ⊢
    omega

set_option maxRecDepth 100000 in
set_option maxHeartbeats 4000000 in
theorem crash_any {w : World} {p : Nat} {D : Dk.D} {S : Nat → Prop} (h : DK w p D S) (hSw : ∀ k, S k → k < w.heap.size) (kn : Int) (ta : Option Addr) (tn tc : Nat) (zs : List Int) (hz : ZIn w ta tn tc zs) (hts : ∀ b o, ta = some ⟨b, o, none⟩ → S b ∨ w.heap.size ≤ b → tn = 0) (htl : D.turns.length ≤ 100000) (hkl : D.kept.length ≤ 100000) :
    Calls Tryz.prog 18 #[.pointer (some ⟨p, 0, none⟩), .agg #[.int .i64 kn, .slice ta tn tc]] w fun e w' => e = .returned (.tuple #[]) ∧ DK w' p (Dk.crash D kn zs) (grow1 S w) ∧ OnlyIn S w w' := by
  have hm : Tryz.prog.follows .mixedOrders = true := by kernel_rfl
  obtain ⟨hO, fm, nm, sm, tv, J, hP, hS⟩ := id h
  have hP1 : Parts (w.alloc (.cells #[.int .i64 kn, .slice ta tn tc] 50)) p D (Dk.sum D.files) fm nm sm tv J := hP.keep fun k hk => heap_alloc_old w _ (hP.lt hk)
  have hb1 : (w.alloc (.cells #[.int .i64 kn, .slice ta tn tc] 50)).heap[w.heap.size]? = some (.cells #[.int .i64 kn, .slice ta tn tc] 50 (0, 0)) := heap_alloc_new w _
  have hbel : Below w.heap.size w (w.alloc (.cells #[.int .i64 kn, .slice ta tn tc] 50)) := below_alloc w _
  have hsz : (w.alloc (.cells #[.int .i64 kn, .slice ta tn tc] 50)).heap.size = w.heap.size + 1 := by simp
  have hmade := made_any hP1
  go_enter Tryz.func18, Tryz.ntmps18
  go_wp2_with (go_at_call 46; go_must (refine hmade.mono ?_; rintro e w1 ⟨rfl, hw⟩; rw [hw]; clear hw w1))
  generalize w.alloc (.cells #[.int .i64 kn, .slice ta tn tc] 50) = W at *
  have k0 : W.cell? ⟨w.heap.size, 0, none⟩ = some (.int .i64 kn) := (Go.Joins.cell_of_block hb1 _).trans rfl
  have k1 : W.cell? ⟨w.heap.size, 1, none⟩ = some (.slice ta tn tc) := (Go.Joins.cell_of_block hb1 _).trans rfl
  obtain ⟨va, vc, htv, _, _⟩ := t_shape hP1.turns
  have c6 := hP1.cells.1.2.2.2.2.2.2.1
  rw [htv] at c6
  obtain ⟨n, hn⟩ : ∃ n : Nat, n = (min (max kn 0) (D.turns.length : Int)).toNat := ⟨_, rfl⟩
  have hcl := clamp_any kn (D.turns.length : Int) W.drew
  rw [show min (max kn 0) (D.turns.length : Int) = (n : Int) by omega] at hcl
  have HN : Hid (n = (min (max kn 0) (D.turns.length : Int)).toNat) := hn
  have hst := settle_any (w := W.drew) (S := S) hO (hP1.keep fun k _ => rfl) hS n (by omega) (by omega)
  clear hn htv
  refine wp_region_still_tail 9 hm (by kernel_rfl) ?_
  simp only [List.take_succ_cons, List.take_zero, List.drop_succ_cons, List.drop_zero]
  repeat still_step
  still_call hcl
  refine wpStill_nil ?_
  have hnS : ¬ S w.heap.size := fun h => by have := hSw _ h; omega
  have hwl : w.heap.size < W.drew.heap.size := by show w.heap.size < W.heap.size; omega
  have hlen : (Dk.settle D n).names.length ≤ 1000000 := by
    have h1 := Dk.turns_length (D.turns.take n) D.kept
    have h2 : (D.turns.take n).length ≤ D.turns.length := by rw [List.length_take]; omega
    show (Dk.turns (D.turns.take n) D.kept).length ≤ 1000000
    omega
  have hzW : ∀ w2, OnlyIn S W.drew w2 → ZIn w2 ta tn tc zs := fun w2 ho => ⟨trow_only (hz.1.below (bd1 hbel) (Nat.le_refl _)) ho (fun b o e hs => hts b o e (.inl hs)), hz.2⟩
  have hbx : ∀ w2, OnlyIn S W.drew w2 → w2.cell? ⟨w.heap.size, 1, none⟩ = some (.slice ta tn tc) := fun w2 ho => (World.cell?_of_block (ho.block _ hwl hnS)).trans k1
  go_wp2_with (first
    | (go_at_call 45; go_must (refine hst.mono ?_; rintro e w2 ⟨rfl, hD2, hon2⟩; have r1 := hbx w2 hon2; have hkt := keepTails_any hD2.tight (fun k h => h.2) ta tn tc zs (hzW w2 hon2) (fun b o e h => h.1.elim (fun hs => hts b o e (.inl hs)) (fun h9 => hts b o e (.inr (by have h7 : W.heap.size ≤ b := h9; omega)))) hlen))
    | (go_at_call 48; go_must (refine hkt.mono ?_; rintro e w3 ⟨rfl, hD3, hon3⟩; obtain ⟨hO3, fm3, nm3, sm3, tv3, J3, hP3, hS3⟩ := id hD3; obtain ⟨⟨e0, e1, e2, e3, e4, e5, e6, e7, e8, e9⟩, hf3⟩ := hP3.cells)))
  first | go_end0 | refine bodyPost_ret (results_none rfl _ _ _) rfl ?_
  have hP4 := ((hP3.setStop 0).setFault 0).setDead false
  have hSp : grow1 S w p := .inl (hS p (.inl rfl))
  have hsub : ∀ k, (grow1 S W.drew k ∧ k < w2.heap.size) → grow1 S w k := fun k h => h.1.imp id fun h9 => by have h7 : W.heap.size ≤ k := h9; omega
  refine ⟨rfl, ⟨?_, fm3, nm3, sm3, tv3, J3, ?_, fun k hk => hsub k (hS3 k hk)⟩, ?_⟩
  · unfold Dk.crash
    rw [← HN.out]
    exact hO3.with rfl rfl rfl rfl rfl rfl (by show (-9223372036854775808 : Int) ≤ 0 ∧ (0 : Int) ≤ 9223372036854775807; omega) (by show (-9223372036854775808 : Int) ≤ 0 ∧ (0 : Int) ≤ 9223372036854775807; omega)
  · unfold Dk.crash
    rw [← HN.out]
    exact hP4
  · have h1 : OnlyIn S w w2 := (OnlyIn.of_below (bd1 hbel)).trans (hon2.mono fun _ _ h => .inl h)
    have h2 : OnlyIn S w w3 := h1.trans (hon3.mono fun k _ hk => hsub k hk)
    exact ((h2.trans (only_set w3 p 7 _ hSp)).trans (only_set _ p 8 _ hSp)).trans (only_set _ p 9 _ hSp)
end Go.Proofs.YtnoknmnbfkdccaaGreatDoor
