/- What the program's own All of names does. -/
import Derived.Test.YtaikgdgajkggiaaDoorN8
import Derived.Test.YtaikgdgajkggiaaDoorNP2
import Derived.Sort.OwnSortedInts
namespace Go.Proofs.YtaikgdgajkggiaaDoor
open Go.RowKit

namespace Na
theorem cut_spec (l : List Nat) (x : Nat) : ∀ k, (∀ j, cut l x k ≤ j → j < k → x < l.getD j 0) ∧ (0 < cut l x k → l.getD (cut l x k - 1) 0 ≤ x)
  | 0 => ⟨fun j _ h => by omega, fun h => by simp [cut] at h⟩
  | k + 1 => by
    obtain ⟨h1, h2⟩ := cut_spec l x k
    unfold cut
    by_cases h : x < l.getD k 0
    · rw [if_pos h]
      refine ⟨fun j hj hk => ?_, h2⟩
      rcases Nat.lt_or_ge j k with h' | h'
      · exact h1 j hj h'
      · obtain rfl : j = k := by omega
        exact h
    · rw [if_neg h]
      exact ⟨fun j hj hk => by omega, fun _ => by rw [Nat.add_sub_cancel]; omega⟩
theorem ins_perm (l : List Nat) (x : Nat) : (ins l x).Perm (l ++ [x]) := by
  unfold ins
  rw [List.append_assoc]
  refine (List.Perm.append_left _ List.perm_append_comm).trans ?_
  rw [← List.append_assoc, List.take_append_drop]
theorem ins_sorted {l : List Nat} (h : l.Pairwise (· ≤ ·)) (x : Nat) : (ins l x).Pairwise (· ≤ ·) := by
  obtain ⟨h1, h2⟩ := cut_spec l x l.length
  have hc := cut_le l x l.length
  unfold ins
  generalize cut l x l.length = c at *
  have hlo : ∀ a ∈ l.take c, a ≤ x := fun a ha => by
    obtain ⟨i, hi, rfl⟩ := List.mem_iff_getElem.mp ha
    rw [List.length_take] at hi
    have h0 := h2 (by omega)
    rw [List.getElem_take]
    rw [show l.getD (c - 1) 0 = l[c - 1]'(by omega) by simp [show c - 1 < l.length by omega]] at h0
    rcases Nat.lt_or_ge i (c - 1) with hic | hic
    · exact Nat.le_trans (List.pairwise_iff_getElem.mp h i (c - 1) (by omega) (by omega) hic) h0
    · have : i = c - 1 := by omega
      subst this
      exact h0
  have hhi : ∀ b ∈ l.drop c, x < b := fun b hb => by
    obtain ⟨i, hi, rfl⟩ := List.mem_iff_getElem.mp hb
    rw [List.length_drop] at hi
    rw [List.getElem_drop]
    have := h1 (c + i) (by omega) (by omega)
    rw [show l.getD (c + i) 0 = l[c + i]'(by omega) by simp [show c + i < l.length by omega]] at this
    exact this
  rw [List.append_assoc, List.pairwise_append]
  refine ⟨h.sublist (List.take_sublist c l), ?_, ?_⟩
  · rw [List.singleton_append, List.pairwise_cons]
    exact ⟨fun b hb => Nat.le_of_lt (hhi b hb), h.sublist (List.drop_sublist c l)⟩
  · intro a ha b hb
    have h3 := hlo a ha
    rw [List.singleton_append, List.mem_cons] at hb
    rcases hb with rfl | hb
    · exact h3
    · exact Nat.le_trans h3 (Nat.le_of_lt (hhi b hb))
theorem fold_sorted : ∀ (l acc : List Nat), acc.Pairwise (· ≤ ·) → (l.foldl ins acc).Pairwise (· ≤ ·) ∧ (l.foldl ins acc).Perm (acc ++ l)
  | [], acc, h => ⟨h, by simp⟩
  | x :: l, acc, h => by
    obtain ⟨h1, h2⟩ := fold_sorted l (ins acc x) (ins_sorted h x)
    refine ⟨h1, h2.trans ?_⟩
    have := (ins_perm acc x).append_right l
    simpa [List.append_assoc] using this
/-- sorting by whatever way is sorting by insertion -/
theorem sort_eq (l : List Nat) : (l.map fun n : Nat => (n : Int)).mergeSort (fun x y => decide (x ≤ y)) = (l.foldl ins []).map fun n : Nat => (n : Int) := by
  obtain ⟨h1, h2⟩ := fold_sorted l [] List.Pairwise.nil
  refine List.Perm.eq_of_pairwise (le := fun a b : Int => a ≤ b) (fun a b _ _ h h' => by omega) ?_ ?_ ?_
  · have := List.pairwise_mergeSort (le := fun x y : Int => decide (x ≤ y)) (fun a b c h h' => by simp at *; omega) (fun a b => by simp; omega) (l.map fun n : Nat => (n : Int))
    exact this.imp (fun h => by simpa using h)
  · exact h1.map _ (fun a b h => by omega)
  · refine (List.mergeSort_perm _ _).trans ?_
    exact (h2.map _).symm
end Na

/-- append of one int onto an own row, nil too -/
theorem append_int1 {w0 w : World} {B : Nat} {ops : Array Oper} {rest : List Oper} {o : Oper} {a : Act} {Q : Exit → Act → World → Prop} (hgd : o.guard = none) (s x : Operand)
    (ho : o.op = .call { callee := .builtin .append, args := #[s, x], argTypes := #[36, 36] })
    (v : Value) (n : Nat) (xs : List Nat) (hs : a.eval s = v) (hown : w.ownsRow B 3 1 v n (kcells .i64 xs))
    (ad : Addr) (c : Nat) (q : Nat) (hx : a.eval x = .slice (some ad) 1 c) (hnews : ∀ j u, (kcells .i64 [q])[j]? = some u → w.cell? (ad.add j) = some u)
    (hnm : n ≤ 1000000000) (hbel : Below B w0 w) (hB : B ≤ w.heap.size)
    (h : ∀ v' w', w'.ownsRow B 3 1 v' (n + 1) (kcells .i64 (xs ++ [q])) → Below B w0 w' → B ≤ w'.heap.size → wpList Tryd.prog ops Q rest (a.put o.dst v') w') : wpList Tryd.prog ops Q (o :: rest) a w := by
  obtain ⟨i0, hi, hz0, hz1, hz2⟩ := info_parts Tryd.info3
  refine wpList_append_own w hgd s x 36 ho B 3 i0 _ 1 8 Tryd.underlying36 hi hz0 hz1 hz2 rfl (by decide) _ n (kcells .i64 xs) hs hown ad 1 c (kcells .i64 [q]) hx rfl hnews (kcells_one _ [q]) (by unfold maxLen; omega) (by omega) hB ?_
  intro v' w' hown' hg _
  exact h v' w' (by rw [kcells_append]; exact hown') (hbel.grown hg hB (fun k hk => (hown.lt k hk).1)) (Nat.le_trans hB hg.size)

/-- the library's sort of an own row of ints, nil too -/
theorem sort_own {w0 w : World} {B n : Nat} {v : Value} {O : List Nat} (hown : w.ownsRow B 3 1 v n (kcells .i64 O)) (hn : n ≤ 1000000) (hbel : Below B w0 w) (hB : B ≤ w.heap.size) :
    Calls Tryd.prog 21 #[v] w fun e w' => e = .returned (.tuple #[]) ∧ w'.ownsRow B 3 1 v n (kcells .i64 (O.foldl Na.ins [])) ∧ Below B w0 w' := by
  have hl := hown.1
  rw [kcells_length] at hl
  rcases hown.2 with ⟨rfl, h0⟩ | ⟨g, cap, cur, rfl, hbase, hb, h1, h2, h3, h4⟩
  · refine (Tryd.slices_Sort_int_none none 0 w).mono ?_
    rintro e w' ⟨rfl, rfl⟩
    have : O = [] := by
      have : O.length = 0 := by omega
      exact List.length_eq_zero_iff.mp this
    subst this
    exact ⟨rfl, hown, hbel⟩
  · obtain ⟨zs, hz⟩ : ∃ zs : List Int, zs = O.map fun n : Nat => (n : Int) := ⟨_, rfl⟩
    have hzl : zs.length = n := by rw [hz, List.length_map]; omega
    have hk : kcells .i64 O = zs.map (Value.int .i64) := by rw [hz, List.map_map]; rfl
    rw [hk] at h4
    have hH := holds_of_blockI (ss := zs) hb (by rw [hzl]; simpa using h4)
    have := Tryd.slices_Sort_int g 0 cap zs w hH (Array.getElem?_eq_some_iff.1 hb).1 (by omega)
    rw [hzl] at this
    refine this.mono ?_
    rintro e w' ⟨rfl, k, os, rfl⟩
    have ho := ownsRow_sortedI (w := w) (base := B) (n := k) (os := os) (ss := zs) (ts := zs.mergeSort fun x y => decide (x ≤ y)) (by simp) hbase hb (by omega) h2 h3
    rw [hzl] at ho
    refine ⟨rfl, ?_, hbel.grown (grownBy_sortedI _) hB (fun k hk => by cases hk; exact hbase)⟩
    have e1 : kcells .i64 (O.foldl Na.ins []) = (zs.mergeSort fun x y => decide (x ≤ y)).map (Value.int .i64) := by
      rw [hz, Na.sort_eq, List.map_map]; rfl
    rw [e1]
    exact ho

set_option maxRecDepth 100000 in
set_option maxHeartbeats 2000000 in
theorem nallC : NAllC := by
  intro a len cap ss kind w hlen hsz hr hnil hkind
  have hll : Hid (ss.length = len) := hr.1
  have Hsz : Hid (∀ s ∈ ss, s.size ≤ 100) := hsz
  clear hsz
  go_enter Tryd.func13, Tryd.ntmps13
  go_wp2
  go_loopw [5, 12] (fun v i wr => ∃ (k n : Nat) (O : List Nat), k ≤ len ∧ n ≤ k ∧ i = .int .i64 k ∧ Hid (O = ((ss.take k).map kb).filterMap (Na.pick1 kind)) ∧ Hid (O.length = n) ∧ wr.ownsRow w.heap.size 3 1 v n (kcells .i64 O) ∧ Below w.heap.size w wr)
    (fun _ i _ => len - (intOf i).toNat)
  case atStart => exact ⟨0, 0, [], by omega, by omega, rfl, (rfl : ([] : List Nat) = ((ss.take 0).map kb).filterMap (Na.pick1 kind)), (rfl : ([] : List Nat).length = 0), ⟨rfl, .inl ⟨rfl, rfl⟩⟩, Below.refl _ _⟩
  case round =>
    obtain ⟨k, n, O, hk, hnk, rfl, HOe, HO, hown, hbel⟩ := hrel
    by_cases hlt : k < len
    · obtain ⟨b, off, rfl, hc⟩ := hr.at (by omega)
      have hp0 := (hbel.cell (p := ⟨b, off + k, none⟩) (cell_lt (hc k hlt))).trans (hc k hlt)
      have hk' : k < ss.length := by rw [hll.out]; exact hlt
      have hsn : Hid (((ss.take (k + 1)).map kb).filterMap (Na.pick1 kind) = O ++ (Na.pick1 kind (kb (ss.getD k ⟨#[]⟩))).toList) := by
        have : ((ss.take (k + 1)).map kb).filterMap (Na.pick1 kind) = O ++ (Na.pick1 kind (kb (ss.getD k ⟨#[]⟩))).toList := by
          rw [List.take_succ_eq_append_getElem hk', List.map_append, List.map_cons, List.map_nil, List.filterMap_append, ← HOe.out, show ss.getD k ⟨#[]⟩ = ss[k] by simp [hk']]
          cases h : Na.pick1 kind (kb ss[k]) <;> simp [h]
        exact this
      obtain ⟨FF, hFF⟩ : ∃ FF, FF = ((ss.take (k + 1)).map kb).filterMap (Na.pick1 kind) := ⟨_, rfl⟩
      have HFF : Hid (FF = ((ss.take (k + 1)).map kb).filterMap (Na.pick1 kind)) := hFF
      rw [← hFF] at hsn
      clear hFF HOe
      have hsl : (ss.getD k ⟨#[]⟩).size ≤ 500 := by
        have := Hsz.out (ss.getD k ⟨#[]⟩) (by rw [show ss.getD k ⟨#[]⟩ = ss[k] by simp [hk']]; exact List.getElem_mem _)
        omega
      have hpn := Na.parse_num (kb (ss.getD k ⟨#[]⟩))
      have hpt := parse_there (kb (ss.getD k ⟨#[]⟩))
      have hpa := fun W => nparseC (ss.getD k ⟨#[]⟩) W hsl
      unfold Na.pick1 at hsn
      generalize ss.getD k ⟨#[]⟩ = s at *
      generalize Na.parse (kb s) = P at *
      obtain ⟨kd, xz⟩ := P
      simp only at hpn hpa hsn hpt
      obtain ⟨x, rfl⟩ : ∃ x : Nat, xz = (x : Int) := ⟨xz.toNat, by omega⟩
      simp only [Int.toNat_natCast] at hsn
      have i0 : (0 : Int) ≤ (k : Int) := by omega
      have i1 : (k : Int) < (len : Int) := by omega
      clear hc hk' hsl
      by_cases h0 : (kd, (x : Int)) = (0, 0)
      · simp only [Prod.mk.injEq] at h0
        obtain ⟨rfl, hx0⟩ := h0
        obtain rfl : x = 0 := by omega
        have H : Hid (FF = O) := (by rw [hsn.out, if_pos (.inl rfl)]; simp : FF = O)
        have hpa : ∀ W, Calls Tryd.prog 10 #[.string s] W fun e w' => e = .returned (.tuple #[.agg #[.int .i64 0, .int .i64 0], .bool false]) ∧ Below W.heap.size W w' := hpa
        clear hsn hpn hpt hx0
        go_wp2_with (go_at_call 10; go_must (refine (hpa _).mono ?_; rintro e w1 ⟨rfl, hbel1⟩))
        have hb1 := hbel.trans (hbel1.mono hbel.size)
        have hb2 := hb1.alloc hb1.size (.cells #[.int .i64 0, .int .i64 0] 23)
        go_roundw
        case rel => exact ⟨k + 1, n, O, by omega, by omega, by go_num, (by rw [← H.out]; exact HFF.out : O = _), HO, (owns_below hown hbel1).alloc _, hb2⟩
        case measure => simp [intOf]; omega
      · have hpa : ∀ W, Calls Tryd.prog 10 #[.string s] W fun e w' => e = .returned (.tuple #[.agg #[.int .i64 kd, .int .i64 (x : Nat)], .bool true]) ∧ Below W.heap.size W w' := fun W => by
          have e : nthere (kd, (x : Int)) = true := by simp only [nthere, decide_eq_true_eq]; exact h0
          have := hpa W
          rw [e] at this
          exact this
        have hk1 : 1 ≤ kd := by
          rcases hpt with h | h
          · exact absurd h h0
          · exact h.1
        by_cases hkk : kd = kind
        · subst hkk
          have H : Hid (FF = O ++ [x]) := (by rw [hsn.out, if_neg (by omega)]; rfl : FF = O ++ [x])
          have hd : (kd == kd) = true := by simp
          clear hsn hpt h0
          go_wp2_with (first
            | (at_builtin; have := hb2; refine append_int1 (w0 := w) (B := w.heap.size) rfl (.tmp 28) (.tmp 31) rfl _ n O rfl (hown2.alloc _) ⟨w1.heap.size + 1, 0, none⟩ 1 x rfl (fun j u hj => by rw [add_at, Nat.zero_add]; rw [cell_newb _ _ _ _ (by simp)]; match j, hj with | 0, hj => exact hj | j + 1, hj => simp [kcells] at hj) (by omega) (hb2.alloc hb2.size _) (hb2.alloc hb2.size _).size ?_; intro v3 w3 hown3 hb3 hsz3)
            | (go_at_call 10; go_must (refine (hpa _).mono ?_; rintro e w1 ⟨rfl, hbel1⟩; have hb1 := hbel.trans (hbel1.mono hbel.size); have hb2 := hb1.alloc hb1.size (.cells #[.int .i64 kd, .int .i64 (x : Nat)] 23); have hown2 := (owns_below hown hbel1).alloc (.cells #[.int .i64 kd, .int .i64 (x : Nat)] 23))))
          go_roundw
          case rel => exact ⟨k + 1, n + 1, O ++ [x], by omega, by omega, by go_num, (by rw [← H.out]; exact HFF.out : O ++ [x] = _), (by rw [List.length_append, HO.out]; rfl : (O ++ [x]).length = n + 1), hown3, hb3⟩
          case measure => simp [intOf]; omega
        · have H : Hid (FF = O) := (by rw [hsn.out, if_pos (.inr hkk)]; simp : FF = O)
          have hd : (kd == kind) = false := by simp; exact hkk
          clear hsn hpn hpt h0 hkk
          go_wp2_with (go_at_call 10; go_must (refine (hpa _).mono ?_; rintro e w1 ⟨rfl, hbel1⟩))
          have hb1 := hbel.trans (hbel1.mono hbel.size)
          have hb2 := hb1.alloc hb1.size (.cells #[.int .i64 kd, .int .i64 (x : Nat)] 23)
          go_roundw
          case rel => exact ⟨k + 1, n, O, by omega, by omega, by go_num, (by rw [← H.out]; exact HFF.out : O = _), HO, (owns_below hown hbel1).alloc _, hb2⟩
          case measure => simp [intOf]; omega
    · obtain rfl : k = len := by omega
      have H : Hid (O.foldl Na.ins [] = Na.all (ss.map kb) kind) := (by rw [HOe.out, List.take_of_length_le (by rw [hll.out]; omega)]; rfl : O.foldl Na.ins [] = Na.all (ss.map kb) kind)
      have hS := sort_own hown (by omega) hbel hbel.size
      rw [H.out] at hS
      have hln : Hid ((Na.all (ss.map kb) kind).length = n) := (by rw [← H.out, Na.fold_len, List.length_nil, HO.out]; omega : (Na.all (ss.map kb) kind).length = n)
      have hsm : ∀ x ∈ Na.all (ss.map kb) kind, x < lim .i64 := fun x hx => by
        have := Na.all_small kind _ x hx
        show x < 18446744073709551616
        omega
      clear HOe Hsz H
      go_wp2_with (go_at_call 21; go_must (refine hS.mono ?_; rintro e w1 ⟨rfl, hown1, hbel1⟩))
      go_ret
      obtain ⟨a', c', rfl⟩ : ∃ a' c', u5 = .slice a' n c' := by
        rcases hown1.2 with ⟨e, h0⟩ | ⟨g, cap, cur, e, _⟩
        · exact ⟨none, 0, by rw [e]; congr 1; omega⟩
        · exact ⟨_, _, e⟩
      obtain rfl := hln.out
      exact ⟨a', c', rfl, (row_of_owns hown1 hsm (by omega)).1, hbel1⟩
end Go.Proofs.YtaikgdgajkggiaaDoor
