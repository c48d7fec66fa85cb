/- What the reference's Order of tables wants. -/
import Derived.Test.YtghgolpofafjmaaLF
import Derived.Deep.RegionLawGrows
namespace Go.Proofs.Ytghgolpofafjmaa.Lv
def cut (out : List T) (p : T) : Nat → Nat
  | 0 => 0
  | k + 1 => if ahead p (out.getD k zero) = true then cut out p k else k + 1
def insC (out : List T) (p : T) : List T := out.take (cut out p out.length) ++ [p] ++ out.drop (cut out p out.length)
def iord (l : List T) : List T := l.foldl insC []
theorem cut_le (out : List T) (p : T) : ∀ k, cut out p k ≤ k := by
  intro k
  induction k with
  | zero => exact Nat.le_refl _
  | succ k ih => unfold cut; split <;> omega
theorem insC_perm (out : List T) (p : T) : (out ++ [p]).Perm (insC out p) := by
  unfold insC
  rw [List.append_assoc]
  exact put_perm p out _
theorem iord_snoc (l : List T) (p : T) : iord (l ++ [p]) = insC (iord l) p := by simp [iord]
theorem iord_take (l : List T) (k : Nat) (h : k < l.length) : iord (l.take (k + 1)) = insC (iord (l.take k)) (l.getD k zero) := by
  rw [List.take_succ_eq_append_getElem h, iord_snoc]; simp [h]
theorem cut_ahead (out : List T) (p : T) : ∀ k, k ≤ out.length → (∀ y ∈ out.drop k, ahead p y = true) → (∀ y ∈ out.drop (cut out p k), ahead p y = true) ∧ (∀ y, cut out p k ≠ 0 → out[cut out p k - 1]? = some y → ahead p y = false)
  | 0, _, h => ⟨h, fun y h0 => absurd rfl h0⟩
  | k + 1, hk, h => by
    unfold cut
    have hlt : k < out.length := by omega
    split
    · next ha =>
      refine cut_ahead out p k (by omega) ?_
      intro y hy
      rw [List.drop_eq_getElem_cons hlt] at hy
      rcases List.mem_cons.mp hy with rfl | hy
      · simpa [hlt] using ha
      · exact h y hy
    · next ha =>
      refine ⟨h, fun y _ hy => ?_⟩
      rw [Nat.add_sub_cancel, List.getElem?_eq_getElem hlt] at hy
      cases hy
      simpa [hlt] using ha
theorem iord_may : ∀ (n : Nat) {l : List T}, l.length = n → May l → l.Perm (iord l) ∧ Srt (iord l)
  | 0, l, hn, _ => by
    obtain rfl : l = [] := List.length_eq_zero_iff.mp hn
    exact ⟨List.Perm.refl _, List.Pairwise.nil⟩
  | n + 1, l, hn, hm => by
    have hne : l ≠ [] := by rintro rfl; simp at hn
    obtain ⟨l', x, rfl⟩ : ∃ l' x, l = l' ++ [x] := ⟨l.dropLast, l.getLast hne, (List.dropLast_concat_getLast hne).symm⟩
    have hm' : May l' := hm.sub (List.sublist_append_left ..)
    obtain ⟨h1, h2⟩ := iord_may n (by simpa using hn) hm'
    rw [iord_snoc]
    refine ⟨(h1.append_right [x]).trans (insC_perm _ _), ?_⟩
    unfold insC
    rw [List.append_assoc]
    obtain ⟨c1, c2⟩ := cut_ahead (iord l') x _ (Nat.le_refl _) (by simp)
    refine srt_put h2 (cut_le ..) c1 (fun y h0 hy => ?_)
    have hy' : y ∈ l' := h1.mem_iff.mpr (List.mem_of_getElem? hy)
    have hp := (List.pairwise_append.mp hm.pw).2.2 y hy' x (List.mem_singleton.mpr rfl)
    exact ahead_total (hm.one x (by simp)) (hm.one y (by simp [hy'])) (by rw [clash_comm]; exact hp) (c2 y h0 hy)
theorem iord_ord {l : List T} (h : May l) : iord l = ord l := ord_of h (iord_may _ rfl h).1 (iord_may _ rfl h).2
theorem iord_len (l : List T) : (iord l).length = l.length := by
  have : ∀ (l acc : List T), (l.foldl insC acc).length = acc.length + l.length := by
    intro l
    induction l with
    | nil => intro acc; simp
    | cons p l ih => intro acc; rw [List.foldl_cons, ih, ← (insC_perm acc p).length_eq, List.length_append, List.length_cons]; simp; omega
  rw [iord, this]; simp
end Go.Proofs.Ytghgolpofafjmaa.Lv
namespace Go.Proofs.Ytghgolpofafjmaa
open Go.RowKit
theorem lcells_take (a : List Lv.T) (k : Nat) (h : k ≤ a.length) : (tcells le a).take (k * 5) = tcells le (a.take k) := by
  have e : tcells le a = tcells le (a.take k) ++ tcells le (a.drop k) := by rw [← tcells_append, List.take_append_drop]
  have hl : (tcells le (a.take k)).length = k * 5 := by rw [tcells_length leE, List.length_take]; congr 1; omega
  rw [e, ← hl, List.take_left]
theorem lcells_drop (a : List Lv.T) (k : Nat) (h : k ≤ a.length) : (tcells le a).drop (k * 5) = tcells le (a.drop k) := by
  have e : tcells le a = tcells le (a.take k) ++ tcells le (a.drop k) := by rw [← tcells_append, List.take_append_drop]
  have hl : (tcells le (a.take k)).length = k * 5 := by rw [tcells_length leE, List.length_take]; congr 1; omega
  rw [e, ← hl, List.drop_left]
theorem lown_cell {w : World} {B g n c s : Nat} {e : TypeId} {xs : List Value} (h : w.ownsRow B e s (.slice (some ⟨g, 0, none⟩) n c) n xs) (j : Nat) (u : Value) (hj : xs[j]? = some u) : w.cell? ⟨g, j, none⟩ = some u := (own_cells h hj).1
theorem lown_some {w : World} {B n s : Nat} {e : TypeId} {v : Value} {xs : List Value} (h : w.ownsRow B e s v n xs) (hv : v ≠ .slice none 0 0) : ∃ g c, v = .slice (some ⟨g, 0, none⟩) n c ∧ n ≤ c := by
  rcases h.2 with ⟨e, _⟩ | ⟨g, cap, cur, e, _, _, hnc, _⟩
  · exact absurd e hv
  · exact ⟨g, cap, e, hnc⟩
theorem lown_pos {w : World} {B n s : Nat} {e : TypeId} {v : Value} {xs : List Value} (h : w.ownsRow B e s v n xs) (hn : 0 < n) : ∃ g c, v = .slice (some ⟨g, 0, none⟩) n c ∧ n ≤ c := by
  refine lown_some h ?_
  rintro rfl
  rcases h.2 with ⟨_, h0⟩ | ⟨g, cap, cur, e, _⟩
  · omega
  · cases e
theorem lbelow_grown {w w' : World} (h : w.grownBy w' none) : Below w.heap.size w w' := (Below.refl _ _).grown h (Nat.le_refl _) (fun k h => by cases h)
/-- append: tables behind an own row of tables that is not nil -/
theorem append_tabs {w0 w : World} {B : Nat} {ops : Array Oper} {rest : List Oper} {o : Oper} {a : Act} {Q : Exit → Act → World → Prop} (hgd : o.guard = none) (s x : Operand)
    (ho : o.op = .call { callee := .builtin .append, args := #[s, x], argTypes := #[22, 22] })
    (g0 : Addr) (n c0 : Nat) (xs : List Lv.T) (hs : a.eval s = .slice (some g0) n c0) (hown : w.ownsRow B 30 5 (.slice (some g0) n c0) n (tcells le xs))
    (ad : Addr) (m c : Nat) (qs : List Lv.T) (hx : a.eval x = .slice (some ad) m c) (hq : qs.length = m) (hnews : ∀ j u, (tcells le qs)[j]? = some u → w.cell? (ad.add j) = some u)
    (hnm : n + m ≤ 1000000000) (hbel : Below B w0 w) (hB : B ≤ w.heap.size)
    (h : ∀ g' c' w', n + m ≤ c' → w'.ownsRow B 30 5 (.slice (some ⟨g', 0, none⟩) (n + m) c') (n + m) (tcells le (xs ++ qs)) → Below B w0 w' → B ≤ w'.heap.size → wpList Try.prog ops Q rest (a.put o.dst (.slice (some ⟨g', 0, none⟩) (n + m) c')) w') : wpList Try.prog ops Q (o :: rest) a w := by
  obtain ⟨i0, hi, hz0, hz1, hz2⟩ := info_parts tabE.info
  refine wpList_append_own w hgd s x 22 ho B 30 i0 _ 5 56 Try.underlying22 hi hz0 hz1 hz2 rfl (by decide) _ n (tcells le xs) hs hown ad m c (tcells le qs) hx (by rw [tcells_length leE, hq]) hnews (tcells_one leE qs) (by unfold maxLen; omega) (by omega) hB ?_
  intro v' w' hown' hg hnil
  obtain ⟨g', c', rfl, hc'⟩ := lown_some hown' (fun e => by have := (hnil.mp e).1; cases this)
  exact h g' c' w' hc' (by rw [tcells_append]; exact hown') (hbel.grown hg hB (fun k hk => (hown.lt k hk).1)) (Nat.le_trans hB hg.size)
/-- the same at a step of a region that draws -/
theorem step_tabs {w0 w : World} {B : Nat} {ops : Array Oper} {o : Oper} {a : Act} {K : Act → World → Prop} {Q : Exit → Act → World → Prop} {E : Prop} (hgd : o.guard = none) (s x : Operand)
    (ho : o.op = .call { callee := .builtin .append, args := #[s, x], argTypes := #[22, 22] })
    (g0 : Addr) (n c0 : Nat) (xs : List Lv.T) (hs : a.eval s = .slice (some g0) n c0) (hown : w.ownsRow B 30 5 (.slice (some g0) n c0) n (tcells le xs))
    (ad : Addr) (m c : Nat) (qs : List Lv.T) (hx : a.eval x = .slice (some ad) m c) (hq : qs.length = m) (hnews : ∀ j u, (tcells le qs)[j]? = some u → w.cell? (ad.add j) = some u)
    (hnm : n + m ≤ 1000000000) (hbel : Below B w0 w) (hB : B ≤ w.heap.size)
    (h : ∀ g' c' w', n + m ≤ c' → w'.ownsRow B 30 5 (.slice (some ⟨g', 0, none⟩) (n + m) c') (n + m) (tcells le (xs ++ qs)) → Below B w0 w' → B ≤ w'.heap.size → K (a.put o.dst (.slice (some ⟨g', 0, none⟩) (n + m) c')) w') :
    if Region.wanted o (yielded ops a.tmps) = true then Oper.wp Try.prog o a w K Q else E := by
  have hw : Region.wanted o (yielded ops a.tmps) = true := by simp [Region.wanted, hgd]
  rw [if_pos hw]
  obtain ⟨i0, hi, hz0, hz1, hz2⟩ := info_parts tabE.info
  refine wp_append_own w s x 22 ho B 30 i0 _ 5 56 Try.underlying22 hi hz0 hz1 hz2 rfl (by decide) _ n (tcells le xs) hs hown ad m c (tcells le qs) hx (by rw [tcells_length leE, hq]) hnews (tcells_one leE qs) (by unfold maxLen; omega) (by omega) hB ?_
  intro v' w' hown' hg hnil
  obtain ⟨g', c', rfl, hc'⟩ := lown_some hown' (fun e => by have := (hnil.mp e).1; cases this)
  exact h g' c' w' hc' (by rw [tcells_append]; exact hown') (hbel.grown hg hB (fun k hk => (hown.lt k hk).1)) (Nat.le_trans hB hg.size)
/-- append onto a slice without room, at a step of a region that draws: a new row -/
theorem step_tabfull {w : World} {ops : Array Oper} {o : Oper} {a : Act} {K : Act → World → Prop} {Q : Exit → Act → World → Prop} {E : Prop} (hgd : o.guard = none) (s x : Operand)
    (ho : o.op = .call { callee := .builtin .append, args := #[s, x], argTypes := #[22, 22] })
    (g0 : Addr) (n : Nat) (xs : List Lv.T) (hs : a.eval s = .slice (some g0) n n) (hl : xs.length = n) (holds : ∀ j u, (tcells le xs)[j]? = some u → w.cell? (g0.add j) = some u)
    (ad : Addr) (c : Nat) (p : Lv.T) (hx : a.eval x = .slice (some ad) 1 c) (hnews : ∀ j u, (tcells le [p])[j]? = some u → w.cell? (ad.add j) = some u) (hn : n ≤ 1000000000)
    (h : ∀ g' c' w', n + 1 ≤ c' → w'.ownsRow w.heap.size 30 5 (.slice (some ⟨g', 0, none⟩) (n + 1) c') (n + 1) (tcells le (xs ++ [p])) → Below w.heap.size w w' → K (a.put o.dst (.slice (some ⟨g', 0, none⟩) (n + 1) c')) w') :
    if Region.wanted o (yielded ops a.tmps) = true then Oper.wp Try.prog o a w K Q else E := by
  obtain ⟨i0, hi, hz0, hz1, hz2⟩ := info_parts tabE.info
  refine step_append_grows hgd s x 22 ho 30 i0 _ 5 56 Try.underlying22 hi hz0 hz1 hz2 rfl (by decide) (some g0) n n (tcells le xs) hs (fun h => by cases h) (by rw [tcells_length leE, hl]) (fun b hb j u hj => by cases hb; exact holds j u hj) ad 1 c (tcells le [p]) hx rfl hnews (tcells_one leE [p]) (by omega) (by unfold maxLen; omega) (by omega) ?_
  intro v' w' hown' hg
  obtain ⟨g', c', rfl, hc'⟩ := lown_pos hown' (by omega)
  exact h g' c' w' hc' (by rw [tcells_append]; exact hown') (lbelow_grown hg)
theorem news_tab {w : World} {b : Nat} {x1 x2 x3 : Int} {x4 x5 : ByteArray} (h : w.cell? ⟨b, 0, none⟩ = some (.int .i64 x1) ∧ w.cell? ⟨b, 1, none⟩ = some (.int .i64 x2) ∧ w.cell? ⟨b, 2, none⟩ = some (.int .i64 x3) ∧ w.cell? ⟨b, 3, none⟩ = some (.string x4) ∧ w.cell? ⟨b, 4, none⟩ = some (.string x5)) :
    ∀ j u, (tcells le [Lv.T.mk x1 x2 x3 x4 x5])[j]? = some u → w.cell? ((⟨b, 0, none⟩ : Addr).add j) = some u := by
  intro j u hj
  rw [add_at, Nat.zero_add]
  obtain ⟨h0, h1, h2, h3, h4⟩ := h
  have e : tcells le [Lv.T.mk x1 x2 x3 x4 x5] = [.int .i64 x1, .int .i64 x2, .int .i64 x3, .string x4, .string x5] := rfl
  rw [e] at hj
  match j, hj with
  | 0, hj => cases hj; exact h0
  | 1, hj => cases hj; exact h1
  | 2, hj => cases hj; exact h2
  | 3, hj => cases hj; exact h3
  | 4, hj => cases hj; exact h4
/-- a table's five cells -/
def L5 (w : World) (b o : Nat) (x : Lv.T) : Prop := w.cell? ⟨b, o, none⟩ = some (.int .i64 x.num) ∧ w.cell? ⟨b, o + 1, none⟩ = some (.int .i64 x.lev) ∧ w.cell? ⟨b, o + 2, none⟩ = some (.int .i64 x.size) ∧ w.cell? ⟨b, o + 3, none⟩ = some (.string x.first) ∧ w.cell? ⟨b, o + 4, none⟩ = some (.string x.last)
theorem L5.of {w : World} {b o : Nat} {x : Lv.T} (h : TAt le w b o x) : L5 w b o x := ⟨h 0 _ rfl, h 1 _ rfl, h 2 _ rfl, h 3 _ rfl, h 4 _ rfl⟩
theorem L5.below {w w' : World} {B b o : Nat} {x : Lv.T} (h : L5 w b o x) (hb : Below B w w') (hB : w.heap.size ≤ B) : L5 w' b o x := by
  obtain ⟨h0, h1, h2, h3, h4⟩ := h
  have hlt : b < B := Nat.lt_of_lt_of_le (cell_lt h0) hB
  exact ⟨(hb.cell (p := ⟨b, o, none⟩) hlt).trans h0, (hb.cell (p := ⟨b, o + 1, none⟩) hlt).trans h1, (hb.cell (p := ⟨b, o + 2, none⟩) hlt).trans h2, (hb.cell (p := ⟨b, o + 3, none⟩) hlt).trans h3, (hb.cell (p := ⟨b, o + 4, none⟩) hlt).trans h4⟩
theorem L5.own {w : World} {B g n c : Nat} {O : List Lv.T} (h : w.ownsRow B 30 5 (.slice (some ⟨g, 0, none⟩) n c) n (tcells le O)) (j : Nat) (hj : j < O.length) : L5 w g (j * 5) (O.getD j Lv.zero) := by
  have hg := fun i hi => tcells_get (d := Lv.zero) leE O j i hj hi
  exact ⟨lown_cell h _ _ (hg 0 (by omega)), lown_cell h _ _ (hg 1 (by omega)), lown_cell h _ _ (hg 2 (by omega)), lown_cell h _ _ (hg 3 (by omega)), lown_cell h _ _ (hg 4 (by omega))⟩
end Go.Proofs.Ytghgolpofafjmaa
