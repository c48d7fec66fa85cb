/- append of many frames, guarded or not; what the law FrameJoins does, given the program's Put and Scan. -/
import Derived.Test.YtjioipkohnlipaaG4
namespace Go.Proofs.Ytjioipkohnlipaa
open Go.RowKit

/-- cells that read as frames -/
def HeldR (w : World) (fs : List Fr.F) (cs : List Value) : Prop :=
  cs.length = fs.length * 2 ∧ ∀ i, i < fs.length → ∃ A L C, cs[i * 2]? = some (.int .i64 (fs.getD i (0, [])).1) ∧ cs[i * 2 + 1]? = some (.slice A L C) ∧ Row .u8 w A L (fs.getD i (0, [])).2 ∧ Shape A L C ∧ (A = none → L = 0 ∧ C = 0) ∧ -9223372036854775808 ≤ (fs.getD i (0, [])).1 ∧ (fs.getD i (0, [])).1 ≤ 9223372036854775807
theorem HeldR.below {w w' : World} {B : Nat} {fs : List Fr.F} {cs : List Value} (h : HeldR w fs cs) (hb : Below B w w') (hB : w.heap.size ≤ B) : HeldR w' fs cs := by
  refine ⟨h.1, fun i hi => ?_⟩
  obtain ⟨A, L, C, h1, h2, h3, h4⟩ := h.2 i hi
  exact ⟨A, L, C, h1, h2, h3.below hb hB, h4⟩
theorem HeldR.append {w : World} {fs gs : List Fr.F} {cs ds : List Value} (h : HeldR w fs cs) (k : HeldR w gs ds) : HeldR w (fs ++ gs) (cs ++ ds) := by
  refine ⟨by rw [List.length_append, List.length_append, h.1, k.1]; omega, fun i hi => ?_⟩
  rw [List.length_append] at hi
  by_cases hlt : i < fs.length
  · obtain ⟨A, L, C, h1, h2, h3⟩ := h.2 i hlt
    have e : (fs ++ gs).getD i (0, []) = fs.getD i (0, []) := by rw [List.getD_eq_getElem?_getD, List.getElem?_append_left hlt, ← List.getD_eq_getElem?_getD]
    rw [e]
    exact ⟨A, L, C, by rw [List.getElem?_append_left (by rw [h.1]; omega)]; exact h1, by rw [List.getElem?_append_left (by rw [h.1]; omega)]; exact h2, h3⟩
  · obtain ⟨A, L, C, h1, h2, h3⟩ := k.2 (i - fs.length) (by omega)
    have e : (fs ++ gs).getD i (0, []) = gs.getD (i - fs.length) (0, []) := by rw [List.getD_eq_getElem?_getD, List.getElem?_append_right (by omega), ← List.getD_eq_getElem?_getD]
    rw [e]
    refine ⟨A, L, C, ?_, ?_, h3⟩
    · rw [List.getElem?_append_right (by rw [h.1]; omega), h.1, show i * 2 - fs.length * 2 = (i - fs.length) * 2 by omega]; exact h1
    · rw [List.getElem?_append_right (by rw [h.1]; omega), h.1, show i * 2 + 1 - fs.length * 2 = (i - fs.length) * 2 + 1 by omega]; exact h2
theorem HeldR.nil (w : World) : HeldR w [] [] := ⟨rfl, fun i hi => by simp at hi⟩
theorem frow_heldR {w : World} {B : Nat} {a : Option Addr} {n cap : Nat} {fs : List Fr.F} {cs : List Value} (h : w.ownsRow B 31 2 (.slice a n cap) n cs) (hh : HeldR w fs cs) (hn : n ≤ 1000000000) : FRow w a n fs := by
  have hl := h.1
  rw [hh.1] at hl
  have hfn : fs.length = n := by omega
  rcases h.2 with ⟨e, rfl⟩ | ⟨g, cap', cur, e, _, hg, hnc, hm, hsz, htk⟩
  · exact ⟨hfn, by omega, .inl rfl⟩
  · simp only [Value.slice.injEq] at e
    obtain ⟨rfl, _, rfl⟩ := e
    refine ⟨hfn, by omega, .inr ⟨g, 0, rfl, fun i hi => ?_⟩⟩
    obtain ⟨A, L, C, q1, q2, q3⟩ := hh.2 i (by omega)
    have hc : ∀ j, j < n * 2 → w.cell? ⟨g, j, none⟩ = cs[j]? := by
      intro j hj
      simp only [World.cell?, hg]
      show (if (none : Option _).isSome then none else cur[j]?) = _
      rw [if_neg (by simp), ← htk, List.getElem?_take, if_pos hj]; simp
    exact ⟨A, L, C, by rw [Nat.zero_add, hc _ (by omega)]; exact q1, by rw [Nat.zero_add, hc _ (by omega)]; exact q2, q3⟩
/-- the cells of a row of frames -/
theorem frow_cells {w : World} {b off n : Nat} {fs : List Fr.F} (h : FRow w (some ⟨b, off, none⟩) n fs) : ∃ cs, HeldR w fs cs ∧ (∀ j u, cs[j]? = some u → w.cell? ⟨b, off + j, none⟩ = some u) ∧ ∀ u ∈ cs, u.oneCell' = true := by
  have hlen := h.1
  rcases Nat.eq_zero_or_pos n with h0 | h0
  · obtain rfl : fs = [] := List.length_eq_zero_iff.mp (by omega)
    exact ⟨[], HeldR.nil w, by simp, by simp⟩
  · obtain ⟨b', off', e, hc⟩ := h.at h0
    simp only [Option.some.injEq, Addr.mk.injEq] at e
    obtain ⟨rfl, rfl, _⟩ := e
    have hcell : ∀ j, j < n * 2 → ∃ u, w.cell? ⟨b, off + j, none⟩ = some u ∧ u.oneCell' = true := by
      intro j hj
      obtain ⟨A, L, C, q1, q2, _⟩ := hc (j / 2) (by omega)
      rcases Nat.mod_two_eq_zero_or_one j with hm | hm
      · rw [show off + j / 2 * 2 = off + j by omega] at q1
        exact ⟨_, q1, rfl⟩
      · rw [show off + j / 2 * 2 + 1 = off + j by omega] at q2
        exact ⟨_, q2, rfl⟩
    obtain ⟨f, hf⟩ := Go.Deep.choose_lt (α := Value) hcell
    have hget : ∀ j u, ((List.range (n * 2)).map f)[j]? = some u → j < n * 2 ∧ u = f j := by
      intro j u hj
      simp only [List.getElem?_map] at hj
      rcases Nat.lt_or_ge j (n * 2) with hlt | hge
      · rw [List.getElem?_range hlt] at hj; simp at hj; exact ⟨hlt, hj.symm⟩
      · rw [List.getElem?_eq_none (by simpa using hge)] at hj; simp at hj
    refine ⟨(List.range (n * 2)).map f, ⟨by simp [hlen], fun i hi => ?_⟩, fun j u hj => ?_, fun u hu => ?_⟩
    · obtain ⟨A, L, C, q1, q2, q3⟩ := hc i (by omega)
      have g1 := (hf (i * 2) (by omega)).1
      have g2 := (hf (i * 2 + 1) (by omega)).1
      rw [q1] at g1
      rw [← Nat.add_assoc, q2] at g2
      refine ⟨A, L, C, ?_, ?_, q3⟩
      · rw [List.getElem?_map, List.getElem?_range (by omega)]; simp only [Option.map_some]; exact g1.symm
      · rw [List.getElem?_map, List.getElem?_range (by omega)]; simp only [Option.map_some]; exact g2.symm
    · obtain ⟨hlt, rfl⟩ := hget j u hj
      exact (hf j hlt).1
    · simp only [List.mem_map, List.mem_range] at hu
      obtain ⟨j, hj, rfl⟩ := hu
      exact (hf j hj).2

theorem wpList_wanted {P : Program} {ops : Array Oper} {Q : Exit → Act → World → Prop} {a : Act} {w : World} {rest : List Oper} {o : Oper} (hw : Region.wanted o (yielded ops a.tmps) = true)
    (h : ∀ K : Act → World → Prop, (∀ a w, wpList P ops Q rest a w → K a w) → o.wp P a w K Q) : wpList P ops Q (o :: rest) a w :=
  wpList_step fun K hK => by simp only [hw, if_true]; exact h K hK
/-- the cells of a slice of frames, whatever it is -/
def FCells (w : World) (ad : Option Addr) (fs : List Fr.F) (news : List Value) : Prop :=
  HeldR w fs news ∧ (∀ y, ad = some y → ∀ j u, news[j]? = some u → w.cell? (y.add j) = some u) ∧ ∀ u ∈ news, u.oneCell' = true
theorem fcells_of {w : World} {ad : Option Addr} {m : Nat} {fs : List Fr.F} (h : FRow w ad m fs) : ∃ news, FCells w ad fs news := by
  rcases Nat.eq_zero_or_pos m with h0 | h0
  · obtain rfl : fs = [] := List.length_eq_zero_iff.mp (by rw [h.1]; exact h0)
    exact ⟨[], HeldR.nil w, by simp, by simp⟩
  · obtain ⟨b, off, rfl, _⟩ := h.at h0
    obtain ⟨news, h1, h2, h3⟩ := frow_cells h
    refine ⟨news, h1, fun y hy j u hj => ?_, h3⟩
    obtain rfl : (⟨b, off, none⟩ : Addr) = y := by simpa using hy
    rw [add_at]; exact h2 j u hj
theorem FCells.below {w w' : World} {B : Nat} {ad : Option Addr} {fs : List Fr.F} {news : List Value} (h : FCells w ad fs news) (hb : Below B w w') (hB : w.heap.size ≤ B) : FCells w' ad fs news :=
  ⟨h.1.below hb hB, fun y hy j u hj => by
    have hc := h.2.1 y hy j u hj
    exact (hb.cell (Nat.lt_of_lt_of_le (cell_lt hc) hB)).trans hc, h.2.2⟩
/-- append of a slice of frames to an own row, guarded or not -/
theorem append_frs {w0 w : World} {B : Nat} {ops : Array Oper} {rest : List Oper} {o : Oper} {a : Act} {Q : Exit → Act → World → Prop} (hw : Region.wanted o (yielded ops a.tmps) = true) (s x : Operand)
    (ho : o.op = .call { callee := .builtin .append, args := #[s, x], argTypes := #[22, 22] })
    (v : Value) (n : Nat) (cs : List Value) (hs : a.eval s = v) (hown : w.ownsRow B 31 2 v n cs)
    (ad : Option Addr) (m c : Nat) (fs : List Fr.F) (news : List Value) (hx : a.eval x = .slice ad m c) (hm : fs.length = m) (hcs : FCells w ad fs news) (hnil : ad = none → m = 0 ∧ c = 0)
    (hnm : n + m ≤ 1000000000) (hbel : Below B w0 w) (hB : B ≤ w.heap.size)
    (h : ∀ a' c' w', w'.ownsRow B 31 2 (.slice a' (n + m) c') (n + m) (cs ++ news) → Below B w0 w' → B ≤ w'.heap.size → wpList Try.prog ops Q rest (a.put o.dst (.slice a' (n + m) c')) w') : wpList Try.prog ops Q (o :: rest) a w := by
  obtain ⟨i0, hi, hz0, hz1, hz2⟩ := info_parts Try.info31
  obtain ⟨hh, hc, h1⟩ := hcs
  refine wpList_wanted hw fun K hK => ?_
  cases ad with
  | none =>
    obtain ⟨rfl, rfl⟩ := hnil rfl
    obtain rfl : fs = [] := List.length_eq_zero_iff.mp hm
    obtain rfl : news = [] := List.length_eq_zero_iff.mp (by rw [hh.1]; rfl)
    have hrun := run_append_owned_none (P := Try.prog) (w := w) B 22 o.type 31 i0 2 Try.underlying22 hi v n cs hown
    unfold Oper.wp
    simp [execOp, ho, resolve, invoke, builtin, hs, hx, hrun, Result.andThen]
    refine hK _ _ ?_
    rcases hown.2 with ⟨rfl, rfl⟩ | ⟨g, cap, cur, rfl, _⟩
    · exact h _ _ w (by simpa using hown) hbel hB
    · exact h _ _ w (by simpa using hown) hbel hB
  | some ad =>
    refine wp_append_own w s x 22 ho B 31 i0 (.agg #[.int .i64 0, .slice none 0 0]) 2 32 Try.underlying22 hi hz0 hz1 hz2 rfl (by decide) v n cs hs hown ad m c news hx (by rw [hh.1, hm]) (hc ad rfl) h1 (by unfold maxLen; omega) (by omega) hB ?_
    intro v' w' hown' hg _
    refine hK _ _ ?_
    have hb' := hbel.grown hg hB (fun k hk => (hown.lt k hk).1)
    rcases hown'.2 with ⟨rfl, h0⟩ | ⟨g, cap, cur, rfl, _⟩
    · have := h none 0 w' (by rw [h0] at hown' ⊢; exact hown') hb' (Nat.le_trans hB hg.size)
      rw [h0] at this; exact this
    · exact h _ _ w' hown' hb' (Nat.le_trans hB hg.size)

theorem good_split {fs : List Fr.F} (h : goodB fs = true) : fs.all Fr.may = true ∧ fs.length < 100 ∧ tot fs ≤ 4000 := by
  unfold goodB at h
  rw [Bool.and_eq_true] at h
  have hl : fs.length < 100 ∧ tot fs ≤ 4000 := by simpa [lightB] using h.2
  rw [List.take_of_length_le (by omega)] at h
  exact ⟨h.1, hl⟩

theorem fjoins_dark (hA : ∀ w, Calls Try.prog 8 #[] w fun e w' => e = .returned (.bool true) ∧ Below w.heap.size w w') (a1 a2 : Option Addr) (l1 c1 l2 c2 : Nat) (fa fb : List Fr.F) (w : World) (h1 : IsFrames w a1 l1 c1 fa) (h2 : IsFrames w a2 l2 c2 fb) (h : goodB fa = false ∨ goodB fb = false) :
    Calls Try.prog 6 #[.slice a1 l1 c1, .slice a2 l2 c2] w fun e w' => e = .returned (.bool true) ∧ Below w.heap.size w w' := by
  have m1 := lmay_any a1 l1 c1 fa w h1
  have m2 := fun W (hW : Below w.heap.size w W) => lmay_any a2 l2 c2 fb W ⟨h2.1.below hW (Nat.le_refl _), h2.2.1, h2.2.2.1, h2.2.2.2.1, h2.2.2.2.2⟩
  clear h1 h2
  cases hq : goodB fa with
  | false =>
    rw [hq] at m1
    clear h hq
    go_enter Try.func6, Try.ntmps6
    go_wp2_with (first
      | (go_at_call 22; refine m1.mono ?_; rintro e w1 ⟨rfl, hbel1⟩)
      | (go_at_call 8; have := hbel1; refine (hA _).mono ?_; rintro e w2 ⟨rfl, hbel2⟩))
    go_ret
    exact ⟨rfl, hbel1.trans (hbel2.mono hbel1.size)⟩
  | true =>
    rw [hq] at m1 h
    have hq2 : goodB fb = false := by simpa using h
    rw [hq2] at m2
    clear h hq hq2
    go_enter Try.func6, Try.ntmps6
    go_wp2_with (first
      | (go_at_call 22; have := hbel1; go_must (refine (m2 _ hbel1).mono ?_; rintro e w3 ⟨rfl, hbel3⟩; have hB3 := hbel1.trans (hbel3.mono hbel1.size)))
      | (go_at_call 22; refine m1.mono ?_; rintro e w1 ⟨rfl, hbel1⟩)
      | (go_at_call 8; have := hB3; refine (hA _).mono ?_; rintro e w2 ⟨rfl, hbel2⟩))
    go_ret
    exact ⟨rfl, hB3.trans (hbel2.mono hB3.size)⟩

set_option maxRecDepth 100000 in
set_option maxHeartbeats 2000000 in
theorem fjoins_any (hP : PutC) (hS : ScanC) (hA : ∀ w, Calls Try.prog 8 #[] w fun e w' => e = .returned (.bool true) ∧ Below w.heap.size w w') (a1 a2 : Option Addr) (l1 c1 l2 c2 : Nat) (fa fb : List Fr.F) (w : World) (h1 : IsFrames w a1 l1 c1 fa) (h2 : IsFrames w a2 l2 c2 fb) (g1 : goodB fa = true) (g2 : goodB fb = true) :
    Calls Try.prog 6 #[.slice a1 l1 c1, .slice a2 l2 c2] w fun e w' => e = .returned (.bool true) ∧ Below w.heap.size w w' := by
  have m1 := lmay_any a1 l1 c1 fa w h1
  have m2 := fun W (hW : Below w.heap.size w W) => lmay_any a2 l2 c2 fb W ⟨h2.1.below hW (Nat.le_refl _), h2.2.1, h2.2.2.1, h2.2.2.2.1, h2.2.2.2.2⟩
  rw [g1] at m1
  rw [g2] at m2
  obtain ⟨ha1, ha2, ha3⟩ := good_split g1
  obtain ⟨hb1, hb2, hb3⟩ := good_split g2
  have hr1 := h1.1
  have hr2 := h2.1
  have hn1 := h1.2.1
  have hn2 := h2.2.1
  have e1 := hr1.1
  have e2 := hr2.1
  rw [e1] at ha2
  rw [e2] at hb2
  have hga := good_of hr1 ha1
  have hgb := good_of hr2 hb1
  have hgood : Fr.Good (fa ++ fb) := fun f hf => (List.mem_append.mp hf).elim (hga f) (hgb f)
  have hsc := Fr.scan_all hgood
  have hall := Fr.all_append fa fb
  have hla := all_len_le fa ha1
  have hlb := all_len_le fb hb1
  rw [e1] at hla
  rw [e2] at hlb
  have hp1 := fun W (h : Below w.heap.size w W) => hP a1 l1 c1 fa W (hr1.below h (Nat.le_refl _)) (by omega) (by omega)
  have hp2 := fun W (h : Below w.heap.size w W) => hP a2 l2 c2 fb W (hr2.below h (Nat.le_refl _)) (by omega) (by omega)
  unfold PutRes at hp1 hp2
  rw [ha1] at hp1
  rw [hb1] at hp2
  have hsx : ∀ x ∈ Fr.all fa, x < lim .u8 := Fr.all_small hga
  have hsy : ∀ x ∈ Fr.all fb, x < lim .u8 := Fr.all_small hgb
  have hsxy : ∀ x ∈ Fr.all (fa ++ fb), x < lim .u8 := Fr.all_small hgood
  have hln : Hid ((fa ++ fb).length = l1 + l2) := (by rw [List.length_append, e1, e2] : (fa ++ fb).length = l1 + l2)
  rw [hall] at hsc hsxy
  have hsc' := fun (b : Option Addr) len c (W : World) (h : Shape b len c) (hc : len ≤ c) (hl : len ≤ 100000) (hb : Row .u8 W b len (Fr.all fa ++ Fr.all fb)) => hS b len c _ W h hc hl hb
  unfold ScanRes at hsc'
  rw [hsc] at hsc'
  simp only [List.length_append] at hsc'
  rw [e1, e2] at hsc'
  obtain ⟨na, hna⟩ := fcells_of hr1
  obtain ⟨nb, hnb⟩ := fcells_of hr2
  have e1' : Hid (fa.length = l1) := e1
  have e2' : Hid (fb.length = l2) := e2
  clear hsc hall g1 g2 h1 h2 hga hgb hgood ha1 hb1 e1 e2
  generalize Fr.all fa = X at *
  generalize Fr.all fb = Y at *
  generalize Fr.places (fa ++ fb) 0 = pl at *
  obtain ⟨nx, hnx⟩ : ∃ n, n = X.length := ⟨_, rfl⟩
  obtain ⟨ny, hny⟩ : ∃ n, n = Y.length := ⟨_, rfl⟩
  rw [← hnx] at hla hp1 hsc'
  rw [← hny] at hlb hp2 hsc'
  have HX : Hid (nx = X.length) := hnx
  have HY : Hid (ny = Y.length) := hny
  clear hnx hny
  go_enter Try.func6, Try.ntmps6
  go_wp2_with (first
    | (go_at_call 22; have := hbel1; go_must (refine (m2 _ hbel1).mono ?_; rintro e w2 ⟨rfl, hbel2⟩; have hB2 := hbel1.trans (hbel2.mono hbel1.size)))
    | (go_at_call 22; refine m1.mono ?_; rintro e w1 ⟨rfl, hbel1⟩)
    | (go_at_call 13; have := hB3; go_must (refine (hp2 _ hB3).mono ?_; rintro e w4 (⟨_, a4, c4, rfl, hown4, hbel4⟩ | ⟨h, _⟩); rotate_left; (cases h); have hB4 := hB3.trans (hbel4.mono hB3.size); have hX4 := (row_of_owns hown3 hsx (by omega)); have hX4' := hX4.1.below hbel4 (Nat.le_refl _); have hY4 := (row_of_owns hown4 hsy (by omega))))
    | (go_at_call 13; have := hB2; go_must (refine (hp1 _ hB2).mono ?_; rintro e w3 (⟨_, a3, c3, rfl, hown3, hbel3⟩ | ⟨h, _⟩); rotate_left; (cases h); have hB3 := hB2.trans (hbel3.mono hB2.size)))
    | (at_builtin; have := hown5; refine append_u8 (w0 := w4) (B := w4.heap.size) rfl (.tmp 34) (.tmp 35) rfl _ _ _ rfl hown5 a4 ny c4 Y rfl (hY4.1.below hbel5 (Nat.le_refl _)) hY4.2.1 (by omega) hbel5 hsz5 ?_; intro a6 c6 w6 hown6 hbel6 hsz6; have hB6 := hB4.trans (hbel6.mono hB4.size))
    | (at_builtin; have := hB4; refine append_u8 (w0 := w4) (B := w4.heap.size) rfl (.tmp 32) (.tmp 33) rfl _ 0 [] rfl (World.ownsRow_made (base := w4.heap.size) (e := 5) (size := 1) w4 #[] 0 (Nat.le_refl _) (by decide) (by simp)) a3 nx c3 X rfl (hX4'.below (below_alloc _ _) (Nat.le_refl _)) hX4.2.1 (by omega) (below_alloc _ _) (by simp) ?_; intro a5 c5 w5 hown5 hbel5 hsz5; simp only [List.nil_append] at hown5; rw [Nat.zero_add] at hown5 ⊢)
    | (go_at_call 19; have := hB6; go_must (obtain ⟨ra, rb, rc⟩ := row_of_owns hown6 hsxy (by omega); refine (hsc' a6 (nx + ny) c6 w6 (shape_own hown6) rc (by omega) ra).mono ?_; rintro e w7 ⟨a7, c7, a8, c8, cs7, rfl, hl7, hh7, hp7, hpk7, hbel7⟩; have hB7 := hB6.trans (hbel7.mono hB6.size)))
    | (at_builtin; have := hown8; go_must (refine append_frs (w0 := w7) (B := w7.heap.size) (by first | rfl | simp [Region.wanted, yielded]) (.tmp 59) (.tmp 60) rfl _ l1 _ rfl hown8 a2 l2 c2 fb nb rfl e2'.out (hnb.below hB8 (Nat.le_refl _)) hn2 (by omega) hbel8 hsz8 ?_; intro a9 c9 w9 hown9 hbel9 hsz9; have hB9 := hB7.trans (hbel9.mono hB7.size)))
    | (at_builtin; have := hB7; go_must (refine append_frs (w0 := w7) (B := w7.heap.size) (by first | rfl | simp [Region.wanted, yielded]) (.tmp 57) (.tmp 58) rfl _ 0 [] rfl (made_b w7 31 2 w7.heap.size rfl (Nat.le_refl _)) a1 l1 c1 fa na rfl e1'.out ((hna.below hB7 (Nat.le_refl _)).below (below_alloc _ _) (Nat.le_refl _)) hn1 (by omega) (below_alloc _ _) (by simp) ?_; intro a8' c8' w8 hown8 hbel8 hsz8; simp only [List.nil_append] at hown8; rw [Nat.zero_add] at hown8 ⊢; have hB8 := hB7.trans (hbel8.mono hB7.size)))
    | (go_at_call 18; have := hB9; go_must (refine (fsame_any _ _ _ (fa ++ fb) _ _ _ (fa ++ fb) _ ((frow_of_owns hl7 hh7 (by omega)).1.below hbel9 (Nat.le_refl _)) (frow_heldR hown9 ((hna.below hB9 (Nat.le_refl _)).1.append (hnb.below hB9 (Nat.le_refl _)).1) (by omega))).mono ?_; rintro e w10 ⟨rfl, hbel10⟩; have hB10 := hB9.trans (hbel10.mono hB9.size)))
    | (go_at_call 8; refine (hA _).mono ?_; rintro e w11 ⟨rfl, hbel11⟩))
  go_ret
  exact ⟨rfl, hB10.trans (hbel11.mono hB10.size)⟩
end Go.Proofs.Ytjioipkohnlipaa
