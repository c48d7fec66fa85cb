/- The program's tables: frames held against frames. -/
import Derived.Test.YtikieblokfjphaaGreatTQd
import Derived.Test.YtikieblokfjphaaGreatFA
import Derived.Test.YtikieblokfjphaaGreatX1
import Derived.Deep.LoopGhost
import Derived.Test.YtikieblokfjphaaGreatTQa
import Derived.Test.YtikieblokfjphaaGreatBPb
namespace Go.Proofs.YtikieblokfjphaaGreat
open Go.RowKit

set_option maxRecDepth 100000 in
set_option maxHeartbeats 1000000 in
theorem tsamef_any (k1 : Int) (a1 : Option Addr) (n1 c1 : Nat) (b1 : List Nat) (k2 : Int) (a2 : Option Addr) (n2 c2 : Nat) (b2 : List Nat) (w : World) (r1 : Row .u8 w a1 n1 b1) (r2 : Row .u8 w a2 n2 b2) :
    Calls Tryz.prog 15 #[.agg #[.int .i64 k1, .slice a1 n1 c1], .agg #[.int .i64 k2, .slice a2 n2 c2]] w fun e w' => e = .returned (.bool (decide ((k1, b1) = (k2, b2)))) ∧ Below w.heap.size w w' := by
  have hb : Below w.heap.size w ((w.alloc (.cells #[.int .i64 k1, .slice a1 n1 c1] 54)).alloc (.cells #[.int .i64 k2, .slice a2 n2 c2] 54)) := (below_alloc _ _).alloc (by simp) _
  by_cases hk : k1 = k2
  · have he := equal_any a1 n1 c1 b1 a2 n2 c2 b2 _ (r1.below hb (Nat.le_refl _)) (r2.below hb (Nat.le_refl _))
    have e1 : (k1 == k2) = true := by simp [hk]
    have HD : Hid (decide ((k1, b1) = (k2, b2)) = decide (b1 = b2)) := (by simp [hk] : decide ((k1, b1) = (k2, b2)) = decide (b1 = b2))
    clear hk
    go_enter Tryz.func15, Tryz.ntmps15
    go_wp2_with (go_at_call 40; go_must (refine he.mono ?_; rintro e w1 ⟨rfl, hw⟩; rw [hw]; clear hw w1))
    go_ret
    exact ⟨ret_bool HD.out.symm, hb⟩
  · have e1 : (k1 == k2) = false := by simp [hk]
    have HD : Hid (decide ((k1, b1) = (k2, b2)) = false) := (by simp [hk] : decide ((k1, b1) = (k2, b2)) = false)
    clear hk
    go_enter Tryz.func15, Tryz.ntmps15
    go_wp2
    go_ret
    exact ⟨ret_bool HD.out.symm, hb⟩

theorem FRow.len {w : World} {a : Option Addr} {n : Nat} {fs : List Fr.F} (h : FRow w a n fs) : fs.length = n := h.1
theorem FRow.take' {w : World} {a : Option Addr} {n : Nat} {fs : List Fr.F} (h : FRow w a n fs) (j : Nat) (hj : j ≤ n) : FRow w a j (fs.take j) := by
  obtain ⟨h1, h2, h3⟩ := h
  refine ⟨by rw [List.length_take]; omega, by omega, ?_⟩
  rcases h3 with h0 | ⟨b, off, e, hc⟩
  · exact .inl (by omega)
  · refine .inr ⟨b, off, e, fun i hi => ?_⟩
    rw [getD_take' _ _ hi]
    exact hc i (by omega)
theorem FRow.drop' {w : World} {b off n : Nat} {fs : List Fr.F} (h : FRow w (some ⟨b, off, none⟩) n fs) (j : Nat) (hj : j ≤ n) : FRow w (some ⟨b, off + j * 2, none⟩) (n - j) (fs.drop j) := by
  obtain ⟨h1, h2, h3⟩ := h
  refine ⟨by rw [List.length_drop]; omega, by omega, ?_⟩
  rcases h3 with h0 | ⟨b', off', e, hc⟩
  · exact .inl (by omega)
  · cases e
    refine .inr ⟨b, off + j * 2, rfl, fun i hi => ?_⟩
    have := hc (j + i) (by omega)
    rw [getD_drop']
    rw [Nat.add_mul, ← Nat.add_assoc] at this
    exact this
theorem list_ne_at {α : Type} {l m : List α} {k : Nat} (d : α) (h : l.getD k d ≠ m.getD k d) : l ≠ m := fun e => h (by rw [e])
theorem list_eq_at {α : Type} {l m : List α} (d : α) (hl : l.length = m.length) (h : ∀ i, i < l.length → l.getD i d = m.getD i d) : l = m := by
  refine List.ext_getElem hl fun i h1 h2 => ?_
  have := h i h1
  rw [List.getD_eq_getElem?_getD, List.getElem?_eq_getElem h1, List.getD_eq_getElem?_getD, List.getElem?_eq_getElem h2] at this
  exact this

set_option maxRecDepth 100000 in
set_option maxHeartbeats 2000000 in
theorem tequalf_any (a1 : Option Addr) (n1 c1 : Nat) (f1 : List Fr.F) (a2 : Option Addr) (n2 c2 : Nat) (f2 : List Fr.F) (w : World) (r1 : FRow w a1 n1 f1) (r2 : FRow w a2 n2 f2) (hn : n1 ≤ 1000000) :
    Calls Tryz.prog 14 #[.slice a1 n1 c1, .slice a2 n2 c2, .func (.func 15) #[] #[]] w fun e w' => e = .returned (.bool (decide (f1 = f2))) ∧ Below w.heap.size w w' := by
  have l1 := r1.1
  have l2 := r2.1
  by_cases hne : n1 = n2
  · subst hne
    have H1 : Hid (FRow w a1 n1 f1) := r1
    have H2 : Hid (FRow w a2 n1 f2) := r2
    have HL : Hid (f1.length = n1 ∧ f2.length = n1) := (⟨l1, l2⟩ : f1.length = n1 ∧ f2.length = n1)
    clear r1 r2 l1 l2
    have e0 : ((n1 : Int) == (n1 : Int)) = true := by simp
    go_enter Tryz.func14, Tryz.ntmps14
    go_wp2_with fail
    go_loopg [17] n1 (fun g s17 wx => ∃ k : Nat, k + g = n1 ∧ s17 = .int .i64 k ∧ Hid (∀ i, i < k → f1.getD i (0, []) = f2.getD i (0, [])) ∧ Below w.heap.size w wx)
    case atStart => exact ⟨0, by omega, rfl, (fun i hi => by omega : ∀ i, i < 0 → f1.getD i (0, []) = f2.getD i (0, [])), Below.refl _ _⟩
    case round =>
      obtain ⟨k, hkg, rfl, HE, hbel⟩ := hrel
      cases gk with
      | zero =>
        obtain rfl : k = n1 := by omega
        have HD : Hid (decide (f1 = f2) = true) := (decide_eq_true (list_eq_at (0, []) (HL.out.1.trans HL.out.2.symm) (fun i hi => HE.out i (by rw [← HL.out.1]; exact hi))) : decide (f1 = f2) = true)
        clear HE
        go_wp2
        go_ret
        exact ⟨ret_bool HD.out.symm, hbel⟩
      | succ g =>
        have hkR : k < n1 := by omega
        have hkz : (k : Int) < (n1 : Int) := by omega
        have hk0 : (0 : Int) ≤ (k : Int) := by omega
        obtain ⟨p1, o1, rfl, hc1⟩ := H1.out.at (by omega)
        obtain ⟨p2, o2, rfl, hc2⟩ := H2.out.at (by omega)
        obtain ⟨A1, L1, C1, x0, x1, x2, -⟩ := (hc1 k hkR).below hbel (Nat.le_refl _)
        obtain ⟨A2, L2, C2, y0, y1, y2, -⟩ := (hc2 k hkR).below hbel (Nat.le_refl _)
        have hbA : Below wr.heap.size wr ((wr.alloc (.cells #[.int .i64 (f1.getD k (0, [])).1, .slice A1 L1 C1] 54)).alloc (.cells #[.int .i64 (f2.getD k (0, [])).1, .slice A2 L2 C2] 54)) := (below_alloc _ _).alloc (by simp) _
        have hcp := fun (V : World) (hV : Below wr.heap.size wr V) => tsamef_any (f1.getD k (0, [])).1 A1 L1 C1 _ (f2.getD k (0, [])).1 A2 L2 C2 _ V (x2.below hV (Nat.le_refl _)) (y2.below hV (Nat.le_refl _))
        have HN : Hid (f1.getD k (0, []) ≠ f2.getD k (0, []) → f1 ≠ f2) := (fun h => list_ne_at (0, []) h : f1.getD k (0, []) ≠ f2.getD k (0, []) → f1 ≠ f2)
        have i2 : IntKind.i64.wrap ((k : Int) + 1) = (k : Int) + 1 := by rw [IntKind.wrap_i64]; omega
        have hbB := hbel.trans (hbA.mono hbel.size)
        have z0 := fun o => (cell_past wr o ⟨p2, o2 + k * 2, none⟩ (cell_lt y0)).trans y0
        have z1 := fun o => (cell_past wr o ⟨p2, o2 + k * 2 + 1, none⟩ (cell_lt y1)).trans y1
        clear hc1 hc2 x2 y2 y0 y1
        by_cases hq : f1.getD k (0, []) = f2.getD k (0, [])
        · have HE2 : Hid (∀ i, i < k + 1 → f1.getD i (0, []) = f2.getD i (0, [])) := (fun i hi => by
            rcases Nat.lt_or_ge i k with h | h
            · exact HE.out i h
            · rw [show i = k by omega]; exact hq : ∀ i, i < k + 1 → f1.getD i (0, []) = f2.getD i (0, []))
          have hcq := hcp _ hbA
          rw [decide_eq_true (show ((f1.getD k (0, [])).1, (f1.getD k (0, [])).2) = ((f2.getD k (0, [])).1, (f2.getD k (0, [])).2) from hq)] at hcq
          generalize (f1.getD k (0, [])).1 = K1 at *
          generalize (f2.getD k (0, [])).1 = K2 at *
          clear hq HN HE hcp
          go_wp2_with (go_at_call 15; go_must (refine hcq.mono ?_; rintro e w3 ⟨rfl, b3⟩; have hb3 := hbB.trans (b3.mono hbB.size)))
          go_roundg g
          case measure => omega
          case rel => exact ⟨k + 1, by omega, by go_num, HE2, hb3⟩
        · have HD : Hid (decide (f1 = f2) = false) := (decide_eq_false (HN.out hq) : decide (f1 = f2) = false)
          have hcq := hcp _ hbA
          rw [decide_eq_false (show ¬ ((f1.getD k (0, [])).1, (f1.getD k (0, [])).2) = ((f2.getD k (0, [])).1, (f2.getD k (0, [])).2) from hq)] at hcq
          generalize (f1.getD k (0, [])).1 = K1 at *
          generalize (f2.getD k (0, [])).1 = K2 at *
          clear hq HN HE hcp
          go_wp2_with (go_at_call 15; go_must (refine hcq.mono ?_; rintro e w3 ⟨rfl, b3⟩; have hb3 := hbB.trans (b3.mono hbB.size)))
          go_ret
          exact ⟨ret_bool HD.out.symm, hb3⟩
  · have HD : Hid (decide (f1 = f2) = false) := (decide_eq_false (fun e => hne (by rw [← l1, ← l2, e])) : decide (f1 = f2) = false)
    have e0 : ((n1 : Int) == (n2 : Int)) = false := by simp; omega
    clear hne r1 r2 l1 l2
    go_enter Tryz.func14, Tryz.ntmps14
    go_wp2
    go_ret
    exact ⟨ret_bool HD.out.symm, Below.refl _ _⟩
end Go.Proofs.YtikieblokfjphaaGreat

/- The program's tables: the parts that frames tell. -/
namespace Go.Proofs.YtikieblokfjphaaGreat
open Go.RowKit Go.Shelf

theorem own_ini3 {w : World} {B n c : Nat} {a : Option Addr} {hs : List IH} {xs : List It.I} (h : w.ownsRow B 40 8 (.slice a n c) n (tcells ih hs)) (hh : ItHeld w B hs xs) (hn : n ≤ 1000000000) : InI w a n c hs xs := by
  obtain ⟨a', c', e, g1, g2⟩ := t_shape h
  simp only [Value.slice.injEq, true_and] at e
  obtain ⟨rfl, rfl⟩ := e
  exact ⟨⟨trow_of_owns ihE h (by omega) hn, hh.all⟩, g1, g2⟩
theorem OwnIt.of_own {w w' : World} {B : Nat} {h : IH} {x : It.I} (hx : OwnIt w B h x) (h2 : w'.ownsRow B 5 1 (.slice h.a h.n h.c) h.n (kcells .u8 x.2.2.2.1)) : OwnIt w' B h x := by
  have h3 := row_of_owns h2 hx.1.row.2.2.1 (Nat.le_trans hx.1.row.2.1 (by decide))
  exact ⟨⟨hx.1.key, hx.1.dead, hx.1.far, hx.1.pt, h3.1, hx.1.nil, hx.1.le, hx.1.fits, hx.1.ksz⟩, h2⟩
theorem ItHeld.base {w : World} {B B' : Nat} {hs : List IH} {xs : List It.I} (h : ItHeld w B hs xs) (hB : B' ≤ B) : ItHeld w B' hs xs := ⟨h.1, fun i hi => ⟨(h.2 i hi).1, owns_base (h.2 i hi).2 hB⟩⟩
/-- parts of the call's own, wherever rows of items and of bytes are kept -/
theorem POwn.keeps {V V' : World} {B : Nat} {ps : List PH} {gss : List (List IH)} {xss : List (List It.I)} (h : POwn (fun W g x => ItHeld W B g x) V B ps gss xss)
    (k1 : ∀ (v : Value) (n : Nat) (xs : List Value), V.ownsRow B 40 8 v n xs → V'.ownsRow B 40 8 v n xs) (k2 : ∀ (v : Value) (n : Nat) (xs : List Value), V.ownsRow B 5 1 v n xs → V'.ownsRow B 5 1 v n xs) : POwn (fun W g x => ItHeld W B g x) V' B ps gss xss :=
  ⟨h.1, h.2.1, fun i hi => ⟨k1 _ _ _ (h.2.2 i hi).1, (h.2.2 i hi).2.1, (h.2.2 i hi).2.2.1, fun j hj => ((h.2.2 i hi).2.2.2 j hj).of_own (k2 _ _ _ ((h.2.2 i hi).2.2.2 j hj).2)⟩⟩
theorem owns_set2 {W : World} {b0 B e s n : Nat} {v x y : Value} {xs : List Value} {cs : Array Value} (hr : W.ownsRow B e s v n xs) (hbx : W.heap[b0]? = some (.cells cs 48 (0, 0))) (he : (48 : Nat) ≠ e) : ((W.setCell ⟨b0, 0, none⟩ x).setCell ⟨b0, 1, none⟩ y).ownsRow B e s v n xs := by
  refine ⟨hr.1, ?_⟩
  rcases hr.2 with hn | ⟨g, cap, cur, rfl, hg, hgg, rest⟩
  · exact .inl hn
  · refine .inr ⟨g, cap, cur, rfl, hg, ?_, rest⟩
    have hne : g ≠ b0 := fun e' => by
      subst e'
      rw [hgg] at hbx
      simp only [Option.some.injEq, Obj.cells.injEq] at hbx
      exact he hbx.2.1.symm
    rw [Below.heap_setCell _ _ _ _ hne, Below.heap_setCell _ _ _ _ hne]
    exact hgg
/-- parts that frames tell are told -/
def GPYes (w : World) (R : List (List It.I)) (e : Ending) (w' : World) : Prop :=
  ∃ la lc ps gss, e = .returned (.tuple #[.agg #[.slice la R.length lc, .int .i64 ((Tb.joined R).length : Nat)], .int .i64 0]) ∧ InP w' la R.length ps gss R ∧ R.length ≤ lc ∧ Below w.heap.size w w'
def GPNo (w : World) (e : Ending) (w' : World) : Prop := e = .returned (.tuple #[.agg #[.slice none 0 0, .int .i64 0], .int .i64 2]) ∧ Below w.heap.size w w'
theorem gp_yes {w wr : World} {b ln lc cnt b0 : Nat} {la : Option Addr} {ps : List PH} {gss : List (List IH)} {R xss : List (List It.I)} {cs : Array Value} (hb0 : w.heap.size ≤ b0) (hS : PSt w wr b la ln lc cnt ps) (hR : R = xss) (hl : xss.length = ln) (hP : POwn (fun W g x => ItHeld W w.heap.size g x) wr w.heap.size ps gss xss) (hcn : cnt = (Tb.joined xss).length) (hln : ln ≤ 1000000) (hbx : wr.heap[b0]? = some (.cells cs 48 (0, 0))) :
    GPYes w R (.returned (.tuple #[.agg #[.slice la ln lc, .int .i64 (cnt : Nat)], .int .i64 0])) ((wr.setCell ⟨b0, 0, none⟩ (.slice la ln lc)).setCell ⟨b0, 1, none⟩ (.int .i64 (cnt : Nat))) := by
  subst hR; subst hl; subst hcn
  have ho := owns_set2 (x := .slice la R.length lc) (y := .int .i64 ((Tb.joined R).length : Nat)) hS.own hbx (by decide)
  have hP2 := hP.keeps (V' := (wr.setCell ⟨b0, 0, none⟩ (.slice la R.length lc)).setCell ⟨b0, 1, none⟩ (.int .i64 ((Tb.joined R).length : Nat))) (fun _ _ _ h => owns_set2 h hbx (by decide)) (fun _ _ _ h => owns_set2 h hbx (by decide))
  obtain ⟨a', c', e, g1, g2⟩ := t_shape hS.own
  simp only [Value.slice.injEq, true_and] at e
  obtain ⟨rfl, rfl⟩ := e
  exact ⟨la, lc, ps, gss, rfl, ⟨trow_of_owns phE ho (by omega) (by omega), hP2.parts (fun _ _ h => h.all)⟩, g2, (hS.below.setCell hb0 _).setCell hb0 _⟩
theorem pparts_stop {fs : List Fr.F} {k : Nat} {last : List Nat} {acc : List (List It.I)} (hk : k < fs.length) (h : ¬ ((fs.getD k (0, [])).1 = 1 ∧ Bl.get (fs.getD k (0, [])).2 ≠ [] ∧ Na.lt last (Tb.firstKey (Bl.get (fs.getD k (0, [])).2)) = true ∧ (Tb.joined acc).length + (Bl.get (fs.getD k (0, [])).2).length ≤ 16384)) : Tb.pparts (fs.drop k) last acc = none := by
  rw [Tb.drop_getD (0, []) hk, Tb.pparts, if_neg h]
theorem pparts_next {fs : List Fr.F} {k : Nat} {last : List Nat} {acc : List (List It.I)} (hk : k < fs.length) (h : (fs.getD k (0, [])).1 = 1 ∧ Bl.get (fs.getD k (0, [])).2 ≠ [] ∧ Na.lt last (Tb.firstKey (Bl.get (fs.getD k (0, [])).2)) = true ∧ (Tb.joined acc).length + (Bl.get (fs.getD k (0, [])).2).length ≤ 16384) : Tb.pparts (fs.drop k) last acc = Tb.pparts (fs.drop (k + 1)) (Tb.lastK (Bl.get (fs.getD k (0, [])).2)) (acc ++ [Bl.get (fs.getD k (0, [])).2]) := by
  conv => lhs; rw [Tb.drop_getD (0, []) hk, Tb.pparts, if_pos h]

/-- what getParts tells: parts, or none -/
def GPRes (w : World) (o : Option (List (List It.I))) (e : Ending) (w' : World) : Prop := (o = none ∧ GPNo w e w') ∨ ∃ R, o = some R ∧ GPYes w R e w'
theorem gp_none {w W : World} {o : Option (List (List It.I))} {b0 : Nat} (ho : o = none) (hB : w.heap.size ≤ b0) (hb : Below w.heap.size w W) : GPRes w o (.returned (.tuple #[.agg #[.slice none 0 0, .int .i64 0], .int .i64 2])) ((W.setCell ⟨b0, 0, none⟩ (.slice none 0 0)).setCell ⟨b0, 1, none⟩ (.int .i64 0)) := .inl ⟨ho, rfl, (hb.setCell hB _).setCell hB _⟩

set_option maxRecDepth 100000 in
set_option maxHeartbeats 4000000 in
theorem tgetparts_any (a : Option Addr) (n c : Nat) (fs : List Fr.F) (w : World) (hr : FRow w a n fs) (hn : n ≤ 100000) (hsm : ∀ f ∈ fs, f.2.length ≤ 100000 ∧ ∀ x ∈ f.2, x < 256) :
    Calls Tryz.prog 12 #[.slice a n c] w (GPRes w (Tb.pparts fs [] [])) := by
  have hll : Hid (fs.length = n) := hr.1
  obtain ⟨O, hO⟩ : ∃ O, O = Tb.pparts fs [] [] := ⟨_, rfl⟩
  rw [← hO]
  have HO0 : Hid (O = Tb.pparts (fs.drop 0) (kb ⟨#[]⟩) []) := (hO : O = Tb.pparts (fs.drop 0) (kb ⟨#[]⟩) [])
  have Hr : Hid (FRow w a n fs) := hr
  have Hsm : Hid (∀ f ∈ fs, f.2.length ≤ 100000 ∧ ∀ x ∈ f.2, x < 256) := hsm
  clear hr hsm hO
  go_enter Tryz.func12, Tryz.ntmps12
  go_wp2_with fail
  have hS0 : PSt w ((w.alloc (.cells #[.slice none 0 0, .int .i64 0] 48)).alloc (.cells #[.slice none 0 0, .int .i64 0] 48)) (w.heap.size + 1) none 0 0 0 [] := ⟨(below_alloc _ _).alloc (by simp) _, (by rw [show w.heap.size + 1 = (w.alloc (.cells #[.slice none 0 0, .int .i64 0] 48)).heap.size by simp]; exact heap_alloc_new _ _), ⟨rfl, .inl ⟨rfl, rfl⟩⟩, by omega⟩
  have hbx0 : ((w.alloc (.cells #[.slice none 0 0, .int .i64 0] 48)).alloc (.cells #[.slice none 0 0, .int .i64 0] 48)).heap[w.heap.size]? = some (.cells #[.slice none 0 0, .int .i64 0] 48 (0, 0)) := (heap_alloc_old _ _ (by simp)).trans (heap_alloc_new w _)
  generalize (w.alloc (.cells #[.slice none 0 0, .int .i64 0] 48)).alloc (.cells #[.slice none 0 0, .int .i64 0] 48) = w0 at *
  obtain ⟨b0, hb0⟩ : ∃ b0, b0 = w.heap.size := ⟨_, rfl⟩
  obtain ⟨b1, hb1⟩ : ∃ b1, b1 = w.heap.size + 1 := ⟨_, rfl⟩
  rw [← hb0] at hbx0 ⊢
  have H01 : Hid (w.heap.size = b0 ∧ b0 ≠ b1) := (⟨hb0.symm, by omega⟩ : w.heap.size = b0 ∧ b0 ≠ b1)
  rw [show b0 + 1 = b1 by omega]
  rw [← hb1] at hS0
  clear hb0 hb1
  go_loopg [5, 12] n (fun g s5 s12 wx => ∃ (k m lc cnt : Nat) (last : ByteArray) (la : Option Addr) (ps : List PH) (gss : List (List IH)) (xss : List (List It.I)), k + g = n ∧ m = k ∧ cnt ≤ 16384 ∧ s12 = .int .i64 k ∧ s5 = .string last ∧ Hid (O = Tb.pparts (fs.drop k) (kb last) xss) ∧ Hid (xss.length = m) ∧ Hid (cnt = (Tb.joined xss).length) ∧ Hid (POwn (fun W g x => ItHeld W w.heap.size g x) wx w.heap.size ps gss xss) ∧ PSt w wx b1 la m lc cnt ps ∧ wx.heap[b0]? = some (.cells #[.slice none 0 0, .int .i64 0] 48 (0, 0)))
  case atStart => exact ⟨0, 0, 0, 0, ⟨#[]⟩, none, [], [], [], by omega, rfl, by omega, rfl, rfl, HO0, (rfl : ([] : List (List It.I)).length = 0), (rfl : 0 = (Tb.joined []).length), (POwn.nil _ _ _ : POwn _ _ _ [] [] []), hS0, hbx0⟩
  case round =>
    obtain ⟨k, m, lc, cnt, last, la, ps, gss, xss, hkg, rfl, hcn, rfl, rfl, HO, hlm, Hcn, hP, hS, hbx⟩ := hrel
    clear HO0 hS0 hbx0
    have z0 := (Go.Joins.cell_of_block hbx 0).trans rfl
    have z1 := (Go.Joins.cell_of_block hbx 1).trans rfl
    cases gk with
    | zero =>
      obtain rfl : m = n := by omega
      have HE : Hid (O = some xss) := (by rw [HO.out, List.drop_of_length_le (by rw [hll.out]; omega)]; simp [Tb.pparts] : O = some xss)
      have hfin := gp_yes (Nat.le_of_eq H01.out.1) hS rfl hlm.out hP.out Hcn.out (by omega) hbx
      have hfin2 : GPRes w O _ _ := .inr ⟨xss, HE.out, hfin⟩
      obtain ⟨x0, x1, -⟩ := hS.cells
      have f0 := Go.Joins.unfrozen_of_block hbx 0
      have f1 := Go.Joins.unfrozen_of_block hbx 1
      clear HO HE hS hbx hP hfin
      go_wp2
      refine bodyPost_ret (v := .tuple #[.agg #[.slice la m lc, .int .i64 (cnt : Nat)], .int .i64 0]) ?_ rfl hfin2
      simp [results, Tryz.results12, go_sem, z0, z1]
    | succ g =>
      have hkR : m < n := by omega
      have hkz : (m : Int) < (n : Int) := by omega
      have hk0 : (0 : Int) ≤ (m : Int) := by omega
      have hk' : m < fs.length := by rw [hll.out]; exact hkR
      obtain ⟨cb, cof, rfl, hc⟩ := Hr.out.at (by omega)
      obtain ⟨A, L, C, v0, v1, v2, v3, v4, v5⟩ := (hc m hkR).below hS.below (Nat.le_refl _)
      have hmem : fs.getD m (0, []) ∈ fs := by rw [List.getD_eq_getElem?_getD, List.getElem?_eq_getElem hk']; exact List.getElem_mem _
      obtain ⟨m1, m2⟩ := Hsm.out _ hmem
      have hLC : L ≤ C := by
        rcases v3 with ⟨h1, h2⟩ | ⟨_, _, _, h⟩
        · omega
        · exact h
      have hLb : L ≤ 100000 := by have := v2.1; omega
      have HS : Hid (¬ ((fs.getD m (0, [])).1 = 1 ∧ Bl.get (fs.getD m (0, [])).2 ≠ [] ∧ Na.lt (kb last) (Tb.firstKey (Bl.get (fs.getD m (0, [])).2)) = true ∧ cnt + (Bl.get (fs.getD m (0, [])).2).length ≤ 16384) → O = none) := (fun h => by rw [HO.out]; exact pparts_stop hk' (by rw [← Hcn.out]; exact h) : ¬ ((fs.getD m (0, [])).1 = 1 ∧ Bl.get (fs.getD m (0, [])).2 ≠ [] ∧ Na.lt (kb last) (Tb.firstKey (Bl.get (fs.getD m (0, [])).2)) = true ∧ cnt + (Bl.get (fs.getD m (0, [])).2).length ≤ 16384) → O = none)
      have HN : Hid ((fs.getD m (0, [])).1 = 1 ∧ Bl.get (fs.getD m (0, [])).2 ≠ [] ∧ Na.lt (kb last) (Tb.firstKey (Bl.get (fs.getD m (0, [])).2)) = true ∧ cnt + (Bl.get (fs.getD m (0, [])).2).length ≤ 16384 → O = Tb.pparts (fs.drop (m + 1)) (Tb.lastK (Bl.get (fs.getD m (0, [])).2)) (xss ++ [Bl.get (fs.getD m (0, [])).2])) := (fun h => by rw [HO.out]; exact pparts_next hk' (by rw [← Hcn.out]; exact h) : (fs.getD m (0, [])).1 = 1 ∧ Bl.get (fs.getD m (0, [])).2 ≠ [] ∧ Na.lt (kb last) (Tb.firstKey (Bl.get (fs.getD m (0, [])).2)) = true ∧ cnt + (Bl.get (fs.getD m (0, [])).2).length ≤ 16384 → O = Tb.pparts (fs.drop (m + 1)) (Tb.lastK (Bl.get (fs.getD m (0, [])).2)) (xss ++ [Bl.get (fs.getD m (0, [])).2]))
      have b2 := below_alloc wr (.cells #[.int .i64 (fs.getD m (0, [])).1, .slice A L C] 54)
      have hS2 := hS.on b2
      have hP2 : Hid (POwn (fun W g x => ItHeld W w.heap.size g x) (wr.alloc (.cells #[.int .i64 (fs.getD m (0, [])).1, .slice A L C] 54)) w.heap.size ps gss xss) := (hP.out.keeps (fun _ _ _ h => owns_below h b2) (fun _ _ _ h => owns_below h b2) : POwn (fun W g x => ItHeld W w.heap.size g x) (wr.alloc (.cells #[.int .i64 (fs.getD m (0, [])).1, .slice A L C] 54)) w.heap.size ps gss xss)
      have hbx2 := (b2.block b0 (Array.getElem?_eq_some_iff.1 hbx).1).trans hbx
      have hge := fun (W : World) (hW : Below wr.heap.size wr W) => bget_own A L C _ W hLb hLC (v2.below hW (Nat.le_refl _))
      have hgl := Bl.get_len (fs.getD m (0, [])).2
      have y0 := (Go.Joins.cell_of_block hbx2 0).trans rfl
      have y1 := (Go.Joins.cell_of_block hbx2 1).trans rfl
      have f0 := Go.Joins.unfrozen_of_block hbx2 0
      have f1 := Go.Joins.unfrozen_of_block hbx2 1
      have i2 : IntKind.i64.wrap ((m : Int) + 1) = (m : Int) + 1 := by rw [IntKind.wrap_i64]; omega
      clear hc hmem m1 m2 v2 v3 v4 v5 HO
      generalize (fs.getD m (0, [])).1 = kind at *
      by_cases hkd : kind = 1
      · subst hkd
        have e1 : ((1 : Int) == 1) = true := by decide
        generalize Bl.get (fs.getD m (0, [])).2 = G at *
        unfold BLOwn at hge
        by_cases hG : G = []
        · have HE := HS.out (fun h => h.2.1 hG)
          subst hG
          have er : Bl.err [] = 2 := rfl
          simp only [er, List.length_nil] at hge
          have HE' : Hid (O = none) := HE
          clear HE HS HN hgl
          go_wp2_with (go_at_call 32; go_must (refine (hge _ b2).mono ?_; rintro e w3 ⟨a3, c3, hs3, rfl, -, -, b3⟩; have hb3 := hS2.below.trans (b3.mono hS2.below.size); have hbx3 := (b3.block b0 (Array.getElem?_eq_some_iff.1 hbx2).1).trans hbx2; have y0 := (Go.Joins.cell_of_block hbx3 0).trans rfl; have y1 := (Go.Joins.cell_of_block hbx3 1).trans rfl; have f0 := Go.Joins.unfrozen_of_block hbx3 0; have f1 := Go.Joins.unfrozen_of_block hbx3 1))
          refine bodyPost_ret (v := .tuple #[.agg #[.slice none 0 0, .int .i64 0], .int .i64 2]) ?_ rfl (gp_none HE'.out (Nat.le_of_eq H01.out.1) hb3)
          simp [results, Tryz.results12, go_sem, y0, y1]
        · have er : Bl.err G = 0 := by unfold Bl.err; rw [if_neg hG]
          simp only [er] at hge
          have hGp := List.length_pos_iff.mpr hG
          obtain ⟨GL, hGL⟩ : ∃ GL, GL = G.length := ⟨_, rfl⟩
          rw [← hGL] at hge HS HN hgl hGp
          have HGL : Hid (G.length = GL) := hGL.symm
          have HKEY : Hid (∀ (W : World) (hs : List IH), ItAll W hs G → ∃ K0 K1 : ByteArray, (hs.getD 0 ihz).key = K0 ∧ (hs.getD (GL - 1) ihz).key = K1 ∧ kb K0 = Tb.firstKey G ∧ kb K1 = Tb.lastK G) := (fun W hs h => ⟨_, _, rfl, rfl, (h.2 0 (by omega)).key, by unfold Tb.lastK; rw [← hGL]; exact (h.2 (GL - 1) (by omega)).key⟩ : ∀ (W : World) (hs : List IH), ItAll W hs G → ∃ K0 K1 : ByteArray, (hs.getD 0 ihz).key = K0 ∧ (hs.getD (GL - 1) ihz).key = K1 ∧ kb K0 = Tb.firstKey G ∧ kb K1 = Tb.lastK G)
          clear hGL
          have hadd := fun (W : World) (a' : Option Addr) (c' : Nat) (hW : PSt w W b1 la m lc cnt ps) => tadd_any w W b1 la m lc cnt ps a' GL c' hW (by omega) (by omega)
          obtain ⟨CG, hCG⟩ : ∃ CG, CG = cnt + GL := ⟨_, rfl⟩
          have i3 : IntKind.i64.wrap ((cnt : Int) + (GL : Int)) = (CG : Int) := by rw [IntKind.wrap_i64]; omega
          rw [← hCG] at HS HN hadd
          have HCG : Hid (CG = cnt + GL) := hCG
          clear hCG
          by_cases hlt : Na.lt (kb last) (Tb.firstKey G) = true
          · by_cases hfew : CG ≤ 16384
            · have HE : Hid (O = Tb.pparts (fs.drop (m + 1)) (Tb.lastK G) (xss ++ [G])) := (HN.out ⟨rfl, hG, hlt, hfew⟩ : O = Tb.pparts (fs.drop (m + 1)) (Tb.lastK G) (xss ++ [G]))
              have d1 : decide ((16384 : Int) < (CG : Int)) = false := by simp; omega
              have hlm2 : Hid ((xss ++ [G]).length = m + 1) := (by rw [List.length_append, hlm.out]; rfl : (xss ++ [G]).length = m + 1)
              have Hc2 : Hid (CG = (Tb.joined (xss ++ [G])).length) := (by rw [Tb.joined_snoc, List.length_append, ← Hcn.out, HGL.out, HCG.out] : CG = (Tb.joined (xss ++ [G])).length)
              have HLT : Hid (Na.lt (kb last) (Tb.firstKey G) = true) := hlt
              clear HN HS hG hlt Hcn hlm HGL
              go_wp2_with (first
                | (go_at_call 32; go_must (refine (hge _ b2).mono ?_; rintro e w3 ⟨a3, c3, hs3, rfl, o3, h3, b3⟩; have hS3 := hS2.on b3; have hbx3 := (b3.block b0 (Array.getElem?_eq_some_iff.1 hbx2).1).trans hbx2; have hP3 := hP2.out.keeps (fun _ _ _ h => owns_below h b3) (fun _ _ _ h => owns_below h b3); have o3' := owns_base o3 hS2.below.size; have h3' := h3.base hS2.below.size; have hI3 := own_ini3 o3' h3' (by omega); obtain ⟨K0, K1, p1, p2, q1, q2⟩ := HKEY.out w3 hs3 h3.all; have hf3 := tfirst_any _ _ _ _ _ w3 hI3 hGp; rw [p1] at hf3; have P2 : Hid ((hs3.getD (GL - 1) ihz).key = K1) := p2; clear p1 p2; have hl1 : Op.bytesLess K0.toList last.toList = false := (by rw [less_kb, q1]; exact It.lt_asymm HLT.out); have hl2 : (K0.toList == last.toList) = false := (str_eq false (by rw [q1]; simp only [Bool.false_eq_true, false_iff]; exact fun e => It.lt_ne HLT.out e.symm)); obtain ⟨x0, x1, -⟩ := hS3.cells))
                | (go_at_call 33; go_must (refine hf3.mono ?_; rintro e w4 ⟨rfl, hw⟩; rw [hw]; clear hw w4))
                | (go_at_call 34; go_must (refine (hadd _ a3 c3 hS3).mono ?_; rintro e w5 ⟨rfl, la5, lc5, hS5, hk5⟩; have hbx5 := (hk5.2 b0 (Array.getElem?_eq_some_iff.1 hbx3).1 H01.out.2 (box_apart hbx3 hS3.own (by decide))).trans hbx3; have hP5 : Hid (POwn (fun W g x => ItHeld W w.heap.size g x) w5 w.heap.size (ps ++ [⟨a3, GL, c3⟩]) (gss ++ [hs3]) (xss ++ [G])) := ((POwn.snoc hP3 o3' (by omega) h3').keeps (fun _ _ _ h => AddKeeps.owns hS3 hk5 h (by decide) (by decide)) (fun _ _ _ h => AddKeeps.owns hS3 hk5 h (by decide) (by decide))); have o5 := AddKeeps.owns hS3 hk5 o3' (by decide) (by decide); have h5 : ItHeld w5 w.heap.size hs3 G := (⟨h3'.1, fun j hj => (h3'.2 j hj).of_own (AddKeeps.owns hS3 hk5 (h3'.2 j hj).2 (by decide) (by decide))⟩); have hl5 := tlast_any _ _ _ _ _ w5 (own_ini3 o5 h5 (by omega)) hGp (by omega); rw [P2.out] at hl5))
                | (go_at_call 35; go_must (refine hl5.mono ?_; rintro e w6 ⟨rfl, hw⟩; rw [hw]; clear hw w6)))
              rw [← q2] at HE
              go_roundg g
              case measure => omega
              case rel => exact ⟨m + 1, m + 1, lc5, CG, _, la5, _, _, _, by omega, rfl, hfew, by go_num, rfl, HE, hlm2, Hc2, hP5, hS5, hbx5⟩
            · have HE : Hid (O = none) := (HS.out (fun h => hfew h.2.2.2) : O = none)
              have d1 : decide ((16384 : Int) < (CG : Int)) = true := by simp; omega
              have HLT : Hid (Na.lt (kb last) (Tb.firstKey G) = true) := hlt
              clear HN HS hG hlt Hcn hlm HGL hadd
              go_wp2_with (first
                | (go_at_call 32; go_must (refine (hge _ b2).mono ?_; rintro e w3 ⟨a3, c3, hs3, rfl, o3, h3, b3⟩; have hS3 := hS2.on b3; have hbx3 := (b3.block b0 (Array.getElem?_eq_some_iff.1 hbx2).1).trans hbx2; have y0 := (Go.Joins.cell_of_block hbx3 0).trans rfl; have y1 := (Go.Joins.cell_of_block hbx3 1).trans rfl; have f0 := Go.Joins.unfrozen_of_block hbx3 0; have f1 := Go.Joins.unfrozen_of_block hbx3 1; have hI3 := own_ini3 o3 h3 (by omega); obtain ⟨K0, K1, p1, p2, q1, q2⟩ := HKEY.out w3 hs3 h3.all; have hf3 := tfirst_any _ _ _ _ _ w3 hI3 hGp; rw [p1] at hf3; have P2 : Hid ((hs3.getD (GL - 1) ihz).key = K1) := p2; clear p1 p2; have hl1 : Op.bytesLess K0.toList last.toList = false := (by rw [less_kb, q1]; exact It.lt_asymm HLT.out); have hl2 : (K0.toList == last.toList) = false := (str_eq false (by rw [q1]; simp only [Bool.false_eq_true, false_iff]; exact fun e => It.lt_ne HLT.out e.symm)); obtain ⟨x0, x1, -⟩ := hS3.cells))
                | (go_at_call 33; go_must (refine hf3.mono ?_; rintro e w4 ⟨rfl, hw⟩; rw [hw]; clear hw w4)))
              refine bodyPost_ret (v := .tuple #[.agg #[.slice none 0 0, .int .i64 0], .int .i64 2]) ?_ rfl (gp_none HE.out (Nat.le_of_eq H01.out.1) hS3.below)
              simp [results, Tryz.results12, go_sem, y0, y1]
          · have HE : Hid (O = none) := (HS.out (fun h => hlt h.2.2.1) : O = none)
            have hle : Na.lt (Tb.firstKey G) (kb last) = true ∨ (Na.lt (Tb.firstKey G) (kb last) = false ∧ Tb.firstKey G = kb last) := by
              rcases It.lt_total (Tb.firstKey G) (kb last) with h | h | h
              · exact .inl h
              · exact .inr ⟨by rw [h]; exact It.lt_irrefl _, h⟩
              · exact absurd h hlt
            clear HN HS hG hlt Hcn hlm HGL hadd
            rcases hle with hle | ⟨hle, hle2⟩
            · have HLE : Hid (Na.lt (Tb.firstKey G) (kb last) = true) := hle
              clear hle
              go_wp2_with (first
                | (go_at_call 32; go_must (refine (hge _ b2).mono ?_; rintro e w3 ⟨a3, c3, hs3, rfl, o3, h3, b3⟩; have hS3 := hS2.on b3; have hbx3 := (b3.block b0 (Array.getElem?_eq_some_iff.1 hbx2).1).trans hbx2; have y0 := (Go.Joins.cell_of_block hbx3 0).trans rfl; have y1 := (Go.Joins.cell_of_block hbx3 1).trans rfl; have f0 := Go.Joins.unfrozen_of_block hbx3 0; have f1 := Go.Joins.unfrozen_of_block hbx3 1; have hI3 := own_ini3 o3 h3 (by omega); obtain ⟨K0, K1, p1, p2, q1, q2⟩ := HKEY.out w3 hs3 h3.all; have hf3 := tfirst_any _ _ _ _ _ w3 hI3 hGp; rw [p1] at hf3; have P2 : Hid ((hs3.getD (GL - 1) ihz).key = K1) := p2; clear p1 p2; have hl1 : Op.bytesLess K0.toList last.toList = true := (by rw [less_kb, q1]; exact HLE.out); have hl2 : (K0.toList == last.toList) = false := (str_eq false (by rw [q1]; simp only [Bool.false_eq_true, false_iff]; exact It.lt_ne HLE.out))))
                | (go_at_call 33; go_must (refine hf3.mono ?_; rintro e w4 ⟨rfl, hw⟩; rw [hw]; clear hw w4)))
              refine bodyPost_ret (v := .tuple #[.agg #[.slice none 0 0, .int .i64 0], .int .i64 2]) ?_ rfl (gp_none HE.out (Nat.le_of_eq H01.out.1) hS3.below)
              simp [results, Tryz.results12, go_sem, y0, y1]
            · have HLE : Hid (Na.lt (Tb.firstKey G) (kb last) = false) := hle
              have HLE2 : Hid (Tb.firstKey G = kb last) := hle2
              clear hle hle2
              go_wp2_with (first
                | (go_at_call 32; go_must (refine (hge _ b2).mono ?_; rintro e w3 ⟨a3, c3, hs3, rfl, o3, h3, b3⟩; have hS3 := hS2.on b3; have hbx3 := (b3.block b0 (Array.getElem?_eq_some_iff.1 hbx2).1).trans hbx2; have y0 := (Go.Joins.cell_of_block hbx3 0).trans rfl; have y1 := (Go.Joins.cell_of_block hbx3 1).trans rfl; have f0 := Go.Joins.unfrozen_of_block hbx3 0; have f1 := Go.Joins.unfrozen_of_block hbx3 1; have hI3 := own_ini3 o3 h3 (by omega); obtain ⟨K0, K1, p1, p2, q1, q2⟩ := HKEY.out w3 hs3 h3.all; have hf3 := tfirst_any _ _ _ _ _ w3 hI3 hGp; rw [p1] at hf3; have P2 : Hid ((hs3.getD (GL - 1) ihz).key = K1) := p2; clear p1 p2; have hl1 : Op.bytesLess K0.toList last.toList = false := (by rw [less_kb, q1]; exact HLE.out); have hl2 : (K0.toList == last.toList) = true := (str_eq true (by rw [q1]; simp only [true_iff]; exact HLE2.out))))
                | (go_at_call 33; go_must (refine hf3.mono ?_; rintro e w4 ⟨rfl, hw⟩; rw [hw]; clear hw w4)))
              refine bodyPost_ret (v := .tuple #[.agg #[.slice none 0 0, .int .i64 0], .int .i64 2]) ?_ rfl (gp_none HE.out (Nat.le_of_eq H01.out.1) hS3.below)
              simp [results, Tryz.results12, go_sem, y0, y1]
      · have HE := HS.out (fun h => hkd h.1)
        have HE' : Hid (O = none) := HE
        have e1 : (kind == 1) = false := by simp [hkd]
        clear HE HS HN hgl hge hkd
        go_wp2
        refine bodyPost_ret (v := .tuple #[.agg #[.slice none 0 0, .int .i64 0], .int .i64 2]) ?_ rfl ?_
        · simp [results, Tryz.results12, go_sem, y0, y1]
        · first | exact gp_none HE'.out (Nat.le_of_eq H01.out.1) hS2.below | exact .inl ⟨HE'.out, rfl, ((hS.below.setCell (Nat.le_of_eq H01.out.1) _).setCell (Nat.le_of_eq H01.out.1) _).alloc (by have := hS.below.size; simpa using this) _⟩
end Go.Proofs.YtikieblokfjphaaGreat
