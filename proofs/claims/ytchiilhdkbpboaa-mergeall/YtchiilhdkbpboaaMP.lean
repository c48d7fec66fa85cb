/- What the program's walks do: Begin. -/
import Derived.Test.YtchiilhdkbpboaaMN
import Derived.Test.YtchiilhdkbpboaaMO
namespace Go.Proofs.Ytchiilhdkbpboaa
open Go.RowKit

/-- origins whose items' bytes are the call's own -/
def OHeld (w : World) (B : Nat) (os : List OH) (ys : List Mg.Y) : Prop := os.length = ys.length ∧ ∀ i, i < ys.length → OwnIt w B (os.getD i ohz).h (ys.getD i Mg.yz).1 ∧ (os.getD i ohz).f = (ys.getD i Mg.yz).2
theorem OHeld.all {w : World} {B : Nat} {os : List OH} {ys : List Mg.Y} (h : OHeld w B os ys) : OAll w os ys := ⟨h.1, fun i hi => ⟨(h.2 i hi).1.1, (h.2 i hi).2⟩⟩
theorem OHeld.below {w w' : World} {B : Nat} {os : List OH} {ys : List Mg.Y} (h : OHeld w B os ys) (hb : Below w.heap.size w w') : OHeld w' B os ys := ⟨h.1, fun i hi => ⟨(h.2 i hi).1.below hb, (h.2 i hi).2⟩⟩
theorem OHeld.grown {w w' : World} {B B' : Nat} {t : TypeId} {z : Nat} {v : Value} {n : Nat} {vs : List Value} {os : List OH} {ys : List Mg.Y} (hv : w.ownsRow B' t z v n vs) (he : (5 : Nat) ≠ t) (hg : w.grownBy w' v.ownBlock) (h : OHeld w B os ys) : OHeld w' B os ys := ⟨h.1, fun i hi => ⟨(h.2 i hi).1.grown hv he hg, (h.2 i hi).2⟩⟩
theorem OHeld.nil (w : World) (B : Nat) : OHeld w B [] [] := ⟨rfl, fun i hi => by simp at hi⟩
theorem OHeld.snoc {w : World} {B : Nat} {os : List OH} {ys : List Mg.Y} {o : OH} {y : Mg.Y} (ha : OHeld w B os ys) (hx : OwnIt w B o.h y.1) (hf : o.f = y.2) : OHeld w B (os ++ [o]) (ys ++ [y]) := by
  refine ⟨by simp [ha.1], fun i hi => ?_⟩
  have hl := ha.1
  rw [List.length_append, List.length_singleton] at hi
  rcases Nat.lt_or_ge i ys.length with h' | h'
  · rw [List.getD_eq_getElem?_getD, List.getElem?_append_left (by omega), ← List.getD_eq_getElem?_getD, List.getD_eq_getElem?_getD (l := ys ++ [y]), List.getElem?_append_left h', ← List.getD_eq_getElem?_getD]
    exact ha.2 i h'
  · obtain rfl : i = ys.length := by omega
    rw [show (ys ++ [y]).getD ys.length Mg.yz = y by simp, ← hl, show (os ++ [o]).getD os.length ohz = o by simp]
    exact ⟨hx, hf⟩
/-- the item of an origin in a row is written -/
theorem set_item (A t : List OH) (o : OH) (h : IH) (k : Nat) (hk : A.length = k) :
    ((((((((tcells oe (A ++ o :: t)).set (k * 9) (.string h.key)).set (k * 9 + 1) (.bool h.dead)).set (k * 9 + 2) (.bool h.far)).set (k * 9 + 3) (.slice h.a h.n h.c)).set (k * 9 + 4) (.int .i64 h.p.1)).set (k * 9 + 5) (.int .i64 h.p.2.1)).set (k * 9 + 6) (.int .i64 h.p.2.2.1)).set (k * 9 + 7) (.int .u32 (h.p.2.2.2 : Nat)) = tcells oe ((A ++ [⟨h, o.f⟩]) ++ t) := by
  have e1 : tcells oe (A ++ o :: t) = tcells oe A ++ (oe o ++ tcells oe t) := by rw [tcells_append]; rfl
  have e2 : tcells oe ((A ++ [⟨h, o.f⟩]) ++ t) = tcells oe A ++ (oe ⟨h, o.f⟩ ++ tcells oe t) := by rw [tcells_append, tcells_append, List.append_assoc]; rfl
  have hl : (tcells oe A).length = k * 9 := by rw [tcells_length oeE, hk]
  rw [e1, e2, ← hl]
  simp [List.set_append_right, oe]
theorem get_item (A t : List OH) (o : OH) (k j : Nat) (v : Value) (hk : A.length = k) (hj : (oe o)[j]? = some v) : (tcells oe (A ++ o :: t))[k * 9 + j]? = some v := by
  have e1 : tcells oe (A ++ o :: t) = tcells oe A ++ (oe o ++ tcells oe t) := by rw [tcells_append]; rfl
  have hl : (tcells oe A).length = k * 9 := by rw [tcells_length oeE, hk]
  have hj9 : j < 9 := by
    rcases Nat.lt_or_ge j 9 with h | h
    · exact h
    · rw [List.getElem?_eq_none (by rw [oeE.len]; exact h)] at hj; cases hj
  rw [e1, List.getElem?_append_right (by omega), hl, show k * 9 + j - k * 9 = j by omega, List.getElem?_append_left (by rw [oeE.len]; exact hj9)]
  exact hj
/-- a walk of the call's own is told -/
def BeginRes (w : World) (L : List Mg.Y) (e : Ending) (w' : World) : Prop :=
  ∃ W0 b a n c os, e = .returned (.tuple #[.pointer (some ⟨b, 0, none⟩), .int .i64 0]) ∧ WalkAt W0 w' b a n c os L ∧ w.heap.size ≤ b ∧ b < w'.heap.size ∧ Below w.heap.size w w'
theorem begin_fin {w W : World} {L : List Mg.Y} {a : Option Addr} {n c : Nat} {os : List OH} (hown : W.ownsRow w.heap.size 68 9 (.slice a n c) n (tcells oe os)) (hA : OAll W os L) (hn : n ≤ 1000000000) (hb : Below w.heap.size w W) : BeginRes w L (.returned (.tuple #[.pointer (some ⟨W.heap.size, 0, none⟩), .int .i64 0])) (W.alloc (.cells #[.slice a n c] 57)) :=
  ⟨W, W.heap.size, a, n, c, os, rfl, ⟨Nat.le_refl _, below_alloc _ _, heap_alloc_new _ _, so_of_owns hown hA hn⟩, hb.size, by simp, hb.alloc hb.size _⟩

set_option maxRecDepth 100000 in
set_option maxHeartbeats 4000000 in
theorem mbegin_yes (a : Option Addr) (n c : Nat) (ps : List PH) (gss : List (List IH)) (xss : List (List It.I)) (w : World) (hi : InP w a n ps gss xss) (hnc : n ≤ c) (hsz : ∀ i, i < n → (ps.getD i phz).n ≤ 100000) (hm : Mg.may xss = true) :
    Calls Try.prog 13 #[.slice a n c] w (BeginRes w (Mg.tag xss 0)) := by
  obtain ⟨hU, -, hl⟩ := Mg.may_keys hm
  rw [hi.len] at hl
  have hck := mcheck_any a n c ps gss xss w hi hsz
  rw [hm, if_pos rfl] at hck
  have hmg := fun W (hW : Below w.heap.size w W) => mmerged_any w n a n c ps gss xss 0 W (Nat.le_refl _) hi hnc hU hsz (by omega) (by omega) hW
  have hl1 := Mg.tag_len 100000 0 (parts_le hi hsz)
  rw [hi.len] at hl1
  have hsm := tag_small hU (mg_small hm) 0
  have hl2 : Hid ((Mg.tag xss 0).length ≤ 100000000) := (by omega : (Mg.tag xss 0).length ≤ 100000000)
  generalize Mg.tag xss 0 = T at *
  have Hsm : Hid (∀ y ∈ T, Small y.1) := hsm
  obtain ⟨N, hN⟩ : ∃ N, N = T.length := ⟨_, rfl⟩
  have HN : Hid (N = T.length) := hN
  have hmg2 : ∀ W, Below w.heap.size w W → Calls Try.prog 23 #[.slice a n c, .int .i64 0] W fun e w' => ∃ a c os, e = .returned (.slice a N c) ∧ Hid (w'.ownsRow W.heap.size 68 9 (.slice a N c) N (tcells oe os)) ∧ Hid (OAll w os T) ∧ Below W.heap.size W w' := fun W hW => (hmg W hW).mono fun e w' ⟨a, c, os, h1, h2, h3, h4⟩ => ⟨a, c, os, by rw [hN]; exact h1, (by rw [hN]; exact h2 : w'.ownsRow W.heap.size 68 9 (.slice a N c) N (tcells oe os)), h3, h4⟩
  have hNl : N ≤ 100000000 := by rw [hN]; exact hl2.out
  clear hi hsz hm hU hsm hl1 hN hmg hl2 hnc
  go_enter Try.func13, Try.ntmps13
  go_wp2_with (first
    | (go_at_call 22; go_must (refine hck.mono ?_; rintro e w1 ⟨rfl, hb1⟩))
    | (go_at_call 23; go_must (refine (hmg2 _ hb1).mono ?_; rintro e w2 ⟨a2, c2, os2, rfl, ho2, hA2, hbel2⟩; have hb2 := hb1.trans (hbel2.mono hb1.size))))
  have ho3 : w2.ownsRow w.heap.size 68 9 (.slice a2 N c2) N (tcells oe os2) := owns_base ho2.out hb1.size
  clear ho2 hmg2 hck
  go_loopw [17] (fun i wr => ∃ (k : Nat) (nw : List OH), k ≤ N ∧ i = .int .i64 k ∧ wr.ownsRow w.heap.size 68 9 (.slice a2 N c2) N (tcells oe (nw ++ os2.drop k)) ∧ Hid (OHeld wr w.heap.size nw (T.take k)) ∧ Hid (nw.length = k) ∧ Below w.heap.size w wr) (fun i _ => N - (intOf i).toNat)
  case atStart => exact ⟨0, [], by omega, rfl, ho3, (OHeld.nil _ _ : OHeld w2 w.heap.size [] (T.take 0)), (rfl : ([] : List OH).length = 0), hb2⟩
  case round =>
    obtain ⟨k, nw, hk, rfl, hown, HH, Hk, hbel⟩ := hrel
    clear ho3 hb2
    by_cases hlt : k < N
    · have hkT : k < T.length := by have := HN.out; omega
      have hko : k < os2.length := by rw [hA2.out.1]; exact hkT
      obtain ⟨g, rfl⟩ : ∃ g, a2 = some ⟨g, 0, none⟩ := by
        rcases hown.2 with ⟨e, h0⟩ | ⟨g, cap, cur, e, _⟩
        · omega
        · simp only [Value.slice.injEq] at e; exact ⟨g, e.1⟩
      have hgB := (own_lt hown).2
      have hI := hA2.out.2 k hkT
      have hsx := Hsm.out (T.getD k Mg.yz) (by rw [List.getD_eq_getElem?_getD, List.getElem?_eq_getElem hkT]; exact List.getElem_mem _)
      have hcp := fun (W : World) (hW : Below w.heap.size w W) => mcopied_any (os2.getD k ohz).h (T.getD k Mg.yz).1 W (hI.1.below hW (Nat.le_refl _)) hsx.2 (by rw [← kb_len, hI.1.key]; exact hsx.1)
      have hfe : Hid ((os2.getD k ohz).f = (T.getD k Mg.yz).2) := hI.2
      have hTk : Hid (T.take (k + 1) = T.take k ++ [T.getD k Mg.yz]) := (by rw [List.take_add_one, List.getElem?_eq_getElem hkT, List.getD_eq_getElem?_getD, List.getElem?_eq_getElem hkT]; rfl : T.take (k + 1) = T.take k ++ [T.getD k Mg.yz])
      rw [drop_cons ohz hko] at hown
      generalize os2.getD k ohz = o at *
      generalize T.getD k Mg.yz = y at *
      obtain ⟨t, hte⟩ : ∃ t, t = os2.drop (k + 1) := ⟨_, rfl⟩
      have HT : Hid (t = os2.drop (k + 1)) := hte
      rw [← hte] at hown
      clear hte
      have hge := fun j v (hj : (oe o)[j]? = some v) => get_item nw t o k j v Hk.out hj
      have E : Hid ((tcells oe (nw ++ o :: t))[k * 9]? = some (.string o.h.key) ∧ (tcells oe (nw ++ o :: t))[k * 9 + 1]? = some (.bool o.h.dead) ∧ (tcells oe (nw ++ o :: t))[k * 9 + 2]? = some (.bool o.h.far) ∧ (tcells oe (nw ++ o :: t))[k * 9 + 3]? = some (.slice o.h.a o.h.n o.h.c) ∧ (tcells oe (nw ++ o :: t))[k * 9 + 4]? = some (.int .i64 o.h.p.1) ∧ (tcells oe (nw ++ o :: t))[k * 9 + 5]? = some (.int .i64 o.h.p.2.1) ∧ (tcells oe (nw ++ o :: t))[k * 9 + 6]? = some (.int .i64 o.h.p.2.2.1) ∧ (tcells oe (nw ++ o :: t))[k * 9 + 7]? = some (.int .u32 (o.h.p.2.2.2 : Nat)) ∧ (tcells oe (nw ++ o :: t))[k * 9 + 8]? = some (.int .i64 (o.f : Nat))) := (⟨hge 0 _ rfl, hge 1 _ rfl, hge 2 _ rfl, hge 3 _ rfl, hge 4 _ rfl, hge 5 _ rfl, hge 6 _ rfl, hge 7 _ rfl, hge 8 _ rfl⟩ : _ ∧ _)
      obtain ⟨e0, e1, e2, e3, e4, e5, e6, e7, e8⟩ := E.out
      have y0 := (own_cells hown e0).1
      have y1 := (own_cells hown e1).1
      have y2 := (own_cells hown e2).1
      have y3 := (own_cells hown e3).1
      have y4 := (own_cells hown e4).1
      have y5 := (own_cells hown e5).1
      have y6 := (own_cells hown e6).1
      have y7 := (own_cells hown e7).1
      have y8 := (own_cells hown e8).1
      clear e0 e1 e2 e3 e4 e5 e6 e7 e8 hge hI hsx hkT hko
      have Hown : Hid (wr.ownsRow w.heap.size 68 9 (.slice (some ⟨g, 0, none⟩) N c2) N (tcells oe (nw ++ o :: t))) := hown
      have hgl := (own_lt hown).1
      have hn1 : ¬ (g = wr.heap.size) := by omega
      have hn2 : ¬ (wr.heap.size = g) := by omega
      have j0 : (0 : Int) ≤ (k : Int) := by omega
      have j1 : (k : Int) < (N : Int) := by omega
      have j2 : IntKind.i64.wrap ((k : Int) + 1) = (k : Int) + 1 := by rw [IntKind.wrap_i64]; omega
      obtain ⟨⟨key, dead, far, qa, qn, qc, ⟨p1, p2, p3, p4⟩⟩, fr⟩ := o
      simp only at y0 y1 y2 y3 y4 y5 y6 y7 y8 hcp hfe
      have b2 := hbel.alloc hbel.size (.cells #[.string key, .bool dead, .bool far, .slice qa qn qc, .int .i64 p1, .int .i64 p2, .int .i64 p3, .int .u32 (p4 : Nat), .int .i64 (fr : Nat)] 68)
      clear hown
      go_wp2_with (go_at_call 28; go_must (refine (hcp _ b2).mono ?_; rintro e w4 ⟨⟨k4, d4, f4, a4, n4, c4, ⟨t1, t2, t3, t4⟩⟩, rfl, o4, -, b4⟩; have ow4 := owns_below (Hown.out.alloc (.cells #[.string key, .bool dead, .bool far, .slice qa qn qc, .int .i64 p1, .int .i64 p2, .int .i64 p3, .int .u32 (p4 : Nat), .int .i64 (fr : Nat)] 68)) b4; have hb4 := b2.trans (b4.mono b2.size); obtain ⟨e0, e1, e2, e3, e4, e5, e6, e7, e8⟩ := E.out; have z0 := (own_cells ow4 e0).1; have f0 := (own_cells ow4 e0).2; have z1 := (own_cells ow4 e1).1; have f1 := (own_cells ow4 e1).2; have z2 := (own_cells ow4 e2).1; have f2 := (own_cells ow4 e2).2; have z3 := (own_cells ow4 e3).1; have f3 := (own_cells ow4 e3).2; have z4 := (own_cells ow4 e4).1; have ff4 := (own_cells ow4 e4).2; have z5 := (own_cells ow4 e5).1; have f5 := (own_cells ow4 e5).2; have z6 := (own_cells ow4 e6).1; have f6 := (own_cells ow4 e6).2; have z7 := (own_cells ow4 e7).1; have f7 := (own_cells ow4 e7).2; clear e0 e1 e2 e3 e4 e5 e6 e7 e8))
      have hown5 := (own_store (own_store (own_store (own_store (own_store (own_store (own_store (own_store ow4 (k * 9) (.string k4)) (k * 9 + 1) (.bool d4)) (k * 9 + 2) (.bool f4)) (k * 9 + 3) (.slice a4 n4 c4)) (k * 9 + 4) (.int .i64 t1)) (k * 9 + 5) (.int .i64 t2)) (k * 9 + 6) (.int .i64 t3)) (k * 9 + 7) (.int .u32 (t4 : Nat)))
      have hset := set_item nw t ⟨⟨key, dead, far, qa, qn, qc, (p1, p2, p3, p4)⟩, fr⟩ ⟨k4, d4, f4, a4, n4, c4, (t1, t2, t3, t4)⟩ k Hk.out
      simp only at hset
      rw [hset] at hown5
      have hgr5 := (((((((((turned_set _ g (k * 9) (.string k4)).trans (turned_set _ g (k * 9 + 1) (.bool d4))).trans (turned_set _ g (k * 9 + 2) (.bool f4))).trans (turned_set _ g (k * 9 + 3) (.slice a4 n4 c4))).trans (turned_set _ g (k * 9 + 4) (.int .i64 t1))).trans (turned_set _ g (k * 9 + 5) (.int .i64 t2))).trans (turned_set _ g (k * 9 + 6) (.int .i64 t3))).trans (turned_set _ g (k * 9 + 7) (.int .u32 (t4 : Nat)))) : World.grownBy w4 _ _)
      have hH4 := ((HH.out.below (below_alloc _ _)).below b4).snoc (o := ⟨⟨k4, d4, f4, a4, n4, c4, (t1, t2, t3, t4)⟩, fr⟩) (y := y) ⟨o4.1, owns_base o4.2 (by simp; exact Nat.le_trans hbel.size (Nat.le_succ _))⟩ hfe.out
      have hH5 := OHeld.grown ow4 (by decide) hgr5 hH4
      rw [← hTk.out] at hH5
      have HH5 : Hid (_) := hH5
      have hb5 := hb4.grown hgr5 hb4.size (fun k hk => by cases hk; exact hgB)
      have Hk5 : Hid ((nw ++ [(⟨⟨k4, d4, f4, a4, n4, c4, (t1, t2, t3, t4)⟩, fr⟩ : OH)]).length = k + 1) := (by rw [List.length_append, Hk.out]; rfl : (nw ++ [(⟨⟨k4, d4, f4, a4, n4, c4, (t1, t2, t3, t4)⟩, fr⟩ : OH)]).length = k + 1)
      clear hgr5 hH4 hH5 hset
      go_roundw
      case rel => exact ⟨k + 1, _, by omega, by go_num, (by rw [← HT.out]; exact hown5), HH5, Hk5, hb5⟩
      case measure => simp [intOf]; omega
    · obtain rfl : k = N := by omega
      have hd : os2.drop k = [] := List.drop_of_length_le (by rw [hA2.out.1, ← HN.out]; omega)
      rw [hd, List.append_nil] at hown
      have hT : T.take k = T := List.take_of_length_le (by rw [← HN.out]; omega)
      rw [hT] at HH
      have HA : Hid (OAll wr nw T) := HH.out.all
      clear hd hT HH hA2 Hsm
      go_wp2
      go_ret2
      exact begin_fin hown HA.out (by omega) hbel

set_option maxRecDepth 100000 in
set_option maxHeartbeats 1000000 in
theorem mbegin_no (a : Option Addr) (n c : Nat) (ps : List PH) (gss : List (List IH)) (xss : List (List It.I)) (w : World) (hi : InP w a n ps gss xss) (hsz : ∀ i, i < n → (ps.getD i phz).n ≤ 100000) (hm : Mg.may xss = false) :
    Calls Try.prog 13 #[.slice a n c] w fun e w' => e = .returned (.tuple #[.pointer none, .int .i64 1]) ∧ Below w.heap.size w w' := by
  have hck := mcheck_any a n c ps gss xss w hi hsz
  rw [hm] at hck
  simp only [Bool.false_eq_true, if_false] at hck
  clear hi hsz hm
  go_enter Try.func13, Try.ntmps13
  go_wp2_with (go_at_call 22; go_must (refine hck.mono ?_; rintro e w1 ⟨rfl, hb1⟩))
  go_ret2
  exact ⟨rfl, hb1⟩
/-- the next item of a walk -/
theorem mnext_yes {W0 w : World} {b : Nat} {a : Option Addr} {n c : Nat} {os : List OH} {y : Mg.Y} {t : List Mg.Y} (hw : WalkAt W0 w b a n c os (y :: t)) (hsm : Small y.1) :
    Calls Try.prog 19 #[.pointer (some ⟨b, 0, none⟩)] w fun e w' => ∃ h a' n' c', e = .returned (.tuple #[iv h, .int .i64 (y.2 : Nat), .bool true]) ∧ IsItem w' h y.1 ∧ WalkAt W0 w' b a' n' c' (os.drop 1) t ∧ Only (fun k => k = b) w w' := by
  have hl := hw.so.len
  rw [List.length_cons] at hl
  have hol := hw.so.1.1
  obtain ⟨a1, o1, rfl, hc⟩ := hw.so.1.origins (by omega)
  obtain ⟨q, p, rfl⟩ : ∃ x t, os = x :: t := by cases os with | nil => simp at hol; omega | cons x t => exact ⟨x, t, rfl⟩
  have hI0 : IsO W0 q y := by have := hw.so.2.1.2 0 (by simp); simpa using this
  have hC0 : OCells W0 a1 o1 q := by have := hc 0 (by omega); simpa using this
  have hlt : a1 < b := Nat.lt_of_lt_of_le (cell_lt hC0.1) hw.low
  have hC := hC0.below hw.bel (Nat.le_refl _)
  have hI : ∀ W, Below b w W → IsItem W q.h y.1 := fun W hW => hI0.1.below (hw.bel.trans (hW.mono hw.low)) (Nat.le_refl _)
  have hB : W0.heap.size ≤ w.heap.size := hw.bel.size
  have hcc := hw.so.2.2.2
  rw [← hI0.2]
  by_cases hc1 : c = 1
  · obtain rfl : n = 1 := by omega
    subst hc1
    refine (mnext_last b a1 o1 q y.1 w hw.head hlt hC hI hsm).mono ?_
    rintro e w' ⟨h, he, hit, hhd, ho⟩
    exact ⟨h, _, _, _, he, hit, ⟨hw.low, ho.below (fun k hk => by rw [hk]; exact hw.low) hw.bel hB, hhd, hw.so.end _ rfl⟩, ho⟩
  · refine (mnext_more b a1 o1 n c q y.1 w hw.head (by omega) hcc hc1 hlt hC hI hsm).mono ?_
    rintro e w' ⟨h, he, hit, hhd, ho⟩
    exact ⟨h, _, _, _, he, hit, ⟨hw.low, ho.below (fun k hk => by rw [hk]; exact hw.low) hw.bel hB, hhd, hw.so.tail (by omega)⟩, ho⟩
end Go.Proofs.Ytchiilhdkbpboaa
