/- own of the program: a roster that shares no memory. -/
import Derived.Test.YtmodogmjfbcddaaGreatRF
import Derived.Test.YtmodogmjfbcddaaGreatGa
namespace Go.Proofs.YtmodogmjfbcddaaGreat
open Go.RowKit

theorem bput {W : World} {g i : Nat} {cs cs' : Array Value} {e : TypeId} (h : W.heap[g]? = some (.cells cs e (0, 0))) (v : Value) (hc : cs.setIfInBounds i v = cs') : (W.setCell ⟨g, i, none⟩ v).heap[g]? = some (.cells cs' e (0, 0)) := by
  subst hc
  have hg := ob_ltB h
  simp only [World.setCell]
  simp [h, Array.getElem?_modify]
theorem set_same {xs : List Value} {i : Nat} {v : Value} (h : xs[i]? = some v) : xs.set i v = xs := by
  apply List.ext_getElem?
  intro j
  rw [List.getElem?_set]
  split
  · next e => subst e; rw [h]; split
              · rfl
              · next hn => rw [List.getElem?_eq_none (by omega)] at h; cases h
  · rfl
theorem town_g {w : World} {B E s n c : Nat} {a : Option Addr} {xs : List Value} (h : w.ownsRow B E s (.slice a n c) n xs) (hn : 0 < n) : ∃ g, a = some ⟨g, 0, none⟩ := by
  rcases h.2 with ⟨e, h0⟩ | ⟨g, cap, cur, e, _⟩
  · omega
  · simp only [Value.slice.injEq] at e; exact ⟨g, e.1⟩
theorem town5 {k : Nat} {l : List Lv.T} (hk : k < l.length) :
    ∃ x1 x2 x3 x4 x5, Hid (l.getD k Lv.zero = ⟨x1, x2, x3, x4, x5⟩) ∧ ((tcells le l)[k * 5]? = some (.int .i64 x1) ∧ (tcells le l)[k * 5 + 1]? = some (.int .i64 x2) ∧ (tcells le l)[k * 5 + 2]? = some (.int .i64 x3) ∧ (tcells le l)[k * 5 + 3]? = some (.string x4) ∧ (tcells le l)[k * 5 + 4]? = some (.string x5)) := by
  have hg := fun j hj => tcells_get (d := Lv.zero) leE l k j hk hj
  generalize l.getD k Lv.zero = x at hg
  obtain ⟨x1, x2, x3, x4, x5⟩ := x
  exact ⟨x1, x2, x3, x4, x5, (rfl : _ = _), hg 0 (by omega), hg 1 (by omega), hg 2 (by omega), hg 3 (by omega), hg 4 (by omega)⟩
theorem own_set5 {w : World} {B E s g n c k : Nat} {xs : List Value} {v0 v1 v2 v3 v4 : Value} (h : w.ownsRow B E s (.slice (some ⟨g, 0, none⟩) n c) n xs) (h0 : xs[k]? = some v0) (h1 : xs[k + 1]? = some v1) (h2 : xs[k + 2]? = some v2) (h3 : xs[k + 3]? = some v3) (h4 : xs[k + 4]? = some v4) :
    (((((w.setCell ⟨g, k, none⟩ v0).setCell ⟨g, k + 1, none⟩ v1).setCell ⟨g, k + 2, none⟩ v2).setCell ⟨g, k + 3, none⟩ v3).setCell ⟨g, k + 4, none⟩ v4).ownsRow B E s (.slice (some ⟨g, 0, none⟩) n c) n xs := by
  have a0 := own_store h k v0
  rw [set_same h0] at a0
  have a1 := own_store a0 (k + 1) v1
  rw [set_same h1] at a1
  have a2 := own_store a1 (k + 2) v2
  rw [set_same h2] at a2
  have a3 := own_store a2 (k + 3) v3
  rw [set_same h3] at a3
  have a4 := own_store a3 (k + 4) v4
  rwa [set_same h4] at a4

/-- the rows of a roster, the call's own -/
structure ROwn (B : Nat) (w : World) (a1 : Option Addr) (n1 c1 : Nat) (a2 : Option Addr) (n2 c2 : Nat) (a3 : Option Addr) (n3 c3 : Nat) (a4 : Option Addr) (n4 c4 : Nat) (r : Ro.R) : Prop where
  o1 : w.ownsRow B 3 1 (.slice a1 n1 c1) n1 (tcells ze r.segs)
  o2 : w.ownsRow B 53 2 (.slice a2 n2 c2) n2 (tcells me r.moves)
  o3 : w.ownsRow B 44 5 (.slice a3 n3 c3) n3 (tcells le r.tabs)
  o4 : w.ownsRow B 67 3 (.slice a4 n4 c4) n4 (tcells ke r.stills)
/-- the rows of a roster, anybody's -/
structure RIn (w : World) (a1 : Option Addr) (n1 c1 : Nat) (a2 : Option Addr) (n2 c2 : Nat) (a3 : Option Addr) (n3 c3 : Nat) (a4 : Option Addr) (n4 c4 : Nat) (r : Ro.R) : Prop where
  r1 : ZRow w a1 n1 r.segs
  r2 : MRow w a2 n2 r.moves
  r3 : LRow w a3 n3 r.tabs
  r4 : KRow w a4 n4 r.stills
  z1 : a1 = none → n1 = 0 ∧ c1 = 0
  z2 : a2 = none → n2 = 0 ∧ c2 = 0
  z3 : a3 = none → n3 = 0 ∧ c3 = 0
  z4 : a4 = none → n4 = 0 ∧ c4 = 0
  m1 : n1 ≤ 1000
  m2 : n2 ≤ 1000
  m3 : n3 ≤ 1000
  m4 : n4 ≤ 1000
  c3 : n3 ≤ c3
  texts : ∀ t ∈ r.tabs, t.first.size ≤ 1000 ∧ t.last.size ≤ 1000
theorem ROwn.len {B : Nat} {w : World} {a1 : Option Addr} {n1 c1 : Nat} {a2 : Option Addr} {n2 c2 : Nat} {a3 : Option Addr} {n3 c3 : Nat} {a4 : Option Addr} {n4 c4 : Nat} {r : Ro.R} (h : ROwn B w a1 n1 c1 a2 n2 c2 a3 n3 c3 a4 n4 c4 r) : r.segs.length = n1 ∧ r.moves.length = n2 ∧ r.tabs.length = n3 ∧ r.stills.length = n4 := by
  have l1 := h.o1.1; have l2 := h.o2.1; have l3 := h.o3.1; have l4 := h.o4.1
  rw [tcells_length zeE] at l1; rw [tcells_length meE] at l2; rw [tcells_length leE] at l3; rw [tcells_length keE] at l4
  omega
theorem ROwn.kept {B : Nat} {w w' : World} {a1 : Option Addr} {n1 c1 : Nat} {a2 : Option Addr} {n2 c2 : Nat} {a3 : Option Addr} {n3 c3 : Nat} {a4 : Option Addr} {n4 c4 : Nat} {r : Ro.R} (h : ROwn B w a1 n1 c1 a2 n2 c2 a3 n3 c3 a4 n4 c4 r) (hb : Below w.heap.size w w') : ROwn B w' a1 n1 c1 a2 n2 c2 a3 n3 c3 a4 n4 c4 r :=
  ⟨own_keptB h.o1 hb, own_keptB h.o2 hb, own_keptB h.o3 hb, own_keptB h.o4 hb⟩
theorem ROwn.other {B p : Nat} {w w' : World} {a1 : Option Addr} {n1 c1 : Nat} {a2 : Option Addr} {n2 c2 : Nat} {a3 : Option Addr} {n3 c3 : Nat} {a4 : Option Addr} {n4 c4 : Nat} {r : Ro.R} {cs : Array Value} {fz : Nat × Nat} (h : ROwn B w a1 n1 c1 a2 n2 c2 a3 n3 c3 a4 n4 c4 r) (hp : w.heap[p]? = some (.cells cs 29 fz)) (hg : w.grownBy w' (some p)) : ROwn B w' a1 n1 c1 a2 n2 c2 a3 n3 c3 a4 n4 c4 r :=
  ⟨h.o1.kept hg (.inr (obr_apart hp h.o1 (by decide)).symm), h.o2.kept hg (.inr (obr_apart hp h.o2 (by decide)).symm), h.o3.kept hg (.inr (obr_apart hp h.o3 (by decide)).symm), h.o4.kept hg (.inr (obr_apart hp h.o4 (by decide)).symm)⟩
theorem below_grownB {B : Nat} {w W W' : World} {row : Option Nat} (h : Below B w W) (hg : W.grownBy W' row) (hB : B ≤ W.heap.size) (hr : ∀ k, row = some k → B ≤ k) : Below B w W' := h.grown hg hB hr
theorem ROwn.rin {B : Nat} {w : World} {a1 : Option Addr} {n1 c1 : Nat} {a2 : Option Addr} {n2 c2 : Nat} {a3 : Option Addr} {n3 c3 : Nat} {a4 : Option Addr} {n4 c4 : Nat} {r : Ro.R} (h : ROwn B w a1 n1 c1 a2 n2 c2 a3 n3 c3 a4 n4 c4 r) (m1 : n1 ≤ 1000) (m2 : n2 ≤ 1000) (m3 : n3 ≤ 1000) (m4 : n4 ≤ 1000) (ht : ∀ t ∈ r.tabs, t.first.size ≤ 1000 ∧ t.last.size ≤ 1000) : RIn w a1 n1 c1 a2 n2 c2 a3 n3 c3 a4 n4 c4 r := by
  have nil : ∀ {E s n c : Nat} {a : Option Addr} {xs : List Value}, w.ownsRow B E s (.slice a n c) n xs → (a = none → n = 0 ∧ c = 0) ∧ n ≤ c := fun {E s n c a xs} ho => by
    obtain ⟨a', c', e, h1, h2⟩ := t_shape ho
    simp only [Value.slice.injEq] at e
    obtain ⟨rfl, _, rfl⟩ := e
    exact ⟨h1, h2⟩
  exact ⟨trow_of_owns zeE h.o1 (by omega) (by omega), trow_of_owns meE h.o2 (by omega) (by omega), trow_of_owns leE h.o3 (by omega) (by omega), trow_of_owns keE h.o4 (by omega) (by omega), (nil h.o1).1, (nil h.o2).1, (nil h.o3).1, (nil h.o4).1, m1, m2, m3, m4, (nil h.o3).2, ht⟩
end Go.Proofs.YtmodogmjfbcddaaGreat

/- Append, with what has turned; which world a step meets. -/
namespace Go.Proofs.YtmodogmjfbcddaaGreat
open Go.RowKit

section
variable {α : Type} {s : Nat} {enc : α → List Value} {d : α}
theorem wp_append_tg {T E : TypeId} {bytes : Nat} {z : Value} (he : Elem T E s bytes z) (hE : Enc s enc) {w0 w : World} {B : Nat} {o : Oper} {a : Act} {K : Act → World → Prop} {Q : Exit → Act → World → Prop} (sl x : Operand)
    (ho : o.op = .call { callee := .builtin .append, args := #[sl, x], argTypes := #[T, T] })
    (v : Value) (n : Nat) (xs : List α) (hs : a.eval sl = v) (hown : w.ownsRow B E s v n (tcells enc xs))
    (ax : Option Addr) (m c : Nat) (ys : List α) (hx : a.eval x = .slice ax m c) (hr : TRow s enc d w ax m ys) (hnil : ax = none → m = 0 ∧ c = 0)
    (hnm : n + m ≤ 1000000000) (hbel : Below B w0 w) (hB : B ≤ w.heap.size)
    (h : ∀ a' c' w', w.grownBy w' v.ownBlock → n + m ≤ c' → (a' = none → n + m = 0 ∧ c' = 0) → (a' = none ↔ v = .slice none 0 0 ∧ m = 0) → w'.ownsRow B E s (.slice a' (n + m) c') (n + m) (tcells enc (xs ++ ys)) → Below B w0 w' → B ≤ w'.heap.size → K (a.put o.dst (.slice a' (n + m) c')) w') : o.wp Tryz.prog a w K Q := by
  obtain ⟨i0, hi, hz0, hz1, hz2⟩ := info_parts he.info
  cases ax with
  | none =>
    obtain ⟨rfl, rfl⟩ := hnil rfl
    have hys : ys = [] := List.length_eq_zero_iff.mp hr.1
    subst hys
    obtain ⟨a', c', rfl, h1, h2⟩ := t_shape hown
    have hrun := run_append_owned_none (P := Tryz.prog) (w := w) B T o.type E i0 s he.und hi (.slice a' n c') n (tcells enc xs) hown
    unfold Oper.wp
    simp [execOp, ho, resolve, invoke, builtin, hs, hx, hrun, Result.andThen]
    refine h a' c' w ⟨rfl, rfl, rfl, Nat.le_refl _, fun _ _ _ => rfl⟩ h2 h1 ?_ (by simpa using hown) hbel hB
    constructor
    · intro e
      obtain ⟨rfl, rfl⟩ := h1 e
      exact ⟨by rw [e], rfl⟩
    · rintro ⟨e, _⟩
      simp only [Value.slice.injEq] at e
      exact e.1
  | some ad =>
    refine wp_append_own w sl x T ho B E i0 _ s bytes he.und hi hz0 hz1 hz2 he.zero he.pos v n (tcells enc xs) hs hown ad m c (tcells enc ys) hx (by rw [tcells_length hE, hr.1]) (hr.cells hE he.pos) (tcells_one hE ys) (by unfold maxLen; omega) ?_ hB ?_
    · have h1 := he.small
      have h2 : (n + m) * bytes ≤ 1000000000 * 1000 := Nat.mul_le_mul hnm h1
      omega
    · intro v' w' hown' hg hn
      obtain ⟨a', c', rfl, h1, h2⟩ := t_shape hown'
      refine h a' c' w' hg h2 h1 ?_ (by rw [tcells_append]; exact hown') (hbel.grown hg hB (fun k hk => (hown.lt k hk).1)) (Nat.le_trans hB hg.size)
      rw [← hn]
      constructor
      · intro e
        obtain ⟨e1, rfl⟩ := h1 e
        rw [e, e1]
      · intro e
        simp only [Value.slice.injEq] at e
        exact e.1
theorem append_tg {T E : TypeId} {bytes : Nat} {z : Value} (he : Elem T E s bytes z) (hE : Enc s enc) {w0 w : World} {B : Nat} {ops : Array Oper} {rest : List Oper} {o : Oper} {a : Act} {Q : Exit → Act → World → Prop} (hgd : o.guard = none) (sl x : Operand)
    (ho : o.op = .call { callee := .builtin .append, args := #[sl, x], argTypes := #[T, T] })
    (v : Value) (n : Nat) (xs : List α) (hs : a.eval sl = v) (hown : w.ownsRow B E s v n (tcells enc xs))
    (ax : Option Addr) (m c : Nat) (ys : List α) (hx : a.eval x = .slice ax m c) (hr : TRow s enc d w ax m ys) (hnil : ax = none → m = 0 ∧ c = 0)
    (hnm : n + m ≤ 1000000000) (hbel : Below B w0 w) (hB : B ≤ w.heap.size)
    (h : ∀ a' c' w', w.grownBy w' v.ownBlock → n + m ≤ c' → (a' = none → n + m = 0 ∧ c' = 0) → (a' = none ↔ v = .slice none 0 0 ∧ m = 0) → w'.ownsRow B E s (.slice a' (n + m) c') (n + m) (tcells enc (xs ++ ys)) → Below B w0 w' → B ≤ w'.heap.size → wpList Tryz.prog ops Q rest (a.put o.dst (.slice a' (n + m) c')) w') : wpList Tryz.prog ops Q (o :: rest) a w :=
  wpList_plain hgd fun _ hK => wp_append_tg he hE sl x ho v n xs hs hown ax m c ys hx hr hnil hnm hbel hB fun a' c' w' h0 h1 h2 h3 h4 h5 h6 => hK _ _ (h a' c' w' h0 h1 h2 h3 h4 h5 h6)
end

/-- append at a step of a region that draws, with what has turned -/
theorem step_tg {α : Type} {s : Nat} {enc : α → List Value} {d : α} {T E : TypeId} {bytes : Nat} {z : Value} (he : Elem T E s bytes z) (hE : Enc s enc) {w0 w : World} {B : Nat} {ops : Array Oper} {o : Oper} {a : Act} {K : Act → World → Prop} {Q : Exit → Act → World → Prop} {F : Prop} (hgd : o.guard = none) (sl x : Operand)
    (ho : o.op = .call { callee := .builtin .append, args := #[sl, x], argTypes := #[T, T] })
    (v : Value) (n : Nat) (xs : List α) (hs : a.eval sl = v) (hown : w.ownsRow B E s v n (tcells enc xs))
    (ax : Option Addr) (m c : Nat) (ys : List α) (hx : a.eval x = .slice ax m c) (hr : TRow s enc d w ax m ys) (hnil : ax = none → m = 0 ∧ c = 0)
    (hnm : n + m ≤ 1000000000) (hbel : Below B w0 w) (hB : B ≤ w.heap.size)
    (h : ∀ a' c' w', w.grownBy w' v.ownBlock → n + m ≤ c' → (a' = none → n + m = 0 ∧ c' = 0) → w'.ownsRow B E s (.slice a' (n + m) c') (n + m) (tcells enc (xs ++ ys)) → Below B w0 w' → K (a.put o.dst (.slice a' (n + m) c')) w') :
    if Region.wanted o (yielded ops a.tmps) = true then Oper.wp Tryz.prog o a w K Q else F := by
  have hw : Region.wanted o (yielded ops a.tmps) = true := by simp [Region.wanted, hgd]
  rw [if_pos hw]
  exact wp_append_tg he hE sl x ho v n xs hs hown ax m c ys hx hr hnil hnm hbel hB (fun a' c' w' h0 h1 h2 _ h4 h5 _ => h a' c' w' h0 h1 h2 h4 h5)
end Go.Proofs.YtmodogmjfbcddaaGreat
