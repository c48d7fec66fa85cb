/- Rows of parts: slices whose elements are slices of items. -/
import Derived.Test.YtikieblokfjphaaIT1
import Derived.Test.YtikieblokfjphaaMa
import Derived.Deep.RegionHeld3
import Derived.Test.YtikieblokfjphaaAS
import Derived.Test.YtikieblokfjphaaFA
import Derived.Test.YtikieblokfjphaaSVa
import Derived.Maps.AppendAt
namespace Go.Proofs.Ytikieblokfjphaa
open Go.RowKit

/-- a part as it lies: where its items are -/
structure PH where
  a : Option Addr
  n : Nat
  c : Nat
def phz : PH := ⟨none, 0, 0⟩
def phe (h : PH) : List Value := [.slice h.a h.n h.c]
theorem phE : Enc 1 phe := ⟨fun _ => rfl, fun x u hu => by simp only [phe, List.mem_cons, List.not_mem_nil, or_false] at hu; subst hu; rfl⟩
theorem partE : Elem 31 22 1 24 (.slice none 0 0) := ⟨Try.underlying31, by kernel_rfl, rfl, by decide, by decide⟩
/-- parts, read -/
def PartsAt (w : World) (ps : List PH) (gss : List (List IH)) (xss : List (List It.I)) : Prop :=
  ps.length = xss.length ∧ gss.length = xss.length ∧ ∀ i, i < xss.length → InI w (ps.getD i phz).a (ps.getD i phz).n (ps.getD i phz).c (gss.getD i []) (xss.getD i [])
theorem PartsAt.below {w w' : World} {B : Nat} {ps : List PH} {gss : List (List IH)} {xss : List (List It.I)} (h : PartsAt w ps gss xss) (hb : Below B w w') (hB : w.heap.size ≤ B) : PartsAt w' ps gss xss := ⟨h.1, h.2.1, fun i hi => (h.2.2 i hi).below hb hB⟩
def InP (w : World) (a : Option Addr) (n : Nat) (ps : List PH) (gss : List (List IH)) (xss : List (List It.I)) : Prop := TRow 1 phe phz w a n ps ∧ PartsAt w ps gss xss
theorem InP.below {w w' : World} {B : Nat} {a : Option Addr} {n : Nat} {ps : List PH} {gss : List (List IH)} {xss : List (List It.I)} (h : InP w a n ps gss xss) (hb : Below B w w') (hB : w.heap.size ≤ B) : InP w' a n ps gss xss := ⟨h.1.below hb hB, h.2.below hb hB⟩
theorem InP.len {w : World} {a : Option Addr} {n : Nat} {ps : List PH} {gss : List (List IH)} {xss : List (List It.I)} (h : InP w a n ps gss xss) : xss.length = n := h.2.1.symm.trans h.1.1
theorem TRow.part {w : World} {a : Option Addr} {n : Nat} {ps : List PH} (h : TRow 1 phe phz w a n ps) (hn : 0 < n) : ∃ b off, a = some ⟨b, off, none⟩ ∧ ∀ i, i < n → w.cell? ⟨b, off + i, none⟩ = some (.slice (ps.getD i phz).a (ps.getD i phz).n (ps.getD i phz).c) := by
  obtain ⟨b, off, e, hc⟩ := h.at hn
  refine ⟨b, off, e, fun i hi => ?_⟩
  have := hc i hi 0 _ rfl
  rw [Nat.mul_one, Nat.add_zero] at this
  exact this
/-- parts of the call's own; Q: how their items lie -/
def POwn (Q : World → List IH → List It.I → Prop) (w : World) (B : Nat) (ps : List PH) (gss : List (List IH)) (xss : List (List It.I)) : Prop :=
  ps.length = xss.length ∧ gss.length = xss.length ∧ ∀ i, i < xss.length → w.ownsRow B 47 8 (.slice (ps.getD i phz).a (ps.getD i phz).n (ps.getD i phz).c) (ps.getD i phz).n (tcells ih (gss.getD i [])) ∧ (ps.getD i phz).n ≤ 1000000 ∧ Q w (gss.getD i []) (xss.getD i [])
section
variable {Q : World → List IH → List It.I → Prop} {w w' : World} {B : Nat} {ps : List PH} {gss : List (List IH)} {xss : List (List It.I)}
theorem POwn.nil (Q : World → List IH → List It.I → Prop) (w : World) (B : Nat) : POwn Q w B [] [] [] := ⟨rfl, rfl, fun i hi => by simp at hi⟩
theorem POwn.below (h : POwn Q w B ps gss xss) (hb : Below w.heap.size w w') (hQ : ∀ g x, Q w g x → Q w' g x) : POwn Q w' B ps gss xss := ⟨h.1, h.2.1, fun i hi => ⟨owns_below (h.2.2 i hi).1 hb, (h.2.2 i hi).2.1, hQ _ _ (h.2.2 i hi).2.2⟩⟩
theorem POwn.grown (h : POwn Q w B ps gss xss) {B' : Nat} {t : TypeId} {z : Nat} {v : Value} {n : Nat} {vs : List Value} (hv : w.ownsRow B' t z v n vs) (he : (47 : Nat) ≠ t) (hg : w.grownBy w' v.ownBlock) (hQ : ∀ g x, Q w g x → Q w' g x) : POwn Q w' B ps gss xss :=
  ⟨h.1, h.2.1, fun i hi => ⟨(h.2.2 i hi).1.kept hg (own_apart (h.2.2 i hi).1 hv he), (h.2.2 i hi).2.1, hQ _ _ (h.2.2 i hi).2.2⟩⟩
theorem POwn.snoc (h : POwn Q w B ps gss xss) {a : Option Addr} {n c : Nat} {gs : List IH} {xs : List It.I} (hown : w.ownsRow B 47 8 (.slice a n c) n (tcells ih gs)) (hn : n ≤ 1000000) (hq : Q w gs xs) : POwn Q w B (ps ++ [⟨a, n, c⟩]) (gss ++ [gs]) (xss ++ [xs]) := by
  obtain ⟨h1, h2, h3⟩ := h
  refine ⟨by simp [h1], by simp [h2], fun i hi => ?_⟩
  rw [List.length_append, List.length_singleton] at hi
  rcases Nat.lt_or_ge i xss.length with h' | h'
  · have e1 : (ps ++ [(⟨a, n, c⟩ : PH)]).getD i phz = ps.getD i phz := by rw [List.getD_eq_getElem?_getD, List.getElem?_append_left (by omega), ← List.getD_eq_getElem?_getD]
    have e2 : (gss ++ [gs]).getD i [] = gss.getD i [] := by rw [List.getD_eq_getElem?_getD, List.getElem?_append_left (by omega), ← List.getD_eq_getElem?_getD]
    have e3 : (xss ++ [xs]).getD i [] = xss.getD i [] := by rw [List.getD_eq_getElem?_getD, List.getElem?_append_left (by omega), ← List.getD_eq_getElem?_getD]
    rw [e1, e2, e3]
    exact h3 i h'
  · obtain rfl : i = xss.length := by omega
    have e1 : (ps ++ [(⟨a, n, c⟩ : PH)]).getD xss.length phz = ⟨a, n, c⟩ := by rw [← h1]; simp
    have e2 : (gss ++ [gs]).getD xss.length [] = gs := by rw [← h2]; simp
    have e3 : (xss ++ [xs]).getD xss.length [] = xs := by simp
    rw [e1, e2, e3]
    exact ⟨hown, hn, hq⟩
theorem POwn.parts (h : POwn Q w B ps gss xss) (hQ : ∀ g x, Q w g x → ItAll w g x) : PartsAt w ps gss xss := by
  refine ⟨h.1, h.2.1, fun i hi => ?_⟩
  obtain ⟨h1, h2, h3⟩ := h.2.2 i hi
  obtain ⟨a', c', e, g1, g2⟩ := t_shape h1
  simp only [Value.slice.injEq, true_and] at e
  obtain ⟨e1, e2⟩ := e
  rw [← e1, ← e2] at g1
  rw [← e2] at g2
  exact ⟨⟨trow_of_owns ihE h1 (by omega) (by omega), hQ _ _ h3⟩, g1, g2⟩
end
theorem lit_part (w : World) (h : PH) {g : Nat} (hg : w.heap.size = g) : TRow 1 phe phz (w.alloc (.cells #[.slice h.a h.n h.c] 22)) (some ⟨g, 0, none⟩) 1 [h] := trow_lit w _ _ h hg (fun j v hj => by
  match j, hj with
  | 0, hj => exact hj
  | j + 1, hj => simp [phe] at hj)
theorem it_weight_le : ∀ {l : List It.I}, (∀ x ∈ l, x.1.length ≤ 100000 ∧ x.2.2.2.1.length ≤ 100000) → l.length ≤ 1000 → It.weight l ≤ 1000000000000 := by
  have h : ∀ (l : List It.I), (∀ x ∈ l, x.1.length ≤ 100000 ∧ x.2.2.2.1.length ≤ 100000) → It.weight l ≤ 200016 * l.length := by
    intro l
    induction l with
    | nil => intro _; exact Nat.le_refl _
    | cons x l ih =>
      intro hx
      have h1 := hx x (by simp)
      have h2 := ih (fun y hy => hx y (by simp [hy]))
      simp only [It.weight, List.map_cons, List.sum_cons, List.length_cons] at h2 ⊢
      omega
  intro l hx hl
  have := h l hx
  omega
end Go.Proofs.Ytikieblokfjphaa

/- What the reference's Parted does. -/
namespace Go.Proofs.Ytikieblokfjphaa
open Go.RowKit

/-- parts of the call's own are told -/
def PartedRes (w : World) (Q : World → List IH → List It.I → Prop) (xss : List (List It.I)) (e : Ending) (w' : World) : Prop :=
  ∃ a c ps gss, e = .returned (.slice a xss.length c) ∧ (a = none → xss.length = 0 ∧ c = 0) ∧ xss.length ≤ c ∧ TRow 1 phe phz w' a xss.length ps ∧ POwn Q w' w.heap.size ps gss xss ∧ Below w.heap.size w w'
theorem parted_ret {w W : World} {Q : World → List IH → List It.I → Prop} {R xss : List (List It.I)} {a : Option Addr} {m c : Nat} {ps : List PH} {gss : List (List IH)} (hR : R = xss) (hm : xss.length = m) (hown : W.ownsRow w.heap.size 22 1 (.slice a m c) m (tcells phe ps)) (hs : m ≤ 1000000) (hP : POwn Q W w.heap.size ps gss xss) (hb : Below w.heap.size w W) : PartedRes w Q R (.returned (.slice a m c)) W := by
  subst hR; subst hm
  obtain ⟨a', c', e, g1, g2⟩ := t_shape hown
  simp only [Value.slice.injEq, true_and] at e
  obtain ⟨rfl, rfl⟩ := e
  exact ⟨a, c, ps, gss, rfl, g1, g2, trow_of_owns phE hown (by omega) (by omega), hP, hb⟩
theorem Tb.pgo_step (size : Int) (p : List It.I) (xs : List It.I) (k : Nat) (hk : k < xs.length) :
    Tb.pgo size p (xs.drop k) = if size ≤ (It.weight (p ++ [xs.getD k It.zero]) : Int) ∨ p.length + 1 = 64 ∨ k + 1 = xs.length then (p ++ [xs.getD k It.zero]) :: Tb.pgo size [] (xs.drop (k + 1)) else Tb.pgo size (p ++ [xs.getD k It.zero]) (xs.drop (k + 1)) := by
  have e : xs.drop k = xs.getD k It.zero :: xs.drop (k + 1) := by rw [List.drop_eq_getElem_cons hk]; simp [hk]
  have e2 : (xs.drop (k + 1) = []) ↔ k + 1 = xs.length := by rw [List.drop_eq_nil_iff]; omega
  rw [e, Tb.pgo]
  simp only [List.length_append, List.length_singleton, e2]

set_option maxRecDepth 100000 in
set_option maxHeartbeats 8000000 in
theorem tparted_any (a : Option Addr) (n c : Nat) (gs : List IH) (xs : List It.I) (size : Int) (w : World) (hn : n ≤ 1000) (hi : InI w a n c gs xs) (hsm : ∀ x ∈ xs, x.1.length ≤ 100000 ∧ x.2.2.2.1.length ≤ 100000) :
    Calls Try.prog 13 #[.slice a n c, .int .i64 size] w (PartedRes w (fun _ g x => ItAll w g x) (Tb.parted xs size)) := by
  have hll : Hid (xs.length = n) := hi.1.len
  obtain ⟨R, hR⟩ : ∃ R, R = Tb.parted xs size := ⟨_, rfl⟩
  rw [← hR]
  have HR0 : Hid (R = [] ++ Tb.pgo size [] (xs.drop 0)) := (by rw [hR]; rfl : R = [] ++ Tb.pgo size [] (xs.drop 0))
  have Hsm : Hid (∀ x ∈ xs, x.1.length ≤ 100000 ∧ x.2.2.2.1.length ≤ 100000) := hsm
  have Hi : Hid (InI w a n c gs xs) := hi
  clear hR hi hsm
  go_enter Try.func13, Try.ntmps13
  go_wp2_with fail
  have hbs : Below w.heap.size w ((w.alloc (.cells #[] 22)).alloc (.cells #[] 47)) := (below_alloc _ _).alloc (by simp) _
  have ho0 : ((w.alloc (.cells #[] 22)).alloc (.cells #[] 47)).ownsRow w.heap.size 22 1 (.slice (some ⟨w.heap.size, 0, none⟩) 0 0) 0 (tcells phe []) := owns_below (made_t w (Nat.le_refl _) rfl) (below_alloc _ _)
  have hp0 : ((w.alloc (.cells #[] 22)).alloc (.cells #[] 47)).ownsRow w.heap.size 47 8 (.slice (some ⟨w.heap.size + 1, 0, none⟩) 0 0) 0 (tcells ih []) := made_t (w.alloc (.cells #[] 22)) (by simp) (by simp)
  go_loopw [5, 6, 7] (fun v5 v6 i wr => ∃ (k m co np cp : Nat) (ao ap : Option Addr) (ps : List PH) (gss : List (List IH)) (xss : List (List It.I)) (gp : List IH) (xp : List It.I), k ≤ n ∧ m ≤ k ∧ np ≤ 63 ∧ (k = n → np = 0) ∧ i = .int .i64 k ∧ v5 = .slice ao m co ∧ v6 = .slice ap np cp ∧ Hid (R = xss ++ Tb.pgo size xp (xs.drop k)) ∧ Hid (xss.length = m) ∧ Hid (xp.length = np) ∧ Hid (∀ x ∈ xp, x ∈ xs) ∧ wr.ownsRow w.heap.size 22 1 (.slice ao m co) m (tcells phe ps) ∧ Hid (POwn (fun _ g x => ItAll w g x) wr w.heap.size ps gss xss) ∧ wr.ownsRow w.heap.size 47 8 (.slice ap np cp) np (tcells ih gp) ∧ Hid (ItAll w gp xp) ∧ Below w.heap.size w wr) (fun _ _ i _ => n - (intOf i).toNat)
  case atStart => exact ⟨0, 0, 0, 0, 0, _, _, [], [], [], [], [], by omega, by omega, by omega, by omega, rfl, rfl, rfl, HR0, (rfl : ([] : List (List It.I)).length = 0), (rfl : ([] : List It.I).length = 0), (fun x hx => (by cases hx) : ∀ x ∈ ([] : List It.I), x ∈ xs), ho0, (POwn.nil _ _ _ : POwn _ _ _ [] [] []), hp0, (ItAll.nil w : ItAll w [] []), hbs⟩
  case round =>
    obtain ⟨k, m, co, np, cp, ao, ap, ps, gss, xss, gp, xp, hk, hmk, hnp, hkn, rfl, rfl, rfl, HR, hlm, hlp, hxin, hown, hP, hownp, hallp, hbel⟩ := hrel
    clear ho0 hp0 hbs HR0
    by_cases hlt : k < n
    · obtain ⟨b, off, rfl, hc⟩ := Hi.out.1.at (by omega)
      have C := (hc k hlt).below hbel (Nat.le_refl _)
      have hk' : k < xs.length := by rw [hll.out]; exact hlt
      have HI : Hid (IsItem w (gs.getD k ihz) (xs.getD k It.zero)) := Hi.out.1.item hlt
      have hst : Hid (R = xss ++ (if size ≤ (It.weight (xp ++ [xs.getD k It.zero]) : Int) ∨ np + 1 = 64 ∨ k + 1 = n then (xp ++ [xs.getD k It.zero]) :: Tb.pgo size [] (xs.drop (k + 1)) else Tb.pgo size (xp ++ [xs.getD k It.zero]) (xs.drop (k + 1)))) := (by rw [HR.out, Tb.pgo_step size xp xs k hk', hlp.out, hll.out] : R = xss ++ (if size ≤ (It.weight (xp ++ [xs.getD k It.zero]) : Int) ∨ np + 1 = 64 ∨ k + 1 = n then (xp ++ [xs.getD k It.zero]) :: Tb.pgo size [] (xs.drop (k + 1)) else Tb.pgo size (xp ++ [xs.getD k It.zero]) (xs.drop (k + 1))))
      have hmem : Hid (∀ x ∈ xp ++ [xs.getD k It.zero], x ∈ xs) := (fun x hx => by
        rcases List.mem_append.mp hx with hx | hx
        · exact hxin.out x hx
        · rw [List.mem_singleton.mp hx, show xs.getD k It.zero = xs[k] by simp [hk']]
          exact List.getElem_mem _ : ∀ x ∈ xp ++ [xs.getD k It.zero], x ∈ xs)
      have hal7 : Hid (ItAll w (gp ++ [gs.getD k ihz]) (xp ++ [xs.getD k It.zero])) := (hallp.out.snoc HI.out : ItAll w (gp ++ [gs.getD k ihz]) (xp ++ [xs.getD k It.zero]))
      have hlp7 : Hid ((xp ++ [xs.getD k It.zero]).length = np + 1) := (by rw [List.length_append, hlp.out]; rfl : (xp ++ [xs.getD k It.zero]).length = np + 1)
      have hw7 := fun W ax cx (hr : TRow 8 ih ihz W ax (np + 1) (gp ++ [gs.getD k ihz])) => iweight_any w ax (np + 1) cx _ _ W (by omega) hr hal7.out (fun x hx => Hsm.out x (hmem.out x hx))
      have hwl : Hid (It.weight (xp ++ [xs.getD k It.zero]) ≤ 1000000000000) := (it_weight_le (fun x hx => Hsm.out x (hmem.out x hx)) (by rw [hlp7.out]; omega) : It.weight (xp ++ [xs.getD k It.zero]) ≤ 1000000000000)
      clear HR hxin HI hc hk'
      generalize xs.getD k It.zero = X at *
      generalize gs.getD k ihz = q at *
      have hrp : TRow 8 ih ihz wr ap np gp := trow_of_owns ihE hownp (by omega) (by omega)
      obtain ⟨_, _, ep, hnilp, hlep⟩ := t_shape hownp
      simp only [Value.slice.injEq, true_and] at ep
      obtain ⟨rfl, rfl⟩ := ep
      obtain ⟨key, dead, far, qa, qn, qc, ⟨g1, g2, g3, g4⟩⟩ := q
      obtain ⟨y0, y1, y2, y3, y4, y5, y6, y7⟩ := C
      simp only at y0 y1 y2 y3 y4 y5 y6 y7
      have i0 : (0 : Int) ≤ (k : Int) := by omega
      have i1 : (k : Int) < (n : Int) := by omega
      have i2 : IntKind.i64.wrap ((k : Int) + 1) = (k : Int) + 1 := by rw [IntKind.wrap_i64]; omega
      have oA : Hid (((wr.alloc (.cells #[.string key, .bool dead, .bool far, .slice qa qn qc, .int .i64 g1, .int .i64 g2, .int .i64 g3, .int .u32 (g4 : Nat)] 47)).alloc (.cells #[] 47)).drew.ownsRow wr.heap.size 47 8 (.slice (some ⟨wr.heap.size + 1, 0, none⟩) 0 0) 0 (tcells ih [])) := (owns_below (made_t (wr.alloc (.cells #[.string key, .bool dead, .bool far, .slice qa qn qc, .int .i64 g1, .int .i64 g2, .int .i64 g3, .int .u32 (g4 : Nat)] 47)) (by simp) (by simp) : ((wr.alloc (.cells #[.string key, .bool dead, .bool far, .slice qa qn qc, .int .i64 g1, .int .i64 g2, .int .i64 g3, .int .u32 (g4 : Nat)] 47)).alloc (.cells #[] 47)).ownsRow wr.heap.size 47 8 (.slice (some ⟨wr.heap.size + 1, 0, none⟩) 0 0) 0 (tcells ih [])) (Below.refl _ _).drew : ((wr.alloc (.cells #[.string key, .bool dead, .bool far, .slice qa qn qc, .int .i64 g1, .int .i64 g2, .int .i64 g3, .int .u32 (g4 : Nat)] 47)).alloc (.cells #[] 47)).drew.ownsRow wr.heap.size 47 8 (.slice (some ⟨wr.heap.size + 1, 0, none⟩) 0 0) 0 (tcells ih []))
      have bA : Hid (Below wr.heap.size wr ((wr.alloc (.cells #[.string key, .bool dead, .bool far, .slice qa qn qc, .int .i64 g1, .int .i64 g2, .int .i64 g3, .int .u32 (g4 : Nat)] 47)).alloc (.cells #[] 47)).drew) := (((below_alloc _ _).alloc (by simp) _ : Below wr.heap.size wr ((wr.alloc (.cells #[.string key, .bool dead, .bool far, .slice qa qn qc, .int .i64 g1, .int .i64 g2, .int .i64 g3, .int .u32 (g4 : Nat)] 47)).alloc (.cells #[] 47))).drew : Below wr.heap.size wr ((wr.alloc (.cells #[.string key, .bool dead, .bool far, .slice qa qn qc, .int .i64 g1, .int .i64 g2, .int .i64 g3, .int .u32 (g4 : Nat)] 47)).alloc (.cells #[] 47)).drew)
      have rA : Hid (TRow 8 ih ihz ((wr.alloc (.cells #[.string key, .bool dead, .bool far, .slice qa qn qc, .int .i64 g1, .int .i64 g2, .int .i64 g3, .int .u32 (g4 : Nat)] 47)).alloc (.cells #[] 47)).drew ap np gp) := (hrp.below bA.out (Nat.le_refl _) : TRow 8 ih ihz ((wr.alloc (.cells #[.string key, .bool dead, .bool far, .slice qa qn qc, .int .i64 g1, .int .i64 g2, .int .i64 g3, .int .u32 (g4 : Nat)] 47)).alloc (.cells #[] 47)).drew ap np gp)
      have iA : Hid (TRow 8 ih ihz ((wr.alloc (.cells #[.string key, .bool dead, .bool far, .slice qa qn qc, .int .i64 g1, .int .i64 g2, .int .i64 g3, .int .u32 (g4 : Nat)] 47)).alloc (.cells #[] 47)).drew (some ⟨wr.heap.size, 0, none⟩) 1 [⟨key, dead, far, qa, qn, qc, (g1, g2, g3, g4)⟩]) := (((lit_item wr ⟨key, dead, far, qa, qn, qc, (g1, g2, g3, g4)⟩ rfl).below (below_alloc _ _) (Nat.le_refl _)).below (Below.refl _ _).drew (Nat.le_refl _) : TRow 8 ih ihz ((wr.alloc (.cells #[.string key, .bool dead, .bool far, .slice qa qn qc, .int .i64 g1, .int .i64 g2, .int .i64 g3, .int .u32 (g4 : Nat)] 47)).alloc (.cells #[] 47)).drew (some ⟨wr.heap.size, 0, none⟩) 1 [⟨key, dead, far, qa, qn, qc, (g1, g2, g3, g4)⟩])
      have oB : Hid (((wr.alloc (.cells #[] 47)).alloc (.cells #[.string key, .bool dead, .bool far, .slice qa qn qc, .int .i64 g1, .int .i64 g2, .int .i64 g3, .int .u32 (g4 : Nat)] 47)).drew.ownsRow wr.heap.size 47 8 (.slice (some ⟨wr.heap.size, 0, none⟩) 0 0) 0 (tcells ih [])) := (owns_below ((owns_below (made_t wr (Nat.le_refl _) rfl) (below_alloc _ _)) : ((wr.alloc (.cells #[] 47)).alloc (.cells #[.string key, .bool dead, .bool far, .slice qa qn qc, .int .i64 g1, .int .i64 g2, .int .i64 g3, .int .u32 (g4 : Nat)] 47)).ownsRow wr.heap.size 47 8 (.slice (some ⟨wr.heap.size, 0, none⟩) 0 0) 0 (tcells ih [])) (Below.refl _ _).drew : ((wr.alloc (.cells #[] 47)).alloc (.cells #[.string key, .bool dead, .bool far, .slice qa qn qc, .int .i64 g1, .int .i64 g2, .int .i64 g3, .int .u32 (g4 : Nat)] 47)).drew.ownsRow wr.heap.size 47 8 (.slice (some ⟨wr.heap.size, 0, none⟩) 0 0) 0 (tcells ih []))
      have bB : Hid (Below wr.heap.size wr ((wr.alloc (.cells #[] 47)).alloc (.cells #[.string key, .bool dead, .bool far, .slice qa qn qc, .int .i64 g1, .int .i64 g2, .int .i64 g3, .int .u32 (g4 : Nat)] 47)).drew) := (((below_alloc _ _).alloc (by simp) _ : Below wr.heap.size wr ((wr.alloc (.cells #[] 47)).alloc (.cells #[.string key, .bool dead, .bool far, .slice qa qn qc, .int .i64 g1, .int .i64 g2, .int .i64 g3, .int .u32 (g4 : Nat)] 47))).drew : Below wr.heap.size wr ((wr.alloc (.cells #[] 47)).alloc (.cells #[.string key, .bool dead, .bool far, .slice qa qn qc, .int .i64 g1, .int .i64 g2, .int .i64 g3, .int .u32 (g4 : Nat)] 47)).drew)
      have rB : Hid (TRow 8 ih ihz ((wr.alloc (.cells #[] 47)).alloc (.cells #[.string key, .bool dead, .bool far, .slice qa qn qc, .int .i64 g1, .int .i64 g2, .int .i64 g3, .int .u32 (g4 : Nat)] 47)).drew ap np gp) := (hrp.below bB.out (Nat.le_refl _) : TRow 8 ih ihz ((wr.alloc (.cells #[] 47)).alloc (.cells #[.string key, .bool dead, .bool far, .slice qa qn qc, .int .i64 g1, .int .i64 g2, .int .i64 g3, .int .u32 (g4 : Nat)] 47)).drew ap np gp)
      have iB : Hid (TRow 8 ih ihz ((wr.alloc (.cells #[] 47)).alloc (.cells #[.string key, .bool dead, .bool far, .slice qa qn qc, .int .i64 g1, .int .i64 g2, .int .i64 g3, .int .u32 (g4 : Nat)] 47)).drew (some ⟨wr.heap.size + 1, 0, none⟩) 1 [⟨key, dead, far, qa, qn, qc, (g1, g2, g3, g4)⟩]) := ((lit_item (wr.alloc (.cells #[] 47)) ⟨key, dead, far, qa, qn, qc, (g1, g2, g3, g4)⟩ (by simp)).below (Below.refl _ _).drew (Nat.le_refl _) : TRow 8 ih ihz ((wr.alloc (.cells #[] 47)).alloc (.cells #[.string key, .bool dead, .bool far, .slice qa qn qc, .int .i64 g1, .int .i64 g2, .int .i64 g3, .int .u32 (g4 : Nat)] 47)).drew (some ⟨wr.heap.size + 1, 0, none⟩) 1 [⟨key, dead, far, qa, qn, qc, (g1, g2, g3, g4)⟩])
      have oC : Hid ((wr.alloc (.cells #[] 47)).drew.ownsRow wr.heap.size 47 8 (.slice (some ⟨wr.heap.size, 0, none⟩) 0 0) 0 (tcells ih [])) := (owns_below (made_t wr (Nat.le_refl _) rfl : (wr.alloc (.cells #[] 47)).ownsRow wr.heap.size 47 8 (.slice (some ⟨wr.heap.size, 0, none⟩) 0 0) 0 (tcells ih [])) (Below.refl _ _).drew : (wr.alloc (.cells #[] 47)).drew.ownsRow wr.heap.size 47 8 (.slice (some ⟨wr.heap.size, 0, none⟩) 0 0) 0 (tcells ih []))
      have bC : Hid (Below wr.heap.size wr (wr.alloc (.cells #[] 47)).drew) := ((below_alloc _ _ : Below wr.heap.size wr (wr.alloc (.cells #[] 47))).drew : Below wr.heap.size wr (wr.alloc (.cells #[] 47)).drew)
      have rC : Hid (TRow 8 ih ihz (wr.alloc (.cells #[] 47)).drew ap np gp) := (hrp.below bC.out (Nat.le_refl _) : TRow 8 ih ihz (wr.alloc (.cells #[] 47)).drew ap np gp)
      go_wp2_with fail
      go_region_held3 (fun w' => w'.cell? ⟨b, off + k * 8, none⟩ = some (.string key) ∧ w'.cell? ⟨b, off + k * 8 + 1, none⟩ = some (.bool dead) ∧ w'.cell? ⟨b, off + k * 8 + 2, none⟩ = some (.bool far) ∧ w'.cell? ⟨b, off + k * 8 + 3, none⟩ = some (.slice qa qn qc) ∧ w'.cell? ⟨b, off + k * 8 + 4, none⟩ = some (.int .i64 g1) ∧ w'.cell? ⟨b, off + k * 8 + 5, none⟩ = some (.int .i64 g2) ∧ w'.cell? ⟨b, off + k * 8 + 6, none⟩ = some (.int .i64 g3) ∧ w'.cell? ⟨b, off + k * 8 + 7, none⟩ = some (.int .u32 (g4 : Nat))) (first | go_keep | (refine ⟨?_, ?_, ?_, ?_, ?_, ?_, ?_, ?_⟩ <;> assumption))
        (first
          | (have := rI6; refine step_tg itemE ihE (w0 := wr) (B := wr.heap.size) (by rfl) _ _ (by rfl) _ np gp (by rfl) hown6n _ 1 1 [⟨key, dead, far, qa, qn, qc, (g1, g2, g3, g4)⟩] (by rfl) rI6 (fun h => by cases h) (by omega) hb6 hb6.size ?_; intro a7 c7 w7 hg7 hc7 hn7 hown7 hb7; have x0 := (hb7.cell (p := ⟨b, off + k * 8, none⟩) (cell_lt y0)).trans y0; have x1 := (hb7.cell (p := ⟨b, off + k * 8 + 1, none⟩) (cell_lt y1)).trans y1; have x2 := (hb7.cell (p := ⟨b, off + k * 8 + 2, none⟩) (cell_lt y2)).trans y2; have x3 := (hb7.cell (p := ⟨b, off + k * 8 + 3, none⟩) (cell_lt y3)).trans y3; have x4 := (hb7.cell (p := ⟨b, off + k * 8 + 4, none⟩) (cell_lt y4)).trans y4; have x5 := (hb7.cell (p := ⟨b, off + k * 8 + 5, none⟩) (cell_lt y5)).trans y5; have x6 := (hb7.cell (p := ⟨b, off + k * 8 + 6, none⟩) (cell_lt y6)).trans y6; have x7 := (hb7.cell (p := ⟨b, off + k * 8 + 7, none⟩) (cell_lt y7)).trans y7)
          | (have := hown6; refine step_tg itemE ihE (w0 := wr) (B := wr.heap.size) (by rfl) _ _ (by rfl) _ np gp (by rfl) (hown6n.alloc _) _ 1 1 [⟨key, dead, far, qa, qn, qc, (g1, g2, g3, g4)⟩] (by rfl) (lit_item w6 ⟨key, dead, far, qa, qn, qc, (g1, g2, g3, g4)⟩ rfl) (fun h => by cases h) (by omega) (hb6.alloc hb6.size _) (hb6.alloc hb6.size _).size ?_; intro a7 c7 w7 hg7 hc7 hn7 hown7 hb7; have x0 := (hb7.cell (p := ⟨b, off + k * 8, none⟩) (cell_lt y0)).trans y0; have x1 := (hb7.cell (p := ⟨b, off + k * 8 + 1, none⟩) (cell_lt y1)).trans y1; have x2 := (hb7.cell (p := ⟨b, off + k * 8 + 2, none⟩) (cell_lt y2)).trans y2; have x3 := (hb7.cell (p := ⟨b, off + k * 8 + 3, none⟩) (cell_lt y3)).trans y3; have x4 := (hb7.cell (p := ⟨b, off + k * 8 + 4, none⟩) (cell_lt y4)).trans y4; have x5 := (hb7.cell (p := ⟨b, off + k * 8 + 5, none⟩) (cell_lt y5)).trans y5; have x6 := (hb7.cell (p := ⟨b, off + k * 8 + 6, none⟩) (cell_lt y6)).trans y6; have x7 := (hb7.cell (p := ⟨b, off + k * 8 + 7, none⟩) (cell_lt y7)).trans y7)
          | (have := rI6; refine step_tg itemE ihE (w0 := wr) (B := wr.heap.size) (by rfl) _ _ (by rfl) _ (0 + np) ([] ++ gp) (by rfl) hown6 _ 1 1 [⟨key, dead, far, qa, qn, qc, (g1, g2, g3, g4)⟩] (by rfl) rI6 (fun h => by cases h) (by omega) hb6 hb6.size ?_; intro a7 c7 w7 hg7 hc7 hn7 hown7 hb7; have x0 := (hb7.cell (p := ⟨b, off + k * 8, none⟩) (cell_lt y0)).trans y0; have x1 := (hb7.cell (p := ⟨b, off + k * 8 + 1, none⟩) (cell_lt y1)).trans y1; have x2 := (hb7.cell (p := ⟨b, off + k * 8 + 2, none⟩) (cell_lt y2)).trans y2; have x3 := (hb7.cell (p := ⟨b, off + k * 8 + 3, none⟩) (cell_lt y3)).trans y3; have x4 := (hb7.cell (p := ⟨b, off + k * 8 + 4, none⟩) (cell_lt y4)).trans y4; have x5 := (hb7.cell (p := ⟨b, off + k * 8 + 5, none⟩) (cell_lt y5)).trans y5; have x6 := (hb7.cell (p := ⟨b, off + k * 8 + 6, none⟩) (cell_lt y6)).trans y6; have x7 := (hb7.cell (p := ⟨b, off + k * 8 + 7, none⟩) (cell_lt y7)).trans y7)
          | (have := hown6; refine step_tg itemE ihE (w0 := wr) (B := wr.heap.size) (by rfl) _ _ (by rfl) _ (0 + np) ([] ++ gp) (by rfl) (hown6.alloc _) _ 1 1 [⟨key, dead, far, qa, qn, qc, (g1, g2, g3, g4)⟩] (by rfl) (lit_item w6 ⟨key, dead, far, qa, qn, qc, (g1, g2, g3, g4)⟩ rfl) (fun h => by cases h) (by omega) (hb6.alloc hb6.size _) (hb6.alloc hb6.size _).size ?_; intro a7 c7 w7 hg7 hc7 hn7 hown7 hb7; have x0 := (hb7.cell (p := ⟨b, off + k * 8, none⟩) (cell_lt y0)).trans y0; have x1 := (hb7.cell (p := ⟨b, off + k * 8 + 1, none⟩) (cell_lt y1)).trans y1; have x2 := (hb7.cell (p := ⟨b, off + k * 8 + 2, none⟩) (cell_lt y2)).trans y2; have x3 := (hb7.cell (p := ⟨b, off + k * 8 + 3, none⟩) (cell_lt y3)).trans y3; have x4 := (hb7.cell (p := ⟨b, off + k * 8 + 4, none⟩) (cell_lt y4)).trans y4; have x5 := (hb7.cell (p := ⟨b, off + k * 8 + 5, none⟩) (cell_lt y5)).trans y5; have x6 := (hb7.cell (p := ⟨b, off + k * 8 + 6, none⟩) (cell_lt y6)).trans y6; have x7 := (hb7.cell (p := ⟨b, off + k * 8 + 7, none⟩) (cell_lt y7)).trans y7)
          | ((with_reducible refine world_is ((wr.alloc (.cells #[.string key, .bool dead, .bool far, .slice qa qn qc, .int .i64 g1, .int .i64 g2, .int .i64 g3, .int .u32 (g4 : Nat)] 47)).alloc (.cells #[] 47)).drew ?_); refine step_tg itemE ihE (w0 := wr) (B := wr.heap.size) (by rfl) _ _ (by rfl) _ 0 [] (by rfl) oA.out ap np cp gp (by rfl) rA.out hnilp (by omega) bA.out bA.out.size ?_; intro a6 c6 w6 hg6 hc6 hn6 hown6 hb6; have hown6n := hown6; rw [Nat.zero_add, List.nil_append] at hown6n; have rI6 := trow_grown iA.out hg6 (by simp [Value.ownBlock]); have z0 := (hb6.cell (p := ⟨b, off + k * 8, none⟩) (cell_lt y0)).trans y0; have z1 := (hb6.cell (p := ⟨b, off + k * 8 + 1, none⟩) (cell_lt y1)).trans y1; have z2 := (hb6.cell (p := ⟨b, off + k * 8 + 2, none⟩) (cell_lt y2)).trans y2; have z3 := (hb6.cell (p := ⟨b, off + k * 8 + 3, none⟩) (cell_lt y3)).trans y3; have z4 := (hb6.cell (p := ⟨b, off + k * 8 + 4, none⟩) (cell_lt y4)).trans y4; have z5 := (hb6.cell (p := ⟨b, off + k * 8 + 5, none⟩) (cell_lt y5)).trans y5; have z6 := (hb6.cell (p := ⟨b, off + k * 8 + 6, none⟩) (cell_lt y6)).trans y6; have z7 := (hb6.cell (p := ⟨b, off + k * 8 + 7, none⟩) (cell_lt y7)).trans y7)
          | ((with_reducible refine world_is ((wr.alloc (.cells #[] 47)).alloc (.cells #[.string key, .bool dead, .bool far, .slice qa qn qc, .int .i64 g1, .int .i64 g2, .int .i64 g3, .int .u32 (g4 : Nat)] 47)).drew ?_); refine step_tg itemE ihE (w0 := wr) (B := wr.heap.size) (by rfl) _ _ (by rfl) _ 0 [] (by rfl) oB.out ap np cp gp (by rfl) rB.out hnilp (by omega) bB.out bB.out.size ?_; intro a6 c6 w6 hg6 hc6 hn6 hown6 hb6; have hown6n := hown6; rw [Nat.zero_add, List.nil_append] at hown6n; have rI6 := trow_grown iB.out hg6 (by simp [Value.ownBlock]); have z0 := (hb6.cell (p := ⟨b, off + k * 8, none⟩) (cell_lt y0)).trans y0; have z1 := (hb6.cell (p := ⟨b, off + k * 8 + 1, none⟩) (cell_lt y1)).trans y1; have z2 := (hb6.cell (p := ⟨b, off + k * 8 + 2, none⟩) (cell_lt y2)).trans y2; have z3 := (hb6.cell (p := ⟨b, off + k * 8 + 3, none⟩) (cell_lt y3)).trans y3; have z4 := (hb6.cell (p := ⟨b, off + k * 8 + 4, none⟩) (cell_lt y4)).trans y4; have z5 := (hb6.cell (p := ⟨b, off + k * 8 + 5, none⟩) (cell_lt y5)).trans y5; have z6 := (hb6.cell (p := ⟨b, off + k * 8 + 6, none⟩) (cell_lt y6)).trans y6; have z7 := (hb6.cell (p := ⟨b, off + k * 8 + 7, none⟩) (cell_lt y7)).trans y7)
          | ((with_reducible refine world_is (wr.alloc (.cells #[] 47)).drew ?_); refine step_tg itemE ihE (w0 := wr) (B := wr.heap.size) (by rfl) _ _ (by rfl) _ 0 [] (by rfl) oC.out ap np cp gp (by rfl) rC.out hnilp (by omega) bC.out bC.out.size ?_; intro a6 c6 w6 hg6 hc6 hn6 hown6 hb6; have hown6n := hown6; rw [Nat.zero_add, List.nil_append] at hown6n; have z0 := (hb6.cell (p := ⟨b, off + k * 8, none⟩) (cell_lt y0)).trans y0; have z1 := (hb6.cell (p := ⟨b, off + k * 8 + 1, none⟩) (cell_lt y1)).trans y1; have z2 := (hb6.cell (p := ⟨b, off + k * 8 + 2, none⟩) (cell_lt y2)).trans y2; have z3 := (hb6.cell (p := ⟨b, off + k * 8 + 3, none⟩) (cell_lt y3)).trans y3; have z4 := (hb6.cell (p := ⟨b, off + k * 8 + 4, none⟩) (cell_lt y4)).trans y4; have z5 := (hb6.cell (p := ⟨b, off + k * 8 + 5, none⟩) (cell_lt y5)).trans y5; have z6 := (hb6.cell (p := ⟨b, off + k * 8 + 6, none⟩) (cell_lt y6)).trans y6; have z7 := (hb6.cell (p := ⟨b, off + k * 8 + 7, none⟩) (cell_lt y7)).trans y7))
      all_goals (
        try simp only [Nat.zero_add, List.nil_append] at hown7 hc7 hn7
        try simp only [Nat.zero_add]
        have hbw7 := hbel.trans (hb7.mono hbel.size)
        have ho7 := owns_below hown hb7
        have hP7 : Hid (POwn (fun _ g x => ItAll w g x) w7 w.heap.size ps gss xss) := (POwn.below hP.out hb7 (fun _ _ h => h) : POwn (fun _ g x => ItAll w g x) w7 w.heap.size ps gss xss)
        have hp7 := hown7.mono (base' := w.heap.size) hbel.size
        have hwt := hw7 w7 a7 c7 (trow_of_owns ihE hown7 (by omega) (by omega))
        obtain ⟨N1, hN1⟩ : ∃ N1, N1 = np + 1 := ⟨_, rfl⟩
        rw [← hN1] at hp7 hwt hst hlp7 ⊢
        have hN64 : N1 ≤ 64 := by omega
        clear hN1 hc7 hn7 hg7 hown7
        have jn : IntKind.i64.wrap ((n : Int) - 1) = (n : Int) - 1 := by rw [IntKind.wrap_i64]; omega
        generalize It.weight (xp ++ [X]) = Wt at *
        clear oA bA rA iA oB bB rB iB oC bC rC
        by_cases hcut : size ≤ (Wt : Int) ∨ N1 = 64 ∨ k + 1 = n
        · have HR2 : Hid (R = (xss ++ [xp ++ [X]]) ++ Tb.pgo size [] (xs.drop (k + 1))) := (by rw [hst.out, if_pos hcut]; simp : R = (xss ++ [xp ++ [X]]) ++ Tb.pgo size [] (xs.drop (k + 1)))
          have hlm2 : Hid ((xss ++ [xp ++ [X]]).length = m + 1) := (by rw [List.length_append, hlm.out]; rfl : (xss ++ [xp ++ [X]]).length = m + 1)
          by_cases h1 : size ≤ (Wt : Int)
          · have d1 : decide (size ≤ (Wt : Int)) = true := by simp [h1]
            clear hst hcut h1
            go_wp2_with (first
              | (go_at_call 40; go_must (refine hwt.mono ?_; rintro e w8 ⟨rfl, hbel8⟩; have hb8 := hbw7.trans (hbel8.mono hbw7.size); have ho8 := owns_below ho7 hbel8; have hp8 := owns_below hp7 hbel8; have hP8 : Hid (POwn (fun _ g x => ItAll w g x) w8 w.heap.size ps gss xss) := (POwn.below hP7.out hbel8 (fun _ _ h => h) : POwn (fun _ g x => ItAll w g x) w8 w.heap.size ps gss xss)))
              | (at_builtin; go_must (refine append_tg partE phE (w0 := w) (B := w.heap.size) rfl (.tmp 41) (.tmp 43) rfl _ m ps rfl (ho8.alloc _) _ 1 1 [⟨a7, N1, c7⟩] rfl (lit_part w8 ⟨a7, N1, c7⟩ rfl) (fun h => by cases h) (by omega) (hb8.alloc hb8.size _) (hb8.alloc hb8.size _).size ?_; intro a9 c9 w9 hg9 hc9 hn9 _ ho9 hb9 _; have hpA := hp8.alloc (.cells #[.slice a7 N1 c7] 22); have hp9 := hpA.kept hg9 (own_apart hpA (ho8.alloc _) (by decide)); have hP9 : Hid (POwn (fun _ g x => ItAll w g x) w9 w.heap.size (ps ++ [⟨a7, N1, c7⟩]) (gss ++ [gp ++ [⟨key, dead, far, qa, qn, qc, (g1, g2, g3, g4)⟩]]) (xss ++ [xp ++ [X]])) := (POwn.snoc (POwn.grown (POwn.below hP8.out (below_alloc w8 (.cells #[.slice a7 N1 c7] 22)) (fun _ _ h => h)) (ho8.alloc _) (by decide) hg9 (fun _ _ h => h)) hp9 (by omega) hal7.out : POwn (fun _ g x => ItAll w g x) w9 w.heap.size (ps ++ [⟨a7, N1, c7⟩]) (gss ++ [gp ++ [⟨key, dead, far, qa, qn, qc, (g1, g2, g3, g4)⟩]]) (xss ++ [xp ++ [X]])))))
            have hb10 := hb9.alloc hb9.size (.cells #[] 47)
            have ho10 := ho9.alloc (.cells #[] 47)
            have hP10 : Hid (POwn (fun _ g x => ItAll w g x) (w9.alloc (.cells #[] 47)) w.heap.size (ps ++ [⟨a7, N1, c7⟩]) (gss ++ [gp ++ [⟨key, dead, far, qa, qn, qc, (g1, g2, g3, g4)⟩]]) (xss ++ [xp ++ [X]])) := (POwn.below hP9.out (below_alloc w9 (.cells #[] 47)) (fun _ _ h => h) : POwn (fun _ g x => ItAll w g x) (w9.alloc (.cells #[] 47)) w.heap.size (ps ++ [⟨a7, N1, c7⟩]) (gss ++ [gp ++ [⟨key, dead, far, qa, qn, qc, (g1, g2, g3, g4)⟩]]) (xss ++ [xp ++ [X]]))
            have hp10 := made_t (s := 8) (enc := ih) w9 (B := w.heap.size) (E := 47) hb9.size rfl
            go_roundw
            case rel => exact ⟨k + 1, m + 1, c9, 0, 0, a9, some ⟨w9.heap.size, 0, none⟩, ps ++ [⟨a7, N1, c7⟩], gss ++ [gp ++ [⟨key, dead, far, qa, qn, qc, (g1, g2, g3, g4)⟩]], xss ++ [xp ++ [X]], [], [], hlt, Nat.succ_le_succ hmk, Nat.zero_le _, (fun _ => rfl), by go_num, rfl, rfl, HR2, hlm2, (rfl : ([] : List It.I).length = 0), (fun x hx => (by cases hx) : ∀ x ∈ ([] : List It.I), x ∈ xs), ho10, hP10, hp10, (ItAll.nil w : ItAll w [] []), hb10⟩
            case measure => simp [intOf]; omega
          · have d1 : decide (size ≤ (Wt : Int)) = false := by simp; omega
            by_cases h2 : N1 = 64
            · have d2 : ((N1 : Int) == 64) = true := by simp; omega
              clear hst hcut h1 h2
              go_wp2_with (first
                | (go_at_call 40; go_must (refine hwt.mono ?_; rintro e w8 ⟨rfl, hbel8⟩; have hb8 := hbw7.trans (hbel8.mono hbw7.size); have ho8 := owns_below ho7 hbel8; have hp8 := owns_below hp7 hbel8; have hP8 : Hid (POwn (fun _ g x => ItAll w g x) w8 w.heap.size ps gss xss) := (POwn.below hP7.out hbel8 (fun _ _ h => h) : POwn (fun _ g x => ItAll w g x) w8 w.heap.size ps gss xss)))
                | (at_builtin; go_must (refine append_tg partE phE (w0 := w) (B := w.heap.size) rfl (.tmp 41) (.tmp 43) rfl _ m ps rfl (ho8.alloc _) _ 1 1 [⟨a7, N1, c7⟩] rfl (lit_part w8 ⟨a7, N1, c7⟩ rfl) (fun h => by cases h) (by omega) (hb8.alloc hb8.size _) (hb8.alloc hb8.size _).size ?_; intro a9 c9 w9 hg9 hc9 hn9 _ ho9 hb9 _; have hpA := hp8.alloc (.cells #[.slice a7 N1 c7] 22); have hp9 := hpA.kept hg9 (own_apart hpA (ho8.alloc _) (by decide)); have hP9 : Hid (POwn (fun _ g x => ItAll w g x) w9 w.heap.size (ps ++ [⟨a7, N1, c7⟩]) (gss ++ [gp ++ [⟨key, dead, far, qa, qn, qc, (g1, g2, g3, g4)⟩]]) (xss ++ [xp ++ [X]])) := (POwn.snoc (POwn.grown (POwn.below hP8.out (below_alloc w8 (.cells #[.slice a7 N1 c7] 22)) (fun _ _ h => h)) (ho8.alloc _) (by decide) hg9 (fun _ _ h => h)) hp9 (by omega) hal7.out : POwn (fun _ g x => ItAll w g x) w9 w.heap.size (ps ++ [⟨a7, N1, c7⟩]) (gss ++ [gp ++ [⟨key, dead, far, qa, qn, qc, (g1, g2, g3, g4)⟩]]) (xss ++ [xp ++ [X]])))))
              have hb10 := hb9.alloc hb9.size (.cells #[] 47)
              have ho10 := ho9.alloc (.cells #[] 47)
              have hP10 : Hid (POwn (fun _ g x => ItAll w g x) (w9.alloc (.cells #[] 47)) w.heap.size (ps ++ [⟨a7, N1, c7⟩]) (gss ++ [gp ++ [⟨key, dead, far, qa, qn, qc, (g1, g2, g3, g4)⟩]]) (xss ++ [xp ++ [X]])) := (POwn.below hP9.out (below_alloc w9 (.cells #[] 47)) (fun _ _ h => h) : POwn (fun _ g x => ItAll w g x) (w9.alloc (.cells #[] 47)) w.heap.size (ps ++ [⟨a7, N1, c7⟩]) (gss ++ [gp ++ [⟨key, dead, far, qa, qn, qc, (g1, g2, g3, g4)⟩]]) (xss ++ [xp ++ [X]]))
              have hp10 := made_t (s := 8) (enc := ih) w9 (B := w.heap.size) (E := 47) hb9.size rfl
              go_roundw
              case rel => exact ⟨k + 1, m + 1, c9, 0, 0, a9, some ⟨w9.heap.size, 0, none⟩, ps ++ [⟨a7, N1, c7⟩], gss ++ [gp ++ [⟨key, dead, far, qa, qn, qc, (g1, g2, g3, g4)⟩]], xss ++ [xp ++ [X]], [], [], hlt, Nat.succ_le_succ hmk, Nat.zero_le _, (fun _ => rfl), by go_num, rfl, rfl, HR2, hlm2, (rfl : ([] : List It.I).length = 0), (fun x hx => (by cases hx) : ∀ x ∈ ([] : List It.I), x ∈ xs), ho10, hP10, hp10, (ItAll.nil w : ItAll w [] []), hb10⟩
              case measure => simp [intOf]; omega
            · have d2 : ((N1 : Int) == 64) = false := by simp; omega
              have d3 : ((k : Int) == (n : Int) - 1) = true := by simp; omega
              clear hst hcut h1 h2
              go_wp2_with (first
                | (go_at_call 40; go_must (refine hwt.mono ?_; rintro e w8 ⟨rfl, hbel8⟩; have hb8 := hbw7.trans (hbel8.mono hbw7.size); have ho8 := owns_below ho7 hbel8; have hp8 := owns_below hp7 hbel8; have hP8 : Hid (POwn (fun _ g x => ItAll w g x) w8 w.heap.size ps gss xss) := (POwn.below hP7.out hbel8 (fun _ _ h => h) : POwn (fun _ g x => ItAll w g x) w8 w.heap.size ps gss xss)))
                | (at_builtin; go_must (refine append_tg partE phE (w0 := w) (B := w.heap.size) rfl (.tmp 41) (.tmp 43) rfl _ m ps rfl (ho8.alloc _) _ 1 1 [⟨a7, N1, c7⟩] rfl (lit_part w8 ⟨a7, N1, c7⟩ rfl) (fun h => by cases h) (by omega) (hb8.alloc hb8.size _) (hb8.alloc hb8.size _).size ?_; intro a9 c9 w9 hg9 hc9 hn9 _ ho9 hb9 _; have hpA := hp8.alloc (.cells #[.slice a7 N1 c7] 22); have hp9 := hpA.kept hg9 (own_apart hpA (ho8.alloc _) (by decide)); have hP9 : Hid (POwn (fun _ g x => ItAll w g x) w9 w.heap.size (ps ++ [⟨a7, N1, c7⟩]) (gss ++ [gp ++ [⟨key, dead, far, qa, qn, qc, (g1, g2, g3, g4)⟩]]) (xss ++ [xp ++ [X]])) := (POwn.snoc (POwn.grown (POwn.below hP8.out (below_alloc w8 (.cells #[.slice a7 N1 c7] 22)) (fun _ _ h => h)) (ho8.alloc _) (by decide) hg9 (fun _ _ h => h)) hp9 (by omega) hal7.out : POwn (fun _ g x => ItAll w g x) w9 w.heap.size (ps ++ [⟨a7, N1, c7⟩]) (gss ++ [gp ++ [⟨key, dead, far, qa, qn, qc, (g1, g2, g3, g4)⟩]]) (xss ++ [xp ++ [X]])))))
              have hb10 := hb9.alloc hb9.size (.cells #[] 47)
              have ho10 := ho9.alloc (.cells #[] 47)
              have hP10 : Hid (POwn (fun _ g x => ItAll w g x) (w9.alloc (.cells #[] 47)) w.heap.size (ps ++ [⟨a7, N1, c7⟩]) (gss ++ [gp ++ [⟨key, dead, far, qa, qn, qc, (g1, g2, g3, g4)⟩]]) (xss ++ [xp ++ [X]])) := (POwn.below hP9.out (below_alloc w9 (.cells #[] 47)) (fun _ _ h => h) : POwn (fun _ g x => ItAll w g x) (w9.alloc (.cells #[] 47)) w.heap.size (ps ++ [⟨a7, N1, c7⟩]) (gss ++ [gp ++ [⟨key, dead, far, qa, qn, qc, (g1, g2, g3, g4)⟩]]) (xss ++ [xp ++ [X]]))
              have hp10 := made_t (s := 8) (enc := ih) w9 (B := w.heap.size) (E := 47) hb9.size rfl
              go_roundw
              case rel => exact ⟨k + 1, m + 1, c9, 0, 0, a9, some ⟨w9.heap.size, 0, none⟩, ps ++ [⟨a7, N1, c7⟩], gss ++ [gp ++ [⟨key, dead, far, qa, qn, qc, (g1, g2, g3, g4)⟩]], xss ++ [xp ++ [X]], [], [], hlt, Nat.succ_le_succ hmk, Nat.zero_le _, (fun _ => rfl), by go_num, rfl, rfl, HR2, hlm2, (rfl : ([] : List It.I).length = 0), (fun x hx => (by cases hx) : ∀ x ∈ ([] : List It.I), x ∈ xs), ho10, hP10, hp10, (ItAll.nil w : ItAll w [] []), hb10⟩
              case measure => simp [intOf]; omega
        · have HR2 : Hid (R = xss ++ Tb.pgo size (xp ++ [X]) (xs.drop (k + 1))) := (by rw [hst.out, if_neg hcut] : R = xss ++ Tb.pgo size (xp ++ [X]) (xs.drop (k + 1)))
          have d1 : decide (size ≤ (Wt : Int)) = false := by simp; omega
          have d2 : ((N1 : Int) == 64) = false := by simp; omega
          have d3 : ((k : Int) == (n : Int) - 1) = false := by simp; omega
          have hk1 : k + 1 ≠ n := fun h => hcut (.inr (.inr h))
          have hN63 : N1 ≤ 63 := by omega
          clear hst hcut
          go_wp2_with (go_at_call 40; go_must (refine hwt.mono ?_; rintro e w8 ⟨rfl, hbel8⟩; have hb8 := hbw7.trans (hbel8.mono hbw7.size); have ho8 := owns_below ho7 hbel8; have hp8 := owns_below hp7 hbel8; have hP8 : Hid (POwn (fun _ g x => ItAll w g x) w8 w.heap.size ps gss xss) := (POwn.below hP7.out hbel8 (fun _ _ h => h) : POwn (fun _ g x => ItAll w g x) w8 w.heap.size ps gss xss)))
          go_roundw
          case rel => exact ⟨k + 1, m, co, N1, c7, ao, a7, ps, gss, xss, _, _, by omega, by omega, hN63, by omega, by go_num, rfl, rfl, HR2, hlm, hlp7, hmem, ho8, hP8, hp8, hal7, hb8⟩
          case measure => simp [intOf]; omega)
    · obtain rfl : k = n := by omega
      obtain rfl : np = 0 := hkn rfl
      have hx0 : xp = [] := List.length_eq_zero_iff.mp hlp.out
      have HE : Hid (R = xss) := (by rw [HR.out, List.drop_of_length_le (by rw [hll.out]; omega)]; simp [Tb.pgo] : R = xss)
      clear HR
      go_wp2
      go_ret
      exact parted_ret HE.out hlm.out hown (by omega) hP.out hbel
end Go.Proofs.Ytikieblokfjphaa

/- What the reference's Joined does. -/
namespace Go.Proofs.Ytikieblokfjphaa
open Go.RowKit

/-- items are told, in a row of the call's own; the items themselves lie as they lay -/
def JoinRes (w : World) (gs : List IH) (e : Ending) (w' : World) : Prop :=
  ∃ a c, e = .returned (.slice a gs.length c) ∧ (a = none → gs.length = 0 ∧ c = 0) ∧ gs.length ≤ c ∧ w'.ownsRow w.heap.size 47 8 (.slice a gs.length c) gs.length (tcells ih gs) ∧ Below w.heap.size w w'
theorem flat_take {α : Type} {l : List (List α)} {k : Nat} (h : k < l.length) : (l.take (k + 1)).flatten = (l.take k).flatten ++ l.getD k [] := by
  rw [List.take_succ_eq_append_getElem h, List.flatten_append]
  simp [h]
theorem flat_len {α : Type} (l : List (List α)) (k M : Nat) (h : ∀ i, i < l.length → (l.getD i []).length ≤ M) : k ≤ l.length → (l.take k).flatten.length ≤ k * M := by
  induction k with
  | zero => intro _; simp
  | succ k ih =>
    intro hk
    rw [flat_take (by omega), List.length_append, Nat.succ_mul]
    have := ih (by omega)
    have := h k (by omega)
    omega

set_option maxRecDepth 100000 in
set_option maxHeartbeats 2000000 in
theorem tjoined_any (a : Option Addr) (n c : Nat) (ps : List PH) (gss : List (List IH)) (xss : List (List It.I)) (w : World) (hn : n ≤ 100000) (hi : InP w a n ps gss xss) (hsz : ∀ i, i < n → (gss.getD i []).length ≤ 1000) :
    Calls Try.prog 34 #[.slice a n c] w (JoinRes w gss.flatten) := by
  have hln : Hid (xss.length = n) := hi.len
  have hlg : Hid (gss.length = n) := (hi.2.2.1.trans hln.out : gss.length = n)
  have HF : Hid (∀ k, k ≤ n → (gss.take k).flatten.length ≤ k * 1000) := (fun k hk => flat_len gss k 1000 (fun i hi' => hsz i (by rw [← hlg.out]; exact hi')) (by rw [hlg.out]; exact hk) : ∀ k, k ≤ n → (gss.take k).flatten.length ≤ k * 1000)
  have HT : Hid (∀ k, k < n → (gss.take (k + 1)).flatten = (gss.take k).flatten ++ gss.getD k []) := (fun k hk => flat_take (by rw [hlg.out]; exact hk) : ∀ k, k < n → (gss.take (k + 1)).flatten = (gss.take k).flatten ++ gss.getD k [])
  have HE : Hid (gss.take n = gss) := List.take_of_length_le (by rw [hlg.out]; omega)
  have Hi : Hid (InP w a n ps gss xss) := hi
  have hbs := below_alloc w (.cells #[] 47)
  have ho0 := made_t (s := 8) (enc := ih) w (B := w.heap.size) (E := 47) (Nat.le_refl _) rfl
  clear hi hsz
  go_enter Try.func34, Try.ntmps34
  go_wp2_with fail
  go_loopw [3, 4] (fun v i wr => ∃ (k m co : Nat) (ao : Option Addr), k ≤ n ∧ i = .int .i64 k ∧ v = .slice ao m co ∧ Hid ((gss.take k).flatten.length = m) ∧ wr.ownsRow w.heap.size 47 8 (.slice ao m co) m (tcells ih (gss.take k).flatten) ∧ Below w.heap.size w wr) (fun _ i _ => n - (intOf i).toNat)
  case atStart => exact ⟨0, 0, 0, _, Nat.zero_le _, rfl, rfl, (rfl : ([] : List IH).length = 0), ho0, hbs⟩
  case round =>
    obtain ⟨k, m, co, ao, hk, rfl, rfl, hlm, hown, hbel⟩ := hrel
    clear ho0 hbs
    by_cases hlt : k < n
    · obtain ⟨b, off, rfl, hc⟩ := Hi.out.1.part (by omega)
      have hcell := (hbel.cell (p := ⟨b, off + k, none⟩) (cell_lt (hc k hlt))).trans (hc k hlt)
      have hin := (Hi.out.2.2.2 k (by rw [hln.out]; exact hlt)).below hbel (Nat.le_refl _)
      have hm := HF.out k hk
      have hm1 := HF.out (k + 1) hlt
      have ht := HT.out k hlt
      rw [hlm.out] at hm
      have hgl := hin.1.1.1
      rw [ht, List.length_append, hlm.out, hgl] at hm1
      have HT2 : Hid ((gss.take (k + 1)).flatten = (gss.take k).flatten ++ gss.getD k []) := ht
      have hl2 : Hid ((gss.take (k + 1)).flatten.length = m + (ps.getD k phz).n) := (by rw [ht, List.length_append, hlm.out, hgl] : (gss.take (k + 1)).flatten.length = m + (ps.getD k phz).n)
      have hrow := hin.1.1
      have hnil := hin.2.1
      generalize ps.getD k phz = q at *
      obtain ⟨qa, qn, qc⟩ := q
      simp only at hcell hrow hnil hm1 hl2
      have i0 : (0 : Int) ≤ (k : Int) := by omega
      have i1 : (k : Int) < (n : Int) := by omega
      have i2 : IntKind.i64.wrap ((k : Int) + 1) = (k : Int) + 1 := by rw [IntKind.wrap_i64]; omega
      have hmq : m + qn ≤ 1000000000 := by omega
      clear hin ht hgl hc hm hm1
      go_wp2_with (at_builtin; go_must (refine append_tg itemE ihE (w0 := w) (B := w.heap.size) rfl (.tmp 12) (.tmp 16) rfl _ m _ rfl hown qa qn qc _ rfl hrow hnil hmq hbel hbel.size ?_; intro a9 c9 w9 hg9 hc9 hn9 _ ho9 hb9 _))
      rw [← HT2.out] at ho9
      go_roundw
      case rel => exact ⟨k + 1, m + qn, c9, a9, hlt, by go_num, rfl, hl2, ho9, hb9⟩
      case measure => simp [intOf]; omega
    · obtain rfl : k = n := by omega
      rw [HE.out] at hown hlm
      go_wp2
      go_ret
      obtain ⟨a', c', e, g1, g2⟩ := t_shape hown
      simp only [Value.slice.injEq, true_and] at e
      obtain ⟨rfl, rfl⟩ := e
      have hl := hlm.out
      subst hl
      exact ⟨ao, co, rfl, g1, g2, hown, hbel⟩
end Go.Proofs.Ytikieblokfjphaa

/- Append onto one of two rows of bytes of the call's own; rows of texts; what the reference's Put of a table does. -/
namespace Go.Proofs.Ytikieblokfjphaa
open Go.RowKit

theorem steE : Enc 1 ste := ⟨fun _ => rfl, fun x u hu => by simp only [ste, List.mem_cons, List.not_mem_nil, or_false] at hu; subst hu; rfl⟩
theorem textE : Elem 76 9 1 16 (.string ⟨#[]⟩) := ⟨Try.underlying76, by kernel_rfl, rfl, by decide, by decide⟩
theorem lit_text (w : World) (s : ByteArray) {g : Nat} (hg : w.heap.size = g) : StRow (w.alloc (.cells #[.string s] 9)) (some ⟨g, 0, none⟩) 1 [s] := trow_lit w _ _ s hg (fun j v hj => by
  match j, hj with
  | 0, hj => exact hj
  | j + 1, hj => simp [ste] at hj)
/-- where a row is behind an append: where it was, or behind all -/
def AtOr (w : World) (v v' : Value) : Prop := v'.ownBlock = v.ownBlock ∨ v'.ownBlock = some w.heap.size
theorem AtOr.apart {w : World} {v v' u : Value} (h : AtOr w v v') {B e s n : Nat} {xs : List Value} (hu : w.ownsRow B e s u n xs) (hne : u.ownBlock = none ∨ u.ownBlock ≠ v.ownBlock) : u.ownBlock = none ∨ u.ownBlock ≠ v'.ownBlock := by
  rcases hne with hn | hne
  · exact .inl hn
  · refine .inr fun e => ?_
    rcases h with h | h
    · rw [h] at e; exact hne e
    · rw [h] at e
      have := (hu.lt _ e).2
      omega
theorem append_u8at {w0 w : World} {B : Nat} {ops : Array Oper} {rest : List Oper} {o : Oper} {a : Act} {Q : Exit → Act → World → Prop} (hgd : o.guard = none) (s x : Operand)
    (ho : o.op = .call { callee := .builtin .append, args := #[s, x], argTypes := #[25, 25] })
    (v : Value) (n : Nat) (xs : List Nat) (hs : a.eval s = v) (hown : w.ownsRow B 5 1 v n (kcells .u8 xs))
    (ad : Option Addr) (m c : Nat) (bs : List Nat) (hx : a.eval x = .slice ad m c) (hrow : Row .u8 w ad m bs) (hnil : ad = none → m = 0 ∧ c = 0)
    (hnm : n + m ≤ 1000000000000) (hbel : Below B w0 w) (hB : B ≤ w.heap.size)
    (h : ∀ a' c' w', w'.ownsRow B 5 1 (.slice a' (n + m) c') (n + m) (kcells .u8 (xs ++ bs)) → Below B w0 w' → B ≤ w'.heap.size → w.grownBy w' v.ownBlock → AtOr w v (.slice a' (n + m) c') → wpList Try.prog ops Q rest (a.put o.dst (.slice a' (n + m) c')) w') : wpList Try.prog ops Q (o :: rest) a w := by
  obtain ⟨i0, hi, hz0, hz1, hz2⟩ := info_parts Try.info5
  obtain ⟨h1, h2, h3, h4⟩ := hrow
  cases ad with
  | none =>
    obtain ⟨rfl, rfl⟩ := hnil rfl
    obtain rfl : bs = [] := List.length_eq_zero_iff.mp h1
    refine wpList_append_own_none hgd s x 25 ho B 5 i0 1 Try.underlying25 hi v n (kcells .u8 xs) hs hown hx ?_
    obtain ⟨a', c', rfl⟩ := slice_of_owns hown
    exact h a' c' w (by simpa using hown) hbel hB ⟨rfl, rfl, rfl, Nat.le_refl _, fun _ _ _ => rfl⟩ (.inl rfl)
  | some ad =>
    refine wpList_append_own_at w hgd s x 25 ho B 5 i0 (.int .u8 0) 1 1 Try.underlying25 hi hz0 hz1 hz2 rfl (by decide) v n (kcells .u8 xs) hs hown ad m c (kcells .u8 bs) hx (by rw [kcells_length]; omega) ?_ ?_ (by unfold maxLen; omega) (by omega) hB ?_
    · intro j u hj
      obtain ⟨hlt, rfl⟩ := kcells_get .u8 bs j u hj
      rcases h4 with h0 | ⟨b, off, e, hc⟩
      · omega
      · obtain rfl : ad = ⟨b, off, none⟩ := by simpa using e
        rw [add_at]; exact hc j (by omega)
    · intro u hu
      simp only [kcells, List.mem_map] at hu
      obtain ⟨n, _, rfl⟩ := hu
      rfl
    · intro v' w' hown' hg _ hat
      obtain ⟨a', c', rfl⟩ := slice_of_owns hown'
      refine h a' c' w' (by rw [kcells_append]; exact hown') (hbel.grown hg hB (fun k hk => (hown.lt k hk).1)) (Nat.le_trans hB hg.size) hg hat
theorem str_at (w : World) (B n : Nat) (ty : TypeId) (v v' : Value) (w' : World) (xs : List Value) (t : ByteArray) (hown : w.ownsRow B 5 1 v n xs) (hsm : n + t.size ≤ 1000000000000)
    (hrun : (Builtin.append_ #[25, 9] ty #[v, .string t]).run Try.prog w = .ok v' w') (hz : v' = .slice none 0 0 ↔ v = .slice none 0 0 ∧ t.size = 0) : AtOr w v v' := by
  obtain ⟨i0, hi, hz0, hz1, hz2⟩ := info_parts Try.info5
  have hxl : xs.length = n := by simpa using hown.1
  rcases hown.2 with ⟨rfl, rfl⟩ | ⟨g, cap, cur, rfl, hbg, hg, hnc, hcm, hcs, htake⟩
  · by_cases hm : t.size = 0
    · rw [hz.mpr ⟨rfl, hm⟩]; exact .inl rfl
    · have hr := run_append_nil_string (P := Try.prog) w 25 9 ty 5 i0 (.int .u8 0) Try.underlying25 Try.underlying9 hi hz0 t (by omega) (by omega) (by rw [hz2]; omega)
      rw [hr] at hrun
      injection hrun with e1 e2
      subst e1
      exact .inr rfl
  · by_cases hroom : n + t.size ≤ cap
    · have hr := Lib.run_append_room_string (P := Try.prog) w 25 9 ty 5 i0 Try.underlying25 Try.underlying9 hi hz1 g n cap cur hg t hroom (by simpa using (show n * 1 + t.size ≤ cur.size by rw [hcs]; omega))
      rw [hr] at hrun
      injection hrun with e1 e2
      subst e1
      exact .inl rfl
    · have holds : ∀ j u, xs[j]? = some u → w.cell? ((⟨g, 0, none⟩ : Addr).add j) = some u := hown.cells (g := g) rfl
      have hr := Lib.run_append_grow_string (P := Try.prog) w 25 9 ty 5 i0 (.int .u8 0) Try.underlying25 Try.underlying9 hi hz0 ⟨g, 0, none⟩ n cap xs (by rw [hz1]; simpa using hxl) holds t (by omega) (by omega) (by rw [hz2]; exact growslice_fits (by omega) (by omega))
      rw [hr] at hrun
      injection hrun with e1 e2
      subst e1
      exact .inr rfl
theorem append_strat {w0 w : World} {B : Nat} {ops : Array Oper} {rest : List Oper} {o : Oper} {a : Act} {Q : Exit → Act → World → Prop} (hgd : o.guard = none) (s x : Operand)
    (ho : o.op = .call { callee := .builtin .append, args := #[s, x], argTypes := #[25, 9] })
    (v : Value) (n : Nat) (xs : List Nat) (hs : a.eval s = v) (hown : w.ownsRow B 5 1 v n (kcells .u8 xs)) (t : ByteArray) (hx : a.eval x = .string t)
    (hnm : n + t.size ≤ 1000000000000) (hbel : Below B w0 w) (hB : B ≤ w.heap.size)
    (h : ∀ a' c' w', w'.ownsRow B 5 1 (.slice a' (n + t.size) c') (n + t.size) (kcells .u8 (xs ++ kb t)) → Below B w0 w' → B ≤ w'.heap.size → w.grownBy w' v.ownBlock → AtOr w v (.slice a' (n + t.size) c') → wpList Try.prog ops Q rest (a.put o.dst (.slice a' (n + t.size) c')) w') : wpList Try.prog ops Q (o :: rest) a w := by
  obtain ⟨i0, hi, hz0, hz1, hz2⟩ := info_parts Try.info5
  obtain ⟨v', w', hrun, hown', hg, hz⟩ := Lib.run_append_own_string (P := Try.prog) w B 25 9 o.type 5 i0 Try.underlying25 Try.underlying9 hi hz0 hz1 hz2 v n (kcells .u8 xs) hown t (by unfold maxLen; omega) (by omega) hB
  have hat := str_at w B n o.type v v' w' (kcells .u8 xs) t hown hnm hrun hz
  refine Lib.wpList_append_run w hgd s x _ _ ho _ _ hs hx _ _ hrun ?_
  obtain ⟨a', c', rfl⟩ := slice_of_owns hown'
  rw [str_kcells, ← kcells_append] at hown'
  exact h a' c' w' hown' (hbel.grown hg hB (fun k hk => (hown.lt k hk).1)) (Nat.le_trans hB hg.size) hg hat
end Go.Proofs.Ytikieblokfjphaa
