/- Rows of parts: slices whose elements are slices of items. -/
import Derived.Test.YtikieblokfjphaaGreatIT1
import Derived.Test.YtikieblokfjphaaGreatMa
import Derived.Deep.RegionHeld3
import Derived.Test.YtikieblokfjphaaGreatAS
import Derived.Test.YtikieblokfjphaaGreatFA
import Derived.Test.YtikieblokfjphaaGreatSVa
import Derived.Maps.AppendAt
namespace Go.Proofs.YtikieblokfjphaaGreat
open Go.RowKit

/-- a part as it lies: where its items are -/
structure PH where
  a : Option Addr
  n : Nat
  c : Nat
def phz : PH := ⟨none, 0, 0⟩
def phe (h : PH) : List Value := [.slice h.a h.n h.c]
theorem phE : Enc 1 phe := ⟨fun _ => rfl, fun x u hu => by simp only [phe, List.mem_cons, List.not_mem_nil, or_false] at hu; subst hu; rfl⟩
theorem partE : Elem 46 28 1 24 (.slice none 0 0) := ⟨Tryz.underlying46, by kernel_rfl, rfl, by decide, by decide⟩
/-- parts, read -/
def PartsAt (w : World) (ps : List PH) (gss : List (List IH)) (xss : List (List It.I)) : Prop :=
  ps.length = xss.length ∧ gss.length = xss.length ∧ ∀ i, i < xss.length → InI w (ps.getD i phz).a (ps.getD i phz).n (ps.getD i phz).c (gss.getD i []) (xss.getD i [])
theorem PartsAt.below {w w' : World} {B : Nat} {ps : List PH} {gss : List (List IH)} {xss : List (List It.I)} (h : PartsAt w ps gss xss) (hb : Below B w w') (hB : w.heap.size ≤ B) : PartsAt w' ps gss xss := ⟨h.1, h.2.1, fun i hi => (h.2.2 i hi).below hb hB⟩
def InP (w : World) (a : Option Addr) (n : Nat) (ps : List PH) (gss : List (List IH)) (xss : List (List It.I)) : Prop := TRow 1 phe phz w a n ps ∧ PartsAt w ps gss xss
theorem InP.below {w w' : World} {B : Nat} {a : Option Addr} {n : Nat} {ps : List PH} {gss : List (List IH)} {xss : List (List It.I)} (h : InP w a n ps gss xss) (hb : Below B w w') (hB : w.heap.size ≤ B) : InP w' a n ps gss xss := ⟨h.1.below hb hB, h.2.below hb hB⟩
theorem InP.len {w : World} {a : Option Addr} {n : Nat} {ps : List PH} {gss : List (List IH)} {xss : List (List It.I)} (h : InP w a n ps gss xss) : xss.length = n := h.2.1.symm.trans h.1.1
theorem TRow.part {w : World} {a : Option Addr} {n : Nat} {ps : List PH} (h : TRow 1 phe phz w a n ps) (hn : 0 < n) : ∃ b off, a = some ⟨b, off, none⟩ ∧ ∀ i, i < n → w.cell? ⟨b, off + i, none⟩ = some (.slice (ps.getD i phz).a (ps.getD i phz).n (ps.getD i phz).c) := by
  obtain ⟨b, off, e, hc⟩ := h.at hn
  refine ⟨b, off, e, fun i hi => ?_⟩
  have := hc i hi 0 _ rfl
  rw [Nat.mul_one, Nat.add_zero] at this
  exact this
/-- parts of the call's own; Q: how their items lie -/
def POwn (Q : World → List IH → List It.I → Prop) (w : World) (B : Nat) (ps : List PH) (gss : List (List IH)) (xss : List (List It.I)) : Prop :=
  ps.length = xss.length ∧ gss.length = xss.length ∧ ∀ i, i < xss.length → w.ownsRow B 40 8 (.slice (ps.getD i phz).a (ps.getD i phz).n (ps.getD i phz).c) (ps.getD i phz).n (tcells ih (gss.getD i [])) ∧ (ps.getD i phz).n ≤ 1000000 ∧ Q w (gss.getD i []) (xss.getD i [])
section
variable {Q : World → List IH → List It.I → Prop} {w w' : World} {B : Nat} {ps : List PH} {gss : List (List IH)} {xss : List (List It.I)}
theorem POwn.nil (Q : World → List IH → List It.I → Prop) (w : World) (B : Nat) : POwn Q w B [] [] [] := ⟨rfl, rfl, fun i hi => by simp at hi⟩
theorem POwn.below (h : POwn Q w B ps gss xss) (hb : Below w.heap.size w w') (hQ : ∀ g x, Q w g x → Q w' g x) : POwn Q w' B ps gss xss := ⟨h.1, h.2.1, fun i hi => ⟨owns_below (h.2.2 i hi).1 hb, (h.2.2 i hi).2.1, hQ _ _ (h.2.2 i hi).2.2⟩⟩
theorem POwn.grown (h : POwn Q w B ps gss xss) {B' : Nat} {t : TypeId} {z : Nat} {v : Value} {n : Nat} {vs : List Value} (hv : w.ownsRow B' t z v n vs) (he : (40 : Nat) ≠ t) (hg : w.grownBy w' v.ownBlock) (hQ : ∀ g x, Q w g x → Q w' g x) : POwn Q w' B ps gss xss :=
  ⟨h.1, h.2.1, fun i hi => ⟨(h.2.2 i hi).1.kept hg (own_apart (h.2.2 i hi).1 hv he), (h.2.2 i hi).2.1, hQ _ _ (h.2.2 i hi).2.2⟩⟩
theorem POwn.snoc (h : POwn Q w B ps gss xss) {a : Option Addr} {n c : Nat} {gs : List IH} {xs : List It.I} (hown : w.ownsRow B 40 8 (.slice a n c) n (tcells ih gs)) (hn : n ≤ 1000000) (hq : Q w gs xs) : POwn Q w B (ps ++ [⟨a, n, c⟩]) (gss ++ [gs]) (xss ++ [xs]) := by
  obtain ⟨h1, h2, h3⟩ := h
  refine ⟨by simp [h1], by simp [h2], fun i hi => ?_⟩
  rw [List.length_append, List.length_singleton] at hi
  rcases Nat.lt_or_ge i xss.length with h' | h'
  · have e1 : (ps ++ [(⟨a, n, c⟩ : PH)]).getD i phz = ps.getD i phz := by rw [List.getD_eq_getElem?_getD, List.getElem?_append_left (by omega), ← List.getD_eq_getElem?_getD]
    have e2 : (gss ++ [gs]).getD i [] = gss.getD i [] := by rw [List.getD_eq_getElem?_getD, List.getElem?_append_left (by omega), ← List.getD_eq_getElem?_getD]
    have e3 : (xss ++ [xs]).getD i [] = xss.getD i [] := by rw [List.getD_eq_getElem?_getD, List.getElem?_append_left (by omega), ← List.getD_eq_getElem?_getD]
    rw [e1, e2, e3]
    exact h3 i h'
  · obtain rfl : i = xss.length := by omega
    have e1 : (ps ++ [(⟨a, n, c⟩ : PH)]).getD xss.length phz = ⟨a, n, c⟩ := by rw [← h1]; simp
    have e2 : (gss ++ [gs]).getD xss.length [] = gs := by rw [← h2]; simp
    have e3 : (xss ++ [xs]).getD xss.length [] = xs := by simp
    rw [e1, e2, e3]
    exact ⟨hown, hn, hq⟩
theorem POwn.parts (h : POwn Q w B ps gss xss) (hQ : ∀ g x, Q w g x → ItAll w g x) : PartsAt w ps gss xss := by
  refine ⟨h.1, h.2.1, fun i hi => ?_⟩
  obtain ⟨h1, h2, h3⟩ := h.2.2 i hi
  obtain ⟨a', c', e, g1, g2⟩ := t_shape h1
  simp only [Value.slice.injEq, true_and] at e
  obtain ⟨e1, e2⟩ := e
  rw [← e1, ← e2] at g1
  rw [← e2] at g2
  exact ⟨⟨trow_of_owns ihE h1 (by omega) (by omega), hQ _ _ h3⟩, g1, g2⟩
end
theorem lit_part (w : World) (h : PH) {g : Nat} (hg : w.heap.size = g) : TRow 1 phe phz (w.alloc (.cells #[.slice h.a h.n h.c] 28)) (some ⟨g, 0, none⟩) 1 [h] := trow_lit w _ _ h hg (fun j v hj => by
  match j, hj with
  | 0, hj => exact hj
  | j + 1, hj => simp [phe] at hj)
theorem it_weight_le : ∀ {l : List It.I}, (∀ x ∈ l, x.1.length ≤ 100000 ∧ x.2.2.2.1.length ≤ 100000) → l.length ≤ 1000 → It.weight l ≤ 1000000000000 := by
  have h : ∀ (l : List It.I), (∀ x ∈ l, x.1.length ≤ 100000 ∧ x.2.2.2.1.length ≤ 100000) → It.weight l ≤ 200016 * l.length := by
    intro l
    induction l with
    | nil => intro _; exact Nat.le_refl _
    | cons x l ih =>
      intro hx
      have h1 := hx x (by simp)
      have h2 := ih (fun y hy => hx y (by simp [hy]))
      simp only [It.weight, List.map_cons, List.sum_cons, List.length_cons] at h2 ⊢
      omega
  intro l hx hl
  have := h l hx
  omega
end Go.Proofs.YtikieblokfjphaaGreat

/- What the reference's Parted does. -/
namespace Go.Proofs.YtikieblokfjphaaGreat
open Go.RowKit

/-- parts of the call's own are told -/
def PartedRes (w : World) (Q : World → List IH → List It.I → Prop) (xss : List (List It.I)) (e : Ending) (w' : World) : Prop :=
  ∃ a c ps gss, e = .returned (.slice a xss.length c) ∧ (a = none → xss.length = 0 ∧ c = 0) ∧ xss.length ≤ c ∧ TRow 1 phe phz w' a xss.length ps ∧ POwn Q w' w.heap.size ps gss xss ∧ Below w.heap.size w w'
theorem parted_ret {w W : World} {Q : World → List IH → List It.I → Prop} {R xss : List (List It.I)} {a : Option Addr} {m c : Nat} {ps : List PH} {gss : List (List IH)} (hR : R = xss) (hm : xss.length = m) (hown : W.ownsRow w.heap.size 28 1 (.slice a m c) m (tcells phe ps)) (hs : m ≤ 1000000) (hP : POwn Q W w.heap.size ps gss xss) (hb : Below w.heap.size w W) : PartedRes w Q R (.returned (.slice a m c)) W := by
  subst hR; subst hm
  obtain ⟨a', c', e, g1, g2⟩ := t_shape hown
  simp only [Value.slice.injEq, true_and] at e
  obtain ⟨rfl, rfl⟩ := e
  exact ⟨a, c, ps, gss, rfl, g1, g2, trow_of_owns phE hown (by omega) (by omega), hP, hb⟩
theorem Tb.pgo_step (size : Int) (p : List It.I) (xs : List It.I) (k : Nat) (hk : k < xs.length) :
    Tb.pgo size p (xs.drop k) = if size ≤ (It.weight (p ++ [xs.getD k It.zero]) : Int) ∨ p.length + 1 = 64 ∨ k + 1 = xs.length then (p ++ [xs.getD k It.zero]) :: Tb.pgo size [] (xs.drop (k + 1)) else Tb.pgo size (p ++ [xs.getD k It.zero]) (xs.drop (k + 1)) := by
  have e : xs.drop k = xs.getD k It.zero :: xs.drop (k + 1) := by rw [List.drop_eq_getElem_cons hk]; simp [hk]
  have e2 : (xs.drop (k + 1) = []) ↔ k + 1 = xs.length := by rw [List.drop_eq_nil_iff]; omega
  rw [e, Tb.pgo]
  simp only [List.length_append, List.length_singleton, e2]

end Go.Proofs.YtikieblokfjphaaGreat


/- What the reference's Joined does. -/
namespace Go.Proofs.YtikieblokfjphaaGreat
open Go.RowKit

/-- items are told, in a row of the call's own; the items themselves lie as they lay -/
def JoinRes (w : World) (gs : List IH) (e : Ending) (w' : World) : Prop :=
  ∃ a c, e = .returned (.slice a gs.length c) ∧ (a = none → gs.length = 0 ∧ c = 0) ∧ gs.length ≤ c ∧ w'.ownsRow w.heap.size 40 8 (.slice a gs.length c) gs.length (tcells ih gs) ∧ Below w.heap.size w w'
theorem flat_take {α : Type} {l : List (List α)} {k : Nat} (h : k < l.length) : (l.take (k + 1)).flatten = (l.take k).flatten ++ l.getD k [] := by
  rw [List.take_succ_eq_append_getElem h, List.flatten_append]
  simp [h]
theorem flat_len {α : Type} (l : List (List α)) (k M : Nat) (h : ∀ i, i < l.length → (l.getD i []).length ≤ M) : k ≤ l.length → (l.take k).flatten.length ≤ k * M := by
  induction k with
  | zero => intro _; simp
  | succ k ih =>
    intro hk
    rw [flat_take (by omega), List.length_append, Nat.succ_mul]
    have := ih (by omega)
    have := h k (by omega)
    omega

set_option maxRecDepth 100000 in
set_option maxHeartbeats 2000000 in
theorem tjoined_any (a : Option Addr) (n c : Nat) (ps : List PH) (gss : List (List IH)) (xss : List (List It.I)) (w : World) (hn : n ≤ 100000) (hi : InP w a n ps gss xss) (hsz : ∀ i, i < n → (gss.getD i []).length ≤ 1000) :
    Calls Tryz.prog 17 #[.slice a n c] w (JoinRes w gss.flatten) := by
  have hln : Hid (xss.length = n) := hi.len
  have hlg : Hid (gss.length = n) := (hi.2.2.1.trans hln.out : gss.length = n)
  have HF : Hid (∀ k, k ≤ n → (gss.take k).flatten.length ≤ k * 1000) := (fun k hk => flat_len gss k 1000 (fun i hi' => hsz i (by rw [← hlg.out]; exact hi')) (by rw [hlg.out]; exact hk) : ∀ k, k ≤ n → (gss.take k).flatten.length ≤ k * 1000)
  have HT : Hid (∀ k, k < n → (gss.take (k + 1)).flatten = (gss.take k).flatten ++ gss.getD k []) := (fun k hk => flat_take (by rw [hlg.out]; exact hk) : ∀ k, k < n → (gss.take (k + 1)).flatten = (gss.take k).flatten ++ gss.getD k [])
  have HE : Hid (gss.take n = gss) := List.take_of_length_le (by rw [hlg.out]; omega)
  have Hi : Hid (InP w a n ps gss xss) := hi
  have hbs := below_alloc w (.cells #[] 40)
  have ho0 := made_t (s := 8) (enc := ih) w (B := w.heap.size) (E := 40) (Nat.le_refl _) rfl
  clear hi hsz
  go_enter Tryz.func17, Tryz.ntmps17
  go_wp2_with fail
  go_loopw [3, 4] (fun v i wr => ∃ (k m co : Nat) (ao : Option Addr), k ≤ n ∧ i = .int .i64 k ∧ v = .slice ao m co ∧ Hid ((gss.take k).flatten.length = m) ∧ wr.ownsRow w.heap.size 40 8 (.slice ao m co) m (tcells ih (gss.take k).flatten) ∧ Below w.heap.size w wr) (fun _ i _ => n - (intOf i).toNat)
  case atStart => exact ⟨0, 0, 0, _, Nat.zero_le _, rfl, rfl, (rfl : ([] : List IH).length = 0), ho0, hbs⟩
  case round =>
    obtain ⟨k, m, co, ao, hk, rfl, rfl, hlm, hown, hbel⟩ := hrel
    clear ho0 hbs
    by_cases hlt : k < n
    · obtain ⟨b, off, rfl, hc⟩ := Hi.out.1.part (by omega)
      have hcell := (hbel.cell (p := ⟨b, off + k, none⟩) (cell_lt (hc k hlt))).trans (hc k hlt)
      have hin := (Hi.out.2.2.2 k (by rw [hln.out]; exact hlt)).below hbel (Nat.le_refl _)
      have hm := HF.out k hk
      have hm1 := HF.out (k + 1) hlt
      have ht := HT.out k hlt
      rw [hlm.out] at hm
      have hgl := hin.1.1.1
      rw [ht, List.length_append, hlm.out, hgl] at hm1
      have HT2 : Hid ((gss.take (k + 1)).flatten = (gss.take k).flatten ++ gss.getD k []) := ht
      have hl2 : Hid ((gss.take (k + 1)).flatten.length = m + (ps.getD k phz).n) := (by rw [ht, List.length_append, hlm.out, hgl] : (gss.take (k + 1)).flatten.length = m + (ps.getD k phz).n)
      have hrow := hin.1.1
      have hnil := hin.2.1
      generalize ps.getD k phz = q at *
      obtain ⟨qa, qn, qc⟩ := q
      simp only at hcell hrow hnil hm1 hl2
      have i0 : (0 : Int) ≤ (k : Int) := by omega
      have i1 : (k : Int) < (n : Int) := by omega
      have i2 : IntKind.i64.wrap ((k : Int) + 1) = (k : Int) + 1 := by rw [IntKind.wrap_i64]; omega
      have hmq : m + qn ≤ 1000000000 := by omega
      clear hin ht hgl hc hm hm1
      go_wp2_with (at_builtin; go_must (refine append_tg itemE ihE (w0 := w) (B := w.heap.size) rfl (.tmp 12) (.tmp 16) rfl _ m _ rfl hown qa qn qc _ rfl hrow hnil hmq hbel hbel.size ?_; intro a9 c9 w9 hg9 hc9 hn9 _ ho9 hb9 _))
      rw [← HT2.out] at ho9
      go_roundw
      case rel => exact ⟨k + 1, m + qn, c9, a9, hlt, by go_num, rfl, hl2, ho9, hb9⟩
      case measure => simp [intOf]; omega
    · obtain rfl : k = n := by omega
      rw [HE.out] at hown hlm
      go_wp2
      go_ret
      obtain ⟨a', c', e, g1, g2⟩ := t_shape hown
      simp only [Value.slice.injEq, true_and] at e
      obtain ⟨rfl, rfl⟩ := e
      have hl := hlm.out
      subst hl
      exact ⟨ao, co, rfl, g1, g2, hown, hbel⟩
end Go.Proofs.YtikieblokfjphaaGreat

/- Append onto one of two rows of bytes of the call's own; rows of texts; what the reference's Put of a table does. -/
namespace Go.Proofs.YtikieblokfjphaaGreat
open Go.RowKit

theorem steE : Enc 1 ste := ⟨fun _ => rfl, fun x u hu => by simp only [ste, List.mem_cons, List.not_mem_nil, or_false] at hu; subst hu; rfl⟩
theorem textE : Elem 80 9 1 16 (.string ⟨#[]⟩) := ⟨Tryz.underlying80, by kernel_rfl, rfl, by decide, by decide⟩
theorem lit_text (w : World) (s : ByteArray) {g : Nat} (hg : w.heap.size = g) : StRow (w.alloc (.cells #[.string s] 9)) (some ⟨g, 0, none⟩) 1 [s] := trow_lit w _ _ s hg (fun j v hj => by
  match j, hj with
  | 0, hj => exact hj
  | j + 1, hj => simp [ste] at hj)
/-- where a row is behind an append: where it was, or behind all -/
def AtOr (w : World) (v v' : Value) : Prop := v'.ownBlock = v.ownBlock ∨ v'.ownBlock = some w.heap.size
theorem AtOr.apart {w : World} {v v' u : Value} (h : AtOr w v v') {B e s n : Nat} {xs : List Value} (hu : w.ownsRow B e s u n xs) (hne : u.ownBlock = none ∨ u.ownBlock ≠ v.ownBlock) : u.ownBlock = none ∨ u.ownBlock ≠ v'.ownBlock := by
  rcases hne with hn | hne
  · exact .inl hn
  · refine .inr fun e => ?_
    rcases h with h | h
    · rw [h] at e; exact hne e
    · rw [h] at e
      have := (hu.lt _ e).2
      omega
theorem append_u8at {w0 w : World} {B : Nat} {ops : Array Oper} {rest : List Oper} {o : Oper} {a : Act} {Q : Exit → Act → World → Prop} (hgd : o.guard = none) (s x : Operand)
    (ho : o.op = .call { callee := .builtin .append, args := #[s, x], argTypes := #[22, 22] })
    (v : Value) (n : Nat) (xs : List Nat) (hs : a.eval s = v) (hown : w.ownsRow B 5 1 v n (kcells .u8 xs))
    (ad : Option Addr) (m c : Nat) (bs : List Nat) (hx : a.eval x = .slice ad m c) (hrow : Row .u8 w ad m bs) (hnil : ad = none → m = 0 ∧ c = 0)
    (hnm : n + m ≤ 1000000000000) (hbel : Below B w0 w) (hB : B ≤ w.heap.size)
    (h : ∀ a' c' w', w'.ownsRow B 5 1 (.slice a' (n + m) c') (n + m) (kcells .u8 (xs ++ bs)) → Below B w0 w' → B ≤ w'.heap.size → w.grownBy w' v.ownBlock → AtOr w v (.slice a' (n + m) c') → wpList Tryz.prog ops Q rest (a.put o.dst (.slice a' (n + m) c')) w') : wpList Tryz.prog ops Q (o :: rest) a w := by
  obtain ⟨i0, hi, hz0, hz1, hz2⟩ := info_parts Tryz.info5
  obtain ⟨h1, h2, h3, h4⟩ := hrow
  cases ad with
  | none =>
    obtain ⟨rfl, rfl⟩ := hnil rfl
    obtain rfl : bs = [] := List.length_eq_zero_iff.mp h1
    refine wpList_append_own_none hgd s x 22 ho B 5 i0 1 Tryz.underlying22 hi v n (kcells .u8 xs) hs hown hx ?_
    obtain ⟨a', c', rfl⟩ := slice_of_owns hown
    exact h a' c' w (by simpa using hown) hbel hB ⟨rfl, rfl, rfl, Nat.le_refl _, fun _ _ _ => rfl⟩ (.inl rfl)
  | some ad =>
    refine wpList_append_own_at w hgd s x 22 ho B 5 i0 (.int .u8 0) 1 1 Tryz.underlying22 hi hz0 hz1 hz2 rfl (by decide) v n (kcells .u8 xs) hs hown ad m c (kcells .u8 bs) hx (by rw [kcells_length]; omega) ?_ ?_ (by unfold maxLen; omega) (by omega) hB ?_
    · intro j u hj
      obtain ⟨hlt, rfl⟩ := kcells_get .u8 bs j u hj
      rcases h4 with h0 | ⟨b, off, e, hc⟩
      · omega
      · obtain rfl : ad = ⟨b, off, none⟩ := by simpa using e
        rw [add_at]; exact hc j (by omega)
    · intro u hu
      simp only [kcells, List.mem_map] at hu
      obtain ⟨n, _, rfl⟩ := hu
      rfl
    · intro v' w' hown' hg _ hat
      obtain ⟨a', c', rfl⟩ := slice_of_owns hown'
      refine h a' c' w' (by rw [kcells_append]; exact hown') (hbel.grown hg hB (fun k hk => (hown.lt k hk).1)) (Nat.le_trans hB hg.size) hg hat
theorem str_at (w : World) (B n : Nat) (ty : TypeId) (v v' : Value) (w' : World) (xs : List Value) (t : ByteArray) (hown : w.ownsRow B 5 1 v n xs) (hsm : n + t.size ≤ 1000000000000)
    (hrun : (Builtin.append_ #[22, 9] ty #[v, .string t]).run Tryz.prog w = .ok v' w') (hz : v' = .slice none 0 0 ↔ v = .slice none 0 0 ∧ t.size = 0) : AtOr w v v' := by
  obtain ⟨i0, hi, hz0, hz1, hz2⟩ := info_parts Tryz.info5
  have hxl : xs.length = n := by simpa using hown.1
  rcases hown.2 with ⟨rfl, rfl⟩ | ⟨g, cap, cur, rfl, hbg, hg, hnc, hcm, hcs, htake⟩
  · by_cases hm : t.size = 0
    · rw [hz.mpr ⟨rfl, hm⟩]; exact .inl rfl
    · have hr := run_append_nil_string (P := Tryz.prog) w 22 9 ty 5 i0 (.int .u8 0) Tryz.underlying22 Tryz.underlying9 hi hz0 t (by omega) (by omega) (by rw [hz2]; omega)
      rw [hr] at hrun
      injection hrun with e1 e2
      subst e1
      exact .inr rfl
  · by_cases hroom : n + t.size ≤ cap
    · have hr := Lib.run_append_room_string (P := Tryz.prog) w 22 9 ty 5 i0 Tryz.underlying22 Tryz.underlying9 hi hz1 g n cap cur hg t hroom (by simpa using (show n * 1 + t.size ≤ cur.size by rw [hcs]; omega))
      rw [hr] at hrun
      injection hrun with e1 e2
      subst e1
      exact .inl rfl
    · have holds : ∀ j u, xs[j]? = some u → w.cell? ((⟨g, 0, none⟩ : Addr).add j) = some u := hown.cells (g := g) rfl
      have hr := Lib.run_append_grow_string (P := Tryz.prog) w 22 9 ty 5 i0 (.int .u8 0) Tryz.underlying22 Tryz.underlying9 hi hz0 ⟨g, 0, none⟩ n cap xs (by rw [hz1]; simpa using hxl) holds t (by omega) (by omega) (by rw [hz2]; exact growslice_fits (by omega) (by omega))
      rw [hr] at hrun
      injection hrun with e1 e2
      subst e1
      exact .inr rfl
theorem append_strat {w0 w : World} {B : Nat} {ops : Array Oper} {rest : List Oper} {o : Oper} {a : Act} {Q : Exit → Act → World → Prop} (hgd : o.guard = none) (s x : Operand)
    (ho : o.op = .call { callee := .builtin .append, args := #[s, x], argTypes := #[22, 9] })
    (v : Value) (n : Nat) (xs : List Nat) (hs : a.eval s = v) (hown : w.ownsRow B 5 1 v n (kcells .u8 xs)) (t : ByteArray) (hx : a.eval x = .string t)
    (hnm : n + t.size ≤ 1000000000000) (hbel : Below B w0 w) (hB : B ≤ w.heap.size)
    (h : ∀ a' c' w', w'.ownsRow B 5 1 (.slice a' (n + t.size) c') (n + t.size) (kcells .u8 (xs ++ kb t)) → Below B w0 w' → B ≤ w'.heap.size → w.grownBy w' v.ownBlock → AtOr w v (.slice a' (n + t.size) c') → wpList Tryz.prog ops Q rest (a.put o.dst (.slice a' (n + t.size) c')) w') : wpList Tryz.prog ops Q (o :: rest) a w := by
  obtain ⟨i0, hi, hz0, hz1, hz2⟩ := info_parts Tryz.info5
  obtain ⟨v', w', hrun, hown', hg, hz⟩ := Lib.run_append_own_string (P := Tryz.prog) w B 22 9 o.type 5 i0 Tryz.underlying22 Tryz.underlying9 hi hz0 hz1 hz2 v n (kcells .u8 xs) hown t (by unfold maxLen; omega) (by omega) hB
  have hat := str_at w B n o.type v v' w' (kcells .u8 xs) t hown hnm hrun hz
  refine Lib.wpList_append_run w hgd s x _ _ ho _ _ hs hx _ _ hrun ?_
  obtain ⟨a', c', rfl⟩ := slice_of_owns hown'
  rw [str_kcells, ← kcells_append] at hown'
  exact h a' c' w' hown' (hbel.grown hg hB (fun k hk => (hown.lt k hk).1)) (Nat.le_trans hB hg.size) hg hat
end Go.Proofs.YtikieblokfjphaaGreat
