/- Append, with what has turned; which world a step meets. -/
import Derived.Test.YtfogodbbgbnhkaaGreatDoorGa
import Derived.Test.YtfogodbbgbnhkaaGreatDoorRI
import Derived.Shelf.Spec.SlicesInsertGrow
namespace Go.Proofs.YtfogodbbgbnhkaaGreatDoor
open Go.RowKit

section
variable {α : Type} {s : Nat} {enc : α → List Value} {d : α}
theorem wp_append_tg {T E : TypeId} {bytes : Nat} {z : Value} (he : Elem T E s bytes z) (hE : Enc s enc) {w0 w : World} {B : Nat} {o : Oper} {a : Act} {K : Act → World → Prop} {Q : Exit → Act → World → Prop} (sl x : Operand)
    (ho : o.op = .call { callee := .builtin .append, args := #[sl, x], argTypes := #[T, T] })
    (v : Value) (n : Nat) (xs : List α) (hs : a.eval sl = v) (hown : w.ownsRow B E s v n (tcells enc xs))
    (ax : Option Addr) (m c : Nat) (ys : List α) (hx : a.eval x = .slice ax m c) (hr : TRow s enc d w ax m ys) (hnil : ax = none → m = 0 ∧ c = 0)
    (hnm : n + m ≤ 1000000000) (hbel : Below B w0 w) (hB : B ≤ w.heap.size)
    (h : ∀ a' c' w', w.grownBy w' v.ownBlock → n + m ≤ c' → (a' = none → n + m = 0 ∧ c' = 0) → (a' = none ↔ v = .slice none 0 0 ∧ m = 0) → w'.ownsRow B E s (.slice a' (n + m) c') (n + m) (tcells enc (xs ++ ys)) → Below B w0 w' → B ≤ w'.heap.size → K (a.put o.dst (.slice a' (n + m) c')) w') : o.wp Tryz.prog a w K Q := by
  obtain ⟨i0, hi, hz0, hz1, hz2⟩ := info_parts he.info
  cases ax with
  | none =>
    obtain ⟨rfl, rfl⟩ := hnil rfl
    have hys : ys = [] := List.length_eq_zero_iff.mp hr.1
    subst hys
    obtain ⟨a', c', rfl, h1, h2⟩ := t_shape hown
    have hrun := run_append_owned_none (P := Tryz.prog) (w := w) B T o.type E i0 s he.und hi (.slice a' n c') n (tcells enc xs) hown
    unfold Oper.wp
    simp [execOp, ho, resolve, invoke, builtin, hs, hx, hrun, Result.andThen]
    refine h a' c' w ⟨rfl, rfl, rfl, Nat.le_refl _, fun _ _ _ => rfl⟩ h2 h1 ?_ (by simpa using hown) hbel hB
    constructor
    · intro e
      obtain ⟨rfl, rfl⟩ := h1 e
      exact ⟨by rw [e], rfl⟩
    · rintro ⟨e, _⟩
      simp only [Value.slice.injEq] at e
      exact e.1
  | some ad =>
    refine wp_append_own w sl x T ho B E i0 _ s bytes he.und hi hz0 hz1 hz2 he.zero he.pos v n (tcells enc xs) hs hown ad m c (tcells enc ys) hx (by rw [tcells_length hE, hr.1]) (hr.cells hE he.pos) (tcells_one hE ys) (by unfold maxLen; omega) ?_ hB ?_
    · have h1 := he.small
      have h2 : (n + m) * bytes ≤ 1000000000 * 1000 := Nat.mul_le_mul hnm h1
      omega
    · intro v' w' hown' hg hn
      obtain ⟨a', c', rfl, h1, h2⟩ := t_shape hown'
      refine h a' c' w' hg h2 h1 ?_ (by rw [tcells_append]; exact hown') (hbel.grown hg hB (fun k hk => (hown.lt k hk).1)) (Nat.le_trans hB hg.size)
      rw [← hn]
      constructor
      · intro e
        obtain ⟨e1, rfl⟩ := h1 e
        rw [e, e1]
      · intro e
        simp only [Value.slice.injEq] at e
        exact e.1
theorem append_tg {T E : TypeId} {bytes : Nat} {z : Value} (he : Elem T E s bytes z) (hE : Enc s enc) {w0 w : World} {B : Nat} {ops : Array Oper} {rest : List Oper} {o : Oper} {a : Act} {Q : Exit → Act → World → Prop} (hgd : o.guard = none) (sl x : Operand)
    (ho : o.op = .call { callee := .builtin .append, args := #[sl, x], argTypes := #[T, T] })
    (v : Value) (n : Nat) (xs : List α) (hs : a.eval sl = v) (hown : w.ownsRow B E s v n (tcells enc xs))
    (ax : Option Addr) (m c : Nat) (ys : List α) (hx : a.eval x = .slice ax m c) (hr : TRow s enc d w ax m ys) (hnil : ax = none → m = 0 ∧ c = 0)
    (hnm : n + m ≤ 1000000000) (hbel : Below B w0 w) (hB : B ≤ w.heap.size)
    (h : ∀ a' c' w', w.grownBy w' v.ownBlock → n + m ≤ c' → (a' = none → n + m = 0 ∧ c' = 0) → (a' = none ↔ v = .slice none 0 0 ∧ m = 0) → w'.ownsRow B E s (.slice a' (n + m) c') (n + m) (tcells enc (xs ++ ys)) → Below B w0 w' → B ≤ w'.heap.size → wpList Tryz.prog ops Q rest (a.put o.dst (.slice a' (n + m) c')) w') : wpList Tryz.prog ops Q (o :: rest) a w :=
  wpList_plain hgd fun _ hK => wp_append_tg he hE sl x ho v n xs hs hown ax m c ys hx hr hnil hnm hbel hB fun a' c' w' h0 h1 h2 h3 h4 h5 h6 => hK _ _ (h a' c' w' h0 h1 h2 h3 h4 h5 h6)
end

/-- append at a step of a region that draws, with what has turned -/
theorem step_tg {α : Type} {s : Nat} {enc : α → List Value} {d : α} {T E : TypeId} {bytes : Nat} {z : Value} (he : Elem T E s bytes z) (hE : Enc s enc) {w0 w : World} {B : Nat} {ops : Array Oper} {o : Oper} {a : Act} {K : Act → World → Prop} {Q : Exit → Act → World → Prop} {F : Prop} (hgd : o.guard = none) (sl x : Operand)
    (ho : o.op = .call { callee := .builtin .append, args := #[sl, x], argTypes := #[T, T] })
    (v : Value) (n : Nat) (xs : List α) (hs : a.eval sl = v) (hown : w.ownsRow B E s v n (tcells enc xs))
    (ax : Option Addr) (m c : Nat) (ys : List α) (hx : a.eval x = .slice ax m c) (hr : TRow s enc d w ax m ys) (hnil : ax = none → m = 0 ∧ c = 0)
    (hnm : n + m ≤ 1000000000) (hbel : Below B w0 w) (hB : B ≤ w.heap.size)
    (h : ∀ a' c' w', w.grownBy w' v.ownBlock → n + m ≤ c' → (a' = none → n + m = 0 ∧ c' = 0) → w'.ownsRow B E s (.slice a' (n + m) c') (n + m) (tcells enc (xs ++ ys)) → Below B w0 w' → K (a.put o.dst (.slice a' (n + m) c')) w') :
    if Region.wanted o (yielded ops a.tmps) = true then Oper.wp Tryz.prog o a w K Q else F := by
  have hw : Region.wanted o (yielded ops a.tmps) = true := by simp [Region.wanted, hgd]
  rw [if_pos hw]
  exact wp_append_tg he hE sl x ho v n xs hs hown ax m c ys hx hr hnil hnm hbel hB (fun a' c' w' h0 h1 h2 _ h4 h5 _ => h a' c' w' h0 h1 h2 h4 h5)
end Go.Proofs.YtfogodbbgbnhkaaGreatDoor

/- among of the program: things that rise by a number, with one more in its place. -/
namespace Go.Proofs.YtfogodbbgbnhkaaGreatDoor
open Go.RowKit

/-- a new row, or the old one turned -/
def InsResG {α : Type} (E s : Nat) (enc : α → List Value) (w : World) (B : Nat) (v : Value) (L : List α) (e : Ending) (w' : World) : Prop :=
  ∃ a c, e = .returned (.slice a L.length c) ∧ w'.ownsRow B E s (.slice a L.length c) L.length (tcells enc L) ∧ w.grownBy w' v.ownBlock
/-- Compare of two integers -/
def icmp (a b : Int) : Int := if a < b then -1 else if b < a then 1 else 0
theorem icmp_neg {a b : Int} : icmp a b < 0 ↔ a < b := by unfold icmp; split <;> (try split) <;> omega
theorem icmp_gt {a b : Int} (h : b < a) : icmp a b = 1 := by rw [icmp, if_neg (by omega), if_pos h]

set_option maxRecDepth 100000 in
set_option maxHeartbeats 400000 in
theorem isnan_any (a : Int) (w : World) : Calls Tryz.prog 179 #[.int .i64 a] w fun e w' => e = .returned (.bool false) ∧ w' = w := by
  go_enter Tryz.func179, Tryz.ntmps179
  go_wp2
  go_ret
  exact ⟨by simp, rfl⟩

set_option maxRecDepth 100000 in
set_option maxHeartbeats 400000 in
theorem compare_any (a b : Int) (w : World) : Calls Tryz.prog 137 #[.int .i64 a, .int .i64 b] w fun e w' => e = .returned (.int .i64 (icmp a b)) ∧ w' = w := by
  have hn := fun z W => isnan_any z W
  rcases Int.lt_trichotomy a b with h | h | h
  · have H : Hid (icmp a b = -1) := (by simp [icmp, h] : _ = _)
    generalize icmp a b = r at *
    go_enter Tryz.func137, Tryz.ntmps137
    go_wp2_with (go_at_call 179; refine (hn _ _).mono ?_; rintro e w' ⟨rfl, rfl⟩)
    go_ret
    exact ⟨by rw [H.out]; rfl, rfl⟩
  · subst h
    have H : Hid (icmp a a = 0) := (by rw [icmp, if_neg (by omega), if_neg (by omega)] : _ = _)
    generalize icmp a a = r at *
    go_enter Tryz.func137, Tryz.ntmps137
    go_wp2_with (go_at_call 179; refine (hn _ _).mono ?_; rintro e w' ⟨rfl, rfl⟩)
    go_ret
    exact ⟨by rw [H.out]; rfl, rfl⟩
  · have H : Hid (icmp a b = 1) := (icmp_gt h : _ = _)
    generalize icmp a b = r at *
    have h2 : ¬ (a < b) := by omega
    go_enter Tryz.func137, Tryz.ntmps137
    go_wp2_with (go_at_call 179; refine (hn _ _).mono ?_; rintro e w' ⟨rfl, rfl⟩)
    go_ret
    exact ⟨by rw [H.out]; rfl, rfl⟩

namespace Ro
section
variable {α : Type}
/-- where a search stands -/
def Srch (f : α → Int) (d : α) (l : List α) (s : Int) (i j : Nat) : Prop := (∀ t, t < i → f (l.getD t d) < s) ∧ (∀ t, j ≤ t → t < l.length → s ≤ f (l.getD t d))
theorem rise_at {f : α → Int} {d : α} {l : List α} (h : (l.map f).Pairwise (· ≤ ·)) {p q : Nat} (hpq : p ≤ q) (hq : q < l.length) : f (l.getD p d) ≤ f (l.getD q d) := by
  rcases Nat.lt_or_ge p q with h1 | h1
  · have := (List.pairwise_iff_getElem.mp h) p q (by rw [List.length_map]; omega) (by rw [List.length_map]; exact hq) h1
    simpa [show p < l.length by omega, hq] using this
  · obtain rfl : p = q := by omega
    exact Int.le_refl _
theorem srch_up {f : α → Int} {d : α} {l : List α} {s : Int} {i j h : Nat} (hp : (l.map f).Pairwise (· ≤ ·)) (hs : Srch f d l s i j) (hh : h < l.length) (hlt : f (l.getD h d) < s) : Srch f d l s (h + 1) j :=
  ⟨fun t ht => by have := rise_at (d := d) hp (show t ≤ h by omega) hh; omega, hs.2⟩
theorem srch_down {f : α → Int} {d : α} {l : List α} {s : Int} {i j h : Nat} (hp : (l.map f).Pairwise (· ≤ ·)) (hs : Srch f d l s i j) (hlt : s ≤ f (l.getD h d)) : Srch f d l s i h :=
  ⟨hs.1, fun t h1 h2 => by have := rise_at (d := d) hp h1 h2; omega⟩
/-- where a new thing comes -/
theorem srch_ins {f : α → Int} {d : α} {l : List α} {x : α} {i : Nat} (hi : i ≤ l.length) (hs : Srch f d l (f x) i i) : insAt l i x = ins f x l := by
  have h1 : ∀ y ∈ l.take i, f y < f x := fun y hy => by
    obtain ⟨t, ht, rfl⟩ := List.getElem_of_mem hy
    rw [List.length_take] at ht
    have := hs.1 t (by omega)
    simpa [show t < l.length by omega] using this
  have h2 : ∀ y ∈ l.drop i, ¬ (f y < f x) := fun y hy => by
    obtain ⟨t, ht, rfl⟩ := List.getElem_of_mem hy
    rw [List.length_drop] at ht
    have := hs.2 (i + t) (by omega) (by omega)
    rw [List.getElem_drop]
    have e : l.getD (i + t) d = l[i + t] := by simp [show i + t < l.length by omega]
    rw [e] at this
    omega
  have ht : ∀ (a b : List α), (∀ y ∈ a, f y < f x) → (∀ y ∈ b, ¬ (f y < f x)) → (a ++ b).takeWhile (fun y => decide (f y < f x)) = a ∧ (a ++ b).dropWhile (fun y => decide (f y < f x)) = b := by
    intro a b ha hb
    induction a with
    | nil =>
      cases b with
      | nil => exact ⟨rfl, rfl⟩
      | cons y b => exact ⟨List.takeWhile_cons_of_neg (by simpa using hb y (by simp)), List.dropWhile_cons_of_neg (by simpa using hb y (by simp))⟩
    | cons y a ih =>
      have hy := ha y (by simp)
      obtain ⟨g1, g2⟩ := ih (fun z hz => ha z (by simp [hz]))
      rw [List.cons_append, List.takeWhile_cons_of_pos (by simpa using hy), List.dropWhile_cons_of_pos (by simpa using hy), g1, g2]
      exact ⟨rfl, rfl⟩
  have := ht (l.take i) (l.drop i) h1 h2
  rw [List.take_append_drop] at this
  unfold ins insAt
  rw [this.1, this.2]
end
end Ro

set_option maxRecDepth 100000 in
set_option maxHeartbeats 2000000 in
/-- at the end -/
theorem insert_end_m (a : Option Addr) (n c B : Nat) (hs : List (Int × Int)) (h : (Int × Int)) (vb : Nat) (w : World) (hn : n ≤ 1000000) (hown : w.ownsRow B 64 2 (.slice a n c) n (tcells me hs)) (hB : B ≤ w.heap.size) (hv : TRow 2 me (0, 0) w (some ⟨vb, 0, none⟩) 1 [h]) :
    Calls Tryz.prog 176 #[.slice a n c, .int .i64 n, .slice (some ⟨vb, 0, none⟩) 1 1] w (InsResG 64 2 me w B (.slice a n c) (insAt hs n h)) := by
  have hl : hs.length = n := by have := hown.1; rw [tcells_length meE] at this; omega
  have hi : insAt hs n h = hs ++ [h] := by unfold insAt; rw [← hl]; simp
  have hll : (hs ++ [h]).length = n + 1 := by simp [hl]
  obtain ⟨_, _, e, hnil, hnc⟩ := t_shape hown
  simp only [Value.slice.injEq] at e
  obtain ⟨rfl, _, rfl⟩ := e
  rw [hi]
  have HL : Hid ((hs ++ [h]).length = n + 1) := hll
  clear hi hl hll
  cases a with
  | none =>
    obtain ⟨rfl, rfl⟩ := hnil rfl
    go_enter Tryz.func176, Tryz.ntmps176
    go_wp2_with (at_builtin; go_must (refine append_tg moveE meE (w0 := w) (B := B) rfl (.tmp 23) (.tmp 24) rfl _ 0 hs rfl hown (some ⟨vb, 0, none⟩) 1 1 [h] rfl hv (fun h => by cases h) (by omega) (Below.refl _ _) hB ?_; intro a4 c4 w4 hg4 _ _ _ hown4 hb4 _))
    go_ret
    exact ⟨a4, c4, by rw [HL.out]; rfl, by rw [HL.out]; exact hown4, hg4⟩
  | some ad =>
    by_cases hcn : c = n
    · subst hcn
      go_enter Tryz.func176, Tryz.ntmps176
      go_wp2_with (at_builtin; go_must (refine append_tg moveE meE (w0 := w) (B := B) rfl (.tmp 23) (.tmp 24) rfl _ c hs rfl hown (some ⟨vb, 0, none⟩) 1 1 [h] rfl hv (fun h => by cases h) (by omega) (Below.refl _ _) hB ?_; intro a4 c4 w4 hg4 _ _ _ hown4 hb4 _))
      go_ret
      exact ⟨a4, c4, by rw [HL.out]; rfl, by rw [HL.out]; exact hown4, hg4⟩
    · have j0 : (n : Int) ≤ (c : Int) := by omega
      go_enter Tryz.func176, Tryz.ntmps176
      go_wp2_with (at_builtin; go_must (refine append_tg moveE meE (w0 := w) (B := B) rfl (.tmp 23) (.tmp 24) rfl _ n hs rfl hown (some ⟨vb, 0, none⟩) 1 1 [h] rfl hv (fun h => by cases h) (by omega) (Below.refl _ _) hB ?_; intro a4 c4 w4 hg4 _ _ _ hown4 hb4 _))
      go_ret
      exact ⟨a4, c4, by rw [HL.out]; rfl, by rw [HL.out]; exact hown4, hg4⟩

set_option maxRecDepth 100000 in
set_option maxHeartbeats 1000000 in
/-- there is room: in place -/
theorem insert_shift_m (g n c i B : Nat) (hs : List (Int × Int)) (h : (Int × Int)) (vb : Nat) (w : World) (hn : n ≤ 1000000) (hi : i < n) (hroom : n + 1 ≤ c) (hown : w.ownsRow B 64 2 (.slice (some ⟨g, 0, none⟩) n c) n (tcells me hs)) (hvb : vb ≠ g) (hv : w.heap[vb]? = some (.cells (me h).toArray 64 (0, 0))) :
    Calls Tryz.prog 176 #[.slice (some ⟨g, 0, none⟩) n c, .int .i64 i, .slice (some ⟨vb, 0, none⟩) 1 1] w (InsResG 64 2 me w B (.slice (some ⟨g, 0, none⟩) n c) (insAt hs i h)) := by
  have hl : hs.length = n := by have := hown.1; rw [tcells_length meE] at this; omega
  obtain ⟨l1, l2⟩ := take_cells meE hs (i := i) (by omega)
  rw [hl] at l2
  obtain ⟨js, hjs, hmore⟩ := own_more hown hroom
  have hlen1 : (tcells me hs ++ js).length = (n + 1) * 2 := by rw [List.length_append, tcells_length meE, hl, hjs]; omega
  have hcell : ∀ k v, (tcells me hs)[k]? = some v → w.cell? ⟨g, k, none⟩ = some v := fun k v hk => (own_cells hown hk).1
  have hsome : ∀ k, k < (n + 1) * 2 → (w.cell? ⟨g, k, none⟩).isSome = true ∧ w.frozen? ⟨g, k, none⟩ = false := fun k hk => by
    have := own_cells hmore (j := k) (v := (tcells me hs ++ js)[k]'(by omega)) (List.getElem?_eq_getElem (by omega))
    exact ⟨by rw [this.1]; rfl, this.2⟩
  have hvc : ∀ k v, (me h)[k]? = some v → w.cell? ⟨vb, k, none⟩ = some v := fun k v hk => by
    simp only [World.cell?, hv]
    simpa using hk
  obtain ⟨cap0, cur0, hg0, hc0⟩ : ∃ (cap0 : Nat) (cur0 : Array Value), w.heap[g]? = some (.cells cur0 64 (0, 0)) ∧ cur0.size = cap0 * 2 ∧ 0 < cap0 := by
    rcases hown.2 with ⟨e, _⟩ | ⟨g', cap, cur, e, hB, hg, hnc, hmx, hs', ht⟩
    · cases e
    · simp only [Value.slice.injEq, Option.some.injEq, Addr.mk.injEq] at e
      obtain ⟨⟨rfl, _⟩, _, rfl⟩ := e
      exact ⟨c, cur, hg, hs', by omega⟩
  obtain ⟨i0, hi0, _, hz1, _⟩ := info_parts moveE.info
  have hsz : (Tryz.prog.info? 64).map (·.size) = some 2 := by rw [hi0]; simp [hz1]
  obtain ⟨I1, hI1⟩ : ∃ I1, I1 = i + 1 := ⟨_, rfl⟩
  obtain ⟨N1, hN1⟩ : ∃ N1, N1 = n + 1 := ⟨_, rfl⟩
  have hov : ∀ lb cb, (callFunc 204 #[.slice (some ⟨vb, 0, none⟩) 1 1, .slice (some ⟨g, I1 * 2, none⟩) lb cb]).run Tryz.prog w = .ok (.value (.bool false)) w := fun lb cb => by
    rw [run_callFunc_extern Tryz.func204 (by kernel_rfl) (by kernel_rfl) (by kernel_rfl) (e := Extern.SlicesOverlaps.overlaps #[28, 28] #[4]) (by kernel_rfl),
      Lib.run_overlaps_apart w 28 4 64 Tryz.underlying28 2 Tryz.sizeOf64 ⟨vb, 0, none⟩ ⟨g, I1 * 2, none⟩ 1 1 lb cb hvb 64 64 2 cur0.size (by simp [World.shape?, hv, me]) (by simp [World.shape?, hg0]) (by omega) (by simp [World.frozen?, hv]) (by simp [World.frozen?, hv])]
    rfl
  have hD1 : ∀ v ∈ tcells me (hs.drop i), v.oneCell' = true := tcells_one meE _
  have hdrop : ∀ k v, (tcells me (hs.drop i))[k]? = some v → (tcells me hs)[i * 2 + k]? = some v := fun k v hk => by
    rw [ihs_split hs i, List.getElem?_append_right (by omega), l1, show i * 2 + k - i * 2 = k by omega]; exact hk
  have hcp1 : ∀ ty dc sc, (Builtin.copy_ #[28, 28] ty #[.slice (some ⟨g, I1 * 2, none⟩) (N1 - I1) dc, .slice (some ⟨g, i * 2, none⟩) (N1 - i) sc]).run Tryz.prog w.drew = .ok (goInt (Nat.min (N1 - i) (N1 - I1))) (w.drew.setCells g (I1 * 2) (tcells me (hs.drop i))) := fun ty dc sc =>
    run_copy_s w.drew _ _ ty 64 2 g (I1 * 2) (N1 - I1) dc ⟨g, i * 2, none⟩ (N1 - i) sc (tcells me (hs.drop i)) Tryz.underlying28 hsz (by rw [l2]; simp only [Nat.min_def]; split <;> omega)
      (fun j v hj => by rw [Addr.add_lit]; exact hcell _ v (hdrop j v hj)) (fun j hj => (hsome _ (by omega)).1) (fun j hj => (hsome _ (by omega)).2) hD1
  obtain ⟨D, hD⟩ : ∃ D, D = tcells me (hs.drop i) := ⟨_, rfl⟩
  obtain ⟨W1, hW1⟩ : ∃ W1, W1 = w.drew.setCells g (I1 * 2) D := ⟨_, rfl⟩
  have ho1 : W1.ownsRow B 64 2 (.slice (some ⟨g, 0, none⟩) (n + 1) c) (n + 1) (setL (tcells me hs ++ js) (I1 * 2) D) := by rw [hW1]; exact own_setL D (I1 * 2) (w := w.drew) hmore
  have hsome1 : ∀ k, k < (n + 1) * 2 → (W1.cell? ⟨g, k, none⟩).isSome = true ∧ W1.frozen? ⟨g, k, none⟩ = false := fun k hk => by
    have hk' : k < (setL (tcells me hs ++ js) (I1 * 2) D).length := by rw [setL_len]; omega
    have := own_cells ho1 (j := k) (v := (setL (tcells me hs ++ js) (I1 * 2) D)[k]'hk') (List.getElem?_eq_getElem hk')
    exact ⟨by rw [this.1]; rfl, this.2⟩
  have hvc1 : ∀ k v, (me h)[k]? = some v → W1.cell? ⟨vb, k, none⟩ = some v := fun k v hk => by
    rw [hW1, World.cell?_setCells_out g _ _ _ _ (fun e _ => absurd e hvb)]
    exact hvc k v hk
  have hcp2 : ∀ (W : World), (∀ x, W.cell? x = W1.cell? x) → (∀ x, W.frozen? x = W1.frozen? x) → ∀ ty dc, (Builtin.copy_ #[28, 28] ty #[.slice (some ⟨g, i * 2, none⟩) (N1 - i) dc, .slice (some ⟨vb, 0, none⟩) 1 1]).run Tryz.prog W = .ok (goInt (Nat.min 1 (N1 - i))) (W.setCells g (i * 2) (me h)) := fun W hWc hWf ty dc =>
    run_copy_s W _ _ ty 64 2 g (i * 2) (N1 - i) dc ⟨vb, 0, none⟩ 1 1 (me h) Tryz.underlying28 hsz (by rw [meE.len]; simp only [Nat.min_def]; split <;> omega)
      (fun j v hj => by rw [Addr.add_lit, hWc, Nat.zero_add]; exact hvc1 j v hj) (fun j hj => by rw [meE.len] at hj; rw [hWc]; exact (hsome1 _ (by omega)).1) (fun j hj => by rw [meE.len] at hj; rw [hWf]; exact (hsome1 _ (by omega)).2) (meE.one h)
  have hfin := own_setL (me h) (i * 2) ho1
  rw [hD, hI1, (set_ins meE hs h (tcells me hs ++ js) (i := i) (by omega) (by rw [hl]; exact hlen1) (by rw [ihs_split hs i, List.append_assoc, List.take_append_of_le_length (by omega), List.take_of_length_le (by omega)])).1] at hfin
  have hgr : w.grownBy (W1.setCells g (i * 2) (me h)) (some g) := by
    have h0 : w.grownBy w.drew (some g) := ⟨rfl, rfl, rfl, Nat.le_refl _, fun _ _ _ => rfl⟩
    rw [hW1]
    exact (h0.trans (turned_setL g D (I1 * 2) w.drew)).trans (turned_setL g (me h) (i * 2) _)
  have hLL : (insAt hs i h).length = N1 := by unfold insAt; simp; omega
  rw [← hD] at hcp1
  rw [← hW1] at hcp1
  have j1 : IntKind.i64.wrap ((i : Int) + 1) = (I1 : Int) := by rw [IntKind.wrap_i64]; omega
  have j2 : IntKind.i64.wrap ((n : Int) + 1) = (N1 : Int) := by rw [IntKind.wrap_i64]; omega
  have j3 : ¬ (c = i) := by omega
  have j4 : ¬ (c = I1) := by omega
  have j5 : ¬ ((i : Int) = (n : Int)) := by omega
  have j6 : ¬ ((c : Int) < (N1 : Int)) := by omega
  have j7 : (i : Int) ≤ (n : Int) := by omega
  have j8 : (n : Int) ≤ (c : Int) := by omega
  have j9 : (N1 : Int) ≤ (c : Int) := by omega
  have j10 : (I1 : Int) ≤ (N1 : Int) := by omega
  have j11 : (i : Int) ≤ (N1 : Int) := by omega
  have j12 : ((i : Int) == (n : Int)) = false := by simp; omega
  have HLL : Hid ((insAt hs i h).length = N1) := hLL
  have HN : Hid (N1 = n + 1) := hN1
  have HF : Hid ((W1.setCells g (i * 2) (me h)).ownsRow B 64 2 (.slice (some ⟨g, 0, none⟩) (n + 1) c) (n + 1) (tcells me (insAt hs i h))) := hfin
  have hnc2 : n + 1 ≤ 1000001 := by omega
  clear hfin hLL hW1 hI1 hN1 l1 l2 hlen1 hmore hown hsome hsome1 hcell hvc hvc1 hg0 hc0 hdrop hD1 hD ho1 hi0 hz1 hl hjs hv
  go_enter Tryz.func176, Tryz.ntmps176
  go_wp2_with (simp only [hov])
  go_region_law (refine step_copy_runI rfl _ _ 28 28 rfl (.slice (some ⟨g, I1 * 2, none⟩) (N1 - I1) (c - I1)) (.slice (some ⟨g, i * 2, none⟩) (N1 - i) (c - i)) (by simp [Act.eval, Act.put]) (by simp [Act.eval, Act.put]) (hcp1 _ _ _) ?_)
  go_wp2_with (at_builtin; refine wpList_copy_runI _ rfl _ _ 28 28 rfl _ _ rfl rfl (hcp2 _ (fun _ => rfl) (fun _ => rfl) _ _) ?_)
  go_ret
  refine ⟨some ⟨g, 0, none⟩, c, by rw [HLL.out]; rfl, ?_, hgr⟩
  rw [HLL.out, HN.out]
  exact HF.out

set_option maxRecDepth 100000 in
set_option maxHeartbeats 1000000 in
/-- there is no room: a new row -/
theorem insert_grow_m (g n i B : Nat) (hs : List (Int × Int)) (h : (Int × Int)) (vb : Nat) (w : World) (hn : n ≤ 1000000) (hi : i < n) (hB : B ≤ w.heap.size) (hown : w.ownsRow B 64 2 (.slice (some ⟨g, 0, none⟩) n n) n (tcells me hs)) (hv : w.heap[vb]? = some (.cells (me h).toArray 64 (0, 0))) :
    Calls Tryz.prog 176 #[.slice (some ⟨g, 0, none⟩) n n, .int .i64 i, .slice (some ⟨vb, 0, none⟩) 1 1] w (InsResG 64 2 me w B (.slice (some ⟨g, 0, none⟩) n n) (insAt hs i h)) := by
  have hl : hs.length = n := by have := hown.1; rw [tcells_length meE] at this; omega
  obtain ⟨l1, l2⟩ := take_cells meE hs (i := i) (by omega)
  rw [hl] at l2
  have hcell : ∀ k v, (tcells me hs)[k]? = some v → w.cell? ⟨g, k, none⟩ = some v := fun k v hk => (own_cells hown hk).1
  have hvc : ∀ k v, (me h)[k]? = some v → w.cell? ⟨vb, k, none⟩ = some v := fun k v hk => by
    simp only [World.cell?, hv]
    simpa using hk
  have hgw := (own_lt hown).1
  have hvw : vb < w.heap.size := (Array.getElem?_eq_some_iff.1 hv).1
  obtain ⟨i0, hi0, hz0, hz1, hz2⟩ := info_parts moveE.info
  have hsz : (Tryz.prog.info? 64).map (·.size) = some 2 := by rw [hi0]; simp [hz1]
  obtain ⟨I1, hI1⟩ : ∃ I1, I1 = i + 1 := ⟨_, rfl⟩
  obtain ⟨N1, hN1⟩ : ∃ N1, N1 = n + 1 := ⟨_, rfl⟩
  obtain ⟨K, hK⟩ : ∃ K, K = N1 - i := ⟨_, rfl⟩
  have hik : i + K = N1 := by omega
  have htk : ∀ k v, (tcells me (hs.take i))[k]? = some v → (tcells me hs)[k]? = some v := fun k v hk => by
    have : k < (tcells me (hs.take i)).length := (List.getElem?_eq_some_iff.mp hk).1
    rw [ihs_split hs i, List.getElem?_append_left this]; exact hk
  have hold : (Builtin.firstCells i0.size i (.slice (some ⟨g, 0, none⟩) i n)).run Tryz.prog w.drew = .ok (tcells me (hs.take i)).toArray w.drew := by
    rw [hz1]
    exact run_firstCells_some w.drew 2 i ⟨g, 0, none⟩ i n (tcells me (hs.take i)) (by rw [l1]) (fun j v hj => by rw [Addr.add_lit, Nat.zero_add]; exact hcell j v (htk j v hj))
  have hrz : ∀ ty, (Builtin.append_ #[28, 3] ty #[.slice (some ⟨g, 0, none⟩) i n, .int .i64 (K : Int)]).run Tryz.prog w = .ok (.slice (some ⟨w.heap.size, 0, none⟩) N1 (grownCap w N1 n 64)) (w.drew.alloc (.cells ((tcells me (hs.take i)).toArray ++ Builtin.zeroCells (Value.agg #[.int .i64 0, .int .i64 0]).cells K ++ Builtin.zeroCells (Value.agg #[.int .i64 0, .int .i64 0]).cells (grownCap w N1 n 64 - N1)) 64)) := fun ty => by
    have hh := Lib.run_append_grow_zeros w 28 3 ty 64 i0 _ .i64 .i64 Tryz.underlying28 Tryz.underlying3 hi0 hz0 (some ⟨g, 0, none⟩) i n (tcells me (hs.take i)) hold K (by omega) (by rw [hz1]; decide) (by omega) (by omega) (by rw [hz2]; omega) (by rw [hz2, hik]; exact growslice_fits (by omega) (by omega))
    rw [hik] at hh
    exact hh
  have hGn : N1 ≤ grownCap w N1 n 64 := grownCap_ge w _ _ _
  have hGm := grownCap_le_maxLen w N1 n 64 (by unfold maxLen; omega)
  generalize grownCap w N1 n 64 = GC at *
  obtain ⟨ROW, hROW⟩ : ∃ ROW : Array Value, ROW = (tcells me (hs.take i)).toArray ++ Builtin.zeroCells (Value.agg #[.int .i64 0, .int .i64 0]).cells K ++ Builtin.zeroCells (Value.agg #[.int .i64 0, .int .i64 0]).cells (GC - N1) := ⟨_, rfl⟩
  rw [← hROW] at hrz
  have hRs : ROW.size = GC * 2 := by
    rw [hROW]
    simp only [Array.size_append, List.size_toArray, l1]
    simp [Builtin.zeroCells, Value.cells]
    omega
  have hRt : ROW.toList.take (i * 2) = tcells me (hs.take i) := by
    rw [hROW]
    simp only [Array.toList_append, List.append_assoc]
    rw [List.take_append_of_le_length (by simp [l1]), List.take_of_length_le (by simp [l1])]
  obtain ⟨W1, hW1⟩ : ∃ W1, W1 = w.drew.alloc (.cells ROW 64) := ⟨_, rfl⟩
  rw [← hW1] at hrz
  have ho1 : W1.ownsRow B 64 2 (.slice (some ⟨w.heap.size, 0, none⟩) N1 GC) N1 (ROW.toList.take (N1 * 2)) := by
    rw [hW1]
    exact ⟨by rw [List.length_take, Array.length_toList, hRs]; omega, .inr ⟨w.heap.size, GC, ROW, rfl, hB, heap_alloc_new w.drew _, hGn, hGm, hRs, rfl⟩⟩
  have hxl : (ROW.toList.take (N1 * 2)).length = (hs.length + 1) * 2 := by rw [List.length_take, Array.length_toList, hRs, hl]; omega
  have hxt : (ROW.toList.take (N1 * 2)).take (i * 2) = tcells me (hs.take i) := by rw [List.take_take, Nat.min_eq_left (by omega), hRt]
  have hbW : Below w.heap.size w W1 := by rw [hW1]; exact ((Below.refl _ _).drew).alloc (Nat.le_refl _) _
  generalize ROW.toList.take (N1 * 2) = XS at *
  have hown2 : ∀ {W : World} {xs : List Value}, W.ownsRow B 64 2 (.slice (some ⟨w.heap.size, 0, none⟩) N1 GC) N1 xs → ∀ k, k < N1 * 2 → (W.cell? ⟨w.heap.size, k, none⟩).isSome = true ∧ W.frozen? ⟨w.heap.size, k, none⟩ = false := fun {W xs} ho k hk => by
    have hk' : k < xs.length := by rw [ho.1]; exact hk
    have := own_cells ho (j := k) (v := xs[k]'hk') (List.getElem?_eq_getElem hk')
    exact ⟨by rw [this.1]; rfl, this.2⟩
  have hcpA : ∀ (W : World), (∀ x, W.cell? x = W1.cell? x) → (∀ x, W.frozen? x = W1.frozen? x) → ∀ ty dc, (Builtin.copy_ #[28, 28] ty #[.slice (some ⟨w.heap.size, i * 2, none⟩) (N1 - i) dc, .slice (some ⟨vb, 0, none⟩) 1 1]).run Tryz.prog W = .ok (goInt (Nat.min 1 (N1 - i))) (W.setCells w.heap.size (i * 2) (me h)) := fun W hWc hWf ty dc =>
    run_copy_s W _ _ ty 64 2 w.heap.size (i * 2) (N1 - i) dc ⟨vb, 0, none⟩ 1 1 (me h) Tryz.underlying28 hsz (by rw [meE.len]; simp only [Nat.min_def]; split <;> omega)
      (fun j v hj => by rw [Addr.add_lit, hWc, Nat.zero_add, hbW.cell (p := ⟨vb, j, none⟩) hvw]; exact hvc j v hj) (fun j hj => by rw [meE.len] at hj; rw [hWc]; exact (hown2 ho1 _ (by omega)).1) (fun j hj => by rw [meE.len] at hj; rw [hWf]; exact (hown2 ho1 _ (by omega)).2) (meE.one h)
  obtain ⟨W2, hW2⟩ : ∃ W2, W2 = W1.setCells w.heap.size (i * 2) (me h) := ⟨_, rfl⟩
  have ho2 : W2.ownsRow B 64 2 (.slice (some ⟨w.heap.size, 0, none⟩) N1 GC) N1 (setL XS (i * 2) (me h)) := by rw [hW2]; exact own_setL _ _ ho1
  have hbW2 : Below w.heap.size w W2 := by rw [hW2]; exact below_setL (Nat.le_refl _) _ _ hbW
  have hdrop : ∀ k v, (tcells me (hs.drop i))[k]? = some v → (tcells me hs)[i * 2 + k]? = some v := fun k v hk => by
    rw [ihs_split hs i, List.getElem?_append_right (by omega), l1, show i * 2 + k - i * 2 = k by omega]; exact hk
  have hcpB : ∀ (W : World), (∀ x, W.cell? x = W2.cell? x) → (∀ x, W.frozen? x = W2.frozen? x) → ∀ ty dc sc, (Builtin.copy_ #[28, 28] ty #[.slice (some ⟨w.heap.size, I1 * 2, none⟩) (N1 - I1) dc, .slice (some ⟨g, i * 2, none⟩) (n - i) sc]).run Tryz.prog W = .ok (goInt (Nat.min (n - i) (N1 - I1))) (W.setCells w.heap.size (I1 * 2) (tcells me (hs.drop i))) := fun W hWc hWf ty dc sc =>
    run_copy_s W _ _ ty 64 2 w.heap.size (I1 * 2) (N1 - I1) dc ⟨g, i * 2, none⟩ (n - i) sc (tcells me (hs.drop i)) Tryz.underlying28 hsz (by rw [l2]; simp only [Nat.min_def]; split <;> omega)
      (fun j v hj => by rw [Addr.add_lit, hWc, hbW2.cell (p := ⟨g, i * 2 + j, none⟩) hgw]; exact hcell _ v (hdrop j v hj)) (fun j hj => by rw [hWc]; exact (hown2 ho2 _ (by omega)).1) (fun j hj => by rw [hWf]; exact (hown2 ho2 _ (by omega)).2) (tcells_one meE _)
  have ho3 : W2.drew.ownsRow B 64 2 (.slice (some ⟨w.heap.size, 0, none⟩) N1 GC) N1 (setL XS (i * 2) (me h)) := ho2
  have hfin := own_setL (tcells me (hs.drop i)) (I1 * 2) ho3
  have hbF := below_setL (g := w.heap.size) (Nat.le_refl _) (tcells me (hs.drop i)) (I1 * 2) hbW2.drew
  have hset := (set_ins meE hs h XS (i := i) (by omega) hxl hxt).2
  rw [← hI1] at hset
  rw [hset] at hfin
  generalize hD : tcells me (hs.drop i) = D at *
  have hLL : (insAt hs i h).length = N1 := by unfold insAt; simp; omega
  have j1 : IntKind.i64.wrap ((i : Int) + 1) = (I1 : Int) := by rw [IntKind.wrap_i64]; omega
  have j2 : IntKind.i64.wrap ((n : Int) + 1) = (N1 : Int) := by rw [IntKind.wrap_i64]; omega
  have j2' : IntKind.i64.wrap ((N1 : Int) - (i : Int)) = (K : Int) := by rw [IntKind.wrap_i64]; omega
  have j3 : ¬ (n = i) := by omega
  have j4 : ¬ (GC = I1) := by omega
  have j4' : ¬ (GC = i) := by omega
  have j5 : ((i : Int) == (n : Int)) = false := by simp; omega
  have j6 : (n : Int) < (N1 : Int) := by omega
  have j7 : (i : Int) ≤ (n : Int) := by omega
  have j10 : (I1 : Int) ≤ (N1 : Int) := by omega
  have j11 : (i : Int) ≤ (N1 : Int) := by omega
  have j13 : (N1 : Int) ≤ (GC : Int) := by omega
  have HLL : Hid ((insAt hs i h).length = N1) := hLL
  have HF : Hid ((W2.drew.setCells w.heap.size (I1 * 2) D).ownsRow B 64 2 (.slice (some ⟨w.heap.size, 0, none⟩) N1 GC) N1 (tcells me (insAt hs i h))) := hfin
  have HB : Hid (Below w.heap.size w (W2.drew.setCells w.heap.size (I1 * 2) D)) := hbF
  have HW2 : Hid (W2 = W1.setCells w.heap.size (i * 2) (me h)) := hW2
  have hcpA2 : ∀ ty dc, (Builtin.copy_ #[28, 28] ty #[.slice (some ⟨w.heap.size, i * 2, none⟩) (N1 - i) dc, .slice (some ⟨vb, 0, none⟩) 1 1]).run Tryz.prog W1 = .ok (goInt (Nat.min 1 (N1 - i))) W2 := fun ty dc => by rw [hW2]; exact hcpA W1 (fun _ => rfl) (fun _ => rfl) ty dc
  have hF1 : ∀ x, W2.drew.cell? x = W2.cell? x := fun _ => rfl
  have hF2 : ∀ x, W2.drew.frozen? x = W2.frozen? x := fun _ => rfl
  clear ho3
  clear hfin hbF hLL hW1 hW2 hI1 hN1 hK l1 l2 hown hcell hvc hdrop hD hi0 hz0 hz1 hz2 hl hv ho1 ho2 hxl hxt hset hown2 hRs hRt hROW hold hik htk hcpA hbW hbW2 hGm hGn
  go_enter Tryz.func176, Tryz.ntmps176
  go_wp2_with (first
    | (at_builtin; refine Lib.wpList_append_run _ rfl _ _ _ _ rfl _ _ rfl rfl _ _ (hrz _) ?_)
    | (at_builtin; refine wpList_copy_runI _ rfl _ _ 28 28 rfl _ _ rfl rfl (hcpA2 _ _) ?_))
  go_region_law (refine step_copy_runI rfl _ _ 28 28 rfl (.slice (some ⟨w.heap.size, I1 * 2, none⟩) (N1 - I1) (GC - I1)) (.slice (some ⟨g, i * 2, none⟩) (n - i) (n - i)) (by simp [Act.eval, Act.put]) (by simp [Act.eval, Act.put]) (hcpB W2.drew hF1 hF2 3 (GC - I1) (n - i)) ?_)
  go_wp2
  go_ret
  have hb := HB.out
  refine ⟨some ⟨w.heap.size, 0, none⟩, GC, by rw [HLL.out]; rfl, ?_, ⟨hb.os, hb.tape, hb.output, hb.size, fun k hk _ => hb.block k hk⟩⟩
  rw [HLL.out]
  exact HF.out

set_option maxRecDepth 100000 in
set_option maxHeartbeats 400000 in
theorem ram1_m (f : Int × Int → Int) (fid : Nat) (eg : ∀ args w, (callFunc fid args).run Tryz.prog w = .ok (.enter fid args) w)
    (hdo : ∀ (x y : Int) (W : World), Calls Tryz.prog fid #[.agg #[.int .i64 x, .int .i64 y]] W fun e W' => e = .returned (.int .i64 (f (x, y))) ∧ Below W.heap.size W W')
    (c1 : Nat) (s : Int) (x y : Int) (w : World) (hC : w.cell? ⟨c1, 0, none⟩ = some (.func (.func fid) #[] #[])) :
    Calls Tryz.prog 175 #[.agg #[.int .i64 x, .int .i64 y], .int .i64 s, .pointer (some ⟨c1, 0, none⟩)] w fun e w' => e = .returned (.int .i64 (icmp (f (x, y)) s)) ∧ Below w.heap.size w w' := by
  have hd := fun W => hdo x y W
  have hco := fun z W => compare_any z s W
  generalize f (x, y) = yy at *
  have hcy := fun W => hco yy W
  have ha := below_alloc w (.cells #[.int .i64 x, .int .i64 y] 64)
  have c0 := cell_new w #[.int .i64 x, .int .i64 y] 64
  have k1 := (ha.cell (p := ⟨c1, 0, none⟩) (cell_lt hC)).trans hC
  clear hdo hco
  go_enter Tryz.func175, Tryz.ntmps175
  go_wp2_with (first
    | (go_at_fn fid; go_must (refine (hd _).mono ?_; rintro e w2 ⟨rfl, hb2⟩))
    | (go_at_call 137; go_must (refine (hcy _).mono ?_; rintro e w3 ⟨rfl, rfl⟩)))
  go_ret
  exact ⟨rfl, ha.trans (hb2.mono ha.size)⟩

set_option maxRecDepth 100000 in
set_option maxHeartbeats 4000000 in
theorem rsearch_m (f : Int × Int → Int) (c1 : Nat) (F : Value)
    (hcl : ∀ (x y : Int) (s : Int) (V : World), V.cell? ⟨c1, 0, none⟩ = some F → Calls Tryz.prog 175 #[.agg #[.int .i64 x, .int .i64 y], .int .i64 s, .pointer (some ⟨c1, 0, none⟩)] V fun e w' => e = .returned (.int .i64 (icmp (f (x, y)) s)) ∧ Below V.heap.size V w')
    (a : Option Addr) (n c : Nat) (l : List (Int × Int)) (s : Int) (w : World) (hn : n ≤ 1000000) (hr : MRow w a n l) (hp : (l.map f).Pairwise (· ≤ ·)) (hC : w.cell? ⟨c1, 0, none⟩ = some F) :
    Calls Tryz.prog 174 #[.slice a n c, .int .i64 s, .func (.func 175) #[] #[.pointer (some ⟨c1, 0, none⟩)]] w fun e w' => ∃ (i : Nat) (b : Bool), e = .returned (.tuple #[.int .i64 i, .bool b]) ∧ i ≤ n ∧ Ro.Srch f (0, 0) l s i i ∧ Below w.heap.size w w' := by
  have hll : Hid (l.length = n) := hr.1
  have HP : Hid ((l.map f).Pairwise (· ≤ ·)) := hp
  have HS : Hid (Ro.Srch f (0, 0) l s 0 n) := (⟨fun t ht => by omega, fun t h1 h2 => by have := hll.out; omega⟩ : Ro.Srch f (0, 0) l s 0 n)
  have hCb := fun W (hb : Below w.heap.size w W) => (hb.cell (p := ⟨c1, 0, none⟩) (cell_lt hC)).trans hC
  have HCB : Hid (∀ W, Below w.heap.size w W → W.cell? ⟨c1, 0, none⟩ = some F) := hCb
  clear hp hCb hC
  go_enter Tryz.func174, Tryz.ntmps174
  go_wp2
  go_loopw [9, 10] (fun u v wr => ∃ i j : Nat, u = .int .i64 i ∧ v = .int .i64 j ∧ i ≤ j ∧ j ≤ n ∧ Hid (Ro.Srch f (0, 0) l s i j) ∧ Below w.heap.size w wr) (fun u v _ => (intOf v).toNat - (intOf u).toNat)
  case atStart => exact ⟨0, n, rfl, rfl, by omega, by omega, HS, Below.refl _ _⟩
  case round =>
    obtain ⟨i, j, rfl, rfl, hij, hjn, H, hbel⟩ := hrel
    clear HS
    by_cases hlt : i < j
    · obtain ⟨hh, hhe⟩ : ∃ hh, hh = (i + j) / 2 := ⟨_, rfl⟩
      have hh1 : i ≤ hh := by omega
      have hh2 : hh < j := by omega
      have q0 : ((i : Int) + (j : Int)) / 2 = (hh : Int) := by rw [hhe]; omega
      have q1 : IntKind.i64.wrap ((i : Int) + (j : Int)) = (i : Int) + (j : Int) := by rw [IntKind.wrap_i64]; omega
      have q2 : IntKind.u64.wrap ((i : Int) + (j : Int)) = (i : Int) + (j : Int) := by rw [IntKind.wrap_u64]; omega
      have q3 : IntKind.i64.wrap (hh : Int) = (hh : Int) := by rw [IntKind.wrap_i64]; omega
      have i0 : (0 : Int) ≤ (hh : Int) := by omega
      have i1 : (hh : Int) < (n : Int) := by omega
      clear hhe
      obtain ⟨b, off, x, y, rfl, hx, p0, p1⟩ := mget hr hbel (show hh < n by omega)
      have Hup : Hid (f (x, y) < s → Ro.Srch f (0, 0) l s (hh + 1) j) := (fun h => Ro.srch_up HP.out H.out (by have := hll.out; omega) (by rw [hx.out]; exact h) : _ → _)
      have Hdn : Hid (s ≤ f (x, y) → Ro.Srch f (0, 0) l s i hh) := (fun h => Ro.srch_down HP.out H.out (by rw [hx.out]; exact h) : _ → _)
      have hcm := hcl x y s wr (HCB.out wr hbel)
      obtain ⟨r, hr'⟩ : ∃ r, r = icmp (f (x, y)) s := ⟨_, rfl⟩
      rw [← hr'] at hcm
      have Hr : Hid (r < 0 ↔ f (x, y) < s) := (by rw [hr']; exact icmp_neg : r < 0 ↔ _)
      clear hr' hx
      by_cases hless : r < 0
      · have H2 : Hid (Ro.Srch f (0, 0) l s (hh + 1) j) := Hup.out (Hr.out.mp hless)
        have hd : decide (r < 0) = true := by simp [hless]
        clear Hup Hdn Hr hless
        go_wp2_with (go_at_call 175; go_must (refine hcm.mono ?_; rintro e w2 ⟨rfl, hb2⟩))
        go_roundw
        case rel => exact ⟨hh + 1, j, by go_num, rfl, by omega, hjn, H2, hbel.trans (hb2.mono hbel.size)⟩
        case measure => simp [intOf]; omega
      · have H2 : Hid (Ro.Srch f (0, 0) l s i hh) := Hdn.out (by have := Hr.out; omega)
        have hd : decide (r < 0) = false := by simp; omega
        clear Hup Hdn Hr hless
        go_wp2_with (go_at_call 175; go_must (refine hcm.mono ?_; rintro e w2 ⟨rfl, hb2⟩))
        go_roundw
        case rel => exact ⟨i, hh, rfl, rfl, by omega, by omega, H2, hbel.trans (hb2.mono hbel.size)⟩
        case measure => simp [intOf]; omega
    · obtain rfl : i = j := by omega
      by_cases hin : i < n
      · have i0 : (0 : Int) ≤ (i : Int) := by omega
        have i1 : (i : Int) < (n : Int) := by omega
        have i2 : decide ((i : Int) < (n : Int)) = true := by simp; omega
        obtain ⟨b, off, x, y, rfl, hx, p0, p1⟩ := mget hr hbel hin
        have hcm := hcl x y s wr (HCB.out wr hbel)
        generalize icmp (f (x, y)) s = r at *
        clear hx
        go_wp2_with (go_at_call 175; go_must (refine hcm.mono ?_; rintro e w2 ⟨rfl, hb2⟩))
        go_ret2
        exact ⟨i, _, rfl, hjn, H.out, hbel.trans (hb2.mono hbel.size)⟩
      · obtain rfl : i = n := by omega
        have i2 : decide ((i : Int) < (i : Int)) = false := by simp
        go_wp2
        go_ret2
        exact ⟨i, _, rfl, hjn, H.out, hbel⟩

set_option maxRecDepth 100000 in
set_option maxHeartbeats 1000000 in
theorem ramong_m (f : Int × Int → Int) (fid : Nat) (eg : ∀ args w, (callFunc fid args).run Tryz.prog w = .ok (.enter fid args) w)
    (hdo : ∀ (x y : Int) (W : World), Calls Tryz.prog fid #[.agg #[.int .i64 x, .int .i64 y]] W fun e W' => e = .returned (.int .i64 (f (x, y))) ∧ Below W.heap.size W W')
    (x y : Int) (a : Option Addr) (n c B : Nat) (l : List (Int × Int)) (w : World) (hn : n ≤ 1000000) (hown : w.ownsRow B 64 2 (.slice a n c) n (tcells me l)) (hB : B ≤ w.heap.size) (hp : (l.map f).Pairwise (· ≤ ·)) :
    Calls Tryz.prog 130 #[.slice a n c, .func (.func fid) #[] #[], .agg #[.int .i64 x, .int .i64 y]] w (InsResG 64 2 me w B (.slice a n c) (Ro.ins f (x, y) l)) := by
  have hl : l.length = n := by have := hown.1; rw [tcells_length meE] at this; omega
  have hll : Hid (l.length = n) := hl
  obtain ⟨U, hU⟩ : ∃ U, U = (w.alloc (.cells #[.func (.func fid) #[] #[]] 135)).alloc (.cells #[.int .i64 x, .int .i64 y] 64) := ⟨_, rfl⟩
  have hbU : Below w.heap.size w U := by rw [hU]; exact below_two _ _ _
  have e0 : U.heap[w.heap.size]? = some (.cells #[.func (.func fid) #[] #[]] 135 (0, 0)) := by
    rw [hU]; exact (Below.heap_alloc _ _ _ (by simp)).trans (heap_alloc_new _ _)
  have e1 : U.heap[w.heap.size + 1]? = some (.cells #[.int .i64 x, .int .i64 y] 64 (0, 0)) := by
    rw [hU]; have := heap_alloc_new (w.alloc (.cells #[.func (.func fid) #[] #[]] 135)) (.cells #[.int .i64 x, .int .i64 y] 64); rwa [World.size_alloc] at this
  have HV : Hid (∀ W, Below U.heap.size U W → (W.cell? ⟨w.heap.size, 0, none⟩ = some (.func (.func fid) #[] #[]) ∧ W.cell? ⟨w.heap.size + 1, 0, none⟩ = some (.int .i64 x) ∧ W.cell? ⟨w.heap.size + 1, 1, none⟩ = some (.int .i64 y))) := (fun W h => by
    have x := (blkc ((h.block _ (ob_ltB e0)).trans e0)).1
    have y := (blkc ((h.block _ (ob_ltB e1)).trans e1)).1
    exact ⟨x 0, y 0, y 1⟩ : ∀ W, _ → _)
  obtain ⟨v0, l0, l1⟩ := HV.out U (Below.refl _ _)
  have HP : Hid ((l.map f).Pairwise (· ≤ ·)) := hp
  have hd := fun W => hdo x y W
  have hse := fun W (hb : Below U.heap.size U W) => rsearch_m f w.heap.size (.func (.func fid) #[] #[]) (fun x y s V h => ram1_m f fid eg hdo w.heap.size s x y V h) a n c l (f (x, y)) W hn (trow_of_owns meE (own_keptB (own_keptB hown hbU) hb) (by omega) (by omega)) HP.out (HV.out W hb).1
  have HO : Hid (∀ W, Below U.heap.size U W → W.ownsRow B 64 2 (.slice a n c) n (tcells me l)) := (fun W hb => own_keptB (own_keptB hown hbU) hb : ∀ W, _ → _)
  have HI : Hid (∀ i, i ≤ n → Ro.Srch f (0, 0) l (f (x, y)) i i → insAt l i (x, y) = Ro.ins f (x, y) l) := (fun i hi h => Ro.srch_ins (by rw [hl]; exact hi) h : ∀ i, _ → _ → _)
  obtain ⟨L, hL⟩ : ∃ L, L = Ro.ins f (x, y) l := ⟨_, rfl⟩
  rw [← hL] at HI ⊢
  -- the insertion, wherever it is
  have hin : ∀ (W : World) (i : Nat), Below U.heap.size U W → i ≤ n → Ro.Srch f (0, 0) l (f (x, y)) i i → Calls Tryz.prog 176 #[.slice a n c, .int .i64 i, .slice (some ⟨W.heap.size, 0, none⟩) 1 1] (W.alloc (.cells #[.int .i64 x, .int .i64 y] 64)) (InsResG 64 2 me (W.alloc (.cells #[.int .i64 x, .int .i64 y] 64)) B (.slice a n c) L) := by
    intro W i hb hi hs
    have hWs : B ≤ W.heap.size := Nat.le_trans hB (hbU.trans (hb.mono hbU.size)).size
    have ho := (HO.out W hb).alloc (.cells #[.int .i64 x, .int .i64 y] 64)
    have hnew := heap_alloc_new W (.cells #[.int .i64 x, .int .i64 y] 64)
    rw [← HI.out i hi hs]
    rcases Nat.lt_or_ge i n with h1 | h1
    · obtain ⟨g, rfl⟩ := town_blk ho (by omega)
      have hg := own_lt (HO.out W hb)
      by_cases hc : n + 1 ≤ c
      · exact insert_shift_m g n c i B l (x, y) W.heap.size _ hn h1 hc ho (by omega) hnew
      · have hnc : n ≤ c := by
          obtain ⟨_, _, e, _, h⟩ := t_shape ho
          simp only [Value.slice.injEq] at e
          omega
        obtain rfl : c = n := by omega
        exact insert_grow_m g c i B l (x, y) W.heap.size _ hn h1 (by simp; omega) ho hnew
    · obtain rfl : i = n := by omega
      exact insert_end_m a i c B l (x, y) W.heap.size _ hn ho (by simp; omega) (trow_lit W _ 64 (x, y) rfl (fun j v h => by simpa [me] using h))
  have hgU := grown_any hbU (Value.slice a n c).ownBlock
  have hUe : (w.alloc (.cells #[.func (.func fid) #[] #[]] 135)).alloc (.cells #[.int .i64 x, .int .i64 y] 64) = U := hU.symm
  have HGU : Hid (w.grownBy U (Value.slice a n c).ownBlock) := hgU
  generalize f (x, y) = yy at *
  unfold InsResG at hin ⊢
  clear hU hbU e0 e1 hown hl HI HO hdo hL hp HP hgU
  go_enter Tryz.func130, Tryz.ntmps130
  go_wp2_with (first
    | (go_at_fn fid; go_must (refine (hd _).mono ?_; rintro e w2 ⟨rfl, hb2⟩; obtain ⟨v0', l0', l1'⟩ := HV.out w2 hb2))
    | (go_at_call 174; go_must (refine (hse _ hb2).mono ?_; rintro e w3 ⟨i, b, rfl, hi, hs, hb3⟩; have hb4 := hb2.trans (hb3.mono hb2.size); obtain ⟨v0'', l0'', l1''⟩ := HV.out w3 hb4))
    | (go_at_call 176; go_must (refine (hin _ _ hb4 hi hs).mono ?_; rintro e w5 ⟨a', c', rfl, hown5, hg5⟩)))
  go_ret
  exact ⟨a', c', rfl, hown5, (HGU.out.trans (grown_any hb4 _)).trans ((grown_any (below_alloc w3 _) _).trans hg5)⟩

set_option maxRecDepth 100000 in
set_option maxHeartbeats 2000000 in
/-- at the end -/
theorem insert_end_k (a : Option Addr) (n c B : Nat) (hs : List (Int × Int × Int)) (h : (Int × Int × Int)) (vb : Nat) (w : World) (hn : n ≤ 1000000) (hown : w.ownsRow B 66 3 (.slice a n c) n (tcells ke hs)) (hB : B ≤ w.heap.size) (hv : TRow 3 ke (0, 0, 0) w (some ⟨vb, 0, none⟩) 1 [h]) :
    Calls Tryz.prog 138 #[.slice a n c, .int .i64 n, .slice (some ⟨vb, 0, none⟩) 1 1] w (InsResG 66 3 ke w B (.slice a n c) (insAt hs n h)) := by
  have hl : hs.length = n := by have := hown.1; rw [tcells_length keE] at this; omega
  have hi : insAt hs n h = hs ++ [h] := by unfold insAt; rw [← hl]; simp
  have hll : (hs ++ [h]).length = n + 1 := by simp [hl]
  obtain ⟨_, _, e, hnil, hnc⟩ := t_shape hown
  simp only [Value.slice.injEq] at e
  obtain ⟨rfl, _, rfl⟩ := e
  rw [hi]
  have HL : Hid ((hs ++ [h]).length = n + 1) := hll
  clear hi hl hll
  cases a with
  | none =>
    obtain ⟨rfl, rfl⟩ := hnil rfl
    go_enter Tryz.func138, Tryz.ntmps138
    go_wp2_with (at_builtin; go_must (refine append_tg stillE keE (w0 := w) (B := B) rfl (.tmp 23) (.tmp 24) rfl _ 0 hs rfl hown (some ⟨vb, 0, none⟩) 1 1 [h] rfl hv (fun h => by cases h) (by omega) (Below.refl _ _) hB ?_; intro a4 c4 w4 hg4 _ _ _ hown4 hb4 _))
    go_ret
    exact ⟨a4, c4, by rw [HL.out]; rfl, by rw [HL.out]; exact hown4, hg4⟩
  | some ad =>
    by_cases hcn : c = n
    · subst hcn
      go_enter Tryz.func138, Tryz.ntmps138
      go_wp2_with (at_builtin; go_must (refine append_tg stillE keE (w0 := w) (B := B) rfl (.tmp 23) (.tmp 24) rfl _ c hs rfl hown (some ⟨vb, 0, none⟩) 1 1 [h] rfl hv (fun h => by cases h) (by omega) (Below.refl _ _) hB ?_; intro a4 c4 w4 hg4 _ _ _ hown4 hb4 _))
      go_ret
      exact ⟨a4, c4, by rw [HL.out]; rfl, by rw [HL.out]; exact hown4, hg4⟩
    · have j0 : (n : Int) ≤ (c : Int) := by omega
      go_enter Tryz.func138, Tryz.ntmps138
      go_wp2_with (at_builtin; go_must (refine append_tg stillE keE (w0 := w) (B := B) rfl (.tmp 23) (.tmp 24) rfl _ n hs rfl hown (some ⟨vb, 0, none⟩) 1 1 [h] rfl hv (fun h => by cases h) (by omega) (Below.refl _ _) hB ?_; intro a4 c4 w4 hg4 _ _ _ hown4 hb4 _))
      go_ret
      exact ⟨a4, c4, by rw [HL.out]; rfl, by rw [HL.out]; exact hown4, hg4⟩

set_option maxRecDepth 100000 in
set_option maxHeartbeats 1000000 in
/-- there is room: in place -/
theorem insert_shift_k (g n c i B : Nat) (hs : List (Int × Int × Int)) (h : (Int × Int × Int)) (vb : Nat) (w : World) (hn : n ≤ 1000000) (hi : i < n) (hroom : n + 1 ≤ c) (hown : w.ownsRow B 66 3 (.slice (some ⟨g, 0, none⟩) n c) n (tcells ke hs)) (hvb : vb ≠ g) (hv : w.heap[vb]? = some (.cells (ke h).toArray 66 (0, 0))) :
    Calls Tryz.prog 138 #[.slice (some ⟨g, 0, none⟩) n c, .int .i64 i, .slice (some ⟨vb, 0, none⟩) 1 1] w (InsResG 66 3 ke w B (.slice (some ⟨g, 0, none⟩) n c) (insAt hs i h)) := by
  have hl : hs.length = n := by have := hown.1; rw [tcells_length keE] at this; omega
  obtain ⟨l1, l2⟩ := take_cells keE hs (i := i) (by omega)
  rw [hl] at l2
  obtain ⟨js, hjs, hmore⟩ := own_more hown hroom
  have hlen1 : (tcells ke hs ++ js).length = (n + 1) * 3 := by rw [List.length_append, tcells_length keE, hl, hjs]; omega
  have hcell : ∀ k v, (tcells ke hs)[k]? = some v → w.cell? ⟨g, k, none⟩ = some v := fun k v hk => (own_cells hown hk).1
  have hsome : ∀ k, k < (n + 1) * 3 → (w.cell? ⟨g, k, none⟩).isSome = true ∧ w.frozen? ⟨g, k, none⟩ = false := fun k hk => by
    have := own_cells hmore (j := k) (v := (tcells ke hs ++ js)[k]'(by omega)) (List.getElem?_eq_getElem (by omega))
    exact ⟨by rw [this.1]; rfl, this.2⟩
  have hvc : ∀ k v, (ke h)[k]? = some v → w.cell? ⟨vb, k, none⟩ = some v := fun k v hk => by
    simp only [World.cell?, hv]
    simpa using hk
  obtain ⟨cap0, cur0, hg0, hc0⟩ : ∃ (cap0 : Nat) (cur0 : Array Value), w.heap[g]? = some (.cells cur0 66 (0, 0)) ∧ cur0.size = cap0 * 3 ∧ 0 < cap0 := by
    rcases hown.2 with ⟨e, _⟩ | ⟨g', cap, cur, e, hB, hg, hnc, hmx, hs', ht⟩
    · cases e
    · simp only [Value.slice.injEq, Option.some.injEq, Addr.mk.injEq] at e
      obtain ⟨⟨rfl, _⟩, _, rfl⟩ := e
      exact ⟨c, cur, hg, hs', by omega⟩
  obtain ⟨i0, hi0, _, hz1, _⟩ := info_parts stillE.info
  have hsz : (Tryz.prog.info? 66).map (·.size) = some 3 := by rw [hi0]; simp [hz1]
  obtain ⟨I1, hI1⟩ : ∃ I1, I1 = i + 1 := ⟨_, rfl⟩
  obtain ⟨N1, hN1⟩ : ∃ N1, N1 = n + 1 := ⟨_, rfl⟩
  have hov : ∀ lb cb, (callFunc 180 #[.slice (some ⟨vb, 0, none⟩) 1 1, .slice (some ⟨g, I1 * 3, none⟩) lb cb]).run Tryz.prog w = .ok (.value (.bool false)) w := fun lb cb => by
    rw [run_callFunc_extern Tryz.func180 (by kernel_rfl) (by kernel_rfl) (by kernel_rfl) (e := Extern.SlicesOverlaps.overlaps #[30, 30] #[4]) (by kernel_rfl),
      Lib.run_overlaps_apart w 30 4 66 Tryz.underlying30 3 Tryz.sizeOf66 ⟨vb, 0, none⟩ ⟨g, I1 * 3, none⟩ 1 1 lb cb hvb 66 66 3 cur0.size (by simp [World.shape?, hv, ke]) (by simp [World.shape?, hg0]) (by omega) (by simp [World.frozen?, hv]) (by simp [World.frozen?, hv])]
    rfl
  have hD1 : ∀ v ∈ tcells ke (hs.drop i), v.oneCell' = true := tcells_one keE _
  have hdrop : ∀ k v, (tcells ke (hs.drop i))[k]? = some v → (tcells ke hs)[i * 3 + k]? = some v := fun k v hk => by
    rw [ihs_split hs i, List.getElem?_append_right (by omega), l1, show i * 3 + k - i * 3 = k by omega]; exact hk
  have hcp1 : ∀ ty dc sc, (Builtin.copy_ #[30, 30] ty #[.slice (some ⟨g, I1 * 3, none⟩) (N1 - I1) dc, .slice (some ⟨g, i * 3, none⟩) (N1 - i) sc]).run Tryz.prog w.drew = .ok (goInt (Nat.min (N1 - i) (N1 - I1))) (w.drew.setCells g (I1 * 3) (tcells ke (hs.drop i))) := fun ty dc sc =>
    run_copy_s w.drew _ _ ty 66 3 g (I1 * 3) (N1 - I1) dc ⟨g, i * 3, none⟩ (N1 - i) sc (tcells ke (hs.drop i)) Tryz.underlying30 hsz (by rw [l2]; simp only [Nat.min_def]; split <;> omega)
      (fun j v hj => by rw [Addr.add_lit]; exact hcell _ v (hdrop j v hj)) (fun j hj => (hsome _ (by omega)).1) (fun j hj => (hsome _ (by omega)).2) hD1
  obtain ⟨D, hD⟩ : ∃ D, D = tcells ke (hs.drop i) := ⟨_, rfl⟩
  obtain ⟨W1, hW1⟩ : ∃ W1, W1 = w.drew.setCells g (I1 * 3) D := ⟨_, rfl⟩
  have ho1 : W1.ownsRow B 66 3 (.slice (some ⟨g, 0, none⟩) (n + 1) c) (n + 1) (setL (tcells ke hs ++ js) (I1 * 3) D) := by rw [hW1]; exact own_setL D (I1 * 3) (w := w.drew) hmore
  have hsome1 : ∀ k, k < (n + 1) * 3 → (W1.cell? ⟨g, k, none⟩).isSome = true ∧ W1.frozen? ⟨g, k, none⟩ = false := fun k hk => by
    have hk' : k < (setL (tcells ke hs ++ js) (I1 * 3) D).length := by rw [setL_len]; omega
    have := own_cells ho1 (j := k) (v := (setL (tcells ke hs ++ js) (I1 * 3) D)[k]'hk') (List.getElem?_eq_getElem hk')
    exact ⟨by rw [this.1]; rfl, this.2⟩
  have hvc1 : ∀ k v, (ke h)[k]? = some v → W1.cell? ⟨vb, k, none⟩ = some v := fun k v hk => by
    rw [hW1, World.cell?_setCells_out g _ _ _ _ (fun e _ => absurd e hvb)]
    exact hvc k v hk
  have hcp2 : ∀ (W : World), (∀ x, W.cell? x = W1.cell? x) → (∀ x, W.frozen? x = W1.frozen? x) → ∀ ty dc, (Builtin.copy_ #[30, 30] ty #[.slice (some ⟨g, i * 3, none⟩) (N1 - i) dc, .slice (some ⟨vb, 0, none⟩) 1 1]).run Tryz.prog W = .ok (goInt (Nat.min 1 (N1 - i))) (W.setCells g (i * 3) (ke h)) := fun W hWc hWf ty dc =>
    run_copy_s W _ _ ty 66 3 g (i * 3) (N1 - i) dc ⟨vb, 0, none⟩ 1 1 (ke h) Tryz.underlying30 hsz (by rw [keE.len]; simp only [Nat.min_def]; split <;> omega)
      (fun j v hj => by rw [Addr.add_lit, hWc, Nat.zero_add]; exact hvc1 j v hj) (fun j hj => by rw [keE.len] at hj; rw [hWc]; exact (hsome1 _ (by omega)).1) (fun j hj => by rw [keE.len] at hj; rw [hWf]; exact (hsome1 _ (by omega)).2) (keE.one h)
  have hfin := own_setL (ke h) (i * 3) ho1
  rw [hD, hI1, (set_ins keE hs h (tcells ke hs ++ js) (i := i) (by omega) (by rw [hl]; exact hlen1) (by rw [ihs_split hs i, List.append_assoc, List.take_append_of_le_length (by omega), List.take_of_length_le (by omega)])).1] at hfin
  have hgr : w.grownBy (W1.setCells g (i * 3) (ke h)) (some g) := by
    have h0 : w.grownBy w.drew (some g) := ⟨rfl, rfl, rfl, Nat.le_refl _, fun _ _ _ => rfl⟩
    rw [hW1]
    exact (h0.trans (turned_setL g D (I1 * 3) w.drew)).trans (turned_setL g (ke h) (i * 3) _)
  have hLL : (insAt hs i h).length = N1 := by unfold insAt; simp; omega
  rw [← hD] at hcp1
  rw [← hW1] at hcp1
  have j1 : IntKind.i64.wrap ((i : Int) + 1) = (I1 : Int) := by rw [IntKind.wrap_i64]; omega
  have j2 : IntKind.i64.wrap ((n : Int) + 1) = (N1 : Int) := by rw [IntKind.wrap_i64]; omega
  have j3 : ¬ (c = i) := by omega
  have j4 : ¬ (c = I1) := by omega
  have j5 : ¬ ((i : Int) = (n : Int)) := by omega
  have j6 : ¬ ((c : Int) < (N1 : Int)) := by omega
  have j7 : (i : Int) ≤ (n : Int) := by omega
  have j8 : (n : Int) ≤ (c : Int) := by omega
  have j9 : (N1 : Int) ≤ (c : Int) := by omega
  have j10 : (I1 : Int) ≤ (N1 : Int) := by omega
  have j11 : (i : Int) ≤ (N1 : Int) := by omega
  have j12 : ((i : Int) == (n : Int)) = false := by simp; omega
  have HLL : Hid ((insAt hs i h).length = N1) := hLL
  have HN : Hid (N1 = n + 1) := hN1
  have HF : Hid ((W1.setCells g (i * 3) (ke h)).ownsRow B 66 3 (.slice (some ⟨g, 0, none⟩) (n + 1) c) (n + 1) (tcells ke (insAt hs i h))) := hfin
  have hnc2 : n + 1 ≤ 1000001 := by omega
  clear hfin hLL hW1 hI1 hN1 l1 l2 hlen1 hmore hown hsome hsome1 hcell hvc hvc1 hg0 hc0 hdrop hD1 hD ho1 hi0 hz1 hl hjs hv
  go_enter Tryz.func138, Tryz.ntmps138
  go_wp2_with (simp only [hov])
  go_region_law (refine step_copy_runI rfl _ _ 30 30 rfl (.slice (some ⟨g, I1 * 3, none⟩) (N1 - I1) (c - I1)) (.slice (some ⟨g, i * 3, none⟩) (N1 - i) (c - i)) (by simp [Act.eval, Act.put]) (by simp [Act.eval, Act.put]) (hcp1 _ _ _) ?_)
  go_wp2_with (at_builtin; refine wpList_copy_runI _ rfl _ _ 30 30 rfl _ _ rfl rfl (hcp2 _ (fun _ => rfl) (fun _ => rfl) _ _) ?_)
  go_ret
  refine ⟨some ⟨g, 0, none⟩, c, by rw [HLL.out]; rfl, ?_, hgr⟩
  rw [HLL.out, HN.out]
  exact HF.out

set_option maxRecDepth 100000 in
set_option maxHeartbeats 1000000 in
/-- there is no room: a new row -/
theorem insert_grow_k (g n i B : Nat) (hs : List (Int × Int × Int)) (h : (Int × Int × Int)) (vb : Nat) (w : World) (hn : n ≤ 1000000) (hi : i < n) (hB : B ≤ w.heap.size) (hown : w.ownsRow B 66 3 (.slice (some ⟨g, 0, none⟩) n n) n (tcells ke hs)) (hv : w.heap[vb]? = some (.cells (ke h).toArray 66 (0, 0))) :
    Calls Tryz.prog 138 #[.slice (some ⟨g, 0, none⟩) n n, .int .i64 i, .slice (some ⟨vb, 0, none⟩) 1 1] w (InsResG 66 3 ke w B (.slice (some ⟨g, 0, none⟩) n n) (insAt hs i h)) := by
  have hl : hs.length = n := by have := hown.1; rw [tcells_length keE] at this; omega
  obtain ⟨l1, l2⟩ := take_cells keE hs (i := i) (by omega)
  rw [hl] at l2
  have hcell : ∀ k v, (tcells ke hs)[k]? = some v → w.cell? ⟨g, k, none⟩ = some v := fun k v hk => (own_cells hown hk).1
  have hvc : ∀ k v, (ke h)[k]? = some v → w.cell? ⟨vb, k, none⟩ = some v := fun k v hk => by
    simp only [World.cell?, hv]
    simpa using hk
  have hgw := (own_lt hown).1
  have hvw : vb < w.heap.size := (Array.getElem?_eq_some_iff.1 hv).1
  obtain ⟨i0, hi0, hz0, hz1, hz2⟩ := info_parts stillE.info
  have hsz : (Tryz.prog.info? 66).map (·.size) = some 3 := by rw [hi0]; simp [hz1]
  obtain ⟨I1, hI1⟩ : ∃ I1, I1 = i + 1 := ⟨_, rfl⟩
  obtain ⟨N1, hN1⟩ : ∃ N1, N1 = n + 1 := ⟨_, rfl⟩
  obtain ⟨K, hK⟩ : ∃ K, K = N1 - i := ⟨_, rfl⟩
  have hik : i + K = N1 := by omega
  have htk : ∀ k v, (tcells ke (hs.take i))[k]? = some v → (tcells ke hs)[k]? = some v := fun k v hk => by
    have : k < (tcells ke (hs.take i)).length := (List.getElem?_eq_some_iff.mp hk).1
    rw [ihs_split hs i, List.getElem?_append_left this]; exact hk
  have hold : (Builtin.firstCells i0.size i (.slice (some ⟨g, 0, none⟩) i n)).run Tryz.prog w.drew = .ok (tcells ke (hs.take i)).toArray w.drew := by
    rw [hz1]
    exact run_firstCells_some w.drew 3 i ⟨g, 0, none⟩ i n (tcells ke (hs.take i)) (by rw [l1]) (fun j v hj => by rw [Addr.add_lit, Nat.zero_add]; exact hcell j v (htk j v hj))
  have hrz : ∀ ty, (Builtin.append_ #[30, 3] ty #[.slice (some ⟨g, 0, none⟩) i n, .int .i64 (K : Int)]).run Tryz.prog w = .ok (.slice (some ⟨w.heap.size, 0, none⟩) N1 (grownCap w N1 n 66)) (w.drew.alloc (.cells ((tcells ke (hs.take i)).toArray ++ Builtin.zeroCells (Value.agg #[.int .i64 0, .int .i64 0, .int .i64 0]).cells K ++ Builtin.zeroCells (Value.agg #[.int .i64 0, .int .i64 0, .int .i64 0]).cells (grownCap w N1 n 66 - N1)) 66)) := fun ty => by
    have hh := Lib.run_append_grow_zeros w 30 3 ty 66 i0 _ .i64 .i64 Tryz.underlying30 Tryz.underlying3 hi0 hz0 (some ⟨g, 0, none⟩) i n (tcells ke (hs.take i)) hold K (by omega) (by rw [hz1]; decide) (by omega) (by omega) (by rw [hz2]; omega) (by rw [hz2, hik]; exact growslice_fits (by omega) (by omega))
    rw [hik] at hh
    exact hh
  have hGn : N1 ≤ grownCap w N1 n 66 := grownCap_ge w _ _ _
  have hGm := grownCap_le_maxLen w N1 n 66 (by unfold maxLen; omega)
  generalize grownCap w N1 n 66 = GC at *
  obtain ⟨ROW, hROW⟩ : ∃ ROW : Array Value, ROW = (tcells ke (hs.take i)).toArray ++ Builtin.zeroCells (Value.agg #[.int .i64 0, .int .i64 0, .int .i64 0]).cells K ++ Builtin.zeroCells (Value.agg #[.int .i64 0, .int .i64 0, .int .i64 0]).cells (GC - N1) := ⟨_, rfl⟩
  rw [← hROW] at hrz
  have hRs : ROW.size = GC * 3 := by
    rw [hROW]
    simp only [Array.size_append, List.size_toArray, l1]
    simp [Builtin.zeroCells, Value.cells]
    omega
  have hRt : ROW.toList.take (i * 3) = tcells ke (hs.take i) := by
    rw [hROW]
    simp only [Array.toList_append, List.append_assoc]
    rw [List.take_append_of_le_length (by simp [l1]), List.take_of_length_le (by simp [l1])]
  obtain ⟨W1, hW1⟩ : ∃ W1, W1 = w.drew.alloc (.cells ROW 66) := ⟨_, rfl⟩
  rw [← hW1] at hrz
  have ho1 : W1.ownsRow B 66 3 (.slice (some ⟨w.heap.size, 0, none⟩) N1 GC) N1 (ROW.toList.take (N1 * 3)) := by
    rw [hW1]
    exact ⟨by rw [List.length_take, Array.length_toList, hRs]; omega, .inr ⟨w.heap.size, GC, ROW, rfl, hB, heap_alloc_new w.drew _, hGn, hGm, hRs, rfl⟩⟩
  have hxl : (ROW.toList.take (N1 * 3)).length = (hs.length + 1) * 3 := by rw [List.length_take, Array.length_toList, hRs, hl]; omega
  have hxt : (ROW.toList.take (N1 * 3)).take (i * 3) = tcells ke (hs.take i) := by rw [List.take_take, Nat.min_eq_left (by omega), hRt]
  have hbW : Below w.heap.size w W1 := by rw [hW1]; exact ((Below.refl _ _).drew).alloc (Nat.le_refl _) _
  generalize ROW.toList.take (N1 * 3) = XS at *
  have hown2 : ∀ {W : World} {xs : List Value}, W.ownsRow B 66 3 (.slice (some ⟨w.heap.size, 0, none⟩) N1 GC) N1 xs → ∀ k, k < N1 * 3 → (W.cell? ⟨w.heap.size, k, none⟩).isSome = true ∧ W.frozen? ⟨w.heap.size, k, none⟩ = false := fun {W xs} ho k hk => by
    have hk' : k < xs.length := by rw [ho.1]; exact hk
    have := own_cells ho (j := k) (v := xs[k]'hk') (List.getElem?_eq_getElem hk')
    exact ⟨by rw [this.1]; rfl, this.2⟩
  have hcpA : ∀ (W : World), (∀ x, W.cell? x = W1.cell? x) → (∀ x, W.frozen? x = W1.frozen? x) → ∀ ty dc, (Builtin.copy_ #[30, 30] ty #[.slice (some ⟨w.heap.size, i * 3, none⟩) (N1 - i) dc, .slice (some ⟨vb, 0, none⟩) 1 1]).run Tryz.prog W = .ok (goInt (Nat.min 1 (N1 - i))) (W.setCells w.heap.size (i * 3) (ke h)) := fun W hWc hWf ty dc =>
    run_copy_s W _ _ ty 66 3 w.heap.size (i * 3) (N1 - i) dc ⟨vb, 0, none⟩ 1 1 (ke h) Tryz.underlying30 hsz (by rw [keE.len]; simp only [Nat.min_def]; split <;> omega)
      (fun j v hj => by rw [Addr.add_lit, hWc, Nat.zero_add, hbW.cell (p := ⟨vb, j, none⟩) hvw]; exact hvc j v hj) (fun j hj => by rw [keE.len] at hj; rw [hWc]; exact (hown2 ho1 _ (by omega)).1) (fun j hj => by rw [keE.len] at hj; rw [hWf]; exact (hown2 ho1 _ (by omega)).2) (keE.one h)
  obtain ⟨W2, hW2⟩ : ∃ W2, W2 = W1.setCells w.heap.size (i * 3) (ke h) := ⟨_, rfl⟩
  have ho2 : W2.ownsRow B 66 3 (.slice (some ⟨w.heap.size, 0, none⟩) N1 GC) N1 (setL XS (i * 3) (ke h)) := by rw [hW2]; exact own_setL _ _ ho1
  have hbW2 : Below w.heap.size w W2 := by rw [hW2]; exact below_setL (Nat.le_refl _) _ _ hbW
  have hdrop : ∀ k v, (tcells ke (hs.drop i))[k]? = some v → (tcells ke hs)[i * 3 + k]? = some v := fun k v hk => by
    rw [ihs_split hs i, List.getElem?_append_right (by omega), l1, show i * 3 + k - i * 3 = k by omega]; exact hk
  have hcpB : ∀ (W : World), (∀ x, W.cell? x = W2.cell? x) → (∀ x, W.frozen? x = W2.frozen? x) → ∀ ty dc sc, (Builtin.copy_ #[30, 30] ty #[.slice (some ⟨w.heap.size, I1 * 3, none⟩) (N1 - I1) dc, .slice (some ⟨g, i * 3, none⟩) (n - i) sc]).run Tryz.prog W = .ok (goInt (Nat.min (n - i) (N1 - I1))) (W.setCells w.heap.size (I1 * 3) (tcells ke (hs.drop i))) := fun W hWc hWf ty dc sc =>
    run_copy_s W _ _ ty 66 3 w.heap.size (I1 * 3) (N1 - I1) dc ⟨g, i * 3, none⟩ (n - i) sc (tcells ke (hs.drop i)) Tryz.underlying30 hsz (by rw [l2]; simp only [Nat.min_def]; split <;> omega)
      (fun j v hj => by rw [Addr.add_lit, hWc, hbW2.cell (p := ⟨g, i * 3 + j, none⟩) hgw]; exact hcell _ v (hdrop j v hj)) (fun j hj => by rw [hWc]; exact (hown2 ho2 _ (by omega)).1) (fun j hj => by rw [hWf]; exact (hown2 ho2 _ (by omega)).2) (tcells_one keE _)
  have ho3 : W2.drew.ownsRow B 66 3 (.slice (some ⟨w.heap.size, 0, none⟩) N1 GC) N1 (setL XS (i * 3) (ke h)) := ho2
  have hfin := own_setL (tcells ke (hs.drop i)) (I1 * 3) ho3
  have hbF := below_setL (g := w.heap.size) (Nat.le_refl _) (tcells ke (hs.drop i)) (I1 * 3) hbW2.drew
  have hset := (set_ins keE hs h XS (i := i) (by omega) hxl hxt).2
  rw [← hI1] at hset
  rw [hset] at hfin
  generalize hD : tcells ke (hs.drop i) = D at *
  have hLL : (insAt hs i h).length = N1 := by unfold insAt; simp; omega
  have j1 : IntKind.i64.wrap ((i : Int) + 1) = (I1 : Int) := by rw [IntKind.wrap_i64]; omega
  have j2 : IntKind.i64.wrap ((n : Int) + 1) = (N1 : Int) := by rw [IntKind.wrap_i64]; omega
  have j2' : IntKind.i64.wrap ((N1 : Int) - (i : Int)) = (K : Int) := by rw [IntKind.wrap_i64]; omega
  have j3 : ¬ (n = i) := by omega
  have j4 : ¬ (GC = I1) := by omega
  have j4' : ¬ (GC = i) := by omega
  have j5 : ((i : Int) == (n : Int)) = false := by simp; omega
  have j6 : (n : Int) < (N1 : Int) := by omega
  have j7 : (i : Int) ≤ (n : Int) := by omega
  have j10 : (I1 : Int) ≤ (N1 : Int) := by omega
  have j11 : (i : Int) ≤ (N1 : Int) := by omega
  have j13 : (N1 : Int) ≤ (GC : Int) := by omega
  have HLL : Hid ((insAt hs i h).length = N1) := hLL
  have HF : Hid ((W2.drew.setCells w.heap.size (I1 * 3) D).ownsRow B 66 3 (.slice (some ⟨w.heap.size, 0, none⟩) N1 GC) N1 (tcells ke (insAt hs i h))) := hfin
  have HB : Hid (Below w.heap.size w (W2.drew.setCells w.heap.size (I1 * 3) D)) := hbF
  have HW2 : Hid (W2 = W1.setCells w.heap.size (i * 3) (ke h)) := hW2
  have hcpA2 : ∀ ty dc, (Builtin.copy_ #[30, 30] ty #[.slice (some ⟨w.heap.size, i * 3, none⟩) (N1 - i) dc, .slice (some ⟨vb, 0, none⟩) 1 1]).run Tryz.prog W1 = .ok (goInt (Nat.min 1 (N1 - i))) W2 := fun ty dc => by rw [hW2]; exact hcpA W1 (fun _ => rfl) (fun _ => rfl) ty dc
  have hF1 : ∀ x, W2.drew.cell? x = W2.cell? x := fun _ => rfl
  have hF2 : ∀ x, W2.drew.frozen? x = W2.frozen? x := fun _ => rfl
  clear ho3
  clear hfin hbF hLL hW1 hW2 hI1 hN1 hK l1 l2 hown hcell hvc hdrop hD hi0 hz0 hz1 hz2 hl hv ho1 ho2 hxl hxt hset hown2 hRs hRt hROW hold hik htk hcpA hbW hbW2 hGm hGn
  go_enter Tryz.func138, Tryz.ntmps138
  go_wp2_with (first
    | (at_builtin; refine Lib.wpList_append_run _ rfl _ _ _ _ rfl _ _ rfl rfl _ _ (hrz _) ?_)
    | (at_builtin; refine wpList_copy_runI _ rfl _ _ 30 30 rfl _ _ rfl rfl (hcpA2 _ _) ?_))
  go_region_law (refine step_copy_runI rfl _ _ 30 30 rfl (.slice (some ⟨w.heap.size, I1 * 3, none⟩) (N1 - I1) (GC - I1)) (.slice (some ⟨g, i * 3, none⟩) (n - i) (n - i)) (by simp [Act.eval, Act.put]) (by simp [Act.eval, Act.put]) (hcpB W2.drew hF1 hF2 3 (GC - I1) (n - i)) ?_)
  go_wp2
  go_ret
  have hb := HB.out
  refine ⟨some ⟨w.heap.size, 0, none⟩, GC, by rw [HLL.out]; rfl, ?_, ⟨hb.os, hb.tape, hb.output, hb.size, fun k hk _ => hb.block k hk⟩⟩
  rw [HLL.out]
  exact HF.out

set_option maxRecDepth 100000 in
set_option maxHeartbeats 400000 in
theorem ram1_k (f : Int × Int × Int → Int) (fid : Nat) (eg : ∀ args w, (callFunc fid args).run Tryz.prog w = .ok (.enter fid args) w)
    (hdo : ∀ (x y z : Int) (W : World), Calls Tryz.prog fid #[.agg #[.int .i64 x, .int .i64 y, .int .i64 z]] W fun e W' => e = .returned (.int .i64 (f (x, y, z))) ∧ Below W.heap.size W W')
    (c1 : Nat) (s : Int) (x y z : Int) (w : World) (hC : w.cell? ⟨c1, 0, none⟩ = some (.func (.func fid) #[] #[])) :
    Calls Tryz.prog 136 #[.agg #[.int .i64 x, .int .i64 y, .int .i64 z], .int .i64 s, .pointer (some ⟨c1, 0, none⟩)] w fun e w' => e = .returned (.int .i64 (icmp (f (x, y, z)) s)) ∧ Below w.heap.size w w' := by
  have hd := fun W => hdo x y z W
  have hco := fun z W => compare_any z s W
  generalize f (x, y, z) = yy at *
  have hcy := fun W => hco yy W
  have ha := below_alloc w (.cells #[.int .i64 x, .int .i64 y, .int .i64 z] 66)
  have c0 := cell_new w #[.int .i64 x, .int .i64 y, .int .i64 z] 66
  have k1 := (ha.cell (p := ⟨c1, 0, none⟩) (cell_lt hC)).trans hC
  clear hdo hco
  go_enter Tryz.func136, Tryz.ntmps136
  go_wp2_with (first
    | (go_at_fn fid; go_must (refine (hd _).mono ?_; rintro e w2 ⟨rfl, hb2⟩))
    | (go_at_call 137; go_must (refine (hcy _).mono ?_; rintro e w3 ⟨rfl, rfl⟩)))
  go_ret
  exact ⟨rfl, ha.trans (hb2.mono ha.size)⟩

set_option maxRecDepth 100000 in
set_option maxHeartbeats 4000000 in
theorem rsearch_k (f : Int × Int × Int → Int) (c1 : Nat) (F : Value)
    (hcl : ∀ (x y z : Int) (s : Int) (V : World), V.cell? ⟨c1, 0, none⟩ = some F → Calls Tryz.prog 136 #[.agg #[.int .i64 x, .int .i64 y, .int .i64 z], .int .i64 s, .pointer (some ⟨c1, 0, none⟩)] V fun e w' => e = .returned (.int .i64 (icmp (f (x, y, z)) s)) ∧ Below V.heap.size V w')
    (a : Option Addr) (n c : Nat) (l : List (Int × Int × Int)) (s : Int) (w : World) (hn : n ≤ 1000000) (hr : KRow w a n l) (hp : (l.map f).Pairwise (· ≤ ·)) (hC : w.cell? ⟨c1, 0, none⟩ = some F) :
    Calls Tryz.prog 135 #[.slice a n c, .int .i64 s, .func (.func 136) #[] #[.pointer (some ⟨c1, 0, none⟩)]] w fun e w' => ∃ (i : Nat) (b : Bool), e = .returned (.tuple #[.int .i64 i, .bool b]) ∧ i ≤ n ∧ Ro.Srch f (0, 0, 0) l s i i ∧ Below w.heap.size w w' := by
  have hll : Hid (l.length = n) := hr.1
  have HP : Hid ((l.map f).Pairwise (· ≤ ·)) := hp
  have HS : Hid (Ro.Srch f (0, 0, 0) l s 0 n) := (⟨fun t ht => by omega, fun t h1 h2 => by have := hll.out; omega⟩ : Ro.Srch f (0, 0, 0) l s 0 n)
  have hCb := fun W (hb : Below w.heap.size w W) => (hb.cell (p := ⟨c1, 0, none⟩) (cell_lt hC)).trans hC
  have HCB : Hid (∀ W, Below w.heap.size w W → W.cell? ⟨c1, 0, none⟩ = some F) := hCb
  clear hp hCb hC
  go_enter Tryz.func135, Tryz.ntmps135
  go_wp2
  go_loopw [9, 10] (fun u v wr => ∃ i j : Nat, u = .int .i64 i ∧ v = .int .i64 j ∧ i ≤ j ∧ j ≤ n ∧ Hid (Ro.Srch f (0, 0, 0) l s i j) ∧ Below w.heap.size w wr) (fun u v _ => (intOf v).toNat - (intOf u).toNat)
  case atStart => exact ⟨0, n, rfl, rfl, by omega, by omega, HS, Below.refl _ _⟩
  case round =>
    obtain ⟨i, j, rfl, rfl, hij, hjn, H, hbel⟩ := hrel
    clear HS
    by_cases hlt : i < j
    · obtain ⟨hh, hhe⟩ : ∃ hh, hh = (i + j) / 2 := ⟨_, rfl⟩
      have hh1 : i ≤ hh := by omega
      have hh2 : hh < j := by omega
      have q0 : ((i : Int) + (j : Int)) / 2 = (hh : Int) := by rw [hhe]; omega
      have q1 : IntKind.i64.wrap ((i : Int) + (j : Int)) = (i : Int) + (j : Int) := by rw [IntKind.wrap_i64]; omega
      have q2 : IntKind.u64.wrap ((i : Int) + (j : Int)) = (i : Int) + (j : Int) := by rw [IntKind.wrap_u64]; omega
      have q3 : IntKind.i64.wrap (hh : Int) = (hh : Int) := by rw [IntKind.wrap_i64]; omega
      have i0 : (0 : Int) ≤ (hh : Int) := by omega
      have i1 : (hh : Int) < (n : Int) := by omega
      clear hhe
      obtain ⟨b, off, x, y, z, rfl, hx, p0, p1, p2⟩ := kget hr hbel (show hh < n by omega)
      have Hup : Hid (f (x, y, z) < s → Ro.Srch f (0, 0, 0) l s (hh + 1) j) := (fun h => Ro.srch_up HP.out H.out (by have := hll.out; omega) (by rw [hx.out]; exact h) : _ → _)
      have Hdn : Hid (s ≤ f (x, y, z) → Ro.Srch f (0, 0, 0) l s i hh) := (fun h => Ro.srch_down HP.out H.out (by rw [hx.out]; exact h) : _ → _)
      have hcm := hcl x y z s wr (HCB.out wr hbel)
      obtain ⟨r, hr'⟩ : ∃ r, r = icmp (f (x, y, z)) s := ⟨_, rfl⟩
      rw [← hr'] at hcm
      have Hr : Hid (r < 0 ↔ f (x, y, z) < s) := (by rw [hr']; exact icmp_neg : r < 0 ↔ _)
      clear hr' hx
      by_cases hless : r < 0
      · have H2 : Hid (Ro.Srch f (0, 0, 0) l s (hh + 1) j) := Hup.out (Hr.out.mp hless)
        have hd : decide (r < 0) = true := by simp [hless]
        clear Hup Hdn Hr hless
        go_wp2_with (go_at_call 136; go_must (refine hcm.mono ?_; rintro e w2 ⟨rfl, hb2⟩))
        go_roundw
        case rel => exact ⟨hh + 1, j, by go_num, rfl, by omega, hjn, H2, hbel.trans (hb2.mono hbel.size)⟩
        case measure => simp [intOf]; omega
      · have H2 : Hid (Ro.Srch f (0, 0, 0) l s i hh) := Hdn.out (by have := Hr.out; omega)
        have hd : decide (r < 0) = false := by simp; omega
        clear Hup Hdn Hr hless
        go_wp2_with (go_at_call 136; go_must (refine hcm.mono ?_; rintro e w2 ⟨rfl, hb2⟩))
        go_roundw
        case rel => exact ⟨i, hh, rfl, rfl, by omega, by omega, H2, hbel.trans (hb2.mono hbel.size)⟩
        case measure => simp [intOf]; omega
    · obtain rfl : i = j := by omega
      by_cases hin : i < n
      · have i0 : (0 : Int) ≤ (i : Int) := by omega
        have i1 : (i : Int) < (n : Int) := by omega
        have i2 : decide ((i : Int) < (n : Int)) = true := by simp; omega
        obtain ⟨b, off, x, y, z, rfl, hx, p0, p1, p2⟩ := kget hr hbel hin
        have hcm := hcl x y z s wr (HCB.out wr hbel)
        generalize icmp (f (x, y, z)) s = r at *
        clear hx
        go_wp2_with (go_at_call 136; go_must (refine hcm.mono ?_; rintro e w2 ⟨rfl, hb2⟩))
        go_ret2
        exact ⟨i, _, rfl, hjn, H.out, hbel.trans (hb2.mono hbel.size)⟩
      · obtain rfl : i = n := by omega
        have i2 : decide ((i : Int) < (i : Int)) = false := by simp
        go_wp2
        go_ret2
        exact ⟨i, _, rfl, hjn, H.out, hbel⟩

set_option maxRecDepth 100000 in
set_option maxHeartbeats 1000000 in
theorem ramong_k (f : Int × Int × Int → Int) (fid : Nat) (eg : ∀ args w, (callFunc fid args).run Tryz.prog w = .ok (.enter fid args) w)
    (hdo : ∀ (x y z : Int) (W : World), Calls Tryz.prog fid #[.agg #[.int .i64 x, .int .i64 y, .int .i64 z]] W fun e W' => e = .returned (.int .i64 (f (x, y, z))) ∧ Below W.heap.size W W')
    (x y z : Int) (a : Option Addr) (n c B : Nat) (l : List (Int × Int × Int)) (w : World) (hn : n ≤ 1000000) (hown : w.ownsRow B 66 3 (.slice a n c) n (tcells ke l)) (hB : B ≤ w.heap.size) (hp : (l.map f).Pairwise (· ≤ ·)) :
    Calls Tryz.prog 76 #[.slice a n c, .func (.func fid) #[] #[], .agg #[.int .i64 x, .int .i64 y, .int .i64 z]] w (InsResG 66 3 ke w B (.slice a n c) (Ro.ins f (x, y, z) l)) := by
  have hl : l.length = n := by have := hown.1; rw [tcells_length keE] at this; omega
  have hll : Hid (l.length = n) := hl
  obtain ⟨U, hU⟩ : ∃ U, U = (w.alloc (.cells #[.func (.func fid) #[] #[]] 140)).alloc (.cells #[.int .i64 x, .int .i64 y, .int .i64 z] 66) := ⟨_, rfl⟩
  have hbU : Below w.heap.size w U := by rw [hU]; exact below_two _ _ _
  have e0 : U.heap[w.heap.size]? = some (.cells #[.func (.func fid) #[] #[]] 140 (0, 0)) := by
    rw [hU]; exact (Below.heap_alloc _ _ _ (by simp)).trans (heap_alloc_new _ _)
  have e1 : U.heap[w.heap.size + 1]? = some (.cells #[.int .i64 x, .int .i64 y, .int .i64 z] 66 (0, 0)) := by
    rw [hU]; have := heap_alloc_new (w.alloc (.cells #[.func (.func fid) #[] #[]] 140)) (.cells #[.int .i64 x, .int .i64 y, .int .i64 z] 66); rwa [World.size_alloc] at this
  have HV : Hid (∀ W, Below U.heap.size U W → (W.cell? ⟨w.heap.size, 0, none⟩ = some (.func (.func fid) #[] #[]) ∧ W.cell? ⟨w.heap.size + 1, 0, none⟩ = some (.int .i64 x) ∧ W.cell? ⟨w.heap.size + 1, 1, none⟩ = some (.int .i64 y) ∧ W.cell? ⟨w.heap.size + 1, 2, none⟩ = some (.int .i64 z))) := (fun W h => by
    have x := (blkc ((h.block _ (ob_ltB e0)).trans e0)).1
    have y := (blkc ((h.block _ (ob_ltB e1)).trans e1)).1
    exact ⟨x 0, y 0, y 1, y 2⟩ : ∀ W, _ → _)
  obtain ⟨v0, l0, l1, l2⟩ := HV.out U (Below.refl _ _)
  have HP : Hid ((l.map f).Pairwise (· ≤ ·)) := hp
  have hd := fun W => hdo x y z W
  have hse := fun W (hb : Below U.heap.size U W) => rsearch_k f w.heap.size (.func (.func fid) #[] #[]) (fun x y z s V h => ram1_k f fid eg hdo w.heap.size s x y z V h) a n c l (f (x, y, z)) W hn (trow_of_owns keE (own_keptB (own_keptB hown hbU) hb) (by omega) (by omega)) HP.out (HV.out W hb).1
  have HO : Hid (∀ W, Below U.heap.size U W → W.ownsRow B 66 3 (.slice a n c) n (tcells ke l)) := (fun W hb => own_keptB (own_keptB hown hbU) hb : ∀ W, _ → _)
  have HI : Hid (∀ i, i ≤ n → Ro.Srch f (0, 0, 0) l (f (x, y, z)) i i → insAt l i (x, y, z) = Ro.ins f (x, y, z) l) := (fun i hi h => Ro.srch_ins (by rw [hl]; exact hi) h : ∀ i, _ → _ → _)
  obtain ⟨L, hL⟩ : ∃ L, L = Ro.ins f (x, y, z) l := ⟨_, rfl⟩
  rw [← hL] at HI ⊢
  -- the insertion, wherever it is
  have hin : ∀ (W : World) (i : Nat), Below U.heap.size U W → i ≤ n → Ro.Srch f (0, 0, 0) l (f (x, y, z)) i i → Calls Tryz.prog 138 #[.slice a n c, .int .i64 i, .slice (some ⟨W.heap.size, 0, none⟩) 1 1] (W.alloc (.cells #[.int .i64 x, .int .i64 y, .int .i64 z] 66)) (InsResG 66 3 ke (W.alloc (.cells #[.int .i64 x, .int .i64 y, .int .i64 z] 66)) B (.slice a n c) L) := by
    intro W i hb hi hs
    have hWs : B ≤ W.heap.size := Nat.le_trans hB (hbU.trans (hb.mono hbU.size)).size
    have ho := (HO.out W hb).alloc (.cells #[.int .i64 x, .int .i64 y, .int .i64 z] 66)
    have hnew := heap_alloc_new W (.cells #[.int .i64 x, .int .i64 y, .int .i64 z] 66)
    rw [← HI.out i hi hs]
    rcases Nat.lt_or_ge i n with h1 | h1
    · obtain ⟨g, rfl⟩ := town_blk ho (by omega)
      have hg := own_lt (HO.out W hb)
      by_cases hc : n + 1 ≤ c
      · exact insert_shift_k g n c i B l (x, y, z) W.heap.size _ hn h1 hc ho (by omega) hnew
      · have hnc : n ≤ c := by
          obtain ⟨_, _, e, _, h⟩ := t_shape ho
          simp only [Value.slice.injEq] at e
          omega
        obtain rfl : c = n := by omega
        exact insert_grow_k g c i B l (x, y, z) W.heap.size _ hn h1 (by simp; omega) ho hnew
    · obtain rfl : i = n := by omega
      exact insert_end_k a i c B l (x, y, z) W.heap.size _ hn ho (by simp; omega) (trow_lit W _ 66 (x, y, z) rfl (fun j v h => by simpa [ke] using h))
  have hgU := grown_any hbU (Value.slice a n c).ownBlock
  have hUe : (w.alloc (.cells #[.func (.func fid) #[] #[]] 140)).alloc (.cells #[.int .i64 x, .int .i64 y, .int .i64 z] 66) = U := hU.symm
  have HGU : Hid (w.grownBy U (Value.slice a n c).ownBlock) := hgU
  generalize f (x, y, z) = yy at *
  unfold InsResG at hin ⊢
  clear hU hbU e0 e1 hown hl HI HO hdo hL hp HP hgU
  go_enter Tryz.func76, Tryz.ntmps76
  go_wp2_with (first
    | (go_at_fn fid; go_must (refine (hd _).mono ?_; rintro e w2 ⟨rfl, hb2⟩; obtain ⟨v0', l0', l1', l2'⟩ := HV.out w2 hb2))
    | (go_at_call 135; go_must (refine (hse _ hb2).mono ?_; rintro e w3 ⟨i, b, rfl, hi, hs, hb3⟩; have hb4 := hb2.trans (hb3.mono hb2.size); obtain ⟨v0'', l0'', l1'', l2''⟩ := HV.out w3 hb4))
    | (go_at_call 138; go_must (refine (hin _ _ hb4 hi hs).mono ?_; rintro e w5 ⟨a', c', rfl, hown5, hg5⟩)))
  go_ret
  exact ⟨a', c', rfl, hown5, (HGU.out.trans (grown_any hb4 _)).trans ((grown_any (below_alloc w3 _) _).trans hg5)⟩
end Go.Proofs.YtfogodbbgbnhkaaGreatDoor
