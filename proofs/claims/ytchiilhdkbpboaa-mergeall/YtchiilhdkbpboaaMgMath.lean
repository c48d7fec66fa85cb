/- The plain mathematics of merging: lists of items in order as one, the first lists above the others; merging in parts. Names no dump. -/
import Derived.Test.YtchiilhdkbpboaaMa
namespace Go.Proofs.Ytchiilhdkbpboaa.Mg

/-- lists, merged: the first is the newest -/
def mall : List (List It.I) → List It.I
  | [] => []
  | a :: l => a.foldl It.put (mall l)
/-- the same, the dead left out or not -/
def all (l : List (List It.I)) (drop : Bool) : List It.I := (mall l).filter fun x => !drop || !x.2.1
def may (l : List (List It.I)) : Bool := l.all It.sorted && decide (l.length ≤ 100)
/-- the first list that has a key -/
def ff : List (List It.I) → List Nat → Option It.I
  | [], _ => none
  | a :: l, k => match It.find a k with | some x => some x | none => ff l k
/-- from which list a key's item is -/
def from' : List (List It.I) → List Nat → Nat → Nat
  | [], _, _ => 0
  | a :: l, k, i => if (It.get a k).1 ≠ [] then i else from' l k (i + 1)
theorem up_mall : ∀ (l : List (List It.I)), It.Up (mall l)
  | [] => List.Pairwise.nil
  | a :: l => It.up_fold a _ (up_mall l)
theorem up_ne {a : List It.I} (h : It.Up a) : a.Pairwise (fun x y => x.1 ≠ y.1) := h.imp fun h => It.lt_ne h
theorem find_mall : ∀ {l : List (List It.I)}, (∀ a ∈ l, It.Up a) → ∀ k, It.find (mall l) k = ff l k
  | [], _, _ => rfl
  | a :: l, h, k => by
    rw [mall, It.find_fold a _ (up_mall l) (up_ne (h a (by simp))) k, ff, find_mall (fun b hb => h b (by simp [hb])) k]
    cases It.find a k <;> rfl
theorem ff_append (k : List Nat) : ∀ (l m : List (List It.I)), ff (l ++ m) k = match ff l k with | some x => some x | none => ff m k
  | [], m => rfl
  | a :: l, m => by
    rw [List.cons_append, ff, ff, ff_append k l m]
    cases It.find a k <;> rfl
/-- merging the first lists ahead, and then with the others, is merging all -/
theorem parts {l m : List (List It.I)} (hl : ∀ a ∈ l, It.Up a) (hm : ∀ a ∈ m, It.Up a) : mall (mall l :: m) = mall (l ++ m) := by
  refine It.ext (up_mall _) (up_mall _) fun k => ?_
  have h1 : ∀ a ∈ mall l :: m, It.Up a := fun a ha => by
    rcases List.mem_cons.mp ha with rfl | ha
    · exact up_mall l
    · exact hm a ha
  have h2 : ∀ a ∈ l ++ m, It.Up a := fun a ha => by
    rcases List.mem_append.mp ha with ha | ha
    · exact hl a ha
    · exact hm a ha
  rw [find_mall h1, find_mall h2, ff_append, ff, find_mall hl]
theorem parts_all {l : List (List It.I)} (h : ∀ a ∈ l, It.Up a) (k : Nat) (drop : Bool) : all (all (l.take k) false :: l.drop k) drop = all l drop := by
  have e : all (l.take k) false = mall (l.take k) := by unfold all; rw [List.filter_eq_self]; intro x _; rfl
  unfold all at e ⊢
  rw [e, parts (fun a ha => h a (List.mem_of_mem_take ha)) (fun a ha => h a (List.mem_of_mem_drop ha)), List.take_append_drop]
theorem sorted_up {a : List It.I} (h : It.sorted a = true) : It.Up a := ((It.sorted_iff a).mp h).2
/-- an item, and from which list it is -/
abbrev Y := It.I × Nat
def yz : Y := (It.zero, 0)
def UpY (l : List Y) : Prop := l.Pairwise (fun a b => Na.lt a.1.1 b.1.1 = true)
/-- a newer list and an older one as one -/
def jn : List Y → List Y → List Y
  | [], b => b
  | x :: a, [] => x :: a
  | x :: a, y :: b => if Na.lt x.1.1 y.1.1 = true then x :: jn a (y :: b) else if Na.lt y.1.1 x.1.1 = true then y :: jn (x :: a) b else jn (x :: a) b
termination_by a b => a.length + b.length
theorem jn_nil (a : List Y) : jn a [] = a := by cases a <;> simp [jn]
theorem jn_in (a b : List Y) (z : Y) : z ∈ jn a b → z ∈ a ∨ z ∈ b := by
  fun_induction jn a b with
  | case1 b => intro h; exact .inr h
  | case2 x a => intro h; exact .inl h
  | case3 x a y b h ih =>
    intro hz
    rcases List.mem_cons.mp hz with rfl | hz
    · simp
    · rcases ih hz with h | h
      · simp [h]
      · exact .inr h
  | case4 x a y b h1 h2 ih =>
    intro hz
    rcases List.mem_cons.mp hz with rfl | hz
    · simp
    · rcases ih hz with h | h
      · exact .inl h
      · simp [h]
  | case5 x a y b h1 h2 ih =>
    intro hz
    rcases ih hz with h | h
    · exact .inl h
    · simp [h]
theorem up_jn {a b : List Y} : UpY a → UpY b → UpY (jn a b) := by
  fun_induction jn a b with
  | case1 b => intro _ h; exact h
  | case2 x a => intro h _; exact h
  | case3 x a y b h ih =>
    intro ha hb
    have ha' := List.pairwise_cons.mp ha
    have hb' := List.pairwise_cons.mp hb
    refine List.pairwise_cons.mpr ⟨fun z hz => ?_, ih ha'.2 hb⟩
    rcases jn_in _ _ _ hz with hz | hz
    · exact ha'.1 z hz
    · rcases List.mem_cons.mp hz with rfl | hz
      · exact h
      · exact It.lt_trans h (hb'.1 z hz)
  | case4 x a y b h1 h2 ih =>
    intro ha hb
    have ha' := List.pairwise_cons.mp ha
    have hb' := List.pairwise_cons.mp hb
    refine List.pairwise_cons.mpr ⟨fun z hz => ?_, ih ha hb'.2⟩
    rcases jn_in _ _ _ hz with hz | hz
    · rcases List.mem_cons.mp hz with rfl | hz
      · exact h2
      · exact It.lt_trans h2 (ha'.1 z hz)
    · exact hb'.1 z hz
  | case5 x a y b h1 h2 ih =>
    intro ha hb
    exact ih ha (List.pairwise_cons.mp hb).2
theorem mem_jn {a b : List Y} (z : Y) : UpY a → UpY b → (z ∈ jn a b ↔ z ∈ a ∨ (z ∈ b ∧ ∀ x ∈ a, x.1.1 ≠ z.1.1)) := by
  fun_induction jn a b with
  | case1 b => intro _ _; simp
  | case2 x a => intro _ _; simp
  | case3 x a y b h ih =>
    intro ha hb
    have ha' := List.pairwise_cons.mp ha
    have hb' := List.pairwise_cons.mp hb
    have hxz : z ∈ y :: b → x.1.1 ≠ z.1.1 := fun hz => by
      rcases List.mem_cons.mp hz with rfl | hz
      · exact It.lt_ne h
      · exact It.lt_ne (It.lt_trans h (hb'.1 z hz))
    rw [List.mem_cons, ih ha'.2 hb, List.mem_cons (a := z) (b := x)]
    constructor
    · rintro (h | h | ⟨h1, h2⟩)
      · exact .inl (.inl h)
      · exact .inl (.inr h)
      · refine .inr ⟨h1, fun u hu => ?_⟩
        rcases List.mem_cons.mp hu with rfl | hu
        · exact hxz h1
        · exact h2 u hu
    · rintro ((h | h) | ⟨h1, h2⟩)
      · exact .inl h
      · exact .inr (.inl h)
      · exact .inr (.inr ⟨h1, fun u hu => h2 u (List.mem_cons_of_mem _ hu)⟩)
  | case4 x a y b h1 h2 ih =>
    intro ha hb
    have ha' := List.pairwise_cons.mp ha
    have hb' := List.pairwise_cons.mp hb
    rw [List.mem_cons, ih ha hb'.2, List.mem_cons (a := z) (b := y)]
    constructor
    · rintro (rfl | h | ⟨h3, h4⟩)
      · refine .inr ⟨.inl rfl, fun u hu => ?_⟩
        rcases List.mem_cons.mp hu with rfl | hu
        · exact (It.lt_ne h2).symm
        · exact (It.lt_ne (It.lt_trans h2 (ha'.1 u hu))).symm
      · exact .inl h
      · exact .inr ⟨.inr h3, h4⟩
    · rintro (h | ⟨h | h, h4⟩)
      · exact .inr (.inl h)
      · exact .inl h
      · exact .inr (.inr ⟨h, h4⟩)
  | case5 x a y b h1 h2 ih =>
    intro ha hb
    have e : x.1.1 = y.1.1 := by
      rcases It.lt_total x.1.1 y.1.1 with h | h | h
      · exact absurd h h1
      · exact h
      · exact absurd h h2
    rw [ih ha (List.pairwise_cons.mp hb).2, List.mem_cons (a := z) (b := y)]
    constructor
    · rintro (h | ⟨h3, h4⟩)
      · exact .inl h
      · exact .inr ⟨.inr h3, h4⟩
    · rintro (h | ⟨rfl | h, h4⟩)
      · exact .inl h
      · exact absurd e (h4 x (by simp))
      · exact .inr ⟨h, h4⟩
/-- lists in order with the same members are the same -/
theorem extY : ∀ {l m : List Y}, UpY l → UpY m → (∀ z, z ∈ l ↔ z ∈ m) → l = m
  | [], [], _, _, _ => rfl
  | [], y :: m, _, _, h => by have := (h y).mpr (by simp); simp at this
  | x :: l, [], _, _, h => by have := (h x).mp (by simp); simp at this
  | x :: l, y :: m, h1, h2, h => by
    have h1' := List.pairwise_cons.mp h1
    have h2' := List.pairwise_cons.mp h2
    have e : x = y := by
      rcases List.mem_cons.mp ((h x).mp (by simp)) with e | hx
      · exact e
      · rcases List.mem_cons.mp ((h y).mpr (by simp)) with e | hy
        · exact e.symm
        · have a := h2'.1 x hx
          rw [It.lt_asymm (h1'.1 y hy)] at a
          cases a
    subst e
    refine congrArg _ (extY h1'.2 h2'.2 fun z => ?_)
    constructor
    · intro hz
      rcases List.mem_cons.mp ((h z).mp (by simp [hz])) with rfl | hm
      · exact absurd rfl (It.lt_ne (h1'.1 z hz))
      · exact hm
    · intro hz
      rcases List.mem_cons.mp ((h z).mpr (by simp [hz])) with rfl | hm
      · exact absurd rfl (It.lt_ne (h2'.1 z hz))
      · exact hm
theorem jn_assoc {a b c : List Y} (ha : UpY a) (hb : UpY b) (hc : UpY c) : jn (jn a b) c = jn a (jn b c) := by
  refine extY (up_jn (up_jn ha hb) hc) (up_jn ha (up_jn hb hc)) fun z => ?_
  rw [mem_jn z (up_jn ha hb) hc, mem_jn z ha hb, mem_jn z ha (up_jn hb hc), mem_jn z hb hc]
  constructor
  · rintro ((h | ⟨h1, h2⟩) | ⟨h1, h2⟩)
    · exact .inl h
    · exact .inr ⟨.inl h1, h2⟩
    · have h3 : ∀ x ∈ a, x.1.1 ≠ z.1.1 := fun x hx => h2 x ((mem_jn x ha hb).mpr (.inl hx))
      refine .inr ⟨.inr ⟨h1, fun x hx e => ?_⟩, h3⟩
      exact h2 x ((mem_jn x ha hb).mpr (.inr ⟨hx, fun u hu => by rw [e]; exact h3 u hu⟩)) e
  · rintro (h | ⟨h1 | ⟨h1, h2⟩, h3⟩)
    · exact .inl (.inl h)
    · exact .inl (.inr ⟨h1, h3⟩)
    · refine .inr ⟨h1, fun x hx => ?_⟩
      rcases (mem_jn x ha hb).mp hx with hx | hx
      · exact h3 x hx
      · exact h2 x hx.1
/-- one list's items, with its number -/
def yo (a : List It.I) (f : Nat) : List Y := a.map fun x => (x, f)
/-- lists as one, with their numbers, from f on -/
def tag : List (List It.I) → Nat → List Y
  | [], _ => []
  | a :: l, f => jn (yo a f) (tag l (f + 1))
theorem up_yo {a : List It.I} (h : It.Up a) (f : Nat) : UpY (yo a f) := List.pairwise_map.mpr h
theorem up_tag : ∀ {l : List (List It.I)} (f : Nat), (∀ a ∈ l, It.Up a) → UpY (tag l f)
  | [], _, _ => List.Pairwise.nil
  | a :: l, f, h => up_jn (up_yo (h a (by simp)) f) (up_tag (f + 1) fun b hb => h b (by simp [hb]))
theorem tag_append : ∀ {l m : List (List It.I)} (f : Nat), (∀ a ∈ l, It.Up a) → (∀ a ∈ m, It.Up a) → tag (l ++ m) f = jn (tag l f) (tag m (f + l.length))
  | [], m, f, _, _ => by simp [tag, jn]
  | a :: l, m, f, h, hm => by
    have hl : ∀ b ∈ l, It.Up b := fun b hb => h b (by simp [hb])
    rw [List.cons_append, tag, tag, tag_append (f + 1) hl hm, jn_assoc (up_yo (h a (by simp)) f) (up_tag _ hl) (up_tag _ hm), List.length_cons, show f + 1 + l.length = f + (l.length + 1) by omega]
theorem tag_one (a : List It.I) (f : Nat) : tag [a] f = yo a f := by rw [tag, tag, jn_nil]
theorem tag_half {l : List (List It.I)} (f : Nat) (h : ∀ a ∈ l, It.Up a) (k : Nat) (hk : k ≤ l.length) : tag l f = jn (tag (l.take k) f) (tag (l.drop k) (f + k)) := by
  have := tag_append (l := l.take k) (m := l.drop k) f (fun a ha => h a (List.mem_of_mem_take ha)) (fun a ha => h a (List.mem_of_mem_drop ha))
  rw [List.take_append_drop, List.length_take, Nat.min_eq_left hk] at this
  exact this
theorem jn_len (a b : List Y) : (jn a b).length ≤ a.length + b.length := by
  fun_induction jn a b with
  | case1 b => simp
  | case2 x a => simp
  | case3 x a y b h ih => simp only [List.length_cons] at ih ⊢; omega
  | case4 x a y b h1 h2 ih => simp only [List.length_cons] at ih ⊢; omega
  | case5 x a y b h1 h2 ih => simp only [List.length_cons] at ih ⊢; omega
theorem tag_len (K : Nat) : ∀ {l : List (List It.I)} (f : Nat), (∀ a ∈ l, a.length ≤ K) → (tag l f).length ≤ l.length * K
  | [], _, _ => by simp [tag]
  | a :: l, f, h => by
    have h1 := jn_len (yo a f) (tag l (f + 1))
    have h2 := tag_len K (f + 1) (fun b hb => h b (List.mem_cons_of_mem a hb))
    have h3 := h a (by simp)
    have h4 : (yo a f).length = a.length := by simp [yo]
    rw [tag, List.length_cons, Nat.succ_mul]
    omega
theorem find_iff {l : List It.I} (h : It.Up l) {k : List Nat} {x : It.I} : It.find l k = some x ↔ x ∈ l ∧ x.1 = k := by
  constructor
  · exact It.find_mem
  · rintro ⟨h1, rfl⟩
    exact It.find_of_mem (up_ne h) h1
/-- where an item of lists merged is from -/
theorem mem_tag : ∀ {l : List (List It.I)} {f : Nat} {y : Y}, (∀ a ∈ l, It.Up a) → (y ∈ tag l f ↔ ff l y.1.1 = some y.1 ∧ ∃ i, i < l.length ∧ y.2 = f + i ∧ y.1 ∈ l.getD i [] ∧ ∀ j, j < i → ∀ x ∈ l.getD j [], x.1 ≠ y.1.1)
  | [], f, y, _ => by simp [tag, ff]
  | a :: l, f, y, h => by
    have ha := h a (by simp)
    have hl : ∀ b ∈ l, It.Up b := fun b hb => h b (by simp [hb])
    rw [tag, mem_jn y (up_yo ha f) (up_tag _ hl), mem_tag hl, ff]
    have hy : y ∈ yo a f ↔ y.1 ∈ a ∧ y.2 = f := by
      unfold yo
      rw [List.mem_map]
      constructor
      · rintro ⟨x, hx, rfl⟩; exact ⟨hx, rfl⟩
      · rintro ⟨h1, h2⟩; exact ⟨y.1, h1, by rw [← h2]⟩
    have hn : (∀ x ∈ yo a f, x.1.1 ≠ y.1.1) ↔ ∀ x ∈ a, x.1 ≠ y.1.1 := by
      unfold yo
      constructor
      · intro h x hx; exact h (x, f) (List.mem_map.mpr ⟨x, hx, rfl⟩)
      · intro h x hx
        obtain ⟨u, hu, rfl⟩ := List.mem_map.mp hx
        exact h u hu
    rw [hy, hn]
    constructor
    · rintro (⟨h1, h2⟩ | ⟨⟨h1, i, hi, h3, h4, h5⟩, h6⟩)
      · rw [(find_iff ha).mpr ⟨h1, rfl⟩]
        exact ⟨rfl, 0, by simp, h2, by simpa using h1, fun j hj => by omega⟩
      · rw [It.find_none h6]
        refine ⟨h1, i + 1, by simp; omega, by omega, by simpa using h4, fun j hj => ?_⟩
        cases j with
        | zero => simpa using h6
        | succ j => simpa using h5 j (by omega)
    · rintro ⟨h1, i, hi, h3, h4, h5⟩
      cases i with
      | zero => exact .inl ⟨by simpa using h4, h3⟩
      | succ i =>
        have h6 : ∀ x ∈ a, x.1 ≠ y.1.1 := by simpa using h5 0 (by omega)
        rw [It.find_none h6] at h1
        exact .inr ⟨⟨h1, i, by simpa using hi, by omega, by simpa using h4, fun j hj => by simpa using h5 (j + 1) (by omega)⟩, h6⟩
/-- without their numbers: lists merged -/
theorem tag_mall : ∀ {l : List (List It.I)} (f : Nat), (∀ a ∈ l, It.Up a) → (tag l f).map Prod.fst = mall l
  | [], _, _ => rfl
  | a :: l, f, h => by
    have ha := h a (by simp)
    have hl : ∀ b ∈ l, It.Up b := fun b hb => h b (by simp [hb])
    have hU := up_jn (up_yo ha f) (up_tag (f + 1) hl)
    have hU' : It.Up ((tag (a :: l) f).map Prod.fst) := List.pairwise_map.mpr hU
    refine It.ext hU' (up_mall _) fun k => ?_
    have ihl := tag_mall (f + 1) hl
    rw [mall, It.find_fold a _ (up_mall l) (up_ne ha) k]
    have key : ∀ x, It.find ((tag (a :: l) f).map Prod.fst) k = some x ↔ (match It.find a k with | some x => some x | none => It.find (mall l) k) = some x := by
      intro x
      rw [find_iff hU', List.mem_map]
      constructor
      · rintro ⟨⟨y, hy, rfl⟩, rfl⟩
        rw [tag, mem_jn y (up_yo ha f) (up_tag _ hl)] at hy
        rcases hy with hy | ⟨hy, hn⟩
        · obtain ⟨u, hu, rfl⟩ := List.mem_map.mp hy
          rw [(find_iff ha).mpr ⟨hu, rfl⟩]
        · rw [It.find_none (fun u hu => hn (u, f) (List.mem_map.mpr ⟨u, hu, rfl⟩)), ← ihl]
          exact (find_iff (ihl ▸ up_mall l)).mpr ⟨List.mem_map.mpr ⟨y, hy, rfl⟩, rfl⟩
      · intro hx
        cases hf : It.find a k with
        | some u =>
          rw [hf] at hx
          obtain rfl : u = x := by simpa using hx
          obtain ⟨h1, h2⟩ := It.find_mem hf
          exact ⟨⟨(u, f), by rw [tag, mem_jn _ (up_yo ha f) (up_tag _ hl)]; exact .inl (List.mem_map.mpr ⟨u, h1, rfl⟩), rfl⟩, h2⟩
        | none =>
          rw [hf, ← ihl] at hx
          obtain ⟨h1, h2⟩ := It.find_mem hx
          obtain ⟨y, hy, rfl⟩ := List.mem_map.mp h1
          have hno : ∀ u ∈ yo a f, u.1.1 ≠ y.1.1 := fun u hu e => by
            obtain ⟨v, hv, rfl⟩ := List.mem_map.mp hu
            rw [(find_iff ha).mpr ⟨hv, e.trans h2⟩] at hf
            cases hf
          exact ⟨⟨y, (by rw [tag, mem_jn _ (up_yo ha f) (up_tag _ hl)]; exact .inr ⟨hy, hno⟩), rfl⟩, h2⟩
    cases h1 : It.find ((tag (a :: l) f).map Prod.fst) k with
    | some x => exact ((key x).mp h1).symm
    | none =>
      cases h2 : (match It.find a k with | some x => some x | none => It.find (mall l) k) with
      | some x => rw [(key x).mpr h2] at h1; cases h1
      | none => exact h2.symm
/-- what is told of lists with their numbers -/
def fo (drop : Bool) (most : Int) (ys : List Y) : List It.I := ((ys.map Prod.fst).filter fun x => !drop || !x.2.1).take most.toNat
theorem fo_all {l : List (List It.I)} (h : ∀ a ∈ l, It.Up a) (drop : Bool) (n : Nat) (hn : (tag l 0).length ≤ n) : fo drop (n : Int) (tag l 0) = all l drop := by
  unfold fo all
  rw [tag_mall 0 h, List.take_of_length_le]
  have h1 : ((mall l).filter fun x => !drop || !x.2.1).length ≤ (mall l).length := List.length_filter_le _ _
  rw [← tag_mall 0 h, List.length_map] at h1
  rw [← tag_mall 0 h]
  simp only [Int.toNat_natCast]
  omega
/-- of lists what stands in a range -/
def win (lo hi : List Nat) (l : List (List It.I)) : List (List It.I) := l.map fun a => a.filter (It.inside lo hi)
theorem inside_key {lo hi : List Nat} {x y : It.I} (h : x.1 = y.1) : It.inside lo hi x = It.inside lo hi y := by unfold It.inside; rw [h]
theorem up_filter {a : List It.I} (h : It.Up a) (p : It.I → Bool) : It.Up (a.filter p) := List.Pairwise.filter p h
theorem find_win (a : List It.I) (lo hi k : List Nat) : It.find (a.filter (It.inside lo hi)) k = if It.inside lo hi (k, false, Ce.zero) = true then It.find a k else none := by
  split
  · rename_i hk
    exact It.find_filter _ k a (fun x _ e => by rw [inside_key (y := (k, false, Ce.zero)) e]; exact hk)
  · rename_i hk
    refine It.find_none fun x hx e => hk ?_
    rw [← inside_key (x := x) (y := (k, false, Ce.zero)) e]
    exact (List.mem_filter.mp hx).2
theorem ff_win (lo hi k : List Nat) : ∀ (l : List (List It.I)), ff (win lo hi l) k = if It.inside lo hi (k, false, Ce.zero) = true then ff l k else none
  | [] => by simp [win, ff]
  | a :: l => by
    have ih := ff_win lo hi k l
    unfold win at ih ⊢
    rw [List.map_cons, ff, ff, find_win a, ih]
    by_cases hk : It.inside lo hi (k, false, Ce.zero) = true <;> simp [hk]
theorem up_win {l : List (List It.I)} (h : ∀ a ∈ l, It.Up a) (lo hi : List Nat) : ∀ a ∈ win lo hi l, It.Up a := fun a ha => by
  obtain ⟨b, hb, rfl⟩ := List.mem_map.mp ha
  exact up_filter (h b hb) _
theorem mall_win {l : List (List It.I)} (h : ∀ a ∈ l, It.Up a) (lo hi : List Nat) : mall (win lo hi l) = (mall l).filter (It.inside lo hi) := by
  refine It.ext (up_mall _) (up_filter (up_mall l) _) fun k => ?_
  rw [find_mall (up_win h lo hi), ff_win lo hi k l, find_win (mall l), find_mall h]
theorem fo_scan {l : List (List It.I)} (h : ∀ a ∈ l, It.Up a) (lo hi : List Nat) (most : Int) : fo true most (tag (win lo hi l) 0) = It.scan (all l true) lo hi most := by
  unfold fo It.scan all
  rw [tag_mall 0 (up_win h lo hi), mall_win h, List.filter_filter, List.filter_filter]
  congr 2
  funext x
  rw [Bool.and_comm]
/-- where a range is cut out of a list in order -/
theorem cut_win {a : List It.I} {lo hi : List Nat} {i j : Nat} (hj : j ≤ a.length) (h1 : It.Srch a lo i i) (h2 : hi = [] → j = a.length) (h3 : hi ≠ [] → It.Srch a hi j j) : (a.take j).drop (min i j) = a.filter (It.inside lo hi) := by
  have hs : a = a.take (min i j) ++ ((a.take j).drop (min i j) ++ a.drop j) := by
    have e1 : (a.take j).take (min i j) = a.take (min i j) := by rw [List.take_take, Nat.min_eq_left (Nat.min_le_right i j)]
    rw [← List.append_assoc, ← e1, List.take_append_drop, List.take_append_drop]
  have gm : ∀ (t : Nat) (x : It.I), a[t]? = some x → a.getD t It.zero = x := fun t x h => by rw [List.getD_eq_getElem?_getD, h]; rfl
  have p1 : (a.take (min i j)).filter (It.inside lo hi) = [] := by
    rw [List.filter_eq_nil_iff]
    intro x hx
    obtain ⟨t, ht⟩ := List.mem_iff_getElem?.mp hx
    rw [List.getElem?_take] at ht
    split at ht
    · rename_i hlt
      have := h1.1 t (by omega)
      rw [gm t x ht] at this
      unfold It.inside It.ge
      simp [this]
    · cases ht
  have p2 : ((a.take j).drop (min i j)).filter (It.inside lo hi) = (a.take j).drop (min i j) := by
    rw [List.filter_eq_self]
    intro x hx
    obtain ⟨t, ht⟩ := List.mem_iff_getElem?.mp hx
    rw [List.getElem?_drop, List.getElem?_take] at ht
    split at ht
    · rename_i hlt
      have htl : min i j + t < a.length := by omega
      have g1 : Na.lt x.1 lo = false := by
        rcases Nat.lt_or_ge j i with h | h
        · omega
        · have := h1.2 (min i j + t) (by omega) htl
          rw [gm _ x ht] at this
          exact this
      unfold It.inside It.ge
      by_cases hh : hi = []
      · simp [g1, hh]
      · have := (h3 hh).1 (min i j + t) hlt
        rw [gm _ x ht] at this
        simp [g1, this]
    · cases ht
  have p3 : (a.drop j).filter (It.inside lo hi) = [] := by
    rw [List.filter_eq_nil_iff]
    intro x hx
    obtain ⟨t, ht⟩ := List.mem_iff_getElem?.mp hx
    rw [List.getElem?_drop] at ht
    have htl : j + t < a.length := by
      rcases Nat.lt_or_ge (j + t) a.length with h | h
      · exact h
      · rw [List.getElem?_eq_none h] at ht; cases ht
    have hh : hi ≠ [] := fun e => by have := h2 e; omega
    have := (h3 hh).2 (j + t) (by omega) htl
    rw [gm _ x ht] at this
    unfold It.inside
    simp [this, hh]
  have := congrArg (List.filter (It.inside lo hi)) hs
  rw [List.filter_append, List.filter_append, p1, p2, p3, List.nil_append, List.append_nil] at this
  exact this.symm
theorem get_find : ∀ (l : List It.I) (k : List Nat), It.get l k = (It.find l k).getD It.zero
  | [], _ => rfl
  | x :: l, k => by
    rw [It.get, It.find, get_find l k]
    split <;> rfl
/-- keys that there may be are not empty -/
def Keys (l : List (List It.I)) : Prop := ∀ a ∈ l, ∀ x ∈ a, x.1 ≠ []
theorem may_keys {l : List (List It.I)} (h : may l = true) : (∀ a ∈ l, It.Up a) ∧ Keys l ∧ l.length ≤ 100 := by
  unfold may at h
  rw [Bool.and_eq_true, List.all_eq_true] at h
  refine ⟨fun a ha => sorted_up (h.1 a ha), fun a ha x hx => ?_, of_decide_eq_true h.2⟩
  have := ((It.sorted_iff a).mp (h.1 a ha)).1 x hx
  unfold It.may at this
  simp only [Bool.and_eq_true, decide_eq_true_eq] at this
  exact this.1.1.1
theorem get_mall {l : List (List It.I)} (h : ∀ a ∈ l, It.Up a) (k : List Nat) : It.get (mall l) k = (ff l k).getD It.zero := by rw [get_find, find_mall h]
theorem ff_mem : ∀ {l : List (List It.I)} {k : List Nat} {x : It.I}, ff l k = some x → ∃ a ∈ l, x ∈ a ∧ x.1 = k
  | a :: l, k, x, h => by
    rw [ff] at h
    cases hf : It.find a k with
    | some u =>
      rw [hf] at h
      obtain rfl : u = x := by simpa using h
      exact ⟨a, by simp, It.find_mem hf⟩
    | none =>
      rw [hf] at h
      obtain ⟨b, hb, hx⟩ := ff_mem h
      exact ⟨b, by simp [hb], hx⟩
theorem there_mall {l : List (List It.I)} (h : ∀ a ∈ l, It.Up a) (hk : Keys l) (k : List Nat) : decide ((It.get (mall l) k).1 ≠ []) = (ff l k).isSome := by
  rw [get_mall h]
  cases hf : ff l k with
  | none => rfl
  | some x =>
    obtain ⟨a, ha, hx, _⟩ := ff_mem hf
    simpa using hk a ha x hx
theorem from_at : ∀ {l : List (List It.I)} {k : List Nat} {i s : Nat}, (∀ a ∈ l, It.Up a) → Keys l → i < l.length → (∃ x ∈ l.getD i [], x.1 = k) → (∀ j, j < i → ∀ x ∈ l.getD j [], x.1 ≠ k) → from' l k s = s + i
  | a :: l, k, 0, s, h, hk, _, ⟨x, hx, e⟩, _ => by
    have hx : x ∈ a := by simpa using hx
    rw [from', if_pos, Nat.add_zero]
    rw [get_find, (find_iff (h a (by simp))).mpr ⟨hx, e⟩]
    exact hk a (by simp) x hx
  | a :: l, k, i + 1, s, h, hk, hi, ⟨x, hx, e⟩, hn => by
    have h0 : ∀ x ∈ a, x.1 ≠ k := by simpa using hn 0 (by omega)
    rw [from', if_neg]
    · rw [from_at (i := i) (s := s + 1) (fun b hb => h b (by simp [hb])) (fun b hb => hk b (by simp [hb])) (by simpa using hi) ⟨x, by simpa using hx, e⟩ (fun j hj => by simpa using hn (j + 1) (by omega))]
      omega
    · rw [It.get_none h0]
      simp [It.zero]
theorem from_tag {l : List (List It.I)} (h : ∀ a ∈ l, It.Up a) (hk : Keys l) {y : Y} (hy : y ∈ tag l 0) : from' l y.1.1 0 = y.2 := by
  obtain ⟨_, i, hi, h2, h3, h4⟩ := (mem_tag h).mp hy
  rw [from_at (i := i) h hk hi ⟨y.1, h3, rfl⟩ h4, h2]
theorem mall_mem {l : List (List It.I)} (h : ∀ a ∈ l, It.Up a) {x : It.I} (hx : x ∈ mall l) : ∃ a ∈ l, x ∈ a := by
  have := (find_iff (up_mall l)).mpr ⟨hx, rfl⟩
  rw [find_mall h] at this
  obtain ⟨a, ha, hx, _⟩ := ff_mem this
  exact ⟨a, ha, hx⟩
theorem sorted_mall {l : List (List It.I)} (h : may l = true) : It.sorted (mall l) = true := by
  rw [It.sorted_iff]
  refine ⟨fun x hx => ?_, up_mall l⟩
  obtain ⟨a, ha, hx⟩ := mall_mem (may_keys h).1 hx
  unfold may at h
  rw [Bool.and_eq_true, List.all_eq_true] at h
  exact ((It.sorted_iff a).mp (h.1 a ha)).1 x hx
end Go.Proofs.Ytchiilhdkbpboaa.Mg
