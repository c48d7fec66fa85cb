/- Edits, as mathematics. -/
import Derived.Test.YtmodogmjfbcddaaGreatLvMath
namespace Go.Proofs.YtmodogmjfbcddaaGreat.Ed

structure E where
  kind : Int
  num : Int
  index : Int
  term : Int
  ht : Int
  hv : Int
  hc : Int
  tab : Lv.T
def zero : E := ⟨0, 0, 0, 0, 0, 0, 0, Lv.zero⟩

def counts (n : Int) : Bool := decide (1 ≤ n) && decide (n ≤ 2147483647)
/-- nought, or it counts -/
def cz (n : Int) : Bool := decide (n = 0) || counts n
theorem cz_iff (n : Int) : cz n = true ↔ 0 ≤ n ∧ n ≤ 2147483647 := by
  simp only [cz, counts, Bool.or_eq_true, Bool.and_eq_true, decide_eq_true_eq]; omega
theorem counts_iff (n : Int) : counts n = true ↔ 1 ≤ n ∧ n ≤ 2147483647 := by
  simp only [counts, Bool.and_eq_true, decide_eq_true_eq]
/-- which parts a kind has, as letters: N 78, I 73, T 84, H 72, B 66 -/
def parts (k : Int) : List Nat :=
  if k = 1 then [78] else if k = 2 then [78, 73] else if k = 3 then [73] else if k = 4 then [66] else if k = 5 then [78]
  else if k = 6 then [78, 73, 84] else if k = 7 then [73] else if k = 8 then [78, 73, 84, 72] else if k = 9 then [73] else []
def has (p : List Nat) (c : Nat) : Bool := p.contains c
def right (n : Int) (there : Bool) : Bool := (there && counts n) || (!there && decide (n = 0))
/-- a table of nothing -/
def tz (t : Lv.T) : Bool := decide (t.num = 0) && decide (t.lev = 0) && decide (t.size = 0) && decide (t.first = ⟨#[]⟩) && decide (t.last = ⟨#[]⟩)
theorem tz_iff (t : Lv.T) : tz t = true ↔ t = Lv.zero := by
  obtain ⟨a, b, c, d, f⟩ := t
  simp only [tz, Bool.and_eq_true, decide_eq_true_eq, Lv.zero, Lv.T.mk.injEq, and_assoc]
/-- Hard's three are nought -/
def hz (e : E) : Bool := decide (e.ht = 0) && decide (e.hv = 0) && decide (e.hc = 0)
/-- may an edit be? By kind. -/
def may (e : E) : Bool :=
  if e.kind = 1 ∨ e.kind = 5 then counts e.num && decide (e.index = 0) && decide (e.term = 0) && hz e && tz e.tab
  else if e.kind = 2 then cz e.num && counts e.index && decide (e.term = 0) && hz e && tz e.tab
  else if e.kind = 3 ∨ e.kind = 7 ∨ e.kind = 9 then decide (e.num = 0) && counts e.index && decide (e.term = 0) && hz e && tz e.tab
  else if e.kind = 4 then decide (e.num = 0) && decide (e.index = 0) && decide (e.term = 0) && hz e && Lv.one e.tab
  else if e.kind = 6 then counts e.num && counts e.index && counts e.term && hz e && tz e.tab
  else if e.kind = 8 then counts e.num && ((counts e.index && counts e.term) || (decide (e.index = 0) && decide (e.term = 0))) && cz e.ht && cz e.hv && cz e.hc && tz e.tab
  else false
/-- the nine kinds, and none -/
theorem kinds (k : Int) : k = 1 ∨ k = 2 ∨ k = 3 ∨ k = 4 ∨ k = 5 ∨ k = 6 ∨ k = 7 ∨ k = 8 ∨ k = 9 ∨ (k < 1 ∨ 9 < k) := by omega

/- the numbers that an edit has -/
def letter (e : E) (c : Nat) : List Int :=
  if c = 78 then [e.num] else if c = 73 then [e.index] else if c = 84 then [e.term] else if c = 72 then [e.ht, e.hv, e.hc] else if c = 66 then [e.tab.num, e.tab.lev, e.tab.size] else []
def nums (e : E) : List Int := (parts e.kind).flatMap (letter e)
def text (s : ByteArray) : List Nat := Va.one s.size ++ kb s
def texts (e : E) : List Nat := if e.kind = 4 then text e.tab.first ++ text e.tab.last else []
def one (e : E) : List Nat := e.kind.toNat :: (Va.put ((nums e).map Int.toNat) ++ texts e)
def put (l : List E) : List Nat := Va.one l.length ++ l.flatMap one

/- reading -/
def number (bs : List Nat) : Nat × Nat := if (Va.get bs).2 = 0 ∨ 2147483647 < (Va.get bs).1 then (0, 0) else Va.get bs
def nread : Nat → List Nat → Nat → List Nat → Option (List Nat × Nat)
  | 0, _, at', l => some (l, at')
  | n + 1, bs, at', l => if (number (bs.drop at')).2 = 0 then none else nread n bs (at' + (number (bs.drop at')).2) (l ++ [(number (bs.drop at')).1])
/-- how many numbers a kind has -/
def cnt (k : Int) : Nat := (nums { zero with kind := k }).length
def fill (k : Int) (l : List Nat) : E :=
  if k = 1 ∨ k = 5 then { zero with kind := k, num := l.getD 0 0 }
  else if k = 2 then { zero with kind := k, num := l.getD 0 0, index := l.getD 1 0 }
  else if k = 3 ∨ k = 7 ∨ k = 9 then { zero with kind := k, index := l.getD 0 0 }
  else if k = 4 then { zero with kind := k, tab := ⟨l.getD 0 0, l.getD 1 0, l.getD 2 0, ⟨#[]⟩, ⟨#[]⟩⟩ }
  else if k = 6 then { zero with kind := k, num := l.getD 0 0, index := l.getD 1 0, term := l.getD 2 0 }
  else if k = 8 then ⟨k, l.getD 0 0, l.getD 1 0, l.getD 2 0, l.getD 3 0, l.getD 4 0, l.getD 5 0, Lv.zero⟩
  else { zero with kind := k }
def rtext (bs : List Nat) (at' : Nat) : Option (ByteArray × Nat) :=
  if (number (bs.drop at')).2 = 0 ∨ bs.length < at' + (number (bs.drop at')).2 + (number (bs.drop at')).1 then none
  else some (bstr ((bs.drop (at' + (number (bs.drop at')).2)).take (number (bs.drop at')).1), at' + (number (bs.drop at')).2 + (number (bs.drop at')).1)
/-- with texts -/
def keyed (e : E) (f g : ByteArray) : E := { e with tab := { e.tab with first := f, last := g } }
def first2 (bs : List Nat) (e : E) (at' : Nat) : Option (E × Nat) :=
  match rtext bs at' with
  | none => none
  | some (f, a1) => match rtext bs a1 with
    | none => none
    | some (g, a2) => some (keyed e f g, a2)
def first (bs : List Nat) : Option (E × Nat) :=
  if bs = [] ∨ parts (bs.getD 0 0 : Nat) = [] then none
  else match nread (cnt (bs.getD 0 0 : Nat)) bs 1 [] with
    | none => none
    | some (l, at') => if bs.getD 0 0 = 4 then first2 bs (fill (bs.getD 0 0 : Nat) l) at' else some (fill (bs.getD 0 0 : Nat) l, at')
def sc : Nat → List Nat → Nat → List E → Option (List E × Nat)
  | 0, _, at', l => some (l, at')
  | n + 1, bs, at', l => match first (bs.drop at') with
    | none => none
    | some (e, k) => if may e = true then sc n bs (at' + k) (l ++ [e]) else none
def get (bs : List Nat) : List E :=
  if (number bs).2 = 0 ∨ 200 < (number bs).1 then []
  else match sc (number bs).1 bs (number bs).2 [] with
    | none => []
    | some (l, at') => if at' = bs.length then l else []

/- what is read is what would be put -/
theorem number_ok {bs : List Nat} (hs : ∀ x ∈ bs, x < 256) (h : (number bs).2 ≠ 0) : (number bs).1 ≤ 2147483647 ∧ (number bs).2 ≤ bs.length ∧ bs.take (number bs).2 = Va.one (number bs).1 := by
  unfold number at h ⊢
  split at h
  · simp at h
  · rename_i hc
    rw [if_neg hc]
    exact ⟨by omega, Va.get_le, Va.get_ok hs (by omega)⟩
theorem nread_ok : ∀ (n : Nat) (bs : List Nat) (at' : Nat) (acc l : List Nat) (e : Nat), (∀ x ∈ bs, x < 256) → at' ≤ bs.length → nread n bs at' acc = some (l, e) →
    ∃ r, l = acc ++ r ∧ r.length = n ∧ e ≤ bs.length ∧ at' ≤ e ∧ bs.take e = bs.take at' ++ Va.put r ∧ (∀ x ∈ r, x ≤ 2147483647)
  | 0, bs, at', acc, l, e, _, ha, h => by
    simp only [nread, Option.some.injEq, Prod.mk.injEq] at h
    obtain ⟨rfl, rfl⟩ := h
    exact ⟨[], by simp, rfl, ha, by omega, by simp [Va.put], by simp⟩
  | n + 1, bs, at', acc, l, e, hs, ha, h => by
    simp only [nread] at h
    split at h
    · cases h
    · rename_i hk
      obtain ⟨h1, h2, h3⟩ := number_ok (fun y hy => hs y (List.mem_of_mem_drop hy)) hk
      rw [List.length_drop] at h2
      obtain ⟨r, rfl, r2, r3, r4, r5, r6⟩ := nread_ok n bs _ _ l e hs (by omega) h
      refine ⟨(number (bs.drop at')).1 :: r, by simp, by simp [r2], r3, by omega, ?_, ?_⟩
      · rw [r5, Va.take_add', h3]; simp [Va.put]
      · intro y hy
        rcases List.mem_cons.mp hy with rfl | hy
        · exact h1
        · exact r6 y hy
theorem rtext_ok {bs : List Nat} {at' e : Nat} {s : ByteArray} (hs : ∀ x ∈ bs, x < 256) (h : rtext bs at' = some (s, e)) :
    e ≤ bs.length ∧ at' ≤ e ∧ bs.take e = bs.take at' ++ text s := by
  unfold rtext at h
  split at h
  · cases h
  · rename_i hc
    obtain ⟨h1, h2, h3⟩ := number_ok (fun y hy => hs y (List.mem_of_mem_drop hy)) (by omega : (number (bs.drop at')).2 ≠ 0)
    generalize number (bs.drop at') = q at *
    obtain ⟨n, m⟩ := q
    simp only [Option.some.injEq, Prod.mk.injEq] at h hc h1 h2 h3
    obtain ⟨rfl, rfl⟩ := h
    have hb : kb (bstr ((bs.drop (at' + m)).take n)) = (bs.drop (at' + m)).take n := kb_bstr (fun x hx => hs x (List.mem_of_mem_drop (List.mem_of_mem_take hx)))
    have hl : ((bs.drop (at' + m)).take n).length = n := by rw [List.length_take, List.length_drop]; omega
    refine ⟨by omega, by omega, ?_⟩
    rw [text, hb, ← kb_len, hb, hl, Va.take_add', Va.take_add', h3]; simp
/- a kind's numbers -/
theorem cnt_of : cnt 1 = 1 ∧ cnt 2 = 2 ∧ cnt 3 = 1 ∧ cnt 4 = 3 ∧ cnt 5 = 1 ∧ cnt 6 = 3 ∧ cnt 7 = 1 ∧ cnt 8 = 6 ∧ cnt 9 = 1 := ⟨rfl, rfl, rfl, rfl, rfl, rfl, rfl, rfl, rfl⟩
theorem parts_none {k : Int} (h : k < 1 ∨ 9 < k) : parts k = [] := by
  unfold parts
  rw [if_neg (by omega), if_neg (by omega), if_neg (by omega), if_neg (by omega), if_neg (by omega), if_neg (by omega), if_neg (by omega), if_neg (by omega), if_neg (by omega)]
theorem may_none {e : E} (h : e.kind < 1 ∨ 9 < e.kind) : may e = false := by
  unfold may
  rw [if_neg (by omega), if_neg (by omega), if_neg (by omega), if_neg (by omega), if_neg (by omega), if_neg (by omega)]
theorem len1 {l : List Nat} (h : l.length = 1) : ∃ a, l = [a] := List.length_eq_one_iff.mp h
theorem len2 {l : List Nat} (h : l.length = 2) : ∃ a b, l = [a, b] := by
  match l, h with
  | [a, b], _ => exact ⟨a, b, rfl⟩
theorem len3 {l : List Nat} (h : l.length = 3) : ∃ a b c, l = [a, b, c] := by
  match l, h with
  | [a, b, c], _ => exact ⟨a, b, c, rfl⟩
theorem len6 {l : List Nat} (h : l.length = 6) : ∃ a b c d e f, l = [a, b, c, d, e, f] := by
  match l, h with
  | [a, b, c, d, e, f], _ => exact ⟨a, b, c, d, e, f, rfl⟩
theorem fill_nums {k : Int} {l : List Nat} (hp : parts k ≠ []) (hl : l.length = cnt k) : (nums (fill k l)).map Int.toNat = l ∧ (fill k l).kind = k := by
  obtain ⟨c1, c2, c3, c4, c5, c6, c7, c8, c9⟩ := cnt_of
  rcases kinds k with rfl | rfl | rfl | rfl | rfl | rfl | rfl | rfl | rfl | h
  · rw [c1] at hl; obtain ⟨a, rfl⟩ := len1 hl; exact ⟨rfl, rfl⟩
  · rw [c2] at hl; obtain ⟨a, b, rfl⟩ := len2 hl; exact ⟨rfl, rfl⟩
  · rw [c3] at hl; obtain ⟨a, rfl⟩ := len1 hl; exact ⟨rfl, rfl⟩
  · rw [c4] at hl; obtain ⟨a, b, c, rfl⟩ := len3 hl; exact ⟨rfl, rfl⟩
  · rw [c5] at hl; obtain ⟨a, rfl⟩ := len1 hl; exact ⟨rfl, rfl⟩
  · rw [c6] at hl; obtain ⟨a, b, c, rfl⟩ := len3 hl; exact ⟨rfl, rfl⟩
  · rw [c7] at hl; obtain ⟨a, rfl⟩ := len1 hl; exact ⟨rfl, rfl⟩
  · rw [c8] at hl; obtain ⟨a, b, c, d, e, f, rfl⟩ := len6 hl; exact ⟨rfl, rfl⟩
  · rw [c9] at hl; obtain ⟨a, rfl⟩ := len1 hl; exact ⟨rfl, rfl⟩
  · exact absurd (parts_none h) hp
theorem nums_keyed (e : E) (f g : ByteArray) : nums (keyed e f g) = nums e := rfl
theorem fill_kind (k : Int) (l : List Nat) : (fill k l).kind = k := by
  unfold fill
  repeat' split
  all_goals rfl
theorem take_one {bs : List Nat} (h : bs ≠ []) : bs.take 1 = [bs.getD 0 0] := by
  cases bs with
  | nil => exact absurd rfl h
  | cons x r => rfl
theorem first_ok {bs : List Nat} {e : E} {k : Nat} (hs : ∀ x ∈ bs, x < 256) (h : first bs = some (e, k)) : 0 < k ∧ k ≤ bs.length ∧ bs.take k = one e := by
  unfold first at h
  split at h
  · cases h
  · rename_i hc
    have hne : bs ≠ [] := fun h => hc (.inl h)
    have hp : parts (bs.getD 0 0 : Nat) ≠ [] := fun h => hc (.inr h)
    have hl : 0 < bs.length := List.length_pos_iff.mpr hne
    have ht := take_one hne
    generalize bs.getD 0 0 = K at *
    split at h
    · cases h
    · rename_i l at' hn
      obtain ⟨r, e1, e2, e3, e4, e5, e6⟩ := nread_ok _ bs 1 [] l at' hs hl hn
      rw [List.nil_append] at e1
      subst e1
      obtain ⟨f1, f2⟩ := fill_nums hp e2
      rw [ht] at e5
      split at h
      · rename_i h4
        subst h4
        unfold first2 at h
        split at h
        · cases h
        · rename_i f a1 hf
          split at h
          · cases h
          · rename_i g a2 hg
            simp only [Option.some.injEq, Prod.mk.injEq] at h
            obtain ⟨rfl, rfl⟩ := h
            obtain ⟨p1, p2, p3⟩ := rtext_ok hs hf
            obtain ⟨q1, q2, q3⟩ := rtext_ok hs hg
            refine ⟨by omega, by omega, ?_⟩
            rw [q3, p3, e5, one, nums_keyed, f1, texts]
            simp [keyed, fill_kind]
      · rename_i h4
        simp only [Option.some.injEq, Prod.mk.injEq] at h
        obtain ⟨rfl, rfl⟩ := h
        refine ⟨by omega, by omega, ?_⟩
        rw [e5, one, f1, texts, f2, if_neg (by omega)]
        simp
theorem sc_ok : ∀ (n : Nat) (bs : List Nat) (at' : Nat) (acc l : List E) (e : Nat), (∀ x ∈ bs, x < 256) → at' ≤ bs.length → sc n bs at' acc = some (l, e) →
    ∃ r, l = acc ++ r ∧ r.length = n ∧ e ≤ bs.length ∧ bs.take e = bs.take at' ++ r.flatMap one ∧ (∀ x ∈ r, may x = true)
  | 0, bs, at', acc, l, e, _, ha, h => by
    simp only [sc, Option.some.injEq, Prod.mk.injEq] at h
    obtain ⟨rfl, rfl⟩ := h
    exact ⟨[], by simp, rfl, ha, by simp, by simp⟩
  | n + 1, bs, at', acc, l, e, hs, ha, h => by
    simp only [sc] at h
    split at h
    · cases h
    · rename_i x k hx
      split at h
      · rename_i hmx
        obtain ⟨h1, h2, h3⟩ := first_ok (fun y hy => hs y (List.mem_of_mem_drop hy)) hx
        rw [List.length_drop] at h2
        obtain ⟨r, rfl, r2, r3, r5, r6⟩ := sc_ok n bs _ _ l e hs (by omega) h
        refine ⟨x :: r, by simp, by simp [r2], r3, ?_, ?_⟩
        · rw [r5, Va.take_add', h3]; simp
        · intro y hy
          rcases List.mem_cons.mp hy with rfl | hy
          · exact hmx
          · exact r6 y hy
      · cases h
theorem get_ok {bs : List Nat} (hs : ∀ x ∈ bs, x < 256) (h : get bs ≠ []) : put (get bs) = bs ∧ (∀ e ∈ get bs, may e = true) ∧ (get bs).length ≤ 200 := by
  unfold get at h ⊢
  split at h
  · exact absurd rfl h
  · rename_i hc
    rw [if_neg hc]
    obtain ⟨h1, h2, h3⟩ := number_ok hs (by omega : (number bs).2 ≠ 0)
    split at h
    · exact absurd rfl h
    · rename_i l at' hsc
      split at h
      · rename_i he
        rw [if_pos he]
        obtain ⟨r, r1, r2, r3, r5, r6⟩ := sc_ok _ bs _ [] l at' hs h2 hsc
        rw [List.nil_append] at r1
        subst r1
        refine ⟨?_, r6, by omega⟩
        rw [put, r2, ← h3, ← r5, he, List.take_length]
      · exact absurd rfl h
end Go.Proofs.YtmodogmjfbcddaaGreat.Ed
