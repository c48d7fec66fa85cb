/- Edits, as mathematics: how the program reads them. -/
import Derived.Test.YtkbnojjjfonniaaEA
namespace Go.Proofs.Ytkbnojjjfonniaa.Ed

def pnums (bs : List Nat) (n : Nat) : Option (List Nat × Nat) :=
  if (Va.all bs n).2.2 = 0 ∧ ∀ u ∈ (Va.all bs n).1, u ≤ 2147483647 then some ((Va.all bs n).1, (Va.all bs n).2.1) else none
theorem al_mem : ∀ (n : Nat) (bs : List Nat) (a : Nat) (acc : List Nat), (Va.al n bs a acc).2.2 = 0 → ∀ u ∈ acc, u ∈ (Va.al n bs a acc).1
  | 0, _, _, _, _, u, hu => hu
  | n + 1, bs, a, acc, h, u, hu => by
    by_cases hg : (Va.get (bs.drop a)).2 = 0
    · rw [Va.al_none hg] at h; simp at h
    · rw [Va.al_some hg] at h ⊢
      exact al_mem n bs _ _ h u (by simp [hu])
theorem al_len : ∀ (n : Nat) (bs : List Nat) (a : Nat) (acc : List Nat), a ≤ bs.length → (Va.al n bs a acc).2.2 = 0 → (Va.al n bs a acc).1.length = acc.length + n ∧ (Va.al n bs a acc).2.1 ≤ bs.length
  | 0, _, _, _, ha, _ => ⟨rfl, ha⟩
  | n + 1, bs, a, acc, ha, h => by
    by_cases hg : (Va.get (bs.drop a)).2 = 0
    · rw [Va.al_none hg] at h; simp at h
    · rw [Va.al_some hg] at h ⊢
      have hle := Va.get_le (bs := bs.drop a)
      rw [List.length_drop] at hle
      have := al_len n bs _ _ (by omega) h
      simp only [List.length_append, List.length_singleton] at this
      exact ⟨by omega, this.2⟩
theorem al_code : ∀ (n : Nat) (bs : List Nat) (a : Nat) (acc : List Nat), (Va.al n bs a acc).2.2 = 0 ∨ (Va.al n bs a acc).2.2 = 2
  | 0, _, _, _ => .inl rfl
  | n + 1, bs, a, acc => by
    by_cases hg : (Va.get (bs.drop a)).2 = 0
    · rw [Va.al_none hg]; exact .inr rfl
    · rw [Va.al_some hg]; exact al_code n bs _ _
theorem nread_al (j : Nat) : ∀ (n : Nat) (bs : List Nat) (a : Nat) (acc : List Nat), (∀ u ∈ acc, u ≤ 2147483647) →
    nread n bs (j + a) acc = (if (Va.al n (bs.drop j) a acc).2.2 = 0 ∧ ∀ u ∈ (Va.al n (bs.drop j) a acc).1, u ≤ 2147483647 then some ((Va.al n (bs.drop j) a acc).1, j + (Va.al n (bs.drop j) a acc).2.1) else none)
  | 0, bs, a, acc, h => by
    rw [if_pos ⟨rfl, h⟩]; rfl
  | n + 1, bs, a, acc, h => by
    have hd : (bs.drop j).drop a = bs.drop (j + a) := by rw [List.drop_drop]
    by_cases hg : (Va.get (bs.drop (j + a))).2 = 0
    · rw [Va.al_none (by rw [hd]; exact hg), if_neg (by simp), nread, if_pos (by unfold number; rw [if_pos (.inl hg)])]
    · rw [Va.al_some (by rw [hd]; exact hg), hd]
      by_cases hb : 2147483647 < (Va.get (bs.drop (j + a))).1
      · rw [nread, if_pos (by unfold number; rw [if_pos (.inr hb)]), if_neg]
        rintro ⟨h0, h1⟩
        have := h1 _ (al_mem _ _ _ _ h0 (Va.get (bs.drop (j + a))).1 (by simp))
        omega
      · have e : number (bs.drop (j + a)) = Va.get (bs.drop (j + a)) := by unfold number; rw [if_neg (by omega)]
        rw [nread, e, if_neg hg, Nat.add_assoc]
        exact nread_al j n bs _ _ (by
          intro u hu
          rcases List.mem_append.mp hu with hu | hu
          · exact h u hu
          · rw [List.mem_singleton.mp hu]; omega)
theorem nread_pnums (bs : List Nat) (j n : Nat) : nread n bs j [] = (match pnums (bs.drop j) n with | none => none | some (l, m) => some (l, j + m)) := by
  have := nread_al j n bs 0 [] (by simp)
  rw [Nat.add_zero] at this
  rw [this]
  unfold pnums Va.all
  split <;> rfl
theorem pnums_len {bs : List Nat} {n m : Nat} {l : List Nat} (h : pnums bs n = some (l, m)) : l.length = n ∧ m ≤ bs.length ∧ ∀ u ∈ l, u ≤ 2147483647 := by
  unfold pnums at h
  split at h
  · rename_i hc
    simp only [Option.some.injEq, Prod.mk.injEq] at h
    obtain ⟨rfl, rfl⟩ := h
    have := al_len n bs 0 [] (by omega) hc.1
    exact ⟨by simpa [Va.all] using this.1, this.2, hc.2⟩
  · cases h

def pkey (bs : List Nat) : Option (ByteArray × Nat) :=
  if (Va.get bs).2 = 0 ∨ 64 < (Va.get bs).1 ∨ bs.length < (Va.get bs).2 + (Va.get bs).1 then none
  else some (bstr ((bs.drop (Va.get bs).2).take (Va.get bs).1), (Va.get bs).2 + (Va.get bs).1)
theorem bstr_size {bs : List Nat} (hs : ∀ x ∈ bs, x < 256) : (bstr bs).size = bs.length := by rw [← kb_len, kb_bstr hs]
theorem pkey_some {bs : List Nat} {a m : Nat} {s : ByteArray} (h : pkey (bs.drop a) = some (s, m)) (ha : a ≤ bs.length) : rtext bs a = some (s, a + m) ∧ a + m ≤ bs.length := by
  unfold pkey at h
  split at h
  · cases h
  · rename_i hc
    simp only [Option.some.injEq, Prod.mk.injEq] at h
    obtain ⟨rfl, rfl⟩ := h
    rw [List.length_drop] at hc
    have e : number (bs.drop a) = Va.get (bs.drop a) := by unfold number; rw [if_neg (by omega)]
    unfold rtext
    rw [e, if_neg (by omega), List.drop_drop]
    exact ⟨by simp; omega, by omega⟩
theorem pkey_none {bs : List Nat} {a : Nat} (hs : ∀ x ∈ bs, x < 256) (h : pkey (bs.drop a) = none) (ha : a ≤ bs.length) : rtext bs a = none ∨ ∃ s e, rtext bs a = some (s, e) ∧ 64 < s.size := by
  cases hr : rtext bs a with
  | none => exact .inl rfl
  | some x =>
    obtain ⟨s, e⟩ := x
    right
    refine ⟨s, e, rfl, ?_⟩
    unfold rtext at hr
    split at hr
    · cases hr
    · rename_i hc
      simp only [Option.some.injEq, Prod.mk.injEq] at hr
      obtain ⟨rfl, rfl⟩ := hr
      have hn : number (bs.drop a) = Va.get (bs.drop a) := by
        have h0 : (number (bs.drop a)).2 ≠ 0 := by omega
        unfold number at h0 ⊢
        split at h0
        · simp at h0
        · rename_i hq; rw [if_neg hq]
      rw [hn] at hc ⊢
      unfold pkey at h
      split at h
      · rename_i hq
        rw [List.length_drop] at hq
        have hb : 64 < (Va.get (bs.drop a)).1 := by omega
        rw [bstr_size (fun x hx => hs x (List.mem_of_mem_drop (List.mem_of_mem_take hx))), List.length_take, List.length_drop]
        omega
      · cases h
def ptab (bs : List Nat) : Option (Lv.T × Nat) :=
  match pnums bs 3 with
  | none => none
  | some (l, a) => match pkey (bs.drop a) with
    | none => none
    | some (f, m) => match pkey (bs.drop (a + m)) with
      | none => none
      | some (g, m2) => some (⟨l.getD 0 0, l.getD 1 0, l.getD 2 0, f, g⟩, a + m + m2)
/-- the j-th number of the row, out of those from F on -/
def rj (F : Nat) (l : List Nat) (j : Nat) : Nat := if F ≤ j then l.getD (j - F) 0 else 0
def prow (k : Int) (l : List Nat) : E := ⟨k, rj (pfr k) l 0, rj (pfr k) l 1, rj (pfr k) l 2, rj (pfr k) l 3, rj (pfr k) l 4, rj (pfr k) l 5, Lv.zero⟩
def pfirst (bs : List Nat) : Option (E × Nat) :=
  if bs = [] then none
  else if bs.getD 0 0 = 4 then
    match ptab (bs.drop 1) with
    | none => none
    | some (t, m) => some ({ zero with kind := 4, tab := t }, 1 + m)
  else match pnums (bs.drop 1) (pto (bs.getD 0 0 : Nat) - pfr (bs.getD 0 0 : Nat)) with
    | none => none
    | some (l, m) => some (prow (bs.getD 0 0 : Nat) l, 1 + m)
/-- what may be of what is read -/
def good (o : Option (E × Nat)) : Option (E × Nat) := match o with | none => none | some (e, k) => if may e = true then some (e, k) else none
theorem pto_cnt {k : Int} (h : k ≠ 4) : pto k - pfr k = cnt k := by
  rcases kinds k with h1 | h1 | h1 | h1 | h1 | h1 | h1 | h1 | h1 | h1
  case inr.inr.inr.inl => exact absurd h1 h
  case inr.inr.inr.inr.inr.inr.inr.inr.inr =>
    rw [cnt_none h1]
    have e2 : pto k = 0 := by unfold pto; rw [if_neg (by omega), if_neg (by omega), if_neg (by omega), if_neg (by omega)]
    rw [e2]; omega
  all_goals (subst h1; rfl)
theorem prow_fill {k : Int} {l : List Nat} (h : k ≠ 4) (hp : parts k ≠ []) (hl : l.length = cnt k) : prow k l = fill k l := by
  obtain ⟨c1, c2, c3, c4, c5, c6, c7, c8, c9⟩ := cnt_of
  rcases kinds k with rfl | rfl | rfl | rfl | rfl | rfl | rfl | rfl | rfl | h1
  · rw [c1] at hl; obtain ⟨a, rfl⟩ := len1 hl; rfl
  · rw [c2] at hl; obtain ⟨a, b, rfl⟩ := len2 hl; rfl
  · rw [c3] at hl; obtain ⟨a, rfl⟩ := len1 hl; rfl
  · exact absurd rfl h
  · rw [c5] at hl; obtain ⟨a, rfl⟩ := len1 hl; rfl
  · rw [c6] at hl; obtain ⟨a, b, c, rfl⟩ := len3 hl; rfl
  · rw [c7] at hl; obtain ⟨a, rfl⟩ := len1 hl; rfl
  · rw [c8] at hl; obtain ⟨a, b, c, d, e, f, rfl⟩ := len6 hl; rfl
  · rw [c9] at hl; obtain ⟨a, rfl⟩ := len1 hl; rfl
  · exact absurd (parts_none h1) hp
theorem may_key {e : E} (h : e.kind = 4) (hl : 64 < e.tab.first.size ∨ 64 < e.tab.last.size) : may e = false := by
  cases hm : may e with
  | false => rfl
  | true =>
    obtain ⟨_, _, _, _, _, m6⟩ := may_nums hm
    obtain ⟨_, k2, k3⟩ := m6 h
    omega
theorem good_no {e : E} {k : Nat} (h : may e = false) : good (some (e, k)) = none := by simp [good, h]
theorem pfirst_first {bs : List Nat} (hs : ∀ x ∈ bs, x < 256) : good (pfirst bs) = good (first bs) := by
  unfold pfirst first
  by_cases hne : bs = []
  · rw [if_pos hne, if_pos (.inl hne)]
  · rw [if_neg hne]
    have hl : 1 ≤ bs.length := List.length_pos_iff.mpr hne
    have hds : ∀ x ∈ bs.drop 1, x < 256 := fun x hx => hs x (List.mem_of_mem_drop hx)
    generalize bs.getD 0 0 = K at *
    by_cases h4 : K = 4
    · subst h4
      rw [if_pos rfl, if_neg (by rintro (h | h); (· exact hne h); (· exact absurd h (by decide))), nread_pnums, show cnt ((4 : Nat) : Int) = 3 from rfl]
      simp only [if_true]
      unfold ptab
      cases hn : pnums (bs.drop 1) 3 with
      | none => rfl
      | some x =>
        obtain ⟨l, a⟩ := x
        obtain ⟨n1, n2, n3⟩ := pnums_len hn
        obtain ⟨l0, l1, l2, rfl⟩ := len3 n1
        simp only [List.drop_drop]
        rw [List.length_drop] at n2
        unfold first2
        cases hk : pkey (bs.drop (1 + a)) with
        | none =>
          rcases pkey_none hs hk (by omega) with h | ⟨s, e, h, h6⟩
          · rw [h]
          · rw [h]
            simp only
            cases rtext bs e with
            | none => rfl
            | some y => exact (good_no (may_key rfl (.inl h6))).symm
        | some y =>
          obtain ⟨f, m⟩ := y
          obtain ⟨p1, p2⟩ := pkey_some hk (by omega)
          rw [p1]
          simp only
          rw [show 1 + (a + m) = 1 + a + m by omega]
          cases hk2 : pkey (bs.drop (1 + a + m)) with
          | none =>
            rcases pkey_none hs hk2 p2 with h | ⟨s, e, h, h6⟩
            · rw [h]
            · rw [h]; exact (good_no (may_key rfl (.inr h6))).symm
          | some z =>
            obtain ⟨g, m2⟩ := z
            obtain ⟨q1, q2⟩ := pkey_some hk2 p2
            rw [q1]
            simp only
            congr 1
            simp [fill, keyed, zero]; omega
    · have h4' : ((K : Nat) : Int) ≠ 4 := by omega
      rw [if_neg h4, pto_cnt h4']
      by_cases hp : parts (K : Nat) = []
      · rw [if_pos (.inr hp)]
        have hK : ((K : Nat) : Int) < 1 ∨ 9 < ((K : Nat) : Int) := by
          rcases kinds (K : Nat) with h | h | h | h | h | h | h | h | h | h
          case inr.inr.inr.inr.inr.inr.inr.inr.inr => exact h
          all_goals (rw [h] at hp; exact absurd hp (by decide))
        cases pnums (bs.drop 1) (cnt (K : Nat)) with
        | none => rfl
        | some x => exact good_no (may_none hK)
      · rw [if_neg (by rintro (h | h); (· exact hne h); (· exact hp h)), nread_pnums]
        cases hn : pnums (bs.drop 1) (cnt (K : Nat)) with
        | none => rfl
        | some x =>
          obtain ⟨l, m⟩ := x
          simp only
          rw [if_neg h4, prow_fill h4' hp (pnums_len hn).1]
theorem sc_good (n : Nat) (bs : List Nat) (a : Nat) (l : List E) (hs : ∀ x ∈ bs, x < 256) : sc (n + 1) bs a l = (match good (pfirst (bs.drop a)) with | none => none | some (e, k) => sc n bs (a + k) (l ++ [e])) := by
  rw [pfirst_first (fun x hx => hs x (List.mem_of_mem_drop hx)), sc]
  cases first (bs.drop a) with
  | none => rfl
  | some x =>
    obtain ⟨e, k⟩ := x
    by_cases h : may e = true
    · simp [good, h]
    · simp [good, h]
end Go.Proofs.Ytkbnojjjfonniaa.Ed
