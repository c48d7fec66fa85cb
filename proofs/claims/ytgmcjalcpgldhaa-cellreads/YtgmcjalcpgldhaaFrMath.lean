/- The plain mathematics of frames: their bytes, what is read, what is scanned, cuts and joins. Names no dump. -/
import Derived.Test.YtgmcjalcpgldhaaMath
import Derived.Test.YtgmcjalcpgldhaaCrcMath
namespace Go.Proofs.Ytgmcjalcpgldhaa.Fr

abbrev F := Int × List Nat
def may (f : F) : Bool := decide (1 ≤ f.1 ∧ f.1 ≤ 250 ∧ f.2.length ≤ 1048576)
theorem may_iff (f : F) : may f = true ↔ 1 ≤ f.1 ∧ f.1 ≤ 250 ∧ f.2.length ≤ 1048576 := by simp [may]
def le4 (s : Nat) : List Nat := [s % 256, s / 256 % 256, s / 65536 % 256, s / 16777216 % 256]
/-- a frame's bytes -/
def put1 (k : Nat) (b : List Nat) : List Nat := Va.one b.length ++ (k :: (b ++ le4 (Crc.more 0 (k :: b))))
def one (f : F) : List Nat := put1 f.1.toNat f.2
def all (l : List F) : List Nat := l.flatMap one
def size (n : Nat) : Nat := (Va.one n).length + 1 + n + 4

theorem le4_len (s : Nat) : (le4 s).length = 4 := rfl
theorem le4_small (s : Nat) : ∀ x ∈ le4 s, x < 256 := by
  intro x hx; simp [le4] at hx; omega
theorem put1_len (k : Nat) (b : List Nat) : (put1 k b).length = size b.length := by
  simp [put1, size, le4_len]; omega
theorem one_len (f : F) : (one f).length = size f.2.length := put1_len _ _
theorem put1_small {k : Nat} {b : List Nat} (hk : k < 256) (hb : ∀ x ∈ b, x < 256) : ∀ x ∈ put1 k b, x < 256 := by
  intro x hx
  simp only [put1, List.mem_append, List.mem_cons] at hx
  rcases hx with h | h | h | h
  · exact Va.one_small _ x h
  · omega
  · exact hb x h
  · exact le4_small _ x h
theorem one3 {n : Nat} (h : n ≤ 1048576) : (Va.one n).length ≤ 3 := Va.one_len 3 n (by omega) (by omega)
theorem size_ge (n : Nat) : 6 ≤ size n := by have := Va.one_pos n; unfold size; omega
theorem size_le {n : Nat} (h : n ≤ 1048576) : size n ≤ n + 8 := by have := one3 h; unfold size; omega

/-- b ends within the number -/
def gapHead (bs : List Nat) : Bool := decide (bs.length < 3) && bs.all (fun x => decide (128 ≤ x))
/-- the frame that bytes begin with, how many bytes it has, the code -/
def first (bs : List Nat) : F × Nat × Nat :=
  if gapHead bs = true then ((0, []), 0, 5)
  else if (Va.get bs).2 = 0 ∨ 1048576 < (Va.get bs).1 then ((0, []), 0, 2)
  else if (Va.get bs).2 = bs.length then ((0, []), 0, 5)
  else if bs.getD (Va.get bs).2 0 < 1 ∨ 250 < bs.getD (Va.get bs).2 0 then ((0, []), 0, 2)
  else if bs.length < (Va.get bs).2 + 1 + (Va.get bs).1 + 4 then ((0, []), 0, 5)
  else if put1 (bs.getD (Va.get bs).2 0) ((bs.drop ((Va.get bs).2 + 1)).take (Va.get bs).1) = bs.take ((Va.get bs).2 + 1 + (Va.get bs).1 + 4)
    then (((bs.getD (Va.get bs).2 0 : Nat), (bs.drop ((Va.get bs).2 + 1)).take (Va.get bs).1), (Va.get bs).2 + 1 + (Va.get bs).1 + 4, 0)
    else ((0, []), 0, 2)

theorem first_put {k : Nat} {b : List Nat} (hk1 : 1 ≤ k) (hk2 : k ≤ 250) (hb : b.length ≤ 1048576) (hbs : ∀ x ∈ b, x < 256) (r : List Nat) (hr : ∀ x ∈ r, x < 256) :
    first (put1 k b ++ r) = (((k : Int), b), size b.length, 0) := by
  have ho := Va.one_pos b.length
  have hlen : (put1 k b ++ r).length = size b.length + r.length := by rw [List.length_append, put1_len]
  have hs6 := size_ge b.length
  have hg : Va.get (put1 k b ++ r) = (b.length, (Va.one b.length).length) := by
    have : put1 k b ++ r = Va.one b.length ++ (k :: (b ++ le4 (Crc.more 0 (k :: b))) ++ r) := by simp [put1]
    rw [this]
    refine Va.get_one (by omega) _ ?_
    intro x hx
    rcases List.mem_append.mp hx with h | h
    · rcases List.mem_cons.mp h with rfl | h
      · omega
      · rcases List.mem_append.mp h with h | h
        · exact hbs x h
        · exact le4_small _ x h
    · exact hr x h
  have hgap : gapHead (put1 k b ++ r) = false := by
    unfold gapHead
    rw [hlen]
    have : decide (size b.length + r.length < 3) = false := by simp; omega
    rw [this]; rfl
  have hat : (put1 k b ++ r).getD (Va.one b.length).length 0 = k := by
    rw [put1, List.append_assoc, List.getD_eq_getElem?_getD, List.getElem?_append_right (Nat.le_refl _)]; simp
  have hdrop : ((put1 k b ++ r).drop ((Va.one b.length).length + 1)).take b.length = b := by
    have : put1 k b ++ r = (Va.one b.length ++ [k]) ++ (b ++ (le4 (Crc.more 0 (k :: b)) ++ r)) := by simp [put1]
    rw [this, show (Va.one b.length).length + 1 = (Va.one b.length ++ [k]).length by simp, List.drop_left, List.take_left]
  have htake : (put1 k b ++ r).take (size b.length) = put1 k b := by rw [← put1_len k b, List.take_left]
  have hsz : (Va.one b.length).length + 1 + b.length + 4 = size b.length := rfl
  unfold first
  rw [hg]
  simp only []
  rw [hgap, if_neg (by simp), if_neg (by omega), if_neg (by rw [hlen]; unfold size; omega), hat, if_neg (by omega), hsz, if_neg (by rw [hlen]; omega), hdrop, htake, if_pos rfl]

theorem first_cut {k : Nat} {b : List Nat} (hk1 : 1 ≤ k) (hk2 : k ≤ 250) (hb : b.length ≤ 1048576) (hbs : ∀ x ∈ b, x < 256) (j : Nat) (hj : j < size b.length) :
    first ((put1 k b).take j) = ((0, []), 0, 5) := by
  have ho := Va.one_pos b.length
  have ho3 := one3 hb
  have hlen : ((put1 k b).take j).length = j := by rw [List.length_take, put1_len]; omega
  by_cases hgap : gapHead ((put1 k b).take j) = true
  · unfold first; rw [if_pos hgap]
  · by_cases hjo : j < (Va.one b.length).length
    · exfalso
      apply hgap
      obtain ⟨a, x, e⟩ : ∃ a x, Va.one b.length = a ++ [x] :=
        ⟨(Va.one b.length).dropLast, (Va.one b.length).getLast (by intro h; rw [h] at ho; simp at ho), (List.dropLast_concat_getLast _).symm⟩
      obtain ⟨_, _, ha⟩ := Va.one_last _ a x e
      have hal : (Va.one b.length).length = a.length + 1 := by rw [e]; simp
      unfold gapHead
      rw [hlen]
      have e2 : (put1 k b).take j = a.take j := by
        rw [put1, e, List.append_assoc, List.take_append_of_le_length (by omega)]
      rw [e2]
      have h1 : decide (j < 3) = true := by simp; omega
      rw [h1, Bool.true_and, List.all_eq_true]
      intro y hy
      simp
      exact ha y (List.mem_of_mem_take hy)
    · have hg : Va.get ((put1 k b).take j) = (b.length, (Va.one b.length).length) := by
        have : (put1 k b).take j = Va.one b.length ++ (k :: (b ++ le4 (Crc.more 0 (k :: b)))).take (j - (Va.one b.length).length) := by
          rw [put1, List.take_append, List.take_of_length_le (by omega)]
        rw [this]
        refine Va.get_one (by omega) _ ?_
        intro x hx
        have hx := List.mem_of_mem_take hx
        rcases List.mem_cons.mp hx with rfl | h
        · omega
        · rcases List.mem_append.mp h with h | h
          · exact hbs x h
          · exact le4_small _ x h
      unfold first
      rw [if_neg hgap, hg]
      simp only []
      rw [if_neg (by omega), hlen]
      by_cases hje : (Va.one b.length).length = j
      · rw [if_pos hje]
      · rw [if_neg hje]
        have hat : ((put1 k b).take j).getD (Va.one b.length).length 0 = k := by
          rw [List.getD_eq_getElem?_getD, List.getElem?_take, if_pos (by omega), put1, List.getElem?_append_right (Nat.le_refl _)]; simp
        rw [hat, if_neg (by omega), if_pos (by unfold size at hj; omega)]

theorem first_le (bs : List Nat) : (first bs).2.1 ≤ bs.length := by
  unfold first
  split
  · simp
  · split
    · simp
    · split
      · simp
      · split
        · simp
        · split
          · simp
          · split
            · simp only []; omega
            · simp
theorem first_ok {bs : List Nat} (h : (first bs).2.2 = 0) : 5 ≤ (first bs).2.1 ∧ (first bs).1.2.length + 5 ≤ (first bs).2.1 ∧ (first bs).1.2 = (bs.drop ((first bs).2.1 - 4 - (first bs).1.2.length)).take (first bs).1.2.length ∧ 1 ≤ (first bs).1.1 ∧ (first bs).1.1 ≤ 250 := by
  revert h
  unfold first
  split
  · intro h; simp at h
  · split
    · intro h; simp at h
    · split
      · intro h; simp at h
      · split
        · intro h; simp at h
        · split
          · intro h; simp at h
          · split
            · intro _
              rename_i h1 h2 h3 h4 h5 h6
              have hl : ((bs.drop ((Va.get bs).2 + 1)).take (Va.get bs).1).length = (Va.get bs).1 := by rw [List.length_take, List.length_drop]; omega
              refine ⟨by simp only []; omega, by simp only []; rw [hl]; omega, ?_, by simp only []; omega, by simp only []; omega⟩
              simp only []
              rw [hl]
              congr 2; omega
            · intro h; simp at h
theorem first_nil : first [] = ((0, []), 0, 5) := by
  unfold first; rw [if_pos (by rfl)]

/-! what is scanned -/
/-- from the place at' on, l and ps being told already -/
def sc : Nat → List Nat → Nat → List F → List Nat → List F × List Nat × Nat
  | 0, _, at', l, ps => (l, ps, at')
  | n + 1, bs, at', l, ps => if (first (bs.drop at')).2.2 = 0 then sc n bs (at' + (first (bs.drop at')).2.1) (l ++ [(first (bs.drop at')).1]) (ps ++ [at' + (first (bs.drop at')).2.1 - 4 - (first (bs.drop at')).1.2.length]) else (l, ps, at')
def scan (bs : List Nat) : List F × List Nat × Nat := sc (bs.length + 1) bs 0 [] []
theorem sc_ok {n : Nat} {bs : List Nat} {at' : Nat} {l : List F} {ps : List Nat} (h : (first (bs.drop at')).2.2 = 0) :
    sc (n + 1) bs at' l ps = sc n bs (at' + (first (bs.drop at')).2.1) (l ++ [(first (bs.drop at')).1]) (ps ++ [at' + (first (bs.drop at')).2.1 - 4 - (first (bs.drop at')).1.2.length]) := by rw [sc, if_pos h]
theorem sc_no {n : Nat} {bs : List Nat} {at' : Nat} {l : List F} {ps : List Nat} (h : ¬ (first (bs.drop at')).2.2 = 0) : sc (n + 1) bs at' l ps = (l, ps, at') := by rw [sc, if_neg h]

/-- of what is put, cut at k: how many frames end within, and where the last of them ends -/
def cuts : List F → Nat → Nat × Nat
  | [], _ => (0, 0)
  | f :: l, k => if size f.2.length ≤ k then ((cuts l (k - size f.2.length)).1 + 1, (cuts l (k - size f.2.length)).2 + size f.2.length) else (0, 0)
/-- the places of their bodies -/
def places : List F → Nat → List Nat
  | [], _ => []
  | f :: l, at' => (at' + (Va.one f.2.length).length + 1) :: places l (at' + size f.2.length)

def Good (l : List F) : Prop := ∀ f ∈ l, may f = true ∧ ∀ x ∈ f.2, x < 256
theorem one_small {f : F} (h : may f = true) (hs : ∀ x ∈ f.2, x < 256) : ∀ x ∈ one f, x < 256 := by
  obtain ⟨h1, h2, _⟩ := (may_iff f).mp h
  exact put1_small (by omega) hs
theorem all_small {l : List F} (h : Good l) : ∀ x ∈ all l, x < 256 := by
  intro x hx
  simp only [all, List.mem_flatMap] at hx
  obtain ⟨f, hf, hx⟩ := hx
  exact one_small (h f hf).1 (h f hf).2 x hx
theorem all_cons (f : F) (l : List F) : all (f :: l) = one f ++ all l := rfl
theorem all_append (a b : List F) : all (a ++ b) = all a ++ all b := by simp [all]
theorem all_len_cons (f : F) (l : List F) : (all (f :: l)).length = size f.2.length + (all l).length := by rw [all_cons, List.length_append, one_len]

theorem sc_cut : ∀ (l2 : List F) (k n : Nat) (A : List Nat) (l : List F) (ps : List Nat), Good l2 → k ≤ (all l2).length → k < n →
    sc n (A ++ (all l2).take k) A.length l ps = (l ++ l2.take (cuts l2 k).1, ps ++ (places l2 A.length).take (cuts l2 k).1, A.length + (cuts l2 k).2) ∧
    (first ((all l2).take k |>.drop (cuts l2 k).2)).2.2 = 5 := by
  intro l2
  induction l2 with
  | nil =>
    intro k n A l ps _ hk hn
    obtain ⟨m, rfl⟩ : ∃ m, n = m + 1 := ⟨n - 1, by omega⟩
    have hd : (A ++ (all []).take k).drop A.length = [] := by rw [List.drop_left]; simp [all]
    refine ⟨?_, ?_⟩
    · rw [sc_no (by rw [hd, first_nil]; simp)]; simp [cuts, places]
    · simp [cuts, all, first_nil]
  | cons f l2 ih =>
    intro k n A l ps hg hk hn
    obtain ⟨m, rfl⟩ : ∃ m, n = m + 1 := ⟨n - 1, by omega⟩
    obtain ⟨hm, hs⟩ := hg f (by simp)
    obtain ⟨h1, h2, h3⟩ := (may_iff f).mp hm
    have hg2 : Good l2 := fun x hx => hg x (by simp [hx])
    have hs6 := size_ge f.2.length
    have hd : (A ++ (all (f :: l2)).take k).drop A.length = (all (f :: l2)).take k := List.drop_left
    have hkf : ((f.1.toNat : Nat) : Int) = f.1 := by omega
    by_cases hc : size f.2.length ≤ k
    · have ht : (all (f :: l2)).take k = one f ++ (all l2).take (k - size f.2.length) := by
        rw [all_cons, List.take_append, one_len, List.take_of_length_le (by rw [one_len]; exact hc)]
      have hf : first ((all (f :: l2)).take k) = (f, size f.2.length, 0) := by
        rw [ht, one, first_put (by omega) (by omega) h3 hs _ (fun x hx => all_small hg2 x (List.mem_of_mem_take hx)), hkf]
      have hcu : cuts (f :: l2) k = ((cuts l2 (k - size f.2.length)).1 + 1, (cuts l2 (k - size f.2.length)).2 + size f.2.length) := by rw [cuts, if_pos hc]
      have hk2 : k - size f.2.length ≤ (all l2).length := by rw [all_len_cons] at hk; omega
      obtain ⟨i1, i2⟩ := ih (k - size f.2.length) m (A ++ one f) (l ++ [f]) (ps ++ [A.length + (Va.one f.2.length).length + 1]) hg2 hk2 (by omega)
      refine ⟨?_, ?_⟩
      · rw [sc_ok (by rw [hd, hf]), hd, hf]
        simp only []
        have e1 : A.length + size f.2.length - 4 - f.2.length = A.length + (Va.one f.2.length).length + 1 := by unfold size; omega
        rw [e1, ht, ← List.append_assoc]
        rw [List.length_append, one_len] at i1
        rw [i1, hcu, places]
        simp only [List.take_succ_cons, List.append_assoc, List.singleton_append]
        congr 2; omega
      · rw [hcu, ht]
        simp only []
        rw [Nat.add_comm, ← List.drop_drop, ← one_len f, List.drop_left, one_len]
        exact i2
    · have hcu : cuts (f :: l2) k = (0, 0) := by rw [cuts, if_neg hc]
      have ht : (all (f :: l2)).take k = (one f).take k := by
        rw [all_cons, List.take_append_of_le_length (by rw [one_len]; omega)]
      have hf : first ((all (f :: l2)).take k) = ((0, []), 0, 5) := by
        rw [ht, one, first_cut (by omega) (by omega) h3 hs k (by omega)]
      refine ⟨?_, ?_⟩
      · rw [sc_no (by rw [hd, hf]; simp), hcu]; simp
      · rw [hcu]; simp only [List.drop_zero]; rw [hf]

theorem scan_cut {l : List F} (hg : Good l) (k : Nat) (hk : k ≤ (all l).length) :
    scan ((all l).take k) = (l.take (cuts l k).1, (places l 0).take (cuts l k).1, (cuts l k).2) ∧ (first (((all l).take k).drop (cuts l k).2)).2.2 = 5 := by
  have := sc_cut l k (((all l).take k).length + 1) [] [] [] hg hk (by rw [List.length_take]; omega)
  simpa [scan] using this
theorem cuts_whole : ∀ (l : List F), cuts l (all l).length = (l.length, (all l).length) := by
  intro l
  induction l with
  | nil => rfl
  | cons f l ih =>
    rw [cuts, if_pos (by rw [all_len_cons]; omega), all_len_cons, show size f.2.length + (all l).length - size f.2.length = (all l).length by omega, ih]
    simp; omega
theorem places_len : ∀ (l : List F) (at' : Nat), (places l at').length = l.length := by
  intro l
  induction l with
  | nil => intro _; rfl
  | cons f l ih => intro at'; simp [places, ih]
theorem scan_all {l : List F} (hg : Good l) : scan (all l) = (l, places l 0, (all l).length) := by
  have h := (scan_cut hg (all l).length (Nat.le_refl _)).1
  rw [List.take_length, cuts_whole] at h
  simp only [List.take_length] at h
  rw [h, List.take_of_length_le (by rw [places_len]; omega)]
end Go.Proofs.Ytgmcjalcpgldhaa.Fr
