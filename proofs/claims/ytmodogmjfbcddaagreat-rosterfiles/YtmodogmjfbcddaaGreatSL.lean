/- The edits that make a roster, step by step: the mathematics; the reference's Do of each; its Apply of them all. -/
import Derived.Test.YtmodogmjfbcddaaGreatSKb
namespace Go.Proofs.YtmodogmjfbcddaaGreat
namespace Ro

inductive Step : R → Ed.E → R → Prop
  | seg (x : R) (n : Int) : x.moves = [] → (∀ y ∈ x.segs, y < n) → Step x (eSeg n) { x with segs := x.segs ++ [n] }
  | move (x : R) (m : Int × Int) (p : Nat) : 0 < m.2 → p < 64 → p < x.segs.length → x.segs.getD p 0 = m.1 → (∀ q, q < p → ¬ x.segs.getD q 0 = m.1) → (∀ q ∈ x.moves, q.1 < m.1) → Step x (eMove m) { x with segs := x.segs.take p ++ x.segs.drop (p + 1), moves := x.moves ++ [m] }
  | tab (x : R) (t : Lv.T) : Step x (eTab t) { x with tabs := x.tabs ++ [t] }
  | mark (x : R) (m : Int) : x.mark ≤ m → Step x (eMark m) { x with mark := m }
  | still (x : R) (k : Int × Int × Int) : (∀ q ∈ x.stills, q.2.1 < k.2.1) → Step x (eStill k) { x with stills := x.stills ++ [k] }
  | base (x r : R) : x.log ≤ r.log → x.index ≤ r.index → Step x (eBase r) { x with log := r.log, index := r.index, term := r.term, ht := r.ht, hv := r.hv, hc := r.hc }
inductive Path : R → List Ed.E → R → Prop
  | nil (x : R) : Path x [] x
  | cons {x y z : R} {e : Ed.E} {l : List Ed.E} : Step x e y → Path y l z → Path x (e :: l) z
theorem Path.append {x y z : R} {a b : List Ed.E} (h : Path x a y) (h2 : Path y b z) : Path x (a ++ b) z := by
  induction h with
  | nil => exact h2
  | cons hs _ ih => exact .cons hs (ih h2)
theorem path_segs : ∀ (S : List Int) (x : R), x.moves = [] → S.Pairwise (· < ·) → (∀ y ∈ x.segs, ∀ z ∈ S, y < z) → Path x (S.map eSeg) { x with segs := x.segs ++ S }
  | [], x, _, _, _ => by simpa using Path.nil x
  | g :: S, x, hm, hp, ha => by
    cases hp with
    | cons h1 h2 =>
      have h := path_segs S { x with segs := x.segs ++ [g] } hm h2 (fun y hy z hz => by
        rcases List.mem_append.mp hy with hy | hy
        · exact ha y hy z (by simp [hz])
        · obtain rfl : y = g := by simpa using hy
          exact h1 z hz)
      refine .cons (.seg x g hm (fun y hy => ha y hy g (by simp))) ?_
      simpa [List.append_assoc] using h
theorem path_tabs : ∀ (T : List Lv.T) (x : R), Path x (T.map eTab) { x with tabs := x.tabs ++ T }
  | [], x => by simpa using Path.nil x
  | t :: T, x => by
    have h := path_tabs T { x with tabs := x.tabs ++ [t] }
    exact .cons (.tab x t) (by simpa [List.append_assoc] using h)
theorem path_stills : ∀ (K : List (Int × Int × Int)) (x : R), (K.map (·.2.1)).Pairwise (· < ·) → (∀ p ∈ x.stills, ∀ k ∈ K, p.2.1 < k.2.1) → Path x (K.map eStill) { x with stills := x.stills ++ K }
  | [], x, _, _ => by simpa using Path.nil x
  | k :: K, x, hp, ha => by
    rw [List.map_cons] at hp
    cases hp with
    | cons h1 h2 =>
      have h := path_stills K { x with stills := x.stills ++ [k] } h2 (fun y hy z hz => by
        rcases List.mem_append.mp hy with hy | hy
        · exact ha y hy z (by simp [hz])
        · obtain rfl : y = k := by simpa using hy
          exact h1 z.2.1 (List.mem_map_of_mem (f := (·.2.1)) hz))
      refine .cons (.still x k (fun y hy => ha y hy k (by simp))) ?_
      simpa [List.append_assoc] using h
theorem erase_at {s : List Int} {v : Int} (h : v ∈ s) : ∃ p, p < s.length ∧ s.getD p 0 = v ∧ (∀ q, q < p → ¬ s.getD q 0 = v) ∧ s.take p ++ s.drop (p + 1) = s.erase v ∧ (∀ y ∈ s.take p, y ≠ v) := by
  induction s with
  | nil => cases h
  | cons a s ih =>
    by_cases e : a = v
    · subst e
      exact ⟨0, by simp, by simp, fun q hq => by omega, by simp, by simp⟩
    · have hv : v ∈ s := by
        rcases List.mem_cons.mp h with h | h
        · exact absurd h.symm e
        · exact h
      obtain ⟨p, h1, h2, h3, h4, h5⟩ := ih hv
      refine ⟨p + 1, by simp; omega, by simpa using h2, fun q hq => ?_, ?_, ?_⟩
      · cases q with
        | zero => simpa using e
        | succ q => simpa using h3 q (by omega)
      · rw [List.take_succ_cons, List.drop_succ_cons, List.cons_append, h4, List.erase_cons_tail (by simpa using e)]
      · intro y hy
        rw [List.take_succ_cons] at hy
        rcases List.mem_cons.mp hy with hy | hy
        · rw [hy]; exact e
        · exact h5 y hy
theorem nodup_le : ∀ {a b : List Int}, a.Nodup → (∀ x ∈ a, x ∈ b) → a.length ≤ b.length
  | [], _, _, _ => Nat.zero_le _
  | x :: a, b, hn, h => by
    rw [List.nodup_cons] at hn
    have hx := h x (by simp)
    have := nodup_le (b := b.erase x) hn.2 (fun y hy => by
      have hne : y ≠ x := fun e => by rw [e] at hy; exact hn.1 hy
      exact (List.mem_erase_of_ne hne).mpr (h y (by simp [hy])))
    rw [List.length_erase_of_mem hx] at this
    have : 0 < b.length := List.length_pos_of_mem hx
    simp only [List.length_cons]
    omega
theorem path_moves (F : List Int) (hF : F.length ≤ 64) (z : Int) (hz : z ∈ F) : ∀ (M : List (Int × Int)) (x : R), (∀ m ∈ M, 0 < m.2) → (M.map (·.1)).Pairwise (· < ·) → (∀ p ∈ x.moves, ∀ m ∈ M, p.1 < m.1) → (∀ m ∈ M, m.1 ∈ x.segs) → x.segs.Pairwise (· < ·) → (∀ m ∈ M, m.1 < z) → (∀ y ∈ x.segs, y ∈ F ∨ y ∈ M.map (·.1)) →
    Path x (M.map eMove) { x with segs := x.segs.filter (fun g => !(M.map (·.1)).contains g), moves := x.moves ++ M }
  | [], x, _, _, _, _, _, _, _ => by
    have : x.segs.filter (fun _ => true) = x.segs := List.filter_eq_self.mpr (fun _ _ => rfl)
    simpa [this] using Path.nil x
  | m :: M, x, h0, hp, ha, hi, hs, hzz, hFF => by
    rw [List.map_cons] at hp
    cases hp with
    | cons h1 h2 =>
      have hnd : x.segs.Nodup := hs.imp (fun h e => by omega)
      obtain ⟨p, p1, p2, p3, p4, p5⟩ := erase_at (hi m (by simp))
      have hp64 : p < 64 := by
        have hsub : ∀ y ∈ x.segs.take p, y ∈ F.erase z := by
          intro y hy
          have hyx := List.mem_of_mem_take hy
          obtain ⟨i, hi1, hi2⟩ := List.getElem_of_mem hy
          rw [List.length_take] at hi1
          have hlt : y < m.1 := by
            have := (List.pairwise_iff_getElem.mp hs) i p (by omega) p1 (by omega)
            rw [List.getElem_take] at hi2
            rw [hi2] at this
            have e : x.segs.getD p 0 = x.segs[p] := by simp [p1]
            rw [← e, p2] at this
            exact this
          rcases hFF y hyx with hf | hf
          · have : y ≠ z := fun e => by have := hzz m (by simp); omega
            exact (List.mem_erase_of_ne this).mpr hf
          · rw [List.map_cons] at hf
            rcases List.mem_cons.mp hf with hf | hf
            · omega
            · have := h1 y hf
              omega
        have hn2 : (x.segs.take p).Nodup := hnd.sublist (List.take_sublist _ _)
        have hl := nodup_le hn2 hsub
        rw [List.length_take, List.length_erase_of_mem hz] at hl
        have : 0 < F.length := List.length_pos_of_mem hz
        omega
      have h := path_moves F hF z hz M { x with segs := x.segs.erase m.1, moves := x.moves ++ [m] } (fun q hq => h0 q (by simp [hq])) h2 (fun q hq r hr => by
          rcases List.mem_append.mp hq with hq | hq
          · exact ha q hq r (by simp [hr])
          · obtain rfl : q = m := by simpa using hq
            exact h1 r.1 (List.mem_map_of_mem (f := (·.1)) hr)) (fun q hq => by
          have := h1 q.1 (List.mem_map_of_mem (f := (·.1)) hq)
          exact (List.mem_erase_of_ne (by omega)).mpr (hi q (by simp [hq]))) (hs.sublist List.erase_sublist) (fun q hq => hzz q (by simp [hq])) (fun y hy => by
          have hy' := List.mem_of_mem_erase hy
          have hne : y ≠ m.1 := by
            intro e
            rw [e] at hy
            exact hnd.not_mem_erase hy
          rcases hFF y hy' with hf | hf
          · exact .inl hf
          · rw [List.map_cons] at hf
            rcases List.mem_cons.mp hf with hf | hf
            · exact absurd hf hne
            · exact .inr hf)
      refine .cons (.move x m p (h0 m (by simp)) hp64 p1 p2 p3 (fun q hq => ha q hq m (by simp))) ?_
      rw [p4]
      have he : x.segs.erase m.1 = x.segs.filter (fun g => !decide (g = m.1)) := by
        rw [hnd.erase_eq_filter]
        apply List.filter_congr
        intro y _
        by_cases h : y = m.1 <;> simp [h]
      have e2 : (x.segs.erase m.1).filter (fun g => !(M.map (·.1)).contains g) = x.segs.filter (fun g => !((m :: M).map (·.1)).contains g) := by
        rw [he, List.filter_filter]
        apply List.filter_congr
        intro y _
        by_cases h : y = m.1 <;> simp [h]
      simp only [e2, List.append_assoc, List.singleton_append] at h
      exact h
/-- the edits that make a roster, from the first one on -/
theorem makes_path {r : R} (h : May r) : Path first (makes r) r := by
  obtain ⟨g1, g2, g3, g4, g5, g6, g7⟩ := rest_parts h.rest
  have hd := h.disj
  have P1 := path_segs (allSegs r) first rfl hd.1 (by simp [first])
  have hperm := sorted_perm (r.segs ++ r.moves.map (·.1))
  unfold makes
  refine P1.append ?_
  have hmem : ∀ y ∈ allSegs r, y ∈ r.segs ∨ y ∈ r.moves.map (·.1) := fun y hy => List.mem_append.mp (hperm.mem_iff.mp hy)
  have P2 : Path { first with segs := first.segs ++ allSegs r } (r.moves.map eMove) { first with segs := r.segs, moves := r.moves } := by
    rcases List.eq_nil_or_concat r.moves with hm | ⟨M', m', hm⟩
    · have hl := h.left
      rw [hm] at hl
      have e : allSegs r = r.segs := (List.filter_eq_self.mpr (fun _ _ => rfl)).symm.trans hl
      rw [hm, e]
      exact .nil _
    · have hap := h.apart m'.1 (by rw [hm]; simp)
      have hne : r.segs ≠ [] := fun e => by
        have h0 := hap.1
        rw [e] at h0
        have h1 := (h.moves.1 m'.1 (by rw [hm]; simp)).1
        have : lastOf [] = 0 := rfl
        omega
      have hz : lastOf r.segs ∈ r.segs := by
        rcases List.eq_nil_or_concat r.segs with e | ⟨l', x, e⟩
        · exact absurd e hne
        · rw [e]; simp [lastOf]
      have := path_moves r.segs h.sl (lastOf r.segs) hz r.moves { first with segs := first.segs ++ allSegs r } (fun m hm => (h.nums m hm).1) h.moves.2 (by simp [first]) (fun m hm => by
          show m.1 ∈ [] ++ allSegs r
          rw [List.nil_append]
          exact hperm.mem_iff.mpr (List.mem_append.mpr (.inr (List.mem_map_of_mem (f := (·.1)) hm)))) (by show ([] ++ allSegs r).Pairwise (· < ·); rw [List.nil_append]; exact hd.1) (fun m hm => (h.apart m.1 (List.mem_map_of_mem (f := (·.1)) hm)).1) (fun y hy => hmem y (by simpa [first] using hy))
      have this' : Path { first with segs := allSegs r } (r.moves.map eMove) { first with segs := (allSegs r).filter (fun g => !(r.moves.map (·.1)).contains g), moves := r.moves } := this
      rw [h.left] at this'
      exact this'
  refine P2.append ?_
  refine (path_tabs r.tabs _).append ?_
  have P4 : Path { first with segs := r.segs, moves := r.moves, tabs := r.tabs } (if 0 < r.mark then [eMark r.mark] else []) { first with segs := r.segs, moves := r.moves, tabs := r.tabs, mark := r.mark } := by
    split
    · exact .cons (.mark _ _ (by simp [first]; omega)) (.nil _)
    · have : r.mark = 0 := by omega
      rw [this]; exact .nil _
  have e3 : ({ first with segs := r.segs, moves := r.moves } : R).tabs ++ r.tabs = r.tabs := rfl
  simp only [e3]
  refine P4.append ?_
  refine (path_stills r.stills _ h.stills.2 (by simp [first])).append ?_
  obtain ⟨s, ms, ts, ks, i1, i2, i3, i4, i5, i6, i7⟩ := r
  simp only [first, List.nil_append] at *
  split
  · exact .cons (.base _ _ (by simp; omega) (by simp; omega)) (.nil _)
  · rename_i hb
    simp only [based, Bool.or_eq_true, decide_eq_true_eq, Bool.not_eq_true', Bool.and_eq_false_imp, not_or] at hb
    have e1 : i1 = 1 := by omega
    have e2 : i2 = 0 := by omega
    have e5 : i3 = 0 := by omega
    have e6 : i4 = 0 ∧ i5 = 0 ∧ i6 = 0 := by
      have := hb.2.2
      simp at this
      exact this
    obtain ⟨rfl, rfl, rfl⟩ := e6
    subst e1 e2 e5
    exact .nil _
theorem step_len {x y : R} {e : Ed.E} (h : Step x e y) : y.segs.length ≤ x.segs.length + 1 ∧ y.moves.length ≤ x.moves.length + 1 ∧ y.tabs.length ≤ x.tabs.length + 1 ∧ y.stills.length ≤ x.stills.length + 1 := by
  cases h <;> simp <;> omega
end Ro

open Go.RowKit

/-- block p may be turned, then block y -/
def Two (p y : Nat) (V W : World) : Prop := ∃ M, V.grownBy M (some p) ∧ M.grownBy W (some y)
theorem two_refl {p y : Nat} {V W : World} (h : Below V.heap.size V W) : Two p y V W := ⟨W, grown_any h _, grown_any (Below.refl _ _) _⟩
/-- rows that read as a roster, whatever becomes of block o, then of block q, then of p and y -/
structure XIn (p y q o : Nat) (w : World) (a1 : Option Addr) (n1 c1 : Nat) (a2 : Option Addr) (n2 c2 : Nat) (a3 : Option Addr) (n3 c3 : Nat) (a4 : Option Addr) (n4 c4 : Nat) (x : Ro.R) : Prop where
  r1 : ∀ T V W, w.grownBy T (some o) → T.grownBy V (some q) → Two p y V W → ZRow W a1 n1 x.segs
  r2 : ∀ T V W, w.grownBy T (some o) → T.grownBy V (some q) → Two p y V W → MRow W a2 n2 x.moves
  r3 : ∀ T V W, w.grownBy T (some o) → T.grownBy V (some q) → Two p y V W → LRow W a3 n3 x.tabs
  r4 : ∀ T V W, w.grownBy T (some o) → T.grownBy V (some q) → Two p y V W → KRow W a4 n4 x.stills
  z1 : a1 = none → n1 = 0 ∧ c1 = 0
  z2 : a2 = none → n2 = 0 ∧ c2 = 0
  z3 : a3 = none → n3 = 0 ∧ c3 = 0
  z4 : a4 = none → n4 = 0 ∧ c4 = 0
  k1 : n1 ≤ c1
  k2 : n2 ≤ c2
  k3 : n3 ≤ c3
  k4 : n4 ≤ c4
  e2 : n2 = 0 → a2 = none
  e4 : n4 = 0 → a4 = none
theorem XIn.go {p y q o : Nat} {w W : World} {a1 : Option Addr} {n1 c1 : Nat} {a2 : Option Addr} {n2 c2 : Nat} {a3 : Option Addr} {n3 c3 : Nat} {a4 : Option Addr} {n4 c4 : Nat} {x : Ro.R} (h : XIn p y q o w a1 n1 c1 a2 n2 c2 a3 n3 c3 a4 n4 c4 x) (hb : w.grownBy W (some o)) : XIn p y q o W a1 n1 c1 a2 n2 c2 a3 n3 c3 a4 n4 c4 x :=
  ⟨fun T V V2 h0 h1 h2 => h.r1 T V V2 (hb.trans h0) h1 h2, fun T V V2 h0 h1 h2 => h.r2 T V V2 (hb.trans h0) h1 h2, fun T V V2 h0 h1 h2 => h.r3 T V V2 (hb.trans h0) h1 h2, fun T V V2 h0 h1 h2 => h.r4 T V V2 (hb.trans h0) h1 h2, h.z1, h.z2, h.z3, h.z4, h.k1, h.k2, h.k3, h.k4, h.e2, h.e4⟩
theorem XIn.below {p y q o : Nat} {w W : World} {a1 : Option Addr} {n1 c1 : Nat} {a2 : Option Addr} {n2 c2 : Nat} {a3 : Option Addr} {n3 c3 : Nat} {a4 : Option Addr} {n4 c4 : Nat} {x : Ro.R} (h : XIn p y q o w a1 n1 c1 a2 n2 c2 a3 n3 c3 a4 n4 c4 x) (hb : Below w.heap.size w W) : XIn p y q o W a1 n1 c1 a2 n2 c2 a3 n3 c3 a4 n4 c4 x := h.go (grown_any hb _)
theorem XIn.one {p y q o : Nat} {w W : World} {a1 : Option Addr} {n1 c1 : Nat} {a2 : Option Addr} {n2 c2 : Nat} {a3 : Option Addr} {n3 c3 : Nat} {a4 : Option Addr} {n4 c4 : Nat} {x : Ro.R} (h : XIn p y q o w a1 n1 c1 a2 n2 c2 a3 n3 c3 a4 n4 c4 x) (hb : w.grownBy W (some o)) : XIn p y q q W a1 n1 c1 a2 n2 c2 a3 n3 c3 a4 n4 c4 x :=
  ⟨fun _ V V2 h0 h1 h2 => h.r1 W V V2 hb (h0.trans h1) h2, fun _ V V2 h0 h1 h2 => h.r2 W V V2 hb (h0.trans h1) h2, fun _ V V2 h0 h1 h2 => h.r3 W V V2 hb (h0.trans h1) h2, fun _ V V2 h0 h1 h2 => h.r4 W V V2 hb (h0.trans h1) h2, h.z1, h.z2, h.z3, h.z4, h.k1, h.k2, h.k3, h.k4, h.e2, h.e4⟩
theorem XIn.two {p y q o : Nat} {w W : World} {a1 : Option Addr} {n1 c1 : Nat} {a2 : Option Addr} {n2 c2 : Nat} {a3 : Option Addr} {n3 c3 : Nat} {a4 : Option Addr} {n4 c4 : Nat} {x : Ro.R} (h : XIn p y q q w a1 n1 c1 a2 n2 c2 a3 n3 c3 a4 n4 c4 x) (hb : Below w.heap.size w W) (ho : w.heap.size ≤ o) : XIn p y q o W a1 n1 c1 a2 n2 c2 a3 n3 c3 a4 n4 c4 x :=
  have hx : ∀ V, W.grownBy V (some o) → w.grownBy V (some q) := fun V hg => grown_any (below_grownB hb hg hb.size (fun k hk => by cases hk; exact ho)) _
  ⟨fun T V V2 h0 h1 h2 => h.r1 T V V2 (hx T h0) h1 h2, fun T V V2 h0 h1 h2 => h.r2 T V V2 (hx T h0) h1 h2, fun T V V2 h0 h1 h2 => h.r3 T V V2 (hx T h0) h1 h2, fun T V V2 h0 h1 h2 => h.r4 T V V2 (hx T h0) h1 h2, h.z1, h.z2, h.z3, h.z4, h.k1, h.k2, h.k3, h.k4, h.e2, h.e4⟩
theorem xin_first (p y q o : Nat) (w : World) : XIn p y q o w none 0 0 none 0 0 none 0 0 none 0 0 Ro.first := ⟨fun _ _ _ _ _ _ => TRow.nil _ _, fun _ _ _ _ _ _ => TRow.nil _ _, fun _ _ _ _ _ _ => TRow.nil _ _, fun _ _ _ _ _ _ => TRow.nil _ _, fun _ => ⟨rfl, rfl⟩, fun _ => ⟨rfl, rfl⟩, fun _ => ⟨rfl, rfl⟩, fun _ => ⟨rfl, rfl⟩, by omega, by omega, by omega, by omega, fun _ => rfl, fun _ => rfl⟩
theorem row_kept {α : Type} {s : Nat} {enc : α → List Value} {d : α} (hE : Enc s enc) {p y q o B E n c : Nat} {w T V W : World} {a : Option Addr} {l : List α} (ho : w.ownsRow B E s (.slice a n c) n (tcells enc l)) (hp : p < B) (hy : y < B) (hq : q < B) (hr : o < B) (hs : 0 < s) (hn : n ≤ 1000000) (h0 : w.grownBy T (some o)) (h1 : T.grownBy V (some q)) (h2 : Two p y V W) : TRow s enc d W a n l := by
  obtain ⟨M, h2, h3⟩ := h2
  have a0 := ho.kept h0 (.inr (own_ne ho hr).symm)
  have a1 := a0.kept h1 (.inr (own_ne a0 hq).symm)
  have a2 := a1.kept h2 (.inr (own_ne a1 hp).symm)
  exact trow_of_owns hE (a2.kept h3 (.inr (own_ne a2 hy).symm)) hs (by omega)
theorem own_nil {w : World} {B E s n c : Nat} {a : Option Addr} {xs : List Value} (h : w.ownsRow B E s (.slice a n c) n xs) : (a = none → n = 0 ∧ c = 0) ∧ n ≤ c := by
  obtain ⟨a', c', e, h1, h2⟩ := t_shape h
  simp only [Value.slice.injEq, true_and] at e
  obtain ⟨rfl, rfl⟩ := e
  exact ⟨h1, h2⟩
/-- what an edit done leaves -/
def DoIs (p y q o : Nat) (w : World) (z : Ro.R) (e : Ending) (w' : World) : Prop := ∃ (D1 : Option Addr) (M1 G1 : Nat) (D2 : Option Addr) (M2 G2 : Nat) (D3 : Option Addr) (M3 G3 : Nat) (D4 : Option Addr) (M4 G4 : Nat), e = .returned (.tuple #[.agg #[.slice D1 M1 G1, .slice D2 M2 G2, .slice D3 M3 G3, .slice D4 M4 G4, .int .i64 z.log, .int .i64 z.index, .int .i64 z.term, .int .i64 z.ht, .int .i64 z.hv, .int .i64 z.hc, .int .i64 z.mark], .bool true]) ∧ XIn p y q o w' D1 M1 G1 D2 M2 G2 D3 M3 G3 D4 M4 G4 z ∧ Below w.heap.size w w'
theorem ed_inj {k n i t a b c p q r k' n' i' t' a' b' c' p' q' r' : Int} {f g f' g' : ByteArray} (h : Ed.E.mk k n i t a b c ⟨p, q, r, f, g⟩ = Ed.E.mk k' n' i' t' a' b' c' ⟨p', q', r', f', g'⟩) : k = k' ∧ n = n' ∧ i = i' ∧ t = t' ∧ a = a' ∧ b = b' ∧ c = c' ∧ p = p' ∧ q = q' ∧ r = r' ∧ f = f' ∧ g = g' := by
  simpa [Ed.E.mk.injEq, Lv.T.mk.injEq] using h

set_option maxRecDepth 100000 in
set_option maxHeartbeats 2000000 in
theorem rdo17_any (p yb q o : Nat) (s : List Int) (ms : List (Int × Int)) (ts : List Lv.T) (ks : List (Int × Int × Int)) (a1 : Option Addr) (n1 c1 : Nat) (a2 : Option Addr) (n2 c2 : Nat) (a3 : Option Addr) (n3 c3 : Nat) (a4 : Option Addr) (n4 c4 : Nat) (i1 i2 i3 i4 i5 i6 i7 : Int) (k9 n9 i9 t9 a9 b9 c9 p9 q9 r9 : Int) (f9 g9 : ByteArray) (w : World) (y : Ro.R) (hs : Ro.Step ⟨s, ms, ts, ks, i1, i2, i3, i4, i5, i6, i7⟩ ⟨k9, n9, i9, t9, a9, b9, c9, ⟨p9, q9, r9, f9, g9⟩⟩ y) (h : XIn p yb q o w a1 n1 c1 a2 n2 c2 a3 n3 c3 a4 n4 c4 ⟨s, ms, ts, ks, i1, i2, i3, i4, i5, i6, i7⟩) (hp : p < w.heap.size) (hy : yb < w.heap.size) (hq : q < w.heap.size) (hO : o < w.heap.size) (m1 : n1 ≤ 1000) (m2 : n2 ≤ 1000) (m3 : n3 ≤ 1000) (m4 : n4 ≤ 1000) :
    Calls Tryz.prog 36 #[.agg #[.slice a1 n1 c1, .slice a2 n2 c2, .slice a3 n3 c3, .slice a4 n4 c4, .int .i64 i1, .int .i64 i2, .int .i64 i3, .int .i64 i4, .int .i64 i5, .int .i64 i6, .int .i64 i7], .agg #[.int .i64 k9, .int .i64 n9, .int .i64 i9, .int .i64 t9, .int .i64 a9, .int .i64 b9, .int .i64 c9, .int .i64 p9, .int .i64 q9, .int .i64 r9, .string f9, .string g9]] w (DoIs p yb q o w y) := by
  have gg : w.grownBy w (some o) := grown_any (Below.refl _ _) _
  have g0 : w.grownBy w (some q) := grown_any (Below.refl _ _) _
  have g1 : Two p yb w w := two_refl (Below.refl _ _)
  generalize he : (Ed.E.mk k9 n9 i9 t9 a9 b9 c9 ⟨p9, q9, r9, f9, g9⟩) = E at hs
  cases hs with
  | seg n hm hlt =>
    obtain ⟨rfl, rfl, rfl, rfl, rfl, rfl, rfl, rfl, rfl, rfl, rfl, rfl⟩ := ed_inj he
    dsimp only at hm hlt
    have hn2 : n2 = 0 := by have := (h.r2 w w w gg g0 g1).1; rw [← this]; show ms.length = 0; rw [hm]; rfl
    subst hn2
    refine (rdo17_seg s a1 n1 c1 a2 0 c2 a3 n3 c3 a4 n4 c4 i1 i2 i3 i4 i5 i6 i7 _ _ _ _ _ _ _ _ _ _ _ w (h.r1 w w w gg g0 g1) m1 h.z1 hlt rfl).mono ?_
    rintro e w' ⟨g, d, rfl, hd, ho, hb⟩
    exact ⟨g, n1 + 1, d, a2, 0, c2, a3, n3, c3, a4, n4, c4, rfl, ⟨(fun _ _ _ h0 h1 h2 => row_kept zeE ho hp hy hq hO (by omega) (by omega) h0 h1 h2), (h.below hb).r2, (h.below hb).r3, (h.below hb).r4, (own_nil ho).1, h.z2, h.z3, h.z4, hd, h.k2, h.k3, h.k4, h.e2, h.e4⟩, hb⟩
  | move m j h0 hp64 hpl hat hne hlast =>
    obtain ⟨rfl, rfl, rfl, rfl, rfl, rfl, rfl, rfl, rfl, rfl, rfl, rfl⟩ := ed_inj he
    dsimp only at h0 hpl hat hne hlast
    have hl : s.length = n1 := (h.r1 w w w gg g0 g1).1
    refine (rdo17_move s ms a1 n1 c1 a2 n2 c2 a3 n3 c3 a4 n4 c4 i1 i2 i3 i4 i5 i6 i7 _ _ _ _ _ _ _ _ _ _ _ w (h.r1 w w w gg g0 g1) m1 h.k1 j (n1 - (j + 1)) hp64 (by omega) hat hne h0 (h.r2 w w w gg g0 g1) m2 h.k2 h.z2 h.e2 hlast).mono ?_
    rintro e w' ⟨g, d, g', d', rfl, hd, ho, ho2, hb⟩
    exact ⟨g, j + (n1 - (j + 1)), d, g', n2 + 1, d', a3, n3, c3, a4, n4, c4, rfl, ⟨(fun _ _ _ h0 h1 h2 => row_kept zeE ho hp hy hq hO (by omega) (by omega) h0 h1 h2), (fun _ _ _ h0 h1 h2 => row_kept meE ho2 hp hy hq hO (by omega) (by omega) h0 h1 h2), (h.below hb).r3, (h.below hb).r4, (own_nil ho).1, (own_nil ho2).1, h.z3, h.z4, hd, (own_nil ho2).2, h.k3, h.k4, fun e => by omega, h.e4⟩, hb⟩
  | tab t =>
    obtain ⟨t1, t2, t3, t4, t5⟩ := t
    obtain ⟨rfl, rfl, rfl, rfl, rfl, rfl, rfl, rfl, rfl, rfl, rfl, rfl⟩ := ed_inj he
    refine (rdo17_tab ts a1 n1 c1 a2 n2 c2 a3 n3 c3 a4 n4 c4 i1 i2 i3 i4 i5 i6 i7 _ _ _ _ _ _ _ _ _ _ _ w (h.r3 w w w gg g0 g1) m3 h.z3).mono ?_
    rintro e w' ⟨g, d, rfl, hd, ho, hb⟩
    exact ⟨a1, n1, c1, a2, n2, c2, g, n3 + 1, d, a4, n4, c4, rfl, ⟨(h.below hb).r1, (h.below hb).r2, (fun _ _ _ h0 h1 h2 => row_kept leE ho hp hy hq hO (by omega) (by omega) h0 h1 h2), (h.below hb).r4, h.z1, h.z2, (own_nil ho).1, h.z4, h.k1, h.k2, hd, h.k4, h.e2, h.e4⟩, hb⟩
  | mark m hm =>
    obtain ⟨rfl, rfl, rfl, rfl, rfl, rfl, rfl, rfl, rfl, rfl, rfl, rfl⟩ := ed_inj he
    dsimp only at hm
    refine (rdo17_mark a1 n1 c1 a2 n2 c2 a3 n3 c3 a4 n4 c4 i1 i2 i3 i4 i5 i6 i7 _ _ _ _ _ _ _ _ _ _ _ w hm).mono ?_
    rintro e w' ⟨rfl, hb⟩
    exact ⟨a1, n1, c1, a2, n2, c2, a3, n3, c3, a4, n4, c4, rfl, ⟨(h.below hb).r1, (h.below hb).r2, (h.below hb).r3, (h.below hb).r4, h.z1, h.z2, h.z3, h.z4, h.k1, h.k2, h.k3, h.k4, h.e2, h.e4⟩, hb⟩
  | still k hlast =>
    obtain ⟨ka, kb, kc⟩ := k
    obtain ⟨rfl, rfl, rfl, rfl, rfl, rfl, rfl, rfl, rfl, rfl, rfl, rfl⟩ := ed_inj he
    dsimp only at hlast
    refine (rdo17_still ks a1 n1 c1 a2 n2 c2 a3 n3 c3 a4 n4 c4 i1 i2 i3 i4 i5 i6 i7 _ _ _ _ _ _ _ _ _ _ _ w (h.r4 w w w gg g0 g1) m4 h.k4 h.z4 h.e4 hlast).mono ?_
    rintro e w' ⟨g, d, rfl, ho, hb⟩
    exact ⟨a1, n1, c1, a2, n2, c2, a3, n3, c3, g, n4 + 1, d, rfl, ⟨(h.below hb).r1, (h.below hb).r2, (h.below hb).r3, (fun _ _ _ h0 h1 h2 => row_kept keE ho hp hy hq hO (by omega) (by omega) h0 h1 h2), h.z1, h.z2, h.z3, (own_nil ho).1, h.k1, h.k2, h.k3, (own_nil ho).2, h.e2, fun e => by omega⟩, hb⟩
  | base r hl1 hl2 =>
    obtain ⟨rs, rm, rt, rk, v1, v2, v3, v4, v5, v6, v7⟩ := r
    obtain ⟨rfl, rfl, rfl, rfl, rfl, rfl, rfl, rfl, rfl, rfl, rfl, rfl⟩ := ed_inj he
    dsimp only at hl1 hl2
    refine (rdo17_base a1 n1 c1 a2 n2 c2 a3 n3 c3 a4 n4 c4 i1 i2 i3 i4 i5 i6 i7 _ _ _ _ _ _ _ _ _ _ _ w hl1 hl2).mono ?_
    rintro e w' ⟨rfl, hb⟩
    exact ⟨a1, n1, c1, a2, n2, c2, a3, n3, c3, a4, n4, c4, rfl, ⟨(h.below hb).r1, (h.below hb).r2, (h.below hb).r3, (h.below hb).r4, h.z1, h.z2, h.z3, h.z4, h.k1, h.k2, h.k3, h.k4, h.e2, h.e4⟩, hb⟩

set_option maxRecDepth 100000 in
set_option maxHeartbeats 8000000 in
theorem rapply17_any (yb : Nat) (ad : Option Addr) (len cap : Nat) (l : List Ed.E) (w : World) (hyb : yb < w.heap.size) (hl : ERow w ad len l) (hlen : len ≤ 900) (r : Ro.R) (hpath : Ro.Path Ro.first l r) (hc : Ro.check r = true) :
    Calls Tryz.prog 15 #[.agg #[.slice none 0 0, .slice none 0 0, .slice none 0 0, .slice none 0 0, .int .i64 1, .int .i64 0, .int .i64 0, .int .i64 0, .int .i64 0, .int .i64 0, .int .i64 0], .slice ad len cap] w fun e w' => ∃ (a1 : Option Addr) (n1 c1 : Nat) (a2 : Option Addr) (n2 c2 : Nat) (a3 : Option Addr) (n3 c3 : Nat) (a4 : Option Addr) (n4 c4 : Nat), e = .returned (.tuple #[.agg #[.slice a1 n1 c1, .slice a2 n2 c2, .slice a3 n3 c3, .slice a4 n4 c4, .int .i64 r.log, .int .i64 r.index, .int .i64 r.term, .int .i64 r.ht, .int .i64 r.hv, .int .i64 r.hc, .int .i64 r.mark], .bool true]) ∧ (∀ W, w'.grownBy W (some yb) → RIn W a1 n1 c1 a2 n2 c2 a3 n3 c3 a4 n4 c4 r) ∧ Below w.heap.size w w' := by
  have hll : Hid (l.length = len) := hl.1
  have HL : Hid (ERow w ad len l) := hl
  have HPA : Hid (Ro.Path Ro.first (l.drop 0) r) := hpath
  have HC : Hid (Ro.check r = true) := hc
  obtain ⟨U, hU⟩ : ∃ U, U = (w.alloc (.cells #[.slice none 0 0, .slice none 0 0, .slice none 0 0, .slice none 0 0, .int .i64 1, .int .i64 0, .int .i64 0, .int .i64 0, .int .i64 0, .int .i64 0, .int .i64 0] 29)).alloc (.cells #[.slice none 0 0, .slice none 0 0, .slice none 0 0, .slice none 0 0, .int .i64 0, .int .i64 0, .int .i64 0, .int .i64 0, .int .i64 0, .int .i64 0, .int .i64 0] 29) := ⟨_, rfl⟩
  have hbU : Below w.heap.size w U := by rw [hU]; exact below_two _ _ _
  have e0 : U.heap[w.heap.size]? = some (.cells #[.slice none 0 0, .slice none 0 0, .slice none 0 0, .slice none 0 0, .int .i64 1, .int .i64 0, .int .i64 0, .int .i64 0, .int .i64 0, .int .i64 0, .int .i64 0] 29 (0, 0)) := by
    rw [hU]; exact (Below.heap_alloc _ _ _ (by simp)).trans (heap_alloc_new _ _)
  have e1 : U.heap[w.heap.size + 1]? = some (.cells #[.slice none 0 0, .slice none 0 0, .slice none 0 0, .slice none 0 0, .int .i64 0, .int .i64 0, .int .i64 0, .int .i64 0, .int .i64 0, .int .i64 0, .int .i64 0] 29 (0, 0)) := by
    rw [hU]; have := heap_alloc_new (w.alloc (.cells #[.slice none 0 0, .slice none 0 0, .slice none 0 0, .slice none 0 0, .int .i64 1, .int .i64 0, .int .i64 0, .int .i64 0, .int .i64 0, .int .i64 0, .int .i64 0] 29)) (.cells #[.slice none 0 0, .slice none 0 0, .slice none 0 0, .slice none 0 0, .int .i64 0, .int .i64 0, .int .i64 0, .int .i64 0, .int .i64 0, .int .i64 0, .int .i64 0] 29); rwa [World.size_alloc] at this
  have HP0 : Hid (U.heap[w.heap.size]? = some (.cells #[.slice none 0 0, .slice none 0 0, .slice none 0 0, .slice none 0 0, .int .i64 1, .int .i64 0, .int .i64 0, .int .i64 0, .int .i64 0, .int .i64 0, .int .i64 0] 29 (0, 0))) := e0
  have HZ0 : Hid (U.heap[w.heap.size + 1]? = some (.cells #[.slice none 0 0, .slice none 0 0, .slice none 0 0, .slice none 0 0, .int .i64 0, .int .i64 0, .int .i64 0, .int .i64 0, .int .i64 0, .int .i64 0, .int .i64 0] 29 (0, 0))) := e1
  have HX0 : Hid (XIn (w.heap.size + 1) yb w.heap.size w.heap.size U none 0 0 none 0 0 none 0 0 none 0 0 Ro.first) := (xin_first _ _ _ _ _ : XIn _ _ _ _ _ _ _ _ _ _ _ _ _ _ _ _ _ _)
  have HB0 : Hid (Below w.heap.size w U) := hbU
  have HN0 : Hid ((0 : Nat) ≤ 0 ∧ (0 : Nat) ≤ 0 ∧ (0 : Nat) ≤ 0 ∧ (0 : Nat) ≤ 0) := (by decide : _ ∧ _)
  have hUe : (w.alloc (.cells #[.slice none 0 0, .slice none 0 0, .slice none 0 0, .slice none 0 0, .int .i64 1, .int .i64 0, .int .i64 0, .int .i64 0, .int .i64 0, .int .i64 0, .int .i64 0] 29)).alloc (.cells #[.slice none 0 0, .slice none 0 0, .slice none 0 0, .slice none 0 0, .int .i64 0, .int .i64 0, .int .i64 0, .int .i64 0, .int .i64 0, .int .i64 0, .int .i64 0] 29) = U := hU.symm
  have hpz : ¬ (w.heap.size + 1 = w.heap.size) := by omega
  clear hl hpath hc hU hbU e0 e1
  go_enter Tryz.func15, Tryz.ntmps15
  go_wp2
  clear hUe
  go_loopg [6, 7, 8] len (fun g iv _ _ wx => ∃ (k : Nat) (xs : List Int) (xm : List (Int × Int)) (xt : List Lv.T) (xk : List (Int × Int × Int)) (A1 : Option Addr) (N1 C1 : Nat) (A2 : Option Addr) (N2 C2 : Nat) (A3 : Option Addr) (N3 C3 : Nat) (A4 : Option Addr) (N4 C4 : Nat) (y1 y2 y3 y4 y5 y6 y7 : Int), k + g = len ∧ iv = .int .i64 k ∧ Hid (Ro.Path ⟨xs, xm, xt, xk, y1, y2, y3, y4, y5, y6, y7⟩ (l.drop k) r) ∧ Hid (N1 ≤ k ∧ N2 ≤ k ∧ N3 ≤ k ∧ N4 ≤ k) ∧ Hid (wx.heap[w.heap.size]? = some (.cells #[.slice A1 N1 C1, .slice A2 N2 C2, .slice A3 N3 C3, .slice A4 N4 C4, .int .i64 y1, .int .i64 y2, .int .i64 y3, .int .i64 y4, .int .i64 y5, .int .i64 y6, .int .i64 y7] 29 (0, 0))) ∧ Hid (wx.heap[w.heap.size + 1]? = some (.cells #[.slice none 0 0, .slice none 0 0, .slice none 0 0, .slice none 0 0, .int .i64 0, .int .i64 0, .int .i64 0, .int .i64 0, .int .i64 0, .int .i64 0, .int .i64 0] 29 (0, 0))) ∧ Hid (XIn (w.heap.size + 1) yb w.heap.size w.heap.size wx A1 N1 C1 A2 N2 C2 A3 N3 C3 A4 N4 C4 ⟨xs, xm, xt, xk, y1, y2, y3, y4, y5, y6, y7⟩) ∧ Hid (Below w.heap.size w wx))
  case atStart => exact ⟨0, [], [], [], [], none, 0, 0, none, 0, 0, none, 0, 0, none, 0, 0, 1, 0, 0, 0, 0, 0, 0, by omega, rfl, HPA, HN0, HP0, HZ0, HX0, HB0⟩
  case round =>
    obtain ⟨k, xs, xm, xt, xk, A1, N1, C1, A2, N2, C2, A3, N3, C3, A4, N4, C4, y1, y2, y3, y4, y5, y6, y7, hk, rfl, HPT, HNN, H1, HZ, HX, HB⟩ := hrel
    clear HPA HP0 HZ0 HX0 HB0 HN0
    have hPw : w.heap.size < wr.heap.size := ob_ltB H1.out
    have hZw : w.heap.size + 1 < wr.heap.size := ob_ltB HZ.out
    have hYw : yb < wr.heap.size := by omega
    cases gk with
    | succ g =>
      have hlt : k < len := by omega
      obtain ⟨Bk, O, k9, n9, i9, t9, a9, b9, c9, p9, q9, r9, f9, g9, rfl, hx, m0, m1, m2, m3, m4, m5, m6, m7, m8, m9, m10, m11⟩ := eget HL.out HB.out hlt
      have hdr : l.drop k = ⟨k9, n9, i9, t9, a9, b9, c9, ⟨p9, q9, r9, f9, g9⟩⟩ :: l.drop (k + 1) := by
        have := edrop (l := l) (k := k) (by rw [hll.out]; exact hlt)
        rw [this, hx.out]
      obtain ⟨y, hst, hpt⟩ : ∃ y, Ro.Step ⟨xs, xm, xt, xk, y1, y2, y3, y4, y5, y6, y7⟩ ⟨k9, n9, i9, t9, a9, b9, c9, ⟨p9, q9, r9, f9, g9⟩⟩ y ∧ Ro.Path y (l.drop (k + 1)) r := by
        have hp := HPT.out
        rw [hdr] at hp
        cases hp with
        | cons h1 h2 => exact ⟨_, h1, h2⟩
      obtain ⟨ys, ym, yt, yk, z1, z2, z3, z4, z5, z6, z7⟩ := y
      have HPT2 : Hid (Ro.Path ⟨ys, ym, yt, yk, z1, z2, z3, z4, z5, z6, z7⟩ (l.drop (k + 1)) r) := hpt
      obtain ⟨nn1, nn2, nn3, nn4⟩ := HNN.out
      have hdA : ∀ W, Below wr.heap.size wr W → Calls Tryz.prog 36 #[.agg #[.slice A1 N1 C1, .slice A2 N2 C2, .slice A3 N3 C3, .slice A4 N4 C4, .int .i64 y1, .int .i64 y2, .int .i64 y3, .int .i64 y4, .int .i64 y5, .int .i64 y6, .int .i64 y7], .agg #[.int .i64 k9, .int .i64 n9, .int .i64 i9, .int .i64 t9, .int .i64 a9, .int .i64 b9, .int .i64 c9, .int .i64 p9, .int .i64 q9, .int .i64 r9, .string f9, .string g9]] W (DoIs (w.heap.size + 1) yb (w.heap.size) (w.heap.size) W ⟨ys, ym, yt, yk, z1, z2, z3, z4, z5, z6, z7⟩) := fun W hb => rdo17_any (w.heap.size + 1) yb (w.heap.size) (w.heap.size) xs xm xt xk A1 N1 C1 A2 N2 C2 A3 N3 C3 A4 N4 C4 y1 y2 y3 y4 y5 y6 y7 k9 n9 i9 t9 a9 b9 c9 p9 q9 r9 f9 g9 W ⟨ys, ym, yt, yk, z1, z2, z3, z4, z5, z6, z7⟩ hst (HX.out.below hb) (Nat.lt_of_lt_of_le hZw hb.size) (Nat.lt_of_lt_of_le hYw hb.size) (Nat.lt_of_lt_of_le hPw hb.size) (Nat.lt_of_lt_of_le hPw hb.size) (by omega) (by omega) (by omega) (by omega)
      have hdB : ∀ W, W = (wr.alloc (.cells #[.slice none 0 0, .slice none 0 0, .slice none 0 0, .slice none 0 0, .int .i64 0, .int .i64 0, .int .i64 0, .int .i64 0, .int .i64 0, .int .i64 0, .int .i64 0] 29)).drew → Calls Tryz.prog 36 #[.agg #[.slice A1 N1 C1, .slice A2 N2 C2, .slice A3 N3 C3, .slice A4 N4 C4, .int .i64 y1, .int .i64 y2, .int .i64 y3, .int .i64 y4, .int .i64 y5, .int .i64 y6, .int .i64 y7], .agg #[.int .i64 k9, .int .i64 n9, .int .i64 i9, .int .i64 t9, .int .i64 a9, .int .i64 b9, .int .i64 c9, .int .i64 p9, .int .i64 q9, .int .i64 r9, .string f9, .string g9]] W (DoIs (w.heap.size + 1) yb (w.heap.size) wr.heap.size W ⟨ys, ym, yt, yk, z1, z2, z3, z4, z5, z6, z7⟩) := fun W hW => by
        subst hW
        have hb : Below wr.heap.size wr (wr.alloc (.cells #[.slice none 0 0, .slice none 0 0, .slice none 0 0, .slice none 0 0, .int .i64 0, .int .i64 0, .int .i64 0, .int .i64 0, .int .i64 0, .int .i64 0, .int .i64 0] 29)).drew := (below_alloc _ _).drew
        exact rdo17_any (w.heap.size + 1) yb (w.heap.size) wr.heap.size xs xm xt xk A1 N1 C1 A2 N2 C2 A3 N3 C3 A4 N4 C4 y1 y2 y3 y4 y5 y6 y7 k9 n9 i9 t9 a9 b9 c9 p9 q9 r9 f9 g9 _ ⟨ys, ym, yt, yk, z1, z2, z3, z4, z5, z6, z7⟩ hst (HX.out.two hb (Nat.le_refl _)) (Nat.lt_of_lt_of_le hZw hb.size) (Nat.lt_of_lt_of_le hYw hb.size) (Nat.lt_of_lt_of_le hPw hb.size) (by show _ < (wr.alloc (.cells #[.slice none 0 0, .slice none 0 0, .slice none 0 0, .slice none 0 0, .int .i64 0, .int .i64 0, .int .i64 0, .int .i64 0, .int .i64 0, .int .i64 0, .int .i64 0] 29)).heap.size; rw [World.size_alloc]; omega) (by omega) (by omega) (by omega) (by omega)
      unfold DoIs at hdA hdB
      dsimp only at hdA hdB
      have hi0 : (0 : Int) ≤ (k : Int) := by omega
      have hi1 : (k : Int) < (len : Int) := by omega
      have HV : Hid (∀ W, Below wr.heap.size wr W → (W.cell? ⟨w.heap.size, 0, none⟩ = some (.slice A1 N1 C1) ∧ W.cell? ⟨w.heap.size, 1, none⟩ = some (.slice A2 N2 C2) ∧ W.cell? ⟨w.heap.size, 2, none⟩ = some (.slice A3 N3 C3) ∧ W.cell? ⟨w.heap.size, 3, none⟩ = some (.slice A4 N4 C4) ∧ W.cell? ⟨w.heap.size, 4, none⟩ = some (.int .i64 y1) ∧ W.cell? ⟨w.heap.size, 5, none⟩ = some (.int .i64 y2) ∧ W.cell? ⟨w.heap.size, 6, none⟩ = some (.int .i64 y3) ∧ W.cell? ⟨w.heap.size, 7, none⟩ = some (.int .i64 y4) ∧ W.cell? ⟨w.heap.size, 8, none⟩ = some (.int .i64 y5) ∧ W.cell? ⟨w.heap.size, 9, none⟩ = some (.int .i64 y6) ∧ W.cell? ⟨w.heap.size, 10, none⟩ = some (.int .i64 y7) ∧ W.cell? ⟨Bk, O + k * 12, none⟩ = some (.int .i64 k9) ∧ W.cell? ⟨Bk, O + k * 12 + 1, none⟩ = some (.int .i64 n9) ∧ W.cell? ⟨Bk, O + k * 12 + 2, none⟩ = some (.int .i64 i9) ∧ W.cell? ⟨Bk, O + k * 12 + 3, none⟩ = some (.int .i64 t9) ∧ W.cell? ⟨Bk, O + k * 12 + 4, none⟩ = some (.int .i64 a9) ∧ W.cell? ⟨Bk, O + k * 12 + 5, none⟩ = some (.int .i64 b9) ∧ W.cell? ⟨Bk, O + k * 12 + 6, none⟩ = some (.int .i64 c9) ∧ W.cell? ⟨Bk, O + k * 12 + 7, none⟩ = some (.int .i64 p9) ∧ W.cell? ⟨Bk, O + k * 12 + 8, none⟩ = some (.int .i64 q9) ∧ W.cell? ⟨Bk, O + k * 12 + 9, none⟩ = some (.int .i64 r9) ∧ W.cell? ⟨Bk, O + k * 12 + 10, none⟩ = some (.string f9) ∧ W.cell? ⟨Bk, O + k * 12 + 11, none⟩ = some (.string g9))) := (fun W hb => by
        have a := (blkc ((hb.block _ (ob_ltB H1.out)).trans H1.out)).1
        exact ⟨a 0, a 1, a 2, a 3, a 4, a 5, a 6, a 7, a 8, a 9, a 10, (hb.cell (p := ⟨Bk, O + k * 12, none⟩) (cell_lt m0)).trans m0, (hb.cell (p := ⟨Bk, O + k * 12 + 1, none⟩) (cell_lt m1)).trans m1, (hb.cell (p := ⟨Bk, O + k * 12 + 2, none⟩) (cell_lt m2)).trans m2, (hb.cell (p := ⟨Bk, O + k * 12 + 3, none⟩) (cell_lt m3)).trans m3, (hb.cell (p := ⟨Bk, O + k * 12 + 4, none⟩) (cell_lt m4)).trans m4, (hb.cell (p := ⟨Bk, O + k * 12 + 5, none⟩) (cell_lt m5)).trans m5, (hb.cell (p := ⟨Bk, O + k * 12 + 6, none⟩) (cell_lt m6)).trans m6, (hb.cell (p := ⟨Bk, O + k * 12 + 7, none⟩) (cell_lt m7)).trans m7, (hb.cell (p := ⟨Bk, O + k * 12 + 8, none⟩) (cell_lt m8)).trans m8, (hb.cell (p := ⟨Bk, O + k * 12 + 9, none⟩) (cell_lt m9)).trans m9, (hb.cell (p := ⟨Bk, O + k * 12 + 10, none⟩) (cell_lt m10)).trans m10, (hb.cell (p := ⟨Bk, O + k * 12 + 11, none⟩) (cell_lt m11)).trans m11⟩ : ∀ W, _ → _)
      obtain ⟨ca0, ca1, ca2, ca3, ca4, ca5, ca6, ca7, ca8, ca9, ca10, _, _, _, _, _, _, _, _, _, _, _, _⟩ := HV.out wr (Below.refl _ _)
      have zB : (wr.alloc (.cells #[.slice none 0 0, .slice none 0 0, .slice none 0 0, .slice none 0 0, .int .i64 0, .int .i64 0, .int .i64 0, .int .i64 0, .int .i64 0, .int .i64 0, .int .i64 0] 29)).drew.heap[wr.heap.size]? = some (.cells #[.slice none 0 0, .slice none 0 0, .slice none 0 0, .slice none 0 0, .int .i64 0, .int .i64 0, .int .i64 0, .int .i64 0, .int .i64 0, .int .i64 0, .int .i64 0] 29 (0, 0)) := drew_heap (heap_alloc_new _ _)
      have HST : Hid (Ro.Step ⟨xs, xm, xt, xk, y1, y2, y3, y4, y5, y6, y7⟩ ⟨k9, n9, i9, t9, a9, b9, c9, ⟨p9, q9, r9, f9, g9⟩⟩ ⟨ys, ym, yt, yk, z1, z2, z3, z4, z5, z6, z7⟩) := hst
      clear hx hdr hst hpt nn1 nn2 nn3 nn4 HPT
      go_upto_region 4 with fail
      go_cut [7, 8] (fun s7 s8 wx => ∃ (D1 : Option Addr) (M1 G1 : Nat) (D2 : Option Addr) (M2 G2 : Nat) (D3 : Option Addr) (M3 G3 : Nat) (D4 : Option Addr) (M4 G4 : Nat) (g7 : Nat), s7 = .pointer (some ⟨g7, 0, none⟩) ∧ s8 = .bool true ∧ Hid (wx.heap[g7]? = some (.cells #[.slice D1 M1 G1, .slice D2 M2 G2, .slice D3 M3 G3, .slice D4 M4 G4, .int .i64 z1, .int .i64 z2, .int .i64 z3, .int .i64 z4, .int .i64 z5, .int .i64 z6, .int .i64 z7] 29 (0, 0))) ∧ Hid (XIn (w.heap.size + 1) yb w.heap.size w.heap.size wx D1 M1 G1 D2 M2 G2 D3 M3 G3 D4 M4 G4 ⟨ys, ym, yt, yk, z1, z2, z3, z4, z5, z6, z7⟩) ∧ Hid (Below wr.heap.size wr wx))
      case first =>
          refine wp_region_held_drew (S := (fun W => W.cell? ⟨w.heap.size, 0, none⟩ = some (.slice A1 N1 C1) ∧ W.cell? ⟨w.heap.size, 1, none⟩ = some (.slice A2 N2 C2) ∧ W.cell? ⟨w.heap.size, 2, none⟩ = some (.slice A3 N3 C3) ∧ W.cell? ⟨w.heap.size, 3, none⟩ = some (.slice A4 N4 C4) ∧ W.cell? ⟨w.heap.size, 4, none⟩ = some (.int .i64 y1) ∧ W.cell? ⟨w.heap.size, 5, none⟩ = some (.int .i64 y2) ∧ W.cell? ⟨w.heap.size, 6, none⟩ = some (.int .i64 y3) ∧ W.cell? ⟨w.heap.size, 7, none⟩ = some (.int .i64 y4) ∧ W.cell? ⟨w.heap.size, 8, none⟩ = some (.int .i64 y5) ∧ W.cell? ⟨w.heap.size, 9, none⟩ = some (.int .i64 y6) ∧ W.cell? ⟨w.heap.size, 10, none⟩ = some (.int .i64 y7) ∧ W.cell? ⟨Bk, O + k * 12, none⟩ = some (.int .i64 k9) ∧ W.cell? ⟨Bk, O + k * 12 + 1, none⟩ = some (.int .i64 n9) ∧ W.cell? ⟨Bk, O + k * 12 + 2, none⟩ = some (.int .i64 i9) ∧ W.cell? ⟨Bk, O + k * 12 + 3, none⟩ = some (.int .i64 t9) ∧ W.cell? ⟨Bk, O + k * 12 + 4, none⟩ = some (.int .i64 a9) ∧ W.cell? ⟨Bk, O + k * 12 + 5, none⟩ = some (.int .i64 b9) ∧ W.cell? ⟨Bk, O + k * 12 + 6, none⟩ = some (.int .i64 c9) ∧ W.cell? ⟨Bk, O + k * 12 + 7, none⟩ = some (.int .i64 p9) ∧ W.cell? ⟨Bk, O + k * 12 + 8, none⟩ = some (.int .i64 q9) ∧ W.cell? ⟨Bk, O + k * 12 + 9, none⟩ = some (.int .i64 r9) ∧ W.cell? ⟨Bk, O + k * 12 + 10, none⟩ = some (.string f9) ∧ W.cell? ⟨Bk, O + k * 12 + 11, none⟩ = some (.string g9))) (by kernel_rfl) (HV.out _ (Below.refl _ _).drew) (fun hHeld => ?_)
          refine wpAnyH_take (i := 0) (oi := ⟨some 16, _, _, _, _, _⟩) (v := ?_) rfl (by kernel_rfl) (by kernel_rfl) (by kernel_rfl) (fun _ _ _ h => h) (Or.inl ⟨by rfl, ?_⟩) (by assumption) ?_
          rotate_left
          · intro w hSw; (try dsimp only at hSw); go_simp <;> (try with_reducible rfl)
          go_frame
          refine wpAnyH_take (i := 1) (oi := ⟨some 17, _, _, _, _, _⟩) (v := ?_) rfl (by kernel_rfl) (by kernel_rfl) (by kernel_rfl) (fun _ _ _ h => h) (Or.inl ⟨by rfl, ?_⟩) (by assumption) ?_
          rotate_left
          · intro w hSw; (try dsimp only at hSw); go_simp <;> (try with_reducible rfl)
          go_frame
          refine wpAnyH_take (i := 2) (oi := ⟨some 18, _, _, _, _, _⟩) (v := ?_) rfl (by kernel_rfl) (by kernel_rfl) (by kernel_rfl) (fun _ _ _ h => h) (Or.inl ⟨by rfl, ?_⟩) (by assumption) ?_
          rotate_left
          · intro w hSw; (try dsimp only at hSw); go_simp <;> (try with_reducible rfl)
          go_frame
          refine wpAnyH_take (i := 3) (oi := ⟨some 19, _, _, _, _, _⟩) (v := ?_) rfl (by kernel_rfl) (by kernel_rfl) (by kernel_rfl) (fun _ _ _ h => h) (Or.inl ⟨by rfl, ?_⟩) (by assumption) ?_
          rotate_left
          · intro w hSw; (try dsimp only at hSw); go_simp <;> (try with_reducible rfl)
          go_frame
          refine wpAnyH_take (i := 4) (oi := ⟨some 20, _, _, _, _, _⟩) (v := ?_) rfl (by kernel_rfl) (by kernel_rfl) (by kernel_rfl) (fun _ _ _ h => h) (Or.inl ⟨by rfl, ?_⟩) (by assumption) ?_
          rotate_left
          · intro w hSw; (try dsimp only at hSw); go_simp <;> (try with_reducible rfl)
          go_frame
          refine wpAnyH_ready (rs := [5, 9]) (by kernel_rfl) (by simp) ?_
          refine AllReadyH.cons rfl (fun K hK => ?_) (AllReadyH.cons rfl (fun K hK => ?_) AllReadyH.nil)
          · skip
            go_simp; go_at_call 36; refine (hdA _ (Below.refl _ _).drew).mono ?_; rintro e w5 ⟨D1, M1, G1, D2, M2, G2, D3, M3, G3, D4, M4, G4, rfl, hx5, h5⟩; have b5 : Below wr.heap.size wr w5 := ((Below.refl _ _).drew).trans (h5.mono ((Below.refl wr.heap.size wr).drew).size)
            refine hK.out _ _ (HV.out _ b5) (fun hHeld => ?_)
            clear hK K
            try go_frame
            refine wpAnyH_take (i := 6) (oi := ⟨some 15, _, _, _, _, _⟩) (v := ?_) rfl (by kernel_rfl) (by kernel_rfl) (by kernel_rfl) (fun _ _ _ h => h) (Or.inl ⟨by rfl, ?_⟩) (by assumption) ?_
            rotate_left
            · intro w hSw; (try dsimp only at hSw); go_simp <;> (try with_reducible rfl)
            go_frame
            refine wpAnyH_take (i := 7) (oi := ⟨some 22, _, _, _, _, _⟩) (v := ?_) rfl (by kernel_rfl) (by kernel_rfl) (by kernel_rfl) (fun _ _ _ h => h) (Or.inl ⟨by rfl, ?_⟩) (by assumption) ?_
            rotate_left
            · intro w hSw; (try dsimp only at hSw); go_simp <;> (try with_reducible rfl)
            go_frame
            refine wpAnyH_take (i := 8) (oi := ⟨some 23, _, _, _, _, _⟩) (v := ?_) rfl (by kernel_rfl) (by kernel_rfl) (by kernel_rfl) (fun _ _ _ h => h) (Or.inl ⟨by rfl, ?_⟩) (by assumption) ?_
            rotate_left
            · intro w hSw; (try dsimp only at hSw); go_simp <;> (try with_reducible rfl)
            go_frame
            refine wpAnyH_ready (rs := [9]) (by kernel_rfl) (by simp) ?_
            refine AllReadyH.cons rfl (fun K hK => ?_) AllReadyH.nil
            go_simp
            refine hK.out _ _ (HV.out _ (b5.alloc b5.size _)) (fun hHeld => ?_)
            clear hK K
            refine wpAnyH_ready (rs := [10]) (by kernel_rfl) (by simp) ?_
            refine AllReadyH.cons rfl (fun K hK => ?_) AllReadyH.nil
            go_simp
            refine hK.out _ _ (HV.out _ (b5.alloc b5.size _)) (fun hHeld => ?_)
            clear hK K
            refine wpAnyH_take (i := 11) (oi := ⟨some 8, _, _, _, _, _⟩) (v := ?_) rfl (by kernel_rfl) (by kernel_rfl) (by kernel_rfl) (fun _ _ _ h => h) (Or.inl ⟨by rfl, ?_⟩) (by assumption) ?_
            rotate_left
            · intro w hSw; (try dsimp only at hSw); go_simp <;> (try with_reducible rfl)
            go_frame
            refine wpAnyH_done (by kernel_rfl) ?_ _
            obtain ⟨V, hV⟩ : ∃ V, V = w5.alloc (.cells #[.slice D1 M1 G1, .slice D2 M2 G2, .slice D3 M3 G3, .slice D4 M4 G4, .int .i64 z1, .int .i64 z2, .int .i64 z3, .int .i64 z4, .int .i64 z5, .int .i64 z6, .int .i64 z7] 29) := ⟨_, rfl⟩
            rw [← hV]
            have hY : Hid (V.heap[w5.heap.size]? = some (.cells #[.slice D1 M1 G1, .slice D2 M2 G2, .slice D3 M3 G3, .slice D4 M4 G4, .int .i64 z1, .int .i64 z2, .int .i64 z3, .int .i64 z4, .int .i64 z5, .int .i64 z6, .int .i64 z7] 29 (0, 0))) := (by rw [hV]; exact heap_alloc_new _ _ : _ = _)
            have hbV : Hid (Below wr.heap.size wr V) := (by rw [hV]; exact b5.alloc b5.size _ : Below _ _ _)
            have hXV : Hid (XIn (w.heap.size + 1) yb w.heap.size w.heap.size V D1 M1 G1 D2 M2 G2 D3 M3 G3 D4 M4 G4 ⟨ys, ym, yt, yk, z1, z2, z3, z4, z5, z6, z7⟩) := (hx5.below (by rw [hV]; exact below_alloc _ _) : XIn _ _ _ _ _ _ _ _ _ _ _ _ _ _ _ _ _ _)
            clear hV
            go_wp2_with fail
            go_meet
            case rel => exact ⟨D1, M1, G1, D2, M2, G2, D3, M3, G3, D4, M4, G4, w5.heap.size, rfl, rfl, hY, hXV, hbV⟩
          · skip
            go_simp
            refine hK.out _ _ (HV.out _ (below_alloc _ _).drew) (fun hHeld => ?_)
            clear hK K
            refine wpAnyH_ready (rs := [5]) (by kernel_rfl) (by simp) ?_
            refine AllReadyH.cons rfl (fun K hK => ?_) AllReadyH.nil
            go_simp; go_at_call 36; refine (hdB _ rfl).mono ?_; rintro e w5 ⟨D1, M1, G1, D2, M2, G2, D3, M3, G3, D4, M4, G4, rfl, hx5, h5⟩; have bz : Below wr.heap.size wr (wr.alloc (.cells #[.slice none 0 0, .slice none 0 0, .slice none 0 0, .slice none 0 0, .int .i64 0, .int .i64 0, .int .i64 0, .int .i64 0, .int .i64 0, .int .i64 0, .int .i64 0] 29)).drew := (below_alloc _ _).drew; have b5 : Below wr.heap.size wr w5 := bz.trans (h5.mono bz.size); have zz5 := (h5.block _ (ob_ltB zB)).trans zB; have zc0 := (blkc zz5).1 0; have zf0 := (blkc zz5).2 0; have zc1 := (blkc zz5).1 1; have zf1 := (blkc zz5).2 1; have zc2 := (blkc zz5).1 2; have zf2 := (blkc zz5).2 2; have zc3 := (blkc zz5).1 3; have zf3 := (blkc zz5).2 3; have zc4 := (blkc zz5).1 4; have zf4 := (blkc zz5).2 4; have zc5 := (blkc zz5).1 5; have zf5 := (blkc zz5).2 5; have zc6 := (blkc zz5).1 6; have zf6 := (blkc zz5).2 6; have zc7 := (blkc zz5).1 7; have zf7 := (blkc zz5).2 7; have zc8 := (blkc zz5).1 8; have zf8 := (blkc zz5).2 8; have zc9 := (blkc zz5).1 9; have zf9 := (blkc zz5).2 9; have zc10 := (blkc zz5).1 10; have zf10 := (blkc zz5).2 10
            refine hK.out _ _ (HV.out _ b5) (fun hHeld => ?_)
            clear hK K
            try go_frame
            refine wpAnyH_take (i := 6) (oi := ⟨some 15, _, _, _, _, _⟩) (v := ?_) rfl (by kernel_rfl) (by kernel_rfl) (by kernel_rfl) (fun _ _ _ h => h) (Or.inl ⟨by rfl, ?_⟩) (by assumption) ?_
            rotate_left
            · intro w hSw; (try dsimp only at hSw); go_simp <;> (try with_reducible rfl)
            go_frame
            refine wpAnyH_take (i := 7) (oi := ⟨some 22, _, _, _, _, _⟩) (v := ?_) rfl (by kernel_rfl) (by kernel_rfl) (by kernel_rfl) (fun _ _ _ h => h) (Or.inl ⟨by rfl, ?_⟩) (by assumption) ?_
            rotate_left
            · intro w hSw; (try dsimp only at hSw); go_simp <;> (try with_reducible rfl)
            go_frame
            refine wpAnyH_take (i := 8) (oi := ⟨some 23, _, _, _, _, _⟩) (v := ?_) rfl (by kernel_rfl) (by kernel_rfl) (by kernel_rfl) (fun _ _ _ h => h) (Or.inl ⟨by rfl, ?_⟩) (by assumption) ?_
            rotate_left
            · intro w hSw; (try dsimp only at hSw); go_simp <;> (try with_reducible rfl)
            go_frame
            refine wpAnyH_ready (rs := [10]) (by kernel_rfl) (by simp) ?_
            refine AllReadyH.cons rfl (fun K hK => ?_) AllReadyH.nil
            go_simp
            refine hK.out _ _ (HV.out _ (below_grownB b5 (turned_setL wr.heap.size [.slice D1 M1 G1, .slice D2 M2 G2, .slice D3 M3 G3, .slice D4 M4 G4, .int .i64 z1, .int .i64 z2, .int .i64 z3, .int .i64 z4, .int .i64 z5, .int .i64 z6, .int .i64 z7] 0 w5) b5.size (fun q hq => by cases hq; exact Nat.le_refl _))) (fun hHeld => ?_)
            clear hK K
            refine wpAnyH_take (i := 11) (oi := ⟨some 8, _, _, _, _, _⟩) (v := ?_) rfl (by kernel_rfl) (by kernel_rfl) (by kernel_rfl) (fun _ _ _ h => h) (Or.inl ⟨by rfl, ?_⟩) (by assumption) ?_
            rotate_left
            · intro w hSw; (try dsimp only at hSw); go_simp <;> (try with_reducible rfl)
            go_frame
            refine wpAnyH_done (by kernel_rfl) ?_ _
            have Y10 : (((((((((((w5.setCell ⟨wr.heap.size, 0, none⟩ (.slice D1 M1 G1)).setCell ⟨wr.heap.size, 1, none⟩ (.slice D2 M2 G2)).setCell ⟨wr.heap.size, 2, none⟩ (.slice D3 M3 G3)).setCell ⟨wr.heap.size, 3, none⟩ (.slice D4 M4 G4)).setCell ⟨wr.heap.size, 4, none⟩ (.int .i64 z1)).setCell ⟨wr.heap.size, 5, none⟩ (.int .i64 z2)).setCell ⟨wr.heap.size, 6, none⟩ (.int .i64 z3)).setCell ⟨wr.heap.size, 7, none⟩ (.int .i64 z4)).setCell ⟨wr.heap.size, 8, none⟩ (.int .i64 z5)).setCell ⟨wr.heap.size, 9, none⟩ (.int .i64 z6)).setCell ⟨wr.heap.size, 10, none⟩ (.int .i64 z7)).heap[wr.heap.size]? = some (.cells #[.slice D1 M1 G1, .slice D2 M2 G2, .slice D3 M3 G3, .slice D4 M4 G4, .int .i64 z1, .int .i64 z2, .int .i64 z3, .int .i64 z4, .int .i64 z5, .int .i64 z6, .int .i64 z7] 29 (0, 0)) := bput_new [.slice D1 M1 G1, .slice D2 M2 G2, .slice D3 M3 G3, .slice D4 M4 G4, .int .i64 z1, .int .i64 z2, .int .i64 z3, .int .i64 z4, .int .i64 z5, .int .i64 z6, .int .i64 z7] zz5 rfl
            have hgz : w5.grownBy (((((((((((w5.setCell ⟨wr.heap.size, 0, none⟩ (.slice D1 M1 G1)).setCell ⟨wr.heap.size, 1, none⟩ (.slice D2 M2 G2)).setCell ⟨wr.heap.size, 2, none⟩ (.slice D3 M3 G3)).setCell ⟨wr.heap.size, 3, none⟩ (.slice D4 M4 G4)).setCell ⟨wr.heap.size, 4, none⟩ (.int .i64 z1)).setCell ⟨wr.heap.size, 5, none⟩ (.int .i64 z2)).setCell ⟨wr.heap.size, 6, none⟩ (.int .i64 z3)).setCell ⟨wr.heap.size, 7, none⟩ (.int .i64 z4)).setCell ⟨wr.heap.size, 8, none⟩ (.int .i64 z5)).setCell ⟨wr.heap.size, 9, none⟩ (.int .i64 z6)).setCell ⟨wr.heap.size, 10, none⟩ (.int .i64 z7)) (some (wr.heap.size)) := turned_setL (wr.heap.size) [.slice D1 M1 G1, .slice D2 M2 G2, .slice D3 M3 G3, .slice D4 M4 G4, .int .i64 z1, .int .i64 z2, .int .i64 z3, .int .i64 z4, .int .i64 z5, .int .i64 z6, .int .i64 z7] 0 w5
            have hbV0 : Below wr.heap.size wr (((((((((((w5.setCell ⟨wr.heap.size, 0, none⟩ (.slice D1 M1 G1)).setCell ⟨wr.heap.size, 1, none⟩ (.slice D2 M2 G2)).setCell ⟨wr.heap.size, 2, none⟩ (.slice D3 M3 G3)).setCell ⟨wr.heap.size, 3, none⟩ (.slice D4 M4 G4)).setCell ⟨wr.heap.size, 4, none⟩ (.int .i64 z1)).setCell ⟨wr.heap.size, 5, none⟩ (.int .i64 z2)).setCell ⟨wr.heap.size, 6, none⟩ (.int .i64 z3)).setCell ⟨wr.heap.size, 7, none⟩ (.int .i64 z4)).setCell ⟨wr.heap.size, 8, none⟩ (.int .i64 z5)).setCell ⟨wr.heap.size, 9, none⟩ (.int .i64 z6)).setCell ⟨wr.heap.size, 10, none⟩ (.int .i64 z7)) := below_grownB b5 hgz b5.size (fun q hq => by cases hq; exact Nat.le_refl _)
            have hX0 : XIn (w.heap.size + 1) yb w.heap.size w.heap.size (((((((((((w5.setCell ⟨wr.heap.size, 0, none⟩ (.slice D1 M1 G1)).setCell ⟨wr.heap.size, 1, none⟩ (.slice D2 M2 G2)).setCell ⟨wr.heap.size, 2, none⟩ (.slice D3 M3 G3)).setCell ⟨wr.heap.size, 3, none⟩ (.slice D4 M4 G4)).setCell ⟨wr.heap.size, 4, none⟩ (.int .i64 z1)).setCell ⟨wr.heap.size, 5, none⟩ (.int .i64 z2)).setCell ⟨wr.heap.size, 6, none⟩ (.int .i64 z3)).setCell ⟨wr.heap.size, 7, none⟩ (.int .i64 z4)).setCell ⟨wr.heap.size, 8, none⟩ (.int .i64 z5)).setCell ⟨wr.heap.size, 9, none⟩ (.int .i64 z6)).setCell ⟨wr.heap.size, 10, none⟩ (.int .i64 z7)) D1 M1 G1 D2 M2 G2 D3 M3 G3 D4 M4 G4 ⟨ys, ym, yt, yk, z1, z2, z3, z4, z5, z6, z7⟩ := hx5.one hgz
            obtain ⟨V, hV⟩ : ∃ V, V = (((((((((((w5.setCell ⟨wr.heap.size, 0, none⟩ (.slice D1 M1 G1)).setCell ⟨wr.heap.size, 1, none⟩ (.slice D2 M2 G2)).setCell ⟨wr.heap.size, 2, none⟩ (.slice D3 M3 G3)).setCell ⟨wr.heap.size, 3, none⟩ (.slice D4 M4 G4)).setCell ⟨wr.heap.size, 4, none⟩ (.int .i64 z1)).setCell ⟨wr.heap.size, 5, none⟩ (.int .i64 z2)).setCell ⟨wr.heap.size, 6, none⟩ (.int .i64 z3)).setCell ⟨wr.heap.size, 7, none⟩ (.int .i64 z4)).setCell ⟨wr.heap.size, 8, none⟩ (.int .i64 z5)).setCell ⟨wr.heap.size, 9, none⟩ (.int .i64 z6)).setCell ⟨wr.heap.size, 10, none⟩ (.int .i64 z7)) := ⟨_, rfl⟩
            rw [← hV]
            rw [← hV] at hbV0 hX0 Y10
            have hY : Hid (V.heap[wr.heap.size]? = some (.cells #[.slice D1 M1 G1, .slice D2 M2 G2, .slice D3 M3 G3, .slice D4 M4 G4, .int .i64 z1, .int .i64 z2, .int .i64 z3, .int .i64 z4, .int .i64 z5, .int .i64 z6, .int .i64 z7] 29 (0, 0))) := Y10
            have hbV : Hid (Below wr.heap.size wr V) := hbV0
            have hXV : Hid (XIn (w.heap.size + 1) yb w.heap.size w.heap.size V D1 M1 G1 D2 M2 G2 D3 M3 G3 D4 M4 G4 ⟨ys, ym, yt, yk, z1, z2, z3, z4, z5, z6, z7⟩) := hX0
            clear hV hgz hbV0 hX0
            go_wp2_with fail
            go_meet
            case rel => exact ⟨D1, M1, G1, D2, M2, G2, D3, M3, G3, D4, M4, G4, wr.heap.size, rfl, rfl, hY, hXV, hbV⟩
      case rest =>
        clear ca0 ca1 ca2 ca3 ca4 ca5 ca6 ca7 ca8 ca9 ca10 m0 m1 m2 m3 m4 m5 m6 m7 m8 m9 m10 m11 zB HV hi0 hi1 hdA hdB
        obtain ⟨D1, M1, G1, D2, M2, G2, D3, M3, G3, D4, M4, G4, g7, rfl, rfl, hY, hXV, hbV⟩ := hcut
        obtain ⟨V, rfl⟩ : ∃ V, V = wc := ⟨_, rfl⟩
        have hP1 : Hid (V.heap[w.heap.size]? = some (.cells #[.slice A1 N1 C1, .slice A2 N2 C2, .slice A3 N3 C3, .slice A4 N4 C4, .int .i64 y1, .int .i64 y2, .int .i64 y3, .int .i64 y4, .int .i64 y5, .int .i64 y6, .int .i64 y7] 29 (0, 0))) := ((hbV.out.block _ (ob_ltB H1.out)).trans H1.out : _ = _)
        have hZ1 : Hid (V.heap[w.heap.size + 1]? = some (.cells #[.slice none 0 0, .slice none 0 0, .slice none 0 0, .slice none 0 0, .int .i64 0, .int .i64 0, .int .i64 0, .int .i64 0, .int .i64 0, .int .i64 0, .int .i64 0] 29 (0, 0))) := ((hbV.out.block _ (ob_ltB HZ.out)).trans HZ.out : _ = _)
        have hBV : Hid (Below w.heap.size w V) := (HB.out.trans (hbV.out.mono HB.out.size) : Below _ _ _)
        have d0 := (blkc hY.out).1 0
        have d1 := (blkc hY.out).1 1
        have d2 := (blkc hY.out).1 2
        have d3 := (blkc hY.out).1 3
        have d4 := (blkc hY.out).1 4
        have d5 := (blkc hY.out).1 5
        have d6 := (blkc hY.out).1 6
        have d7 := (blkc hY.out).1 7
        have d8 := (blkc hY.out).1 8
        have d9 := (blkc hY.out).1 9
        have d10 := (blkc hY.out).1 10
        have e0 := (blkc hP1.out).1 0
        have e1 := (blkc hP1.out).1 1
        have e2 := (blkc hP1.out).1 2
        have e3 := (blkc hP1.out).1 3
        have e4 := (blkc hP1.out).1 4
        have e5 := (blkc hP1.out).1 5
        have e6 := (blkc hP1.out).1 6
        have e7 := (blkc hP1.out).1 7
        have e8 := (blkc hP1.out).1 8
        have e9 := (blkc hP1.out).1 9
        have e10 := (blkc hP1.out).1 10
        have fz0 := (blkc hP1.out).2 0
        have fz1 := (blkc hP1.out).2 1
        have fz2 := (blkc hP1.out).2 2
        have fz3 := (blkc hP1.out).2 3
        have fz4 := (blkc hP1.out).2 4
        have fz5 := (blkc hP1.out).2 5
        have fz6 := (blkc hP1.out).2 6
        have fz7 := (blkc hP1.out).2 7
        have fz8 := (blkc hP1.out).2 8
        have fz9 := (blkc hP1.out).2 9
        have fz10 := (blkc hP1.out).2 10
        go_wp2
        have QQ10 : (((((((((((V.setCell ⟨w.heap.size, 0, none⟩ (.slice D1 M1 G1)).setCell ⟨w.heap.size, 1, none⟩ (.slice D2 M2 G2)).setCell ⟨w.heap.size, 2, none⟩ (.slice D3 M3 G3)).setCell ⟨w.heap.size, 3, none⟩ (.slice D4 M4 G4)).setCell ⟨w.heap.size, 4, none⟩ (.int .i64 z1)).setCell ⟨w.heap.size, 5, none⟩ (.int .i64 z2)).setCell ⟨w.heap.size, 6, none⟩ (.int .i64 z3)).setCell ⟨w.heap.size, 7, none⟩ (.int .i64 z4)).setCell ⟨w.heap.size, 8, none⟩ (.int .i64 z5)).setCell ⟨w.heap.size, 9, none⟩ (.int .i64 z6)).setCell ⟨w.heap.size, 10, none⟩ (.int .i64 z7)).heap[w.heap.size]? = some (.cells #[.slice D1 M1 G1, .slice D2 M2 G2, .slice D3 M3 G3, .slice D4 M4 G4, .int .i64 z1, .int .i64 z2, .int .i64 z3, .int .i64 z4, .int .i64 z5, .int .i64 z6, .int .i64 z7] 29 (0, 0)) := bput_new [.slice D1 M1 G1, .slice D2 M2 G2, .slice D3 M3 G3, .slice D4 M4 G4, .int .i64 z1, .int .i64 z2, .int .i64 z3, .int .i64 z4, .int .i64 z5, .int .i64 z6, .int .i64 z7] hP1.out rfl
        have hgr : V.grownBy (((((((((((V.setCell ⟨w.heap.size, 0, none⟩ (.slice D1 M1 G1)).setCell ⟨w.heap.size, 1, none⟩ (.slice D2 M2 G2)).setCell ⟨w.heap.size, 2, none⟩ (.slice D3 M3 G3)).setCell ⟨w.heap.size, 3, none⟩ (.slice D4 M4 G4)).setCell ⟨w.heap.size, 4, none⟩ (.int .i64 z1)).setCell ⟨w.heap.size, 5, none⟩ (.int .i64 z2)).setCell ⟨w.heap.size, 6, none⟩ (.int .i64 z3)).setCell ⟨w.heap.size, 7, none⟩ (.int .i64 z4)).setCell ⟨w.heap.size, 8, none⟩ (.int .i64 z5)).setCell ⟨w.heap.size, 9, none⟩ (.int .i64 z6)).setCell ⟨w.heap.size, 10, none⟩ (.int .i64 z7)) (some (w.heap.size)) := turned_setL (w.heap.size) [.slice D1 M1 G1, .slice D2 M2 G2, .slice D3 M3 G3, .slice D4 M4 G4, .int .i64 z1, .int .i64 z2, .int .i64 z3, .int .i64 z4, .int .i64 z5, .int .i64 z6, .int .i64 z7] 0 V
        have HZ2 : Hid ((((((((((((V.setCell ⟨w.heap.size, 0, none⟩ (.slice D1 M1 G1)).setCell ⟨w.heap.size, 1, none⟩ (.slice D2 M2 G2)).setCell ⟨w.heap.size, 2, none⟩ (.slice D3 M3 G3)).setCell ⟨w.heap.size, 3, none⟩ (.slice D4 M4 G4)).setCell ⟨w.heap.size, 4, none⟩ (.int .i64 z1)).setCell ⟨w.heap.size, 5, none⟩ (.int .i64 z2)).setCell ⟨w.heap.size, 6, none⟩ (.int .i64 z3)).setCell ⟨w.heap.size, 7, none⟩ (.int .i64 z4)).setCell ⟨w.heap.size, 8, none⟩ (.int .i64 z5)).setCell ⟨w.heap.size, 9, none⟩ (.int .i64 z6)).setCell ⟨w.heap.size, 10, none⟩ (.int .i64 z7)).heap[w.heap.size + 1]? = some (.cells #[.slice none 0 0, .slice none 0 0, .slice none 0 0, .slice none 0 0, .int .i64 0, .int .i64 0, .int .i64 0, .int .i64 0, .int .i64 0, .int .i64 0, .int .i64 0] 29 (0, 0))) := ((hgr.block _ (ob_ltB hZ1.out) (fun e => hpz (Option.some.inj e))).trans hZ1.out : _ = _)
        have HX2 : Hid (XIn (w.heap.size + 1) yb w.heap.size w.heap.size (((((((((((V.setCell ⟨w.heap.size, 0, none⟩ (.slice D1 M1 G1)).setCell ⟨w.heap.size, 1, none⟩ (.slice D2 M2 G2)).setCell ⟨w.heap.size, 2, none⟩ (.slice D3 M3 G3)).setCell ⟨w.heap.size, 3, none⟩ (.slice D4 M4 G4)).setCell ⟨w.heap.size, 4, none⟩ (.int .i64 z1)).setCell ⟨w.heap.size, 5, none⟩ (.int .i64 z2)).setCell ⟨w.heap.size, 6, none⟩ (.int .i64 z3)).setCell ⟨w.heap.size, 7, none⟩ (.int .i64 z4)).setCell ⟨w.heap.size, 8, none⟩ (.int .i64 z5)).setCell ⟨w.heap.size, 9, none⟩ (.int .i64 z6)).setCell ⟨w.heap.size, 10, none⟩ (.int .i64 z7)) D1 M1 G1 D2 M2 G2 D3 M3 G3 D4 M4 G4 ⟨ys, ym, yt, yk, z1, z2, z3, z4, z5, z6, z7⟩) := (hXV.out.go hgr : XIn _ _ _ _ _ _ _ _ _ _ _ _ _ _ _ _ _ _)
        have HB2 : Hid (Below w.heap.size w (((((((((((V.setCell ⟨w.heap.size, 0, none⟩ (.slice D1 M1 G1)).setCell ⟨w.heap.size, 1, none⟩ (.slice D2 M2 G2)).setCell ⟨w.heap.size, 2, none⟩ (.slice D3 M3 G3)).setCell ⟨w.heap.size, 3, none⟩ (.slice D4 M4 G4)).setCell ⟨w.heap.size, 4, none⟩ (.int .i64 z1)).setCell ⟨w.heap.size, 5, none⟩ (.int .i64 z2)).setCell ⟨w.heap.size, 6, none⟩ (.int .i64 z3)).setCell ⟨w.heap.size, 7, none⟩ (.int .i64 z4)).setCell ⟨w.heap.size, 8, none⟩ (.int .i64 z5)).setCell ⟨w.heap.size, 9, none⟩ (.int .i64 z6)).setCell ⟨w.heap.size, 10, none⟩ (.int .i64 z7))) := (below_grownB hBV.out hgr hBV.out.size (fun q hq => by cases hq; exact Nat.le_refl _) : Below _ _ _)
        have H12 : Hid ((((((((((((V.setCell ⟨w.heap.size, 0, none⟩ (.slice D1 M1 G1)).setCell ⟨w.heap.size, 1, none⟩ (.slice D2 M2 G2)).setCell ⟨w.heap.size, 2, none⟩ (.slice D3 M3 G3)).setCell ⟨w.heap.size, 3, none⟩ (.slice D4 M4 G4)).setCell ⟨w.heap.size, 4, none⟩ (.int .i64 z1)).setCell ⟨w.heap.size, 5, none⟩ (.int .i64 z2)).setCell ⟨w.heap.size, 6, none⟩ (.int .i64 z3)).setCell ⟨w.heap.size, 7, none⟩ (.int .i64 z4)).setCell ⟨w.heap.size, 8, none⟩ (.int .i64 z5)).setCell ⟨w.heap.size, 9, none⟩ (.int .i64 z6)).setCell ⟨w.heap.size, 10, none⟩ (.int .i64 z7)).heap[w.heap.size]? = some (.cells #[.slice D1 M1 G1, .slice D2 M2 G2, .slice D3 M3 G3, .slice D4 M4 G4, .int .i64 z1, .int .i64 z2, .int .i64 z3, .int .i64 z4, .int .i64 z5, .int .i64 z6, .int .i64 z7] 29 (0, 0))) := QQ10
        have g0 : V.grownBy V (some (w.heap.size)) := grown_any (Below.refl _ _) _
        have gz : Two (w.heap.size + 1) yb V V := two_refl (Below.refl _ _)
        have q1 := (hXV.out.r1 V V V g0 g0 gz).1; have q2 := (hXV.out.r2 V V V g0 g0 gz).1; have q3 := (hXV.out.r3 V V V g0 g0 gz).1; have q4 := (hXV.out.r4 V V V g0 g0 gz).1
        have u0 : wr.grownBy wr (some (w.heap.size)) := grown_any (Below.refl _ _) _
        have uz : Two (w.heap.size + 1) yb wr wr := two_refl (Below.refl _ _)
        have v1 := (HX.out.r1 wr wr wr u0 u0 uz).1; have v2 := (HX.out.r2 wr wr wr u0 u0 uz).1; have v3 := (HX.out.r3 wr wr wr u0 u0 uz).1; have v4 := (HX.out.r4 wr wr wr u0 u0 uz).1
        have hNN : M1 ≤ k + 1 ∧ M2 ≤ k + 1 ∧ M3 ≤ k + 1 ∧ M4 ≤ k + 1 := by
          obtain ⟨a1, a2, a3, a4⟩ := HNN.out
          have := Ro.step_len HST.out
          dsimp only at q1 q2 q3 q4 v1 v2 v3 v4 this
          omega
        have HNN2 : Hid (M1 ≤ k + 1 ∧ M2 ≤ k + 1 ∧ M3 ≤ k + 1 ∧ M4 ≤ k + 1) := hNN
        clear hNN q1 q2 q3 q4 v1 v2 v3 v4 g0 u0 gz uz hgr d0 e0 fz0 d1 e1 fz1 d2 e2 fz2 d3 e3 fz3 d4 e4 fz4 d5 e5 fz5 d6 e6 fz6 d7 e7 fz7 d8 e8 fz8 d9 e9 fz9 d10 e10 fz10 QQ10
        go_roundg g
        case measure => omega
        case rel => exact ⟨k + 1, ys, ym, yt, yk, D1, M1, G1, D2, M2, G2, D3, M3, G3, D4, M4, G4, z1, z2, z3, z4, z5, z6, z7, by omega, by go_num, HPT2, HNN2, H12, HZ2, HX2, HB2⟩
    | zero =>
      obtain rfl : k = len := by omega
      have hxr : ⟨xs, xm, xt, xk, y1, y2, y3, y4, y5, y6, y7⟩ = r := by
        have hp := HPT.out
        rw [List.drop_of_length_le (by rw [hll.out]; exact Nat.le_refl _)] at hp
        cases hp
        rfl
      subst hxr
      have hin : ∀ W' W, Below wr.heap.size wr W' → Two (w.heap.size + 1) yb W' W → RIn W A1 N1 C1 A2 N2 C2 A3 N3 C3 A4 N4 C4 ⟨xs, xm, xt, xk, y1, y2, y3, y4, y5, y6, y7⟩ := fun W' W hb hgW => by
        have hW : wr.grownBy W' (some (w.heap.size)) := grown_any hb _
        obtain ⟨a1, a2, a3, a4⟩ := HNN.out
        refine ⟨HX.out.r1 W' W' W hW (grown_any (Below.refl _ _) _) hgW, HX.out.r2 W' W' W hW (grown_any (Below.refl _ _) _) hgW, HX.out.r3 W' W' W hW (grown_any (Below.refl _ _) _) hgW, HX.out.r4 W' W' W hW (grown_any (Below.refl _ _) _) hgW, HX.out.z1, HX.out.z2, HX.out.z3, HX.out.z4, by omega, by omega, by omega, by omega, HX.out.k3, fun t ht => ?_⟩
        have ho := (Ro.may_of_check HC.out).tabs.one t ht
        have hf := ho.f
        have hg := ho.g
        simp only [Lv.key, Bool.and_eq_true, decide_eq_true_eq] at hf hg
        omega
      have hmy := rmay17_yes xs xm xt xk A1 N1 C1 A2 N2 C2 A3 N3 C3 A4 N4 C4 y1 y2 y3 y4 y5 y6 y7 wr (hin wr wr (Below.refl _ _) (two_refl (Below.refl _ _))) HC.out
      have HIN : Hid (∀ W' W, Below wr.heap.size wr W' → Two (w.heap.size + 1) yb W' W → RIn W A1 N1 C1 A2 N2 C2 A3 N3 C3 A4 N4 C4 ⟨xs, xm, xt, xk, y1, y2, y3, y4, y5, y6, y7⟩) := (hin : ∀ W' W, _ → _ → _)
      have x0 := (blkc H1.out).1 0
      have x1 := (blkc H1.out).1 1
      have x2 := (blkc H1.out).1 2
      have x3 := (blkc H1.out).1 3
      have x4 := (blkc H1.out).1 4
      have x5 := (blkc H1.out).1 5
      have x6 := (blkc H1.out).1 6
      have x7 := (blkc H1.out).1 7
      have x8 := (blkc H1.out).1 8
      have x9 := (blkc H1.out).1 9
      have x10 := (blkc H1.out).1 10
      clear hin HX HPT HNN
      go_upto_region 10 with (first
        | (go_at_call 12; go_must (refine hmy.mono ?_; rintro e w5 ⟨rfl, h5⟩)))
      have hP1 := (h5.block _ (ob_ltB H1.out)).trans H1.out
      have hZ1 := (h5.block _ (ob_ltB HZ.out)).trans HZ.out
      have hb5 := HB.out.trans (h5.mono HB.out.size)
      clear x0 x1 x2 x3 x4 x5 x6 x7 x8 x9 x10
      have d0 := (blkc hP1).1 0
      have d1 := (blkc hP1).1 1
      have d2 := (blkc hP1).1 2
      have d3 := (blkc hP1).1 3
      have d4 := (blkc hP1).1 4
      have d5 := (blkc hP1).1 5
      have d6 := (blkc hP1).1 6
      have d7 := (blkc hP1).1 7
      have d8 := (blkc hP1).1 8
      have d9 := (blkc hP1).1 9
      have d10 := (blkc hP1).1 10
      have e0 := (blkc hZ1).1 0
      have e1 := (blkc hZ1).1 1
      have e2 := (blkc hZ1).1 2
      have e3 := (blkc hZ1).1 3
      have e4 := (blkc hZ1).1 4
      have e5 := (blkc hZ1).1 5
      have e6 := (blkc hZ1).1 6
      have e7 := (blkc hZ1).1 7
      have e8 := (blkc hZ1).1 8
      have e9 := (blkc hZ1).1 9
      have e10 := (blkc hZ1).1 10
      have fz0 := (blkc hZ1).2 0
      have fz1 := (blkc hZ1).2 1
      have fz2 := (blkc hZ1).2 2
      have fz3 := (blkc hZ1).2 3
      have fz4 := (blkc hZ1).2 4
      have fz5 := (blkc hZ1).2 5
      have fz6 := (blkc hZ1).2 6
      have fz7 := (blkc hZ1).2 7
      have fz8 := (blkc hZ1).2 8
      have fz9 := (blkc hZ1).2 9
      have fz10 := (blkc hZ1).2 10
      go_wp2
      have B10 : (((((((((((w5.setCell ⟨w.heap.size + 1, 0, none⟩ (.slice A1 N1 C1)).setCell ⟨w.heap.size + 1, 1, none⟩ (.slice A2 N2 C2)).setCell ⟨w.heap.size + 1, 2, none⟩ (.slice A3 N3 C3)).setCell ⟨w.heap.size + 1, 3, none⟩ (.slice A4 N4 C4)).setCell ⟨w.heap.size + 1, 4, none⟩ (.int .i64 y1)).setCell ⟨w.heap.size + 1, 5, none⟩ (.int .i64 y2)).setCell ⟨w.heap.size + 1, 6, none⟩ (.int .i64 y3)).setCell ⟨w.heap.size + 1, 7, none⟩ (.int .i64 y4)).setCell ⟨w.heap.size + 1, 8, none⟩ (.int .i64 y5)).setCell ⟨w.heap.size + 1, 9, none⟩ (.int .i64 y6)).setCell ⟨w.heap.size + 1, 10, none⟩ (.int .i64 y7)).heap[w.heap.size + 1]? = some (.cells #[.slice A1 N1 C1, .slice A2 N2 C2, .slice A3 N3 C3, .slice A4 N4 C4, .int .i64 y1, .int .i64 y2, .int .i64 y3, .int .i64 y4, .int .i64 y5, .int .i64 y6, .int .i64 y7] 29 (0, 0)) := bput_new [.slice A1 N1 C1, .slice A2 N2 C2, .slice A3 N3 C3, .slice A4 N4 C4, .int .i64 y1, .int .i64 y2, .int .i64 y3, .int .i64 y4, .int .i64 y5, .int .i64 y6, .int .i64 y7] hZ1 rfl
      have hgr : w5.grownBy (((((((((((w5.setCell ⟨w.heap.size + 1, 0, none⟩ (.slice A1 N1 C1)).setCell ⟨w.heap.size + 1, 1, none⟩ (.slice A2 N2 C2)).setCell ⟨w.heap.size + 1, 2, none⟩ (.slice A3 N3 C3)).setCell ⟨w.heap.size + 1, 3, none⟩ (.slice A4 N4 C4)).setCell ⟨w.heap.size + 1, 4, none⟩ (.int .i64 y1)).setCell ⟨w.heap.size + 1, 5, none⟩ (.int .i64 y2)).setCell ⟨w.heap.size + 1, 6, none⟩ (.int .i64 y3)).setCell ⟨w.heap.size + 1, 7, none⟩ (.int .i64 y4)).setCell ⟨w.heap.size + 1, 8, none⟩ (.int .i64 y5)).setCell ⟨w.heap.size + 1, 9, none⟩ (.int .i64 y6)).setCell ⟨w.heap.size + 1, 10, none⟩ (.int .i64 y7)) (some (w.heap.size + 1)) := turned_setL (w.heap.size + 1) [.slice A1 N1 C1, .slice A2 N2 C2, .slice A3 N3 C3, .slice A4 N4 C4, .int .i64 y1, .int .i64 y2, .int .i64 y3, .int .i64 y4, .int .i64 y5, .int .i64 y6, .int .i64 y7] 0 w5
      have hbF := below_grownB hb5 hgr hb5.size (fun q hq => by cases hq; omega)
      have hrF : ∀ W, World.grownBy (((((((((((w5.setCell ⟨w.heap.size + 1, 0, none⟩ (.slice A1 N1 C1)).setCell ⟨w.heap.size + 1, 1, none⟩ (.slice A2 N2 C2)).setCell ⟨w.heap.size + 1, 2, none⟩ (.slice A3 N3 C3)).setCell ⟨w.heap.size + 1, 3, none⟩ (.slice A4 N4 C4)).setCell ⟨w.heap.size + 1, 4, none⟩ (.int .i64 y1)).setCell ⟨w.heap.size + 1, 5, none⟩ (.int .i64 y2)).setCell ⟨w.heap.size + 1, 6, none⟩ (.int .i64 y3)).setCell ⟨w.heap.size + 1, 7, none⟩ (.int .i64 y4)).setCell ⟨w.heap.size + 1, 8, none⟩ (.int .i64 y5)).setCell ⟨w.heap.size + 1, 9, none⟩ (.int .i64 y6)).setCell ⟨w.heap.size + 1, 10, none⟩ (.int .i64 y7)) W (some yb) → RIn W A1 N1 C1 A2 N2 C2 A3 N3 C3 A4 N4 C4 ⟨xs, xm, xt, xk, y1, y2, y3, y4, y5, y6, y7⟩ := fun W hW => HIN.out _ _ h5 ⟨_, hgr, hW⟩
      have u0 := (blkc B10).1 0
      have u1 := (blkc B10).1 1
      have u2 := (blkc B10).1 2
      have u3 := (blkc B10).1 3
      have u4 := (blkc B10).1 4
      have u5 := (blkc B10).1 5
      have u6 := (blkc B10).1 6
      have u7 := (blkc B10).1 7
      have u8 := (blkc B10).1 8
      have u9 := (blkc B10).1 9
      have u10 := (blkc B10).1 10
      refine bodyPost_ret (v := .tuple #[.agg #[.slice A1 N1 C1, .slice A2 N2 C2, .slice A3 N3 C3, .slice A4 N4 C4, .int .i64 y1, .int .i64 y2, .int .i64 y3, .int .i64 y4, .int .i64 y5, .int .i64 y6, .int .i64 y7], .bool true]) (by simp [results, Tryz.results15, go_sem, u0, u1, u2, u3, u4, u5, u6, u7, u8, u9, u10]) rfl ⟨A1, N1, C1, A2, N2, C2, A3, N3, C3, A4, N4, C4, rfl, hrF, hbF⟩

end Go.Proofs.YtmodogmjfbcddaaGreat
