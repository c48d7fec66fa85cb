/- What slices.SortFunc over shares does: by the kit's contract, laid at this program. -/
import Derived.Test.YtfeaablomceejaaTB3
import Derived.Test.YtfeaablomceejaaLay
import Derived.Shelf.SlSortCmp.NoneTotal
namespace Go.Proofs.Ytfeaablomceejaa
open Go.RowKit

theorem flat_cells (l : List Ta.S) : (Go.Sort.flatK se 2 l.toArray).toList = tcells se l := by
  apply List.ext_getElem?
  intro t
  by_cases ht : t < l.length * 2
  · have h1 : t / 2 < l.length := by omega
    have e1 : t = t / 2 * 2 + t % 2 := by omega
    have e2 := tcells_get (d := (0, 0)) seE l (t / 2) (t % 2) h1 (by omega)
    rw [← e1] at e2
    rw [e2]
    have hsz : t < (Go.Sort.flatK se 2 l.toArray).size := by rw [Go.Sort.size_flatK]; simpa using ht
    have e3 := Go.Sort.get_flatK se 2 l.toArray t (by simpa using ht)
    rw [getElem!_pos _ t hsz] at e3
    rw [List.getElem?_eq_getElem (by simpa using ht), Array.getElem_toList, e3]
    have e4 : l.toArray[t / 2]! = l.getD (t / 2) (0, 0) := by
      rw [getElem!_pos _ _ (by simpa using h1)]; simp [h1]
    rw [e4]
    have h2 : t % 2 < (se (l.getD (t / 2) (0, 0))).length := by show t % 2 < 2; omega
    rw [getElem!_pos (se (l.getD (t / 2) (0, 0))) (t % 2) h2, List.getElem?_eq_getElem h2]
  · rw [List.getElem?_eq_none (by simpa using ht), List.getElem?_eq_none (by rw [tcells_length seE]; omega)]
theorem holds_own {w : World} {B g n c : Nat} {l : List Ta.S} (h : w.ownsRow B 47 2 (.slice (some ⟨g, 0, none⟩) n c) n (tcells se l)) : Go.Sort.HoldsK se 2 w g 0 l.toArray := by
  intro t ht
  have hl : t < (tcells se l).length := by rw [← flat_cells]; simpa using ht
  have e : (Go.Sort.flatK se 2 l.toArray)[t]! = (tcells se l)[t] := by
    rw [getElem!_pos _ t ht, ← Array.getElem_toList]
    simp only [flat_cells]
  have := own_cells h (j := t) (v := (tcells se l)[t]) (List.getElem?_eq_getElem hl)
  rw [Nat.zero_add]
  refine ⟨?_, this.2⟩
  rw [this.1, ← e]; rfl
theorem take_put (cur F : Array Value) (hF : F.size ≤ cur.size) : (Go.Sort.putCells id 0 F cur).toList.take F.size = F.toList := by
  apply List.ext_getElem
  · simp [Go.Sort.putCells]; omega
  · intro t h1 h2
    have h3 : t < F.size := by simpa using h2
    rw [List.getElem_take, Array.getElem_toList]
    simp only [Go.Sort.putCells, Array.getElem_mapIdx, Nat.zero_le, Nat.zero_add, h3, and_self, if_true, Nat.sub_zero, id]
    rw [getElem!_pos _ t h3, Array.getElem_toList]
theorem own_sorted {w : World} {B g n c m : Nat} {os : Array Obj} {l d : List Ta.S} (hl : d.length = l.length) (h : w.ownsRow B 47 2 (.slice (some ⟨g, 0, none⟩) n c) n (tcells se l)) :
    (sortWorldK se 2 w g 0 m d.toArray os).ownsRow B 47 2 (.slice (some ⟨g, 0, none⟩) n c) n (tcells se d) := by
  obtain ⟨h1, h2⟩ := h
  rw [tcells_length seE] at h1
  refine ⟨by rw [tcells_length seE, hl]; exact h1, ?_⟩
  rcases h2 with ⟨e, _⟩ | ⟨g', cap, cur, e, hB, hg, hn, hm, hs, ht⟩
  · cases e
  · simp only [Value.slice.injEq, Option.some.injEq, Addr.mk.injEq] at e
    obtain ⟨⟨rfl, _⟩, _, rfl⟩ := e
    have hlt : g < w.heap.size := (Array.getElem?_eq_some_iff.1 hg).1
    refine .inr ⟨g, c, Go.Sort.putCells id 0 (Go.Sort.flatK se 2 d.toArray) cur, rfl, hB, ?_, hn, hm, by simpa [Go.Sort.putCells] using hs, ?_⟩
    · unfold sortWorldK Go.Sort.putRowK Go.Sort.putRow Go.Sort.mapBlock
      rw [Go.Sort.heap_grow_old _ _ (by simpa [Go.Sort.ahead] using hlt)]
      simp only [Go.Sort.ahead, Array.getElem?_modify, hg, if_true, Option.map_some, Go.Sort.onCells]
    · have hF : (Go.Sort.flatK se 2 d.toArray).size = n * 2 := by rw [Go.Sort.size_flatK]; simp; omega
      rw [← hF, take_put _ _ (by rw [hF, hs]; omega), flat_cells]
theorem below_sorted {w : World} {B g m : Nat} {os : Array Obj} {d : Array Ta.S} (hg : B ≤ g) (hB : B ≤ w.heap.size) : Below B w (sortWorldK se 2 w g 0 m d os) := by
  unfold sortWorldK Go.Sort.putRowK Go.Sort.putRow Go.Sort.mapBlock
  refine ⟨rfl, rfl, rfl, by simp [Go.Sort.ahead], fun k hk => ?_⟩
  rw [Go.Sort.heap_grow_old _ _ (by simp [Go.Sort.ahead]; omega)]
  simp only [Go.Sort.ahead, Array.getElem?_modify]
  rw [if_neg (by omega)]

theorem lt_seg (x y : Ta.S) : ltOf (fun x y : Ta.S => icmp x.1 y.1) x y = decide (x.1 < y.1) := by
  unfold ltOf
  congr 1
  exact propext icmp_neg
theorem swo_seg : Go.Sort.SWO (ltOf fun x y : Ta.S => icmp x.1 y.1) where
  irrefl x := by rw [lt_seg]; simp
  trans x y z h1 h2 := by rw [lt_seg] at *; simp at *; omega
  ntrans x y z h1 h2 := by rw [lt_seg] at *; simp at *; omega

theorem tsort_any (a : Option Addr) (n c B : Nat) (l : List Ta.S) (w : World) (hn : n ≤ 1000000) (hown : w.ownsRow B 47 2 (.slice a n c) n (tcells se l)) (hB : B ≤ w.heap.size) :
    Calls Try.prog 32 #[.slice a n c, tcmpv] w fun e w' => ∃ d, e = .returned (.tuple #[]) ∧ l.Perm d ∧ Ta.Asc d ∧ w'.ownsRow B 47 2 (.slice a n c) n (tcells se d) ∧ Below B w w' := by
  have hl : l.length = n := by have := hown.1; rw [tcells_length seE] at this; omega
  rcases Nat.eq_zero_or_pos n with h0 | h0
  · subst h0
    obtain rfl : l = [] := List.length_eq_zero_iff.mp hl
    have hcon := AnyF.slices_SortFunc_none Try.sortSh a c tcmpv w
    change Calls Try.prog 32 _ _ _ at hcon
    refine hcon.mono ?_
    rintro e w' ⟨rfl, rfl⟩
    exact ⟨[], rfl, List.Perm.refl _, List.Pairwise.nil, hown, Below.refl _ _⟩
  · obtain ⟨g, rfl⟩ : ∃ g, a = some ⟨g, 0, none⟩ := by
      rcases hown.2 with ⟨_, h⟩ | ⟨g', cap, cur, e, _⟩
      · omega
      · simp only [Value.slice.injEq] at e
        exact ⟨g', e.1⟩
    obtain ⟨hg1, hg2⟩ := own_lt hown
    have eg : ∀ args w, (callFunc 33 args).run Try.prog w = .ok (.enter 33 args) w := enters_of Try.func33 (by kernel_rfl) rfl
    have hcmp : CmpLays Try.prog 33 #[] se 2 (fun x y : Ta.S => icmp x.1 y.1) g 0 l.toArray.size w := fun m os dk _ x y => by
      refine (tcompare_any x y _).mono ?_
      rintro e w' ⟨rfl, rfl⟩
      exact ⟨rfl, 0, _, by rw [Go.Sort.alloc_eq_grow, Go.Sort.alloc_eq_grow, Go.Sort.grow_grow]; rfl⟩
    have hcon := AnyQ.slices_SortFunc Try.sortSh 2 Try.isAgg47 Try.sizeOf47 se seE.len seE.one (fun x y : Ta.S => icmp x.1 y.1) swo_seg 33 #[] g 0 c l.toArray w eg hcmp (holds_own hown) hg1 (by simp; omega)
    change Calls Try.prog 32 _ _ _ at hcon
    rw [show l.toArray.size = n by simpa using hl] at hcon
    refine hcon.mono ?_
    rintro e w' ⟨rfl, d', m, os, hp, hs, rfl⟩
    obtain ⟨p1, p2, p3⟩ := hp
    have hd : d'.toList.length = l.length := by simpa using p1
    have e0 : d' = d'.toList.toArray := by simp
    have hperm : l.Perm d'.toList := by
      have q1 : (d'.extract 0 n) = d' := by rw [show n = d'.size by rw [p1]; simp; omega]; simp
      have q2 : (l.toArray.extract 0 n) = l.toArray := by rw [show n = l.toArray.size by simp; omega]; simp
      rw [q1, q2] at p3
      simpa using p3.symm
    refine ⟨d'.toList, rfl, hperm, ?_, ?_, below_sorted hg2 hB⟩
    · rw [Ta.Asc, List.pairwise_iff_getElem]
      intro i j hi hj hij
      have := hs i j (Nat.zero_le _) hij (by simp at hj; rw [p1] at hj; simp at hj; omega)
      rw [lt_seg, decide_eq_false_iff_not, getElem!_pos d' j (by simpa using hj), getElem!_pos d' i (by simpa using hi)] at this
      simp only [Array.getElem_toList]
      omega
    · have := own_sorted (m := m) (os := os) hd hown
      rw [← e0] at this
      exact this
end Go.Proofs.Ytfeaablomceejaa
