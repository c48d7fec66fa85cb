/- Tables in the order of reading: the program's. -/
import Derived.Test.YtghgolpofafjmaaLC
import Derived.Shelf.SlSortCmp.NoneTotal
namespace Go.Proofs.Ytghgolpofafjmaa
open Go.RowKit

instance : Inhabited Lv.T := ⟨Lv.zero⟩
/-- a new row of tables -/
def LRes (w : World) (l : List Lv.T) (e : Ending) (w' : World) : Prop := ∃ g c, e = .returned (.slice g l.length c) ∧ w'.ownsRow w.heap.size 30 5 (.slice g l.length c) l.length (tcells le l) ∧ Below w.heap.size w w'

set_option maxRecDepth 100000 in
set_option maxHeartbeats 400000 in
theorem lclone_any (a : Option Addr) (n c : Nat) (l : List Lv.T) (w : World) (hn : n ≤ 1000000) (hr : LRow w a n l) (hnil : a = none → n = 0 ∧ c = 0) :
    Calls Try.prog 34 #[.slice a n c] w (LRes w l) := by
  obtain rfl := hr.1
  cases a with
  | none =>
    obtain ⟨h0, rfl⟩ := hnil rfl
    obtain rfl : l = [] := List.length_eq_zero_iff.mp h0
    go_enter Try.func34, Try.ntmps34
    go_wp2_with fail
    rw [Lib.run_eql_slice_nil _ 22 30 none _ 0 0 0 Try.underlying22]
    go_wp2
    go_ret
    exact ⟨none, 0, rfl, ⟨rfl, .inl ⟨rfl, rfl⟩⟩, Below.refl _ _⟩
  | some p =>
    have hr2 := hr.below (below_alloc w (.cells #[] 30)) (Nat.le_refl _)
    have hm0 := made_t (s := 5) (enc := le) w (B := w.heap.size) (E := 30) (Nat.le_refl _) rfl
    obtain ⟨n, hn'⟩ : ∃ n, n = l.length := ⟨_, rfl⟩
    rw [← hn'] at hr hr2 hn ⊢
    have HN : Hid (n = l.length) := hn'
    clear hn' hnil
    go_enter Try.func34, Try.ntmps34
    go_wp2_with fail
    rw [Lib.run_eql_slice_nil _ 22 30 (some p) n c 0 0 Try.underlying22]
    go_wp2_with (at_builtin; go_must (refine append_t tabE leE (w0 := w) (B := w.heap.size) rfl (.tmp 5) (.tmp 6) rfl _ 0 [] rfl hm0 (some p) n c l rfl hr2 (fun h => by cases h) (by omega) (below_alloc _ _) (by simp) ?_; intro A C w2 _ _ _ hown2 hbel2 _))
    rw [Nat.zero_add, List.nil_append] at hown2
    go_ret
    obtain rfl := HN.out
    exact ⟨A, C, rfl, hown2, hbel2⟩

theorem flat_cells (l : List Lv.T) : (Go.Sort.flatK le 5 l.toArray).toList = tcells le l := by
  apply List.ext_getElem?
  intro t
  by_cases ht : t < l.length * 5
  · have h1 : t / 5 < l.length := by omega
    have e1 : t = t / 5 * 5 + t % 5 := by omega
    have e2 := tcells_get (d := Lv.zero) leE l (t / 5) (t % 5) h1 (by omega)
    rw [← e1] at e2
    rw [e2]
    have hsz : t < (Go.Sort.flatK le 5 l.toArray).size := by rw [Go.Sort.size_flatK]; simpa using ht
    have e3 := Go.Sort.get_flatK le 5 l.toArray t (by simpa using ht)
    rw [getElem!_pos _ t hsz] at e3
    rw [List.getElem?_eq_getElem (by simpa using ht), Array.getElem_toList, e3]
    have e4 : l.toArray[t / 5]! = l.getD (t / 5) Lv.zero := by
      rw [getElem!_pos _ _ (by simpa using h1)]; simp [h1]
    rw [e4]
    have h2 : t % 5 < (le (l.getD (t / 5) Lv.zero)).length := by show t % 5 < 5; omega
    rw [getElem!_pos (le (l.getD (t / 5) Lv.zero)) (t % 5) h2, List.getElem?_eq_getElem h2]
  · rw [List.getElem?_eq_none (by simpa using ht), List.getElem?_eq_none (by rw [tcells_length leE]; omega)]
theorem holds_own {w : World} {B g n c : Nat} {l : List Lv.T} (h : w.ownsRow B 30 5 (.slice (some ⟨g, 0, none⟩) n c) n (tcells le l)) : Go.Sort.HoldsK le 5 w g 0 l.toArray := by
  intro t ht
  have hl : t < (tcells le l).length := by rw [← flat_cells]; simpa using ht
  have e : (Go.Sort.flatK le 5 l.toArray)[t]! = (tcells le l)[t] := by
    rw [getElem!_pos _ t ht, ← Array.getElem_toList]
    simp only [flat_cells]
  have := own_cells h (j := t) (v := (tcells le l)[t]) (List.getElem?_eq_getElem hl)
  rw [Nat.zero_add]
  refine ⟨?_, this.2⟩
  rw [this.1, ← e]; rfl
theorem take_put (cur F : Array Value) (hF : F.size ≤ cur.size) : (Go.Sort.putCells id 0 F cur).toList.take F.size = F.toList := by
  apply List.ext_getElem
  · simp [Go.Sort.putCells]; omega
  · intro t h1 h2
    have h3 : t < F.size := by simpa using h2
    rw [List.getElem_take, Array.getElem_toList]
    simp only [Go.Sort.putCells, Array.getElem_mapIdx, Nat.zero_le, Nat.zero_add, h3, and_self, if_true, Nat.sub_zero, id]
    rw [getElem!_pos _ t h3, Array.getElem_toList]
theorem own_sorted {w : World} {B g n c m : Nat} {os : Array Obj} {l d : List Lv.T} (hl : d.length = l.length) (h : w.ownsRow B 30 5 (.slice (some ⟨g, 0, none⟩) n c) n (tcells le l)) :
    (sortWorldK le 5 w g 0 m d.toArray os).ownsRow B 30 5 (.slice (some ⟨g, 0, none⟩) n c) n (tcells le d) := by
  obtain ⟨h1, h2⟩ := h
  rw [tcells_length leE] at h1
  refine ⟨by rw [tcells_length leE, hl]; exact h1, ?_⟩
  rcases h2 with ⟨e, _⟩ | ⟨g', cap, cur, e, hB, hg, hn, hm, hs, ht⟩
  · cases e
  · simp only [Value.slice.injEq, Option.some.injEq, Addr.mk.injEq] at e
    obtain ⟨⟨rfl, _⟩, _, rfl⟩ := e
    have hlt : g < w.heap.size := (Array.getElem?_eq_some_iff.1 hg).1
    refine .inr ⟨g, c, Go.Sort.putCells id 0 (Go.Sort.flatK le 5 d.toArray) cur, rfl, hB, ?_, hn, hm, by simpa [Go.Sort.putCells] using hs, ?_⟩
    · unfold sortWorldK Go.Sort.putRowK Go.Sort.putRow Go.Sort.mapBlock
      rw [Go.Sort.heap_grow_old _ _ (by simpa [Go.Sort.ahead] using hlt)]
      simp only [Go.Sort.ahead, Array.getElem?_modify, hg, if_true, Option.map_some, Go.Sort.onCells]
    · have hF : (Go.Sort.flatK le 5 d.toArray).size = n * 5 := by rw [Go.Sort.size_flatK]; simp; omega
      rw [← hF, take_put _ _ (by rw [hF, hs]; omega), flat_cells]
theorem below_sorted {w : World} {B g m : Nat} {os : Array Obj} {d : Array Lv.T} (hg : B ≤ g) (hB : B ≤ w.heap.size) : Below B w (sortWorldK le 5 w g 0 m d os) := by
  unfold sortWorldK Go.Sort.putRowK Go.Sort.putRow Go.Sort.mapBlock
  refine ⟨rfl, rfl, rfl, by simp [Go.Sort.ahead], fun k hk => ?_⟩
  rw [Go.Sort.heap_grow_old _ _ (by simp [Go.Sort.ahead]; omega)]
  simp only [Go.Sort.ahead, Array.getElem?_modify]
  rw [if_neg (by omega)]


abbrev earlierv : Value := .func (.func 36) #[] #[]
theorem lsort_any (a : Option Addr) (n c B : Nat) (l : List Lv.T) (w : World) (hn : n ≤ 1000000) (hm : Lv.May l) (hown : w.ownsRow B 30 5 (.slice a n c) n (tcells le l)) (hB : B ≤ w.heap.size) :
    Calls Try.prog 35 #[.slice a n c, earlierv] w fun e w' => e = .returned (.tuple #[]) ∧ w'.ownsRow B 30 5 (.slice a n c) n (tcells le (Lv.ord l)) ∧ Below B w w' := by
  have hl : l.length = n := by have := hown.1; rw [tcells_length leE] at this; omega
  rcases Nat.eq_zero_or_pos n with h0 | h0
  · subst h0
    obtain rfl : l = [] := List.length_eq_zero_iff.mp hl
    have hcon := AnyF.slices_SortFunc_none Try.sortTab a c earlierv w
    change Calls Try.prog 35 _ _ _ at hcon
    refine hcon.mono ?_
    rintro e w' ⟨rfl, rfl⟩
    exact ⟨rfl, hown, Below.refl _ _⟩
  · obtain ⟨g, rfl⟩ : ∃ g, a = some ⟨g, 0, none⟩ := by
      rcases hown.2 with ⟨_, h⟩ | ⟨g', cap, cur, e, _⟩
      · omega
      · simp only [Value.slice.injEq] at e
        exact ⟨g', e.1⟩
    obtain ⟨hg1, hg2⟩ := own_lt hown
    have eg : ∀ args w, (callFunc 36 args).run Try.prog w = .ok (.enter 36 args) w := enters_of Try.func36 (by kernel_rfl) rfl
    have hcmp : CmpLays Try.prog 36 #[] le 5 tcmp g 0 l.toArray.size w := fun m os dk _ x y => by
      refine (learlier_any x.num x.lev x.size x.first x.last y.num y.lev y.size y.first y.last _).mono ?_
      rintro e w' ⟨rfl, rfl⟩
      exact ⟨rfl, 0, _, by rw [Go.Sort.alloc_eq_grow, Go.Sort.alloc_eq_grow, Go.Sort.grow_grow]; rfl⟩
    have hcon := AnyQ.slices_SortFunc Try.sortTab 5 Try.isAgg30 Try.sizeOf30 le leE.len leE.one tcmp tcmp_swo 36 #[] g 0 c l.toArray w eg hcmp (holds_own hown) hg1 (by simp; omega)
    change Calls Try.prog 35 _ _ _ at hcon
    rw [show l.toArray.size = n by simpa using hl] at hcon
    refine hcon.mono ?_
    rintro e w' ⟨rfl, d', m, os, hp, hs, rfl⟩
    obtain ⟨p1, p2, p3⟩ := hp
    have hd : d'.toList.length = l.length := by simpa using p1
    have e0 : d' = d'.toList.toArray := by simp
    have hperm : l.Perm d'.toList := by
      have q1 : (d'.extract 0 n) = d' := by rw [show n = d'.size by rw [p1]; simp; omega]; simp
      have q2 : (l.toArray.extract 0 n) = l.toArray := by rw [show n = l.toArray.size by simp; omega]; simp
      rw [q1, q2] at p3
      simpa using p3.symm
    have hsrt : Lv.Srt d'.toList := by
      refine Lv.srt_weak (hm.perm hperm) ?_
      rw [List.pairwise_iff_getElem]
      intro i j hi hj hij
      have := hs i j (Nat.zero_le _) hij (by simp at hj; rw [p1] at hj; simp at hj; omega)
      rw [tcmp_lt, getElem!_pos d' j (by simpa using hj), getElem!_pos d' i (by simpa using hi)] at this
      simp only [Array.getElem_toList]
      exact this
    have ho := Lv.ord_of hm hperm hsrt
    refine ⟨rfl, ?_, below_sorted hg2 hB⟩
    have := own_sorted (m := m) (os := os) hd hown
    rw [← e0, ho] at this
    exact this
theorem lord_length (l : List Lv.T) : (Lv.ord l).length = l.length := (Lv.ord_perm l).length_eq.symm
set_option maxRecDepth 100000 in
set_option maxHeartbeats 400000 in
theorem lordered_any (a : Option Addr) (n c : Nat) (l : List Lv.T) (w : World) (hr : LRow w a n l) (hnil : a = none → n = 0 ∧ c = 0) (hm : Lv.May l) :
    Calls Try.prog 23 #[.slice a n c] w (LRes w (Lv.ord l)) := by
  obtain rfl := hr.1
  have hle := hm.len
  have hcl := fun W r => lclone_any a l.length c l W (by omega) r hnil
  have hso := fun A C W h hB => lsort_any A l.length C w.heap.size l W (by omega) hm h hB
  have hlo : Hid ((Lv.ord l).length = l.length) := lord_length l
  go_enter Try.func23, Try.ntmps23
  go_wp2_with (first | (go_at_call 34; go_must (refine (hcl _ hr).mono ?_; rintro e w2 ⟨A, C, rfl, hown2, hbel2⟩)) | (go_at_call 35; go_must (refine (hso A C w2 hown2 hbel2.size).mono ?_; rintro e w3 ⟨rfl, hown3, hbel3⟩)))
  go_ret
  refine ⟨A, C, ?_, ?_, hbel2.trans hbel3⟩
  · rw [hlo.out]; rfl
  · rw [hlo.out]; exact hown3
end Go.Proofs.Ytghgolpofafjmaa
