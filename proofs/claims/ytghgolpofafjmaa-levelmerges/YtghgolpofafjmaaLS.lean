/- What the program's All does. -/
import Derived.Test.YtghgolpofafjmaaLR
namespace Go.Proofs.Ytghgolpofafjmaa.Lv
def deepGo : Int → List T → Int
  | m, [] => m
  | m, x :: r => deepGo (if m < x.lev then x.lev else m) r
theorem deepGo_le : ∀ (l : List T) (m : Int), m ≤ deepGo m l ∧ (∀ x ∈ l, x.lev ≤ deepGo m l) ∧ (deepGo m l = m ∨ ∃ x ∈ l, deepGo m l = x.lev)
  | [], m => ⟨Int.le_refl _, by simp, .inl rfl⟩
  | x :: r, m => by
    unfold deepGo
    by_cases hlt : m < x.lev
    · rw [if_pos hlt]
      obtain ⟨h1, h2, h3⟩ := deepGo_le r x.lev
      refine ⟨by omega, ?_, ?_⟩
      · intro y hy
        rcases List.mem_cons.mp hy with rfl | hy
        · exact h1
        · exact h2 y hy
      · rcases h3 with h3 | ⟨y, hy, h3⟩
        · exact .inr ⟨x, List.mem_cons_self .., h3⟩
        · exact .inr ⟨y, List.mem_cons_of_mem _ hy, h3⟩
    · rw [if_neg hlt]
      obtain ⟨h1, h2, h3⟩ := deepGo_le r m
      refine ⟨h1, ?_, ?_⟩
      · intro y hy
        rcases List.mem_cons.mp hy with rfl | hy
        · exact Int.le_trans (Int.not_lt.mp hlt) h1
        · exact h2 y hy
      · rcases h3 with h3 | ⟨y, hy, h3⟩
        · exact .inl h3
        · exact .inr ⟨y, List.mem_cons_of_mem _ hy, h3⟩
theorem ahead_lev {a b : T} (h : ahead a b = true) : a.lev ≤ b.lev := by
  unfold ahead at h
  split at h
  · simp only [decide_eq_true_eq] at h; omega
  · next e => simp at e; omega
theorem deep_last {l D : List T} {n : Nat} (hp : l.Perm D) (hs : Srt D) (hn : D.length = n + 1) : max (D.getD n zero).lev 1 = deepGo 1 l := by
  obtain ⟨h1, h2, h3⟩ := deepGo_le l 1
  have hlt : n < D.length := by omega
  have hmem : D.getD n zero ∈ l := hp.mem_iff.mpr (by rw [show D.getD n zero = D[n] by simp [hlt]]; exact List.getElem_mem _)
  have h4 := h2 _ hmem
  have h5 : ∀ x ∈ l, x.lev ≤ (D.getD n zero).lev := by
    intro x hx
    obtain ⟨i, hi, rfl⟩ := List.getElem_of_mem (hp.mem_iff.mp hx)
    rw [show D.getD n zero = D[n] by simp [hlt]]
    by_cases e : i = n
    · subst e; exact Int.le_refl _
    · exact ahead_lev (List.pairwise_iff_getElem.mp hs i n hi hlt (by omega))
  rcases h3 with h3 | ⟨x, hx, h3⟩
  · rw [h3] at h4 ⊢
    omega
  · have := h5 x hx
    omega
end Go.Proofs.Ytghgolpofafjmaa.Lv
namespace Go.Proofs.Ytghgolpofafjmaa
open Go.RowKit
set_option maxRecDepth 100000 in
set_option maxHeartbeats 400000 in
theorem lall_no (a : Option Addr) (len cap : Nat) (l : List Lv.T) (w : World) (hlc : len ≤ cap) (hr : LRow w a len l) (hm : Lv.may l = false) :
    Calls Try.prog 19 #[.slice a len cap] w (PRes w [] 0 false false) := by
  have hb0 := below_alloc w (oj (.slice none 0 0) 0 false)
  have g0 : (w.alloc (oj (.slice none 0 0) 0 false)).heap[w.heap.size]? = some (oj (.slice none 0 0) 0 false) := heap_alloc_new w _
  have hc := fun W r => lcheck_any a len cap l W hlc r 1 (by rw [hm]; rfl)
  go_enter Try.func19, Try.ntmps19
  go_wp2_with (go_at_call 13; go_must (refine (hc _ (hr.below hb0 (Nat.le_refl _))).mono ?_; rintro e w2 ⟨rfl, hb2⟩; obtain ⟨⟨j0, j1, j2⟩, f0, f1, f2⟩ := blk3 (blk_kept g0 hb2)))
  exact bodyPost_ret (v := .tuple #[.agg #[.slice none 0 0, .int .i64 0, .bool false], .bool false]) (by simp [results, Try.results19, go_sem, j0, j1, j2]) rfl (pres_nil (hb0.trans (hb2.mono hb0.size)))
set_option maxRecDepth 100000 in
set_option maxHeartbeats 400000 in
theorem lall_nil (a : Option Addr) (cap : Nat) (w : World) :
    Calls Try.prog 19 #[.slice a 0 cap] w (PRes w [] 0 false false) := by
  have hb0 := below_alloc w (oj (.slice none 0 0) 0 false)
  have g0 : (w.alloc (oj (.slice none 0 0) 0 false)).heap[w.heap.size]? = some (oj (.slice none 0 0) 0 false) := heap_alloc_new w _
  have hc := fun W => lcheck_any a 0 cap [] W (Nat.zero_le _) (TRow.nil W a) 0 rfl
  go_enter Try.func19, Try.ntmps19
  go_wp2_with (go_at_call 13; go_must (refine (hc _).mono ?_; rintro e w2 ⟨rfl, hb2⟩; obtain ⟨⟨j0, j1, j2⟩, f0, f1, f2⟩ := blk3 (blk_kept g0 hb2)))
  exact bodyPost_ret (v := .tuple #[.agg #[.slice none 0 0, .int .i64 0, .bool false], .bool false]) (by simp [results, Try.results19, go_sem, j0, j1, j2]) rfl (pres_nil (hb0.trans (hb2.mono hb0.size)))
set_option maxRecDepth 100000 in
set_option maxHeartbeats 1000000 in
theorem lall_yes (a : Option Addr) (n cap : Nat) (l : List Lv.T) (w : World) (hlc : n + 1 ≤ cap) (hr : LRow w a (n + 1) l) (hm : Lv.May l) :
    Calls Try.prog 19 #[.slice a (n + 1) cap] w (PRes w (nm (Lv.ord l)) (Lv.deepGo 1 l) true true) := by
  have hb0 := below_alloc w (oj (.slice none 0 0) 0 false)
  have g0 : (w.alloc (oj (.slice none 0 0) 0 false)).heap[w.heap.size]? = some (oj (.slice none 0 0) 0 false) := heap_alloc_new w _
  have hnil : a = none → n + 1 = 0 ∧ cap = 0 := by
    obtain ⟨b, off, rfl, _⟩ := hr.at (by omega)
    intro h; cases h
  have hc := fun W r => lcheck_any a (n + 1) cap l W hlc r 0 (by rw [(Lv.may_iff l).mpr hm]; rfl)
  have ho := fun W r => lordered_any a (n + 1) cap l W r hnil hm
  have hmo := hm.perm (Lv.ord_perm l)
  have hlD : (Lv.ord l).length = n + 1 := by rw [lord_length]; exact hr.1
  have HD : Hid (max ((Lv.ord l).getD n Lv.zero).lev 1 = Lv.deepGo 1 l) := Lv.deep_last (Lv.ord_perm l) (Lv.ord_srt hm) hlD
  generalize Lv.deepGo 1 l = Z at *
  have hn64 : n + 1 ≤ 64 := by have := hmo.len; omega
  have hnu := fun A C W r => lnums_any A (n + 1) C (Lv.ord l) W (by omega) r (fun x hx => by have := (hmo.one x hx).n1; omega)
  have ho2 : ∀ W r, Calls Try.prog 23 #[.slice a (n + 1) cap] W fun e w' => ∃ g c, e = .returned (.slice g (n + 1) c) ∧ w'.ownsRow W.heap.size 30 5 (.slice g (n + 1) c) (n + 1) (tcells le (Lv.ord l)) ∧ Below W.heap.size W w' := fun W r => by
    have := ho W r
    unfold LRes at this
    rw [hlD] at this
    exact this
  clear ho hmo hlD hnil
  generalize Lv.ord l = D at *
  have i1 : IntKind.i64.wrap ((n : Int) + 1 - 1) = (n : Int) := by rw [IntKind.wrap_i64]; omega
  have i2 : IntKind.i64.wrap (n : Int) = (n : Int) := by rw [IntKind.wrap_i64]; omega
  have i3 : (0 : Int) ≤ (n : Int) := by omega
  have i4 : (n : Int) < (n : Int) + 1 := by omega
  have i5 : ((n : Int) + 1 == 0) = false := by simp; omega
  go_enter Try.func19, Try.ntmps19
  go_wp2_with (first | (go_at_call 13; go_must (refine (hc _ (hr.below hb0 (Nat.le_refl _))).mono ?_; rintro e w2 ⟨rfl, hb2⟩)) | (go_at_call 23; go_must (refine (ho2 _ ((hr.below hb0 (Nat.le_refl _)).below hb2 (Nat.le_refl _))).mono ?_; rintro e w3 ⟨A3, C3, rfl, hown3, hb3⟩; have hB3 := hb2.trans (hb3.mono hb2.size); obtain ⟨b, off, x1, x2, x3, x4, x5, rfl, hx, q0, q1, q2, q3, q4⟩ := lget (k := n) (lrow_of hown3 (by omega)) (Below.refl _ _) (by omega))) | (go_at_call 22; go_must (refine (hnu _ C3 w3 (lrow_of hown3 (by omega))).mono ?_; rintro e w4 ⟨A4, C4, rfl, hown4, hb4⟩; have hB4 := hB3.trans (hb4.mono hB3.size); obtain ⟨⟨j0, j1, j2⟩, f0, f1, f2⟩ := blk3 (blk_kept g0 hB4))))
  have HZ : max x2 1 = Z := by have := HD.out; rw [hx.out] at this; exact this
  rw [HZ]
  have hs6 : w.heap.size < w3.heap.size := by have := hB3.size; simp at this; omega
  have hne := own_ne hown4 hs6
  have ho8 := lowns_base (B' := w.heap.size) hown4 (by omega)
  exact bodyPost_ret (v := .tuple #[.agg #[.slice A4 (nm D).length C4, .int .i64 Z, .bool true], .bool true]) (by simp [results, Try.results19, go_sem, j0, j1, j2]) rfl ⟨A4, C4, rfl, own_set (own_set (own_set ho8 hne _ _) hne _ _) hne _ _, below_set (below_set (below_set (hb0.trans (hB4.mono hb0.size)) (Nat.le_refl _) _ _) (Nat.le_refl _) _ _) (Nat.le_refl _) _ _⟩
end Go.Proofs.Ytghgolpofafjmaa
