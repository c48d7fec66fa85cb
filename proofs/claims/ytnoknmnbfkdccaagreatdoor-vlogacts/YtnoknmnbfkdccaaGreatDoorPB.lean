/- What the program's appendFrame does. -/
import Derived.Test.YtnoknmnbfkdccaaGreatDoorPA
import Derived.Test.YtnoknmnbfkdccaaGreatDoorG2
namespace Go.Proofs.YtnoknmnbfkdccaaGreatDoor
open Go.RowKit

/-- a row of bytes lies not in a frame's block -/
theorem own_not {w : World} {B n N : Nat} {v : Value} {xs : List Value} {cs : Array Value} (h : w.ownsRow B 5 1 v n xs) (hN : w.heap[N]? = some (.cells cs 113)) : some N ≠ v.ownBlock := by
  rcases h.2 with ⟨rfl, _⟩ | ⟨g, cap, cur, rfl, _, hg, _⟩
  · simp [Value.ownBlock]
  · intro e
    simp only [Value.ownBlock, Option.some.injEq] at e
    subst e
    rw [hg] at hN
    simp at hN
theorem cells_of {w : World} {N : Nat} {c0 c1 : Value} (hN : w.heap[N]? = some (.cells #[c0, c1] 113)) : w.cell? ⟨N, 0, none⟩ = some c0 ∧ w.cell? ⟨N, 1, none⟩ = some c1 ∧ N < w.heap.size := by
  refine ⟨by simp only [World.cell?, hN]; rfl, by simp only [World.cell?, hN]; rfl, ?_⟩
  rcases Nat.lt_or_ge N w.heap.size with h | h
  · exact h
  · rw [Array.getElem?_eq_none h] at hN; cases hN
theorem stays {w w' : World} {B n N : Nat} {v : Value} {xs : List Value} {c0 c1 : Value} (hN : w.heap[N]? = some (.cells #[c0, c1] 113)) (h : w.ownsRow B 5 1 v n xs) (hg : w.grownBy w' v.ownBlock) : w'.heap[N]? = some (.cells #[c0, c1] 113) :=
  (hg.block N (cells_of hN).2.2 (own_not h hN)).trans hN
theorem stays_below {w w' : World} {N B : Nat} {c0 c1 : Value} (hN : w.heap[N]? = some (.cells #[c0, c1] 113)) (hb : Below B w w') (hB : w.heap.size ≤ B) : w'.heap[N]? = some (.cells #[c0, c1] 113) :=
  (hb.block N (Nat.lt_of_lt_of_le (cells_of hN).2.2 hB)).trans hN
theorem put_one (n : Nat) : Va.put [n] = Va.one n := by simp [Va.put]

theorem apf_of {w : World} {B g m n c k : Nat} {xs o b : List Nat} (h : w.ownsRow B 5 1 (.slice (some ⟨g, 0, none⟩) (m + o.length + 1 + n) c) (m + o.length + 1 + n) (kcells .u8 (xs ++ o ++ [k] ++ b)))
    (hxs : ∀ x ∈ xs, x < lim .u8) (ho : ∀ x ∈ o, x < 256) (hk : k < 256) (hb : ∀ x ∈ b, x < lim .u8) (hm : xs.length = m) (h1 : m ≤ 1000000000) (h2 : n ≤ 1048576) (h3 : o.length ≤ 3) :
    ∀ z c' q, z = n + 1 → q = m + o.length → Calls Tryz.prog 100 #[.slice (some ⟨g, q, none⟩) z c'] w fun e w' => e = .returned (.int .u32 (Crc.more 0 (k :: b) : Nat)) ∧ w' = w := by
  intro z c' q hz hq
  have hsm : ∀ x ∈ xs ++ o ++ [k] ++ b, x < lim .u8 := by
    intro x hx
    simp only [List.mem_append, List.mem_singleton] at hx
    rcases hx with ((hx | hx) | hx) | hx
    · exact hxs x hx
    · exact ho x hx
    · subst hx; exact hk
    · exact hb x hx
  have hr := (row_of_owns h hsm (by omega)).1.drop (m + o.length) (by omega)
  have e : (xs ++ o ++ [k] ++ b).drop (m + o.length) = k :: b := by
    rw [List.append_assoc (xs ++ o), show m + o.length = (xs ++ o).length by rw [List.length_append, hm], List.drop_left]; rfl
  rw [e, Nat.zero_add, show m + o.length + 1 + n - (m + o.length) = n + 1 by omega] at hr
  subst hz; subst hq
  exact of_any _ _ _ _ _ hr

set_option maxRecDepth 100000 in
set_option maxHeartbeats 1000000 in
theorem apf_any (k : Nat) (a : Option Addr) (n c : Nat) (b : List Nat) (ab : Option Addr) (m cb : Nat) (xs : List Nat) (w0 w : World) (hk1 : 1 ≤ k) (hk2 : k ≤ 250) (hn : n ≤ 1048576) (hm : m ≤ 1000000000)
    (hr : Row .u8 w0 a n b) (hnil : a = none → n = 0 ∧ c = 0) (hbel : Below w0.heap.size w0 w) (hown : w.ownsRow w0.heap.size 5 1 (.slice ab m cb) m (kcells .u8 xs)) (hxs : ∀ x ∈ xs, x < lim .u8) :
    Calls Tryz.prog 99 #[.slice ab m cb, .agg #[.int .i64 k, .slice a n c]] w fun e w' => ∃ a' c', e = .returned (.slice a' (m + (Fr.put1 k b).length) c') ∧ w'.ownsRow w0.heap.size 5 1 (.slice a' (m + (Fr.put1 k b).length) c') (m + (Fr.put1 k b).length) (kcells .u8 (xs ++ Fr.put1 k b)) ∧ Below w0.heap.size w0 w' := by
  have hbn : Hid (b.length = n) := hr.1
  have hvp : ∀ (W : World) (q : Addr), Row .u64 W (some q) 1 [n] → Calls Tryz.prog 120 #[.slice (some q) 1 1] W (Made .u8 5 W (Va.one n)) := fun W q h => by
    have := put_any (some q) 1 1 [n] W (by omega) h
    rwa [put_one] at this
  have hsm := Va.one_small n
  have h3 := Fr.one3 hn
  obtain ⟨o, ho'⟩ : ∃ o, o = Va.one n := ⟨_, rfl⟩
  rw [← ho'] at hvp hsm h3
  have ho : Hid (o = Va.one n) := ho'
  clear ho'
  have hput : Hid (Fr.put1 k b = o ++ [k] ++ b ++ Fr.le4 (Crc.more 0 (k :: b))) := (by rw [ho.out, ← hbn.out]; simp [Fr.put1] : Fr.put1 k b = o ++ [k] ++ b ++ Fr.le4 (Crc.more 0 (k :: b)))
  clear ho
  have hk256 : k < 256 := by omega
  have hxl : Hid (xs.length = m) := (by have := hown.1; rw [kcells_length] at this; omega : xs.length = m)
  have hk8 : ((k : Int) % 256) = k := by omega
  have hsz := hbel.size
  have hN0 : (w.alloc (.cells #[.int .i64 k, .slice a n c] 113)).heap[w.heap.size]? = some (.cells #[.int .i64 k, .slice a n c] 113) := heap_alloc_new w _
  have hrow : Row .u64 ((w.alloc (.cells #[.int .i64 k, .slice a n c] 113)).alloc (.cells #[.int .u64 n] 152)) (some ⟨w.heap.size + 1, 0, none⟩) 1 [n] := by
    have h := row_new .u64 (w.alloc (.cells #[.int .i64 k, .slice a n c] 113)) 152 n (by show n < 18446744073709551616; omega)
    rwa [World.size_alloc] at h
  have hN00 := stays_below hN0 (below_alloc _ (.cells #[.int .u64 n] 152)) (Nat.le_refl _)
  have hownW := (hown.alloc (.cells #[.int .i64 k, .slice a n c] 113)).alloc (.cells #[.int .u64 n] 152)
  have hbW : Below w0.heap.size w0 ((w.alloc (.cells #[.int .i64 k, .slice a n c] 113)).alloc (.cells #[.int .u64 n] 152)) := (hbel.alloc hsz _).alloc (by simp; omega) _
  go_enter Tryz.func99, Tryz.ntmps99
  go_wp2_with (first
    | (go_at_call 100; go_must (refine (hof _ _ _ ?_ ?_).mono ?_; omega; omega; rintro e w5 ⟨rfl, hw⟩; subst hw))
    | (at_builtin; have := hb3; go_must (refine append_u8g (w0 := w0) (B := w0.heap.size) rfl (.tmp 24) (.tmp 26) rfl _ (m + o.length + 1) (xs ++ o ++ [k]) rfl hb3 a n c b rfl (hr.below hB3 (Nat.le_refl _)) hnil (by omega) hB3 hs3 ?_; intro a4 c4 w4 hb4 hB4 hs4 hg4; obtain ⟨g, rfl, hc4⟩ := own_at hb4 (by omega); have hof := apf_of hb4 hxs hsm hk256 hr.2.2.1 hxl.out hm hn h3; have hc4' : ¬ c4 = m + o.length := (by omega)))
    | (at_builtin; have := hb2; go_must (refine append_u8g (w0 := w0) (B := w0.heap.size) rfl (.tmp 18) (.tmp 22) rfl _ (m + o.length) (xs ++ o) rfl (hb2.alloc _) (some ⟨w2.heap.size, 0, none⟩) 1 1 [k] rfl (row_newz .u8 _ 5 _ k (by omega) (by show k < 256; omega)) (fun h => by cases h) (by omega) (hB2.alloc hs2 _) (by simp; omega) ?_; intro a3 c3 w3 hb3 hB3 hs3 hg3; have hN3 := stays (stays_below hN2 (below_alloc _ _) (Nat.le_refl _)) (hb2.alloc _) hg3; obtain ⟨q30, q31, q3l⟩ := cells_of hN3))
    | (at_builtin; have := hb1; go_must (refine append_u8g (w0 := w0) (B := w0.heap.size) rfl (.tmp 8) (.tmp 14) rfl _ m xs rfl hb1 a1 o.length c1 o rfl r1 n1 (by omega) hB1 (by have := hB1.size; omega) ?_; intro a2 c2 w2 hb2 hB2 hs2 hg2; have hN2 := stays hN1 hb1 hg2; obtain ⟨q20, q21, q2l⟩ := cells_of hN2))
    | (go_at_call 120; go_must (refine (hvp _ _ hrow).mono ?_; rintro e w1 ⟨a1, c1, rfl, hown1, hbel1⟩; have hN1 := stays_below hN00 hbel1 (Nat.le_refl _); have hb1 := owns_below hownW hbel1; have hB1 := hbW.trans (hbel1.mono hbW.size); obtain ⟨r1, n1, _⟩ := row_of_owns hown1 hsm (by omega))))
  have hS := Crc.more_lt (s := 0) (k :: b) (by omega) (by
    intro x hx
    rcases List.mem_cons.mp hx with rfl | hx
    · exact hk256
    · exact hr.2.2.1 x hx)
  generalize Crc.more 0 (k :: b) = S at *
  generalize hPP : xs ++ o ++ [k] ++ b = PP at *
  have hP : Hid (xs ++ Fr.put1 k b = PP ++ Fr.le4 S) := (by rw [hput.out, ← hPP]; simp : xs ++ Fr.put1 k b = PP ++ Fr.le4 S)
  obtain ⟨M, hM⟩ : ∃ M, M = m + o.length + 1 + n := ⟨_, rfl⟩
  have hL : Hid (m + (Fr.put1 k b).length = M + 4) := (by rw [hput.out, hM]; simp [Fr.le4_len, hbn.out]; omega : m + (Fr.put1 k b).length = M + 4)
  have hMb : M ≤ 2000000000 := by omega
  rw [← hM] at hb4 ⊢
  clear hPP hof hM hput hown hownW hbW hN0 hN00 hrow hvp hb1 hb2 hb3 hown1 hbel1 hB1 hB2 hB3 hg2 hg3 hg4 hN1 hN2 hN3 q20 q21 q30 q31 r1 n1 hbel
  go_loopw [0, 32] (fun v i wr => ∃ (j : Nat) (a' : Option Addr) (c' : Nat), j ≤ 4 ∧ i = .int .i64 j ∧ v = .slice a' (M + j) c' ∧ wr.ownsRow w0.heap.size 5 1 (.slice a' (M + j) c') (M + j) (kcells .u8 (PP ++ (Fr.le4 S).take j)) ∧ Below w0.heap.size w0 wr)
    (fun _ i _ => 4 - (intOf i).toNat)
  case atStart => exact ⟨0, _, c4, by omega, rfl, rfl, by simpa using hb4, hB4⟩
  case round =>
    obtain ⟨j, a', c', hj, rfl, rfl, hown, hbel⟩ := hrel
    have hsz := hbel.size
    by_cases hlt4 : j < 4
    · have Hl : Hid ((Fr.le4 S).take (j + 1) = (Fr.le4 S).take j ++ [S / 256 ^ j % 256]) := le4_take S j hlt4
      clear hb4
      have hj4 : j = 0 ∨ j = 1 ∨ j = 2 ∨ j = 3 := by omega
      rcases hj4 with rfl | rfl | rfl | rfl
      · go_wp2_with (at_builtin; go_must (refine append_u8 (w0 := w0) rfl (.tmp 35) (.tmp 41) rfl _ (M + 0) _ rfl (hown.alloc _) _ 1 1 [S / 256 ^ 0 % 256] rfl (row_newz .u8 _ 5 _ (S / 256 ^ 0 % 256) (by simp; try omega) (by show _ < 256; omega)) (fun h => by cases h) (by omega) (hbel.alloc hsz _) (by simp; omega) ?_; intro a6 c6 w6 hown6 hbel6 hsz6))
        go_roundw
        case rel => exact ⟨1, a6, c6, by omega, by go_num, rfl, by rw [Hl.out, ← List.append_assoc]; exact hown6, hbel6⟩
        case measure => simp [intOf]
      · go_wp2_with (at_builtin; go_must (refine append_u8 (w0 := w0) rfl (.tmp 35) (.tmp 41) rfl _ (M + 1) _ rfl (hown.alloc _) _ 1 1 [S / 256 ^ 1 % 256] rfl (row_newz .u8 _ 5 _ (S / 256 ^ 1 % 256) (by simp; try omega) (by show _ < 256; omega)) (fun h => by cases h) (by omega) (hbel.alloc hsz _) (by simp; omega) ?_; intro a6 c6 w6 hown6 hbel6 hsz6))
        go_roundw
        case rel => exact ⟨2, a6, c6, by omega, by go_num, rfl, by rw [Hl.out, ← List.append_assoc]; exact hown6, hbel6⟩
        case measure => simp [intOf]
      · go_wp2_with (at_builtin; go_must (refine append_u8 (w0 := w0) rfl (.tmp 35) (.tmp 41) rfl _ (M + 2) _ rfl (hown.alloc _) _ 1 1 [S / 256 ^ 2 % 256] rfl (row_newz .u8 _ 5 _ (S / 256 ^ 2 % 256) (by simp; try omega) (by show _ < 256; omega)) (fun h => by cases h) (by omega) (hbel.alloc hsz _) (by simp; omega) ?_; intro a6 c6 w6 hown6 hbel6 hsz6))
        go_roundw
        case rel => exact ⟨3, a6, c6, by omega, by go_num, rfl, by rw [Hl.out, ← List.append_assoc]; exact hown6, hbel6⟩
        case measure => simp [intOf]
      · go_wp2_with (at_builtin; go_must (refine append_u8 (w0 := w0) rfl (.tmp 35) (.tmp 41) rfl _ (M + 3) _ rfl (hown.alloc _) _ 1 1 [S / 256 ^ 3 % 256] rfl (row_newz .u8 _ 5 _ (S / 256 ^ 3 % 256) (by simp; try omega) (by show _ < 256; omega)) (fun h => by cases h) (by omega) (hbel.alloc hsz _) (by simp; omega) ?_; intro a6 c6 w6 hown6 hbel6 hsz6))
        go_roundw
        case rel => exact ⟨4, a6, c6, by omega, by go_num, rfl, by rw [Hl.out, ← List.append_assoc]; exact hown6, hbel6⟩
        case measure => simp [intOf]
    · obtain rfl : j = 4 := by omega
      have Hl : Hid (xs ++ Fr.put1 k b = PP ++ (Fr.le4 S).take 4) := hP
      clear hb4
      go_wp2
      go_ret
      exact ⟨a', c', by rw [hL.out]; rfl, by rw [hL.out, Hl.out]; exact hown, hbel⟩
end Go.Proofs.YtnoknmnbfkdccaaGreatDoor

/- What the program's Put does; the five contracts, paid. -/
namespace Go.Proofs.YtnoknmnbfkdccaaGreatDoor
open Go.RowKit

theorem pall_len_le : ∀ (l : List Fr.F), (∀ f ∈ l, f.2.length ≤ 1048576) → (Fr.all l).length ≤ tot l + 8 * l.length := by
  intro l
  induction l with
  | nil => intro _; simp [Fr.all]
  | cons f l ih =>
    intro h
    have h1 := ih (fun g hg => h g (by simp [hg]))
    have h2 := Fr.size_le (h f (by simp))
    rw [Fr.all_len_cons]
    simp only [tot, List.map_cons, List.sum_cons, List.length_cons] at h1 ⊢
    omega
theorem plen_le_tot {l : List Fr.F} {f : Fr.F} (h : f ∈ l) : f.2.length ≤ tot l := by
  induction l with
  | nil => cases h
  | cons g l ih =>
    simp only [tot, List.map_cons, List.sum_cons]
    rcases List.mem_cons.mp h with rfl | h
    · omega
    · have := ih h
      simp only [tot] at this
      omega
theorem pall_take_le {fs : List Fr.F} (h1 : fs.length ≤ 1000) (h2 : tot fs ≤ 100000) (k : Nat) : (Fr.all (fs.take k)).length ≤ 108000 := by
  have h3 := pall_len_le (fs.take k) (fun f hf => by have := plen_le_tot (List.mem_of_mem_take hf); omega)
  have h4 := tot_le fs k
  have h5 : (fs.take k).length ≤ fs.length := by rw [List.length_take]; omega
  omega
theorem pmay_take {fs : List Fr.F} {k : Nat} (h : k < fs.length) : (fs.take (k + 1)).all Fr.may = ((fs.take k).all Fr.may && Fr.may (fs.getD k (0, []))) := by
  rw [List.take_succ_eq_append_getElem h, List.all_append]; simp [h]

set_option maxRecDepth 100000 in
set_option maxHeartbeats 1000000 in
theorem put_prog (a : Option Addr) (len cap : Nat) (fs : List Fr.F) (w : World) (hr : FRow w a len fs) (hlen : len ≤ 1000) (htot : tot fs ≤ 100000) : Calls Tryz.prog 67 #[.slice a len cap] w (FPutRes w fs) := by
  have hll : Hid (fs.length = len) := hr.1
  have hb := fun k => pall_take_le (fs := fs) (by rw [hll.out]; exact hlen) htot k
  go_enter Tryz.func67, Tryz.ntmps67
  go_wp2
  go_loopw [4, 12] (fun t i wr => ∃ k n : Nat, k ≤ len ∧ i = .int .i64 k ∧ t = .int .i64 n ∧ n ≤ 108000 ∧ Hid (n = (Fr.all (fs.take k)).length) ∧ Hid ((fs.take k).all Fr.may = true) ∧ Below w.heap.size w wr) (fun _ i _ => len - (intOf i).toNat)
  case atStart => exact ⟨0, 0, by omega, rfl, rfl, by omega, (rfl : 0 = (Fr.all (fs.take 0)).length), (rfl : (fs.take 0).all Fr.may = true), Below.refl _ _⟩
  case round =>
    obtain ⟨k, n, hk, rfl, rfl, hnb, hn, hmay, hbel⟩ := hrel
    have hsz := hbel.size
    by_cases hlt : k < len
    · obtain ⟨b, off, rfl, hc⟩ := (hr.below hbel (Nat.le_refl _)).at (by omega)
      obtain ⟨A, L, C, p1, q1, r1, s1, t1, lo1, hi1⟩ := hc k hlt
      have hmt := pmay_take (fs := fs) (k := k) (by rw [hll.out]; exact hlt)
      rw [hmay.out, Bool.true_and] at hmt
      have hat := fall_take fs k (by rw [hll.out]; exact hlt)
      have hb2 := hb (k + 1)
      have hfl : (fs.getD k (0, [])).2.length ≤ 100000 := by
        have h1 : fs.getD k (0, []) = fs[k]'(by rw [hll.out]; exact hlt) := by simp [hll.out, hlt]
        have := plen_le_tot (List.getElem_mem (l := fs) (n := k) (by rw [hll.out]; exact hlt))
        rw [h1]; omega
      have hmem : Fr.may (fs.getD k (0, [])) = false → fs.all Fr.may = false := by
        intro h
        have h1 : fs.getD k (0, []) = fs[k]'(by rw [hll.out]; exact hlt) := by simp [hll.out, hlt]
        rw [List.all_eq_false]
        exact ⟨_, List.getElem_mem (by rw [hll.out]; exact hlt), by rw [← h1, h]; simp⟩
      have Hmem : Hid (_) := hmem
      rw [hat, List.length_append, ← hn.out, Fr.one_len] at hb2
      have Hat : Hid ((Fr.all (fs.take (k + 1))).length = n + Fr.size (fs.getD k (0, [])).2.length) := (by rw [hat, List.length_append, ← hn.out, Fr.one_len] : (Fr.all (fs.take (k + 1))).length = n + Fr.size (fs.getD k (0, [])).2.length)
      have Hmt : Hid (_ = _) := hmt
      clear hc hmem hat hmt hn hmay hb hr
      generalize fs.getD k (0, []) = f at *
      obtain ⟨x, y⟩ := f
      simp only at p1 r1 hfl hb2 lo1 hi1
      have hy : Hid (y.length = L) := r1.1
      rw [hy.out] at hfl hb2
      have Hat2 : Hid ((Fr.all (fs.take (k + 1))).length = n + Fr.size L) := (by rw [Hat.out]; simp only []; rw [hy.out] : (Fr.all (fs.take (k + 1))).length = n + Fr.size L)
      have hsize := fun W => size_in L W (by omega)
      have hmb := fun W => maybe_any x A L C W (by omega)
      have hmm : mayB x L = Fr.may (x, y) := by rw [← hy.out]; exact mayB_may x y
      rw [hmm] at hmb
      generalize Fr.size L = z at *
      clear Hat hmm r1
      by_cases hm : Fr.may (x, y) = true
      · rw [hm] at hmb
        have Hm : Hid ((fs.take (k + 1)).all Fr.may = true) := (by rw [Hmt.out, hm] : (fs.take (k + 1)).all Fr.may = true)
        clear Hmt Hmem
        have hcb : ∀ w1, Below (wr.alloc (.cells #[.int .i64 x, .slice A L C] 113)).heap.size (wr.alloc (.cells #[.int .i64 x, .slice A L C] 113)) w1 → w1.cell? ⟨wr.heap.size, 1, none⟩ = some (.slice A L C) ∧ Below w.heap.size w w1 := fun w1 h =>
          ⟨(h.cell (p := ⟨wr.heap.size, 1, none⟩) (by simp)).trans (cell_two wr _ _ 113 rfl).2, (hbel.alloc hsz _).trans (h.mono (by simp; omega))⟩
        go_wp2_with (first
          | (go_at_call 97; go_must (refine (hmb _).mono ?_; rintro e w1 ⟨rfl, hbel1⟩; obtain ⟨hf1, hB1⟩ := hcb w1 hbel1))
          | (go_at_call 98; refine (hsize _).mono ?_; rintro e w' ⟨rfl, rfl⟩))
        go_roundw
        case rel => exact ⟨k + 1, n + z, by omega, by go_num, val_int (by omega), by omega, (Hat2.out.symm : n + z = (Fr.all (fs.take (k + 1))).length), Hm, hB1⟩
        case measure => simp [intOf]; omega
      · have hm : Fr.may (x, y) = false := by simpa using hm
        rw [hm] at hmb
        have H : Hid (fs.all Fr.may = false) := Hmem.out hm
        clear Hmt Hmem hsize
        go_wp2_with (go_at_call 97; go_must (refine (hmb _).mono ?_; rintro e w1 ⟨rfl, hbel1⟩))
        go_ret2
        exact .inr ⟨H.out, none, 0, rfl, (hbel.alloc hsz _).trans (hbel1.mono (by simp; omega))⟩
    · have hkl : Hid (fs.take k = fs) := (List.take_of_length_le (by rw [hll.out]; omega) : fs.take k = fs)
      rw [hkl.out] at hmay hn
      clear hkl
      obtain ⟨i0, hi0, hz0, hz1, hz2⟩ := info_parts Tryz.info5
      clear hb
      go_wp2_with (at_make; go_must (refine wpList_make_own _ rfl _ _ 39 rfl w.heap.size 5 i0 (.int .u8 0) 1 Tryz.underlying39 hi0 hz0 hz1 .i64 .i64 _ n rfl rfl rfl (by rw [hz2]; omega) (by unfold maxLen; omega) hsz ?_; intro w2 hmade hg))
      have hbel0 : Below w.heap.size w w2 := hbel.grown hg hsz (fun k h => by cases h)
      clear hg hi0 hz0 hz1 hz2 hbel hsz hk hlt
      have hall := hmay.out
      rw [List.all_eq_true] at hall
      have Hall : Hid (∀ f ∈ fs, Fr.may f = true) := hall
      clear hall
      go_loopw [7, 30] (fun v i wr => ∃ (k : Nat) (a' : Option Addr) (n c : Nat), k ≤ len ∧ i = .int .i64 k ∧ v = .slice a' n c ∧ Hid (n = (Fr.all (fs.take k)).length) ∧ wr.ownsRow w.heap.size 5 1 (.slice a' n c) n (kcells .u8 (Fr.all (fs.take k))) ∧ (∀ x ∈ Fr.all (fs.take k), x < lim .u8) ∧ Below w.heap.size w wr)
        (fun _ i _ => len - (intOf i).toNat)
      case atStart => exact ⟨0, _, 0, n, by omega, rfl, rfl, (rfl : 0 = (Fr.all (fs.take 0)).length), hmade, (fun x hx => by simp [Fr.all] at hx), hbel0⟩
      case round =>
        obtain ⟨k, a', n', c, hk, rfl, rfl, hn', hown, hsm, hbel⟩ := hrel
        clear hmade hbel0
        have hsz := hbel.size
        by_cases hlt : k < len
        · obtain ⟨b, off, rfl, hc⟩ := hr.at (by omega)
          obtain ⟨A, L, C, p1, q1, r1, s1, t1, lo1, hi1⟩ := hc k hlt
          have p2 := (hbel.cell (p := ⟨b, off + k * 2, none⟩) (cell_lt p1)).trans p1
          have q2 := (hbel.cell (p := ⟨b, off + k * 2 + 1, none⟩) (cell_lt q1)).trans q1
          have hm : Fr.may (fs.getD k (0, [])) = true := by
            have h1 : fs.getD k (0, []) = fs[k]'(by rw [hll.out]; exact hlt) := by simp [hll.out, hlt]
            rw [h1]; exact Hall.out _ (List.getElem_mem _)
          have hm := (Fr.may_iff _).mp hm
          have H : Hid (Fr.all (fs.take (k + 1)) = Fr.all (fs.take k) ++ Fr.one (fs.getD k (0, []))) := fall_take fs k (by rw [hll.out]; exact hlt)
          have hb1 := pall_take_le (fs := fs) (by rw [hll.out]; exact hlen) htot k
          rw [← hn'.out] at hb1
          clear hc p1 q1
          generalize fs.getD k (0, []) = f at *
          obtain ⟨x, y⟩ := f
          simp only at p2 r1 hm
          obtain ⟨z, rfl⟩ : ∃ z : Nat, x = (z : Int) := ⟨x.toNat, by omega⟩
          have hy : Hid (y.length = L) := r1.1
          have hp := apf_any z A L C y a' n' c (Fr.all (fs.take k)) w (wr.alloc (.cells #[.int .i64 z, .slice A L C] 113)) (by omega) (by omega) (by have := hy.out; omega) (by omega) r1 t1 (hbel.alloc hsz _) (hown.alloc _) hsm
          have hsm2 : ∀ x ∈ Fr.put1 z y, x < lim .u8 := Fr.put1_small (by omega) r1.2.2.1
          have hone : Hid (Fr.one ((z : Int), y) = Fr.put1 z y) := (by unfold Fr.one; simp : Fr.one ((z : Int), y) = Fr.put1 z y)
          rw [hone.out] at H
          clear hone hm
          generalize Fr.put1 z y = r at *
          go_wp2_with (go_at_call 99; go_must (refine hp.mono ?_; rintro e w1 ⟨a1, c1, rfl, hown1, hbel1⟩))
          go_roundw
          case rel => exact ⟨k + 1, a1, n' + r.length, c1, by omega, by go_num, rfl, (by rw [H.out, List.length_append, ← hn'.out] : n' + r.length = (Fr.all (fs.take (k + 1))).length), by rw [H.out]; exact hown1, (by rw [H.out]; intro x hx; rcases List.mem_append.mp hx with h | h; exact hsm x h; exact hsm2 x h), hbel1⟩
          case measure => simp [intOf]; omega
        · have hkl : Hid (fs.take k = fs) := (List.take_of_length_le (by rw [hll.out]; omega) : fs.take k = fs)
          rw [hkl.out] at hown
          have hn2 : Hid (n' = (Fr.all fs).length) := (by rw [hn'.out, hkl.out] : n' = (Fr.all fs).length)
          clear hn'
          go_wp2
          go_ret2
          exact .inl ⟨hmay.out, a', c, by rw [← hn2.out]; rfl, by rw [← hn2.out]; exact hown, hbel⟩

end Go.Proofs.YtnoknmnbfkdccaaGreatDoor
