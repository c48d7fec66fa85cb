/- What the program's appendFrame does. -/
import Derived.Test.YtjioipkohnlipaaP3
namespace Go.Proofs.Ytjioipkohnlipaa
open Go.RowKit

/-- a row of bytes lies not in a frame's block -/
theorem own_not {w : World} {B n N : Nat} {v : Value} {xs : List Value} {cs : Array Value} (h : w.ownsRow B 5 1 v n xs) (hN : w.heap[N]? = some (.cells cs 31)) : some N ≠ v.ownBlock := by
  rcases h.2 with ⟨rfl, _⟩ | ⟨g, cap, cur, rfl, _, hg, _⟩
  · simp [Value.ownBlock]
  · intro e
    simp only [Value.ownBlock, Option.some.injEq] at e
    subst e
    rw [hg] at hN
    simp at hN
theorem cells_of {w : World} {N : Nat} {c0 c1 : Value} (hN : w.heap[N]? = some (.cells #[c0, c1] 31)) : w.cell? ⟨N, 0, none⟩ = some c0 ∧ w.cell? ⟨N, 1, none⟩ = some c1 ∧ N < w.heap.size := by
  refine ⟨by simp only [World.cell?, hN]; rfl, by simp only [World.cell?, hN]; rfl, ?_⟩
  rcases Nat.lt_or_ge N w.heap.size with h | h
  · exact h
  · rw [Array.getElem?_eq_none h] at hN; cases hN
theorem stays {w w' : World} {B n N : Nat} {v : Value} {xs : List Value} {c0 c1 : Value} (hN : w.heap[N]? = some (.cells #[c0, c1] 31)) (h : w.ownsRow B 5 1 v n xs) (hg : w.grownBy w' v.ownBlock) : w'.heap[N]? = some (.cells #[c0, c1] 31) :=
  (hg.block N (cells_of hN).2.2 (own_not h hN)).trans hN
theorem stays_below {w w' : World} {N B : Nat} {c0 c1 : Value} (hN : w.heap[N]? = some (.cells #[c0, c1] 31)) (hb : Below B w w') (hB : w.heap.size ≤ B) : w'.heap[N]? = some (.cells #[c0, c1] 31) :=
  (hb.block N (Nat.lt_of_lt_of_le (cells_of hN).2.2 hB)).trans hN
theorem put_one (n : Nat) : Va.put [n] = Va.one n := by simp [Va.put]

theorem own_at {w : World} {B n c : Nat} {a : Option Addr} {xs : List Value} (h : w.ownsRow B 5 1 (.slice a n c) n xs) (hn : 0 < n) : ∃ g, a = some ⟨g, 0, none⟩ ∧ n ≤ c := by
  rcases h.2 with ⟨e, h0⟩ | ⟨g, cap, cur, e, _, _, hnc, _⟩
  · omega
  · simp only [Value.slice.injEq] at e
    obtain ⟨rfl, _, rfl⟩ := e
    exact ⟨g, rfl, hnc⟩
theorem apf_of {w : World} {B g m n c k : Nat} {xs o b : List Nat} (h : w.ownsRow B 5 1 (.slice (some ⟨g, 0, none⟩) (m + o.length + 1 + n) c) (m + o.length + 1 + n) (kcells .u8 (xs ++ o ++ [k] ++ b)))
    (hxs : ∀ x ∈ xs, x < lim .u8) (ho : ∀ x ∈ o, x < 256) (hk : k < 256) (hb : ∀ x ∈ b, x < lim .u8) (hm : xs.length = m) (h1 : m ≤ 1000000000) (h2 : n ≤ 1048576) (h3 : o.length ≤ 3) :
    ∀ z c' q, z = n + 1 → q = m + o.length → Calls Try.prog 31 #[.slice (some ⟨g, q, none⟩) z c'] w fun e w' => e = .returned (.int .u32 (Crc.more 0 (k :: b) : Nat)) ∧ w' = w := by
  intro z c' q hz hq
  have hsm : ∀ x ∈ xs ++ o ++ [k] ++ b, x < lim .u8 := by
    intro x hx
    simp only [List.mem_append, List.mem_singleton] at hx
    rcases hx with ((hx | hx) | hx) | hx
    · exact hxs x hx
    · exact ho x hx
    · subst hx; exact hk
    · exact hb x hx
  have hr := (row_of_owns h hsm (by omega)).1.drop (m + o.length) (by omega)
  have e : (xs ++ o ++ [k] ++ b).drop (m + o.length) = k :: b := by
    rw [List.append_assoc (xs ++ o), show m + o.length = (xs ++ o).length by rw [List.length_append, hm], List.drop_left]; rfl
  rw [e, Nat.zero_add, show m + o.length + 1 + n - (m + o.length) = n + 1 by omega] at hr
  subst hz; subst hq
  exact of_any _ _ _ _ _ hr

set_option maxRecDepth 100000 in
set_option maxHeartbeats 1000000 in
theorem apf_any (k : Nat) (a : Option Addr) (n c : Nat) (b : List Nat) (ab : Option Addr) (m cb : Nat) (xs : List Nat) (w0 w : World) (hk1 : 1 ≤ k) (hk2 : k ≤ 250) (hn : n ≤ 1048576) (hm : m ≤ 1000000000)
    (hr : Row .u8 w0 a n b) (hnil : a = none → n = 0 ∧ c = 0) (hbel : Below w0.heap.size w0 w) (hown : w.ownsRow w0.heap.size 5 1 (.slice ab m cb) m (kcells .u8 xs)) (hxs : ∀ x ∈ xs, x < lim .u8) :
    Calls Try.prog 26 #[.slice ab m cb, .agg #[.int .i64 k, .slice a n c]] w fun e w' => ∃ a' c', e = .returned (.slice a' (m + (Fr.put1 k b).length) c') ∧ w'.ownsRow w0.heap.size 5 1 (.slice a' (m + (Fr.put1 k b).length) c') (m + (Fr.put1 k b).length) (kcells .u8 (xs ++ Fr.put1 k b)) ∧ Below w0.heap.size w0 w' := by
  have hbn : Hid (b.length = n) := hr.1
  have hvp : ∀ (W : World) (q : Addr), Row .u64 W (some q) 1 [n] → Calls Try.prog 36 #[.slice (some q) 1 1] W (Made .u8 5 W (Va.one n)) := fun W q h => by
    have := put_any (some q) 1 1 [n] W (by omega) h
    rwa [put_one] at this
  have hsm := Va.one_small n
  have h3 := Fr.one3 hn
  obtain ⟨o, ho'⟩ : ∃ o, o = Va.one n := ⟨_, rfl⟩
  rw [← ho'] at hvp hsm h3
  have ho : Hid (o = Va.one n) := ho'
  clear ho'
  have hput : Hid (Fr.put1 k b = o ++ [k] ++ b ++ Fr.le4 (Crc.more 0 (k :: b))) := (by rw [ho.out, ← hbn.out]; simp [Fr.put1] : Fr.put1 k b = o ++ [k] ++ b ++ Fr.le4 (Crc.more 0 (k :: b)))
  clear ho
  have hk256 : k < 256 := by omega
  have hxl : Hid (xs.length = m) := (by have := hown.1; rw [kcells_length] at this; omega : xs.length = m)
  have hk8 : ((k : Int) % 256) = k := by omega
  have hsz := hbel.size
  have hN0 : (w.alloc (.cells #[.int .i64 k, .slice a n c] 31)).heap[w.heap.size]? = some (.cells #[.int .i64 k, .slice a n c] 31) := heap_alloc_new w _
  have hrow : Row .u64 ((w.alloc (.cells #[.int .i64 k, .slice a n c] 31)).alloc (.cells #[.int .u64 n] 28)) (some ⟨w.heap.size + 1, 0, none⟩) 1 [n] := by
    have h := row_new .u64 (w.alloc (.cells #[.int .i64 k, .slice a n c] 31)) 28 n (by show n < 18446744073709551616; omega)
    rwa [World.size_alloc] at h
  have hN00 := stays_below hN0 (below_alloc _ (.cells #[.int .u64 n] 28)) (Nat.le_refl _)
  have hownW := (hown.alloc (.cells #[.int .i64 k, .slice a n c] 31)).alloc (.cells #[.int .u64 n] 28)
  have hbW : Below w0.heap.size w0 ((w.alloc (.cells #[.int .i64 k, .slice a n c] 31)).alloc (.cells #[.int .u64 n] 28)) := (hbel.alloc hsz _).alloc (by simp; omega) _
  go_enter Try.func26, Try.ntmps26
  go_wp2_with (first
    | (go_at_call 31; go_must (refine (hof _ _ _ ?_ ?_).mono ?_; omega; omega; rintro e w5 ⟨rfl, hw⟩; subst hw))
    | (at_builtin; have := hb3; go_must (refine append_u8g (w0 := w0) (B := w0.heap.size) rfl (.tmp 24) (.tmp 26) rfl _ (m + o.length + 1) (xs ++ o ++ [k]) rfl hb3 a n c b rfl (hr.below hB3 (Nat.le_refl _)) hnil (by omega) hB3 hs3 ?_; intro a4 c4 w4 hb4 hB4 hs4 hg4; obtain ⟨g, rfl, hc4⟩ := own_at hb4 (by omega); have hof := apf_of hb4 hxs hsm hk256 hr.2.2.1 hxl.out hm hn h3; have hc4' : ¬ c4 = m + o.length := (by omega)))
    | (at_builtin; have := hb2; go_must (refine append_u8g (w0 := w0) (B := w0.heap.size) rfl (.tmp 18) (.tmp 22) rfl _ (m + o.length) (xs ++ o) rfl (hb2.alloc _) (some ⟨w2.heap.size, 0, none⟩) 1 1 [k] rfl (row_newz .u8 _ 5 _ k (by omega) (by show k < 256; omega)) (fun h => by cases h) (by omega) (hB2.alloc hs2 _) (by simp; omega) ?_; intro a3 c3 w3 hb3 hB3 hs3 hg3; have hN3 := stays (stays_below hN2 (below_alloc _ _) (Nat.le_refl _)) (hb2.alloc _) hg3; obtain ⟨q30, q31, q3l⟩ := cells_of hN3))
    | (at_builtin; have := hb1; go_must (refine append_u8g (w0 := w0) (B := w0.heap.size) rfl (.tmp 8) (.tmp 14) rfl _ m xs rfl hb1 a1 o.length c1 o rfl r1 n1 (by omega) hB1 (by have := hB1.size; omega) ?_; intro a2 c2 w2 hb2 hB2 hs2 hg2; have hN2 := stays hN1 hb1 hg2; obtain ⟨q20, q21, q2l⟩ := cells_of hN2))
    | (go_at_call 36; go_must (refine (hvp _ _ hrow).mono ?_; rintro e w1 ⟨a1, c1, rfl, hown1, hbel1⟩; have hN1 := stays_below hN00 hbel1 (Nat.le_refl _); have hb1 := owns_below hownW hbel1; have hB1 := hbW.trans (hbel1.mono hbW.size); obtain ⟨r1, n1, _⟩ := row_of_owns hown1 hsm (by omega))))
  have hS := Crc.more_lt (s := 0) (k :: b) (by omega) (by
    intro x hx
    rcases List.mem_cons.mp hx with rfl | hx
    · exact hk256
    · exact hr.2.2.1 x hx)
  generalize Crc.more 0 (k :: b) = S at *
  generalize hPP : xs ++ o ++ [k] ++ b = PP at *
  have hP : Hid (xs ++ Fr.put1 k b = PP ++ Fr.le4 S) := (by rw [hput.out, ← hPP]; simp : xs ++ Fr.put1 k b = PP ++ Fr.le4 S)
  obtain ⟨M, hM⟩ : ∃ M, M = m + o.length + 1 + n := ⟨_, rfl⟩
  have hL : Hid (m + (Fr.put1 k b).length = M + 4) := (by rw [hput.out, hM]; simp [Fr.le4_len, hbn.out]; omega : m + (Fr.put1 k b).length = M + 4)
  have hMb : M ≤ 2000000000 := by omega
  rw [← hM] at hb4 ⊢
  clear hPP hof hM hput hown hownW hbW hN0 hN00 hrow hvp hb1 hb2 hb3 hown1 hbel1 hB1 hB2 hB3 hg2 hg3 hg4 hN1 hN2 hN3 q20 q21 q30 q31 r1 n1 hbel
  go_loopw [0, 32] (fun v i wr => ∃ (j : Nat) (a' : Option Addr) (c' : Nat), j ≤ 4 ∧ i = .int .i64 j ∧ v = .slice a' (M + j) c' ∧ wr.ownsRow w0.heap.size 5 1 (.slice a' (M + j) c') (M + j) (kcells .u8 (PP ++ (Fr.le4 S).take j)) ∧ Below w0.heap.size w0 wr)
    (fun _ i _ => 4 - (intOf i).toNat)
  case atStart => exact ⟨0, _, c4, by omega, rfl, rfl, by simpa using hb4, hB4⟩
  case round =>
    obtain ⟨j, a', c', hj, rfl, rfl, hown, hbel⟩ := hrel
    have hsz := hbel.size
    by_cases hlt4 : j < 4
    · have Hl : Hid ((Fr.le4 S).take (j + 1) = (Fr.le4 S).take j ++ [S / 256 ^ j % 256]) := le4_take S j hlt4
      clear hb4
      have hj4 : j = 0 ∨ j = 1 ∨ j = 2 ∨ j = 3 := by omega
      rcases hj4 with rfl | rfl | rfl | rfl
      · go_wp2_with (at_builtin; go_must (refine append_u8 (w0 := w0) rfl (.tmp 35) (.tmp 41) rfl _ (M + 0) _ rfl (hown.alloc _) _ 1 1 [S / 256 ^ 0 % 256] rfl (row_newz .u8 _ 5 _ (S / 256 ^ 0 % 256) (by simp; try omega) (by show _ < 256; omega)) (fun h => by cases h) (by omega) (hbel.alloc hsz _) (by simp; omega) ?_; intro a6 c6 w6 hown6 hbel6 hsz6))
        go_roundw
        case rel => exact ⟨1, a6, c6, by omega, by go_num, rfl, by rw [Hl.out, ← List.append_assoc]; exact hown6, hbel6⟩
        case measure => simp [intOf]
      · go_wp2_with (at_builtin; go_must (refine append_u8 (w0 := w0) rfl (.tmp 35) (.tmp 41) rfl _ (M + 1) _ rfl (hown.alloc _) _ 1 1 [S / 256 ^ 1 % 256] rfl (row_newz .u8 _ 5 _ (S / 256 ^ 1 % 256) (by simp; try omega) (by show _ < 256; omega)) (fun h => by cases h) (by omega) (hbel.alloc hsz _) (by simp; omega) ?_; intro a6 c6 w6 hown6 hbel6 hsz6))
        go_roundw
        case rel => exact ⟨2, a6, c6, by omega, by go_num, rfl, by rw [Hl.out, ← List.append_assoc]; exact hown6, hbel6⟩
        case measure => simp [intOf]
      · go_wp2_with (at_builtin; go_must (refine append_u8 (w0 := w0) rfl (.tmp 35) (.tmp 41) rfl _ (M + 2) _ rfl (hown.alloc _) _ 1 1 [S / 256 ^ 2 % 256] rfl (row_newz .u8 _ 5 _ (S / 256 ^ 2 % 256) (by simp; try omega) (by show _ < 256; omega)) (fun h => by cases h) (by omega) (hbel.alloc hsz _) (by simp; omega) ?_; intro a6 c6 w6 hown6 hbel6 hsz6))
        go_roundw
        case rel => exact ⟨3, a6, c6, by omega, by go_num, rfl, by rw [Hl.out, ← List.append_assoc]; exact hown6, hbel6⟩
        case measure => simp [intOf]
      · go_wp2_with (at_builtin; go_must (refine append_u8 (w0 := w0) rfl (.tmp 35) (.tmp 41) rfl _ (M + 3) _ rfl (hown.alloc _) _ 1 1 [S / 256 ^ 3 % 256] rfl (row_newz .u8 _ 5 _ (S / 256 ^ 3 % 256) (by simp; try omega) (by show _ < 256; omega)) (fun h => by cases h) (by omega) (hbel.alloc hsz _) (by simp; omega) ?_; intro a6 c6 w6 hown6 hbel6 hsz6))
        go_roundw
        case rel => exact ⟨4, a6, c6, by omega, by go_num, rfl, by rw [Hl.out, ← List.append_assoc]; exact hown6, hbel6⟩
        case measure => simp [intOf]
    · obtain rfl : j = 4 := by omega
      have Hl : Hid (xs ++ Fr.put1 k b = PP ++ (Fr.le4 S).take 4) := hP
      clear hb4
      go_wp2
      go_ret
      exact ⟨a', c', by rw [hL.out]; rfl, by rw [hL.out, Hl.out]; exact hown, hbel⟩
end Go.Proofs.Ytjioipkohnlipaa
