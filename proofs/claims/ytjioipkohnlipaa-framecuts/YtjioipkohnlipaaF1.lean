/- What the reference's May and Put of a frame do. -/
import Derived.Test.YtjioipkohnlipaaW11
import Derived.Test.YtjioipkohnlipaaCrc
import Derived.Test.YtjioipkohnlipaaFrMath
import Derived.Deep.AppendLies
import Derived.Deep.Onto
import Derived.Deep.RegionHeld3
namespace Go.Proofs.Ytjioipkohnlipaa
open Go.RowKit

/-- may a frame of that kind and so many bytes be? -/
def mayB (k : Int) (n : Nat) : Bool := decide (1 ≤ k ∧ k ≤ 250 ∧ n ≤ 1048576)
theorem mayB_may (k : Int) (b : List Nat) : mayB k b.length = Fr.may (k, b) := rfl

set_option maxRecDepth 100000 in
set_option maxHeartbeats 400000 in
theorem may1_any (k : Int) (a : Option Addr) (n c : Nat) (w : World) (hn : n ≤ 1000000000000000000) :
    Calls Try.prog 12 #[.agg #[.int .i64 k, .slice a n c]] w fun e w' => e = .returned (.bool (mayB k n)) ∧ Below w.heap.size w w' := by
  by_cases h1 : 1 ≤ k
  · by_cases h2 : k ≤ 250
    · have hm : Hid (mayB k n = decide ((n : Int) ≤ 1048576)) := (by unfold mayB; simp only [h1, h2, true_and]; congr 1; simp; omega : mayB k n = decide ((n : Int) ≤ 1048576))
      go_enter Try.func12, Try.ntmps12
      go_wp2
      go_ret
      exact ⟨by rw [hm.out]; rfl, (Below.refl _ _).alloc (Nat.le_refl _) _⟩
    · have hm : Hid (mayB k n = false) := (by unfold mayB; simp; omega : mayB k n = false)
      go_enter Try.func12, Try.ntmps12
      go_wp2
      go_ret
      exact ⟨by rw [hm.out]; rfl, (Below.refl _ _).alloc (Nat.le_refl _) _⟩
  · have hm : Hid (mayB k n = false) := (by unfold mayB; simp; omega : mayB k n = false)
    go_enter Try.func12, Try.ntmps12
    go_wp2
    go_ret
    exact ⟨by rw [hm.out]; rfl, (Below.refl _ _).alloc (Nat.le_refl _) _⟩

theorem append_u8g {w0 w : World} {B : Nat} {ops : Array Oper} {rest : List Oper} {o : Oper} {a : Act} {Q : Exit → Act → World → Prop} (hgd : o.guard = none) (s x : Operand)
    (ho : o.op = .call { callee := .builtin .append, args := #[s, x], argTypes := #[26, 26] })
    (v : Value) (n : Nat) (xs : List Nat) (hs : a.eval s = v) (hown : w.ownsRow B 5 1 v n (kcells .u8 xs))
    (ad : Option Addr) (m c : Nat) (bs : List Nat) (hx : a.eval x = .slice ad m c) (hrow : Row .u8 w ad m bs) (hnil : ad = none → m = 0 ∧ c = 0)
    (hnm : n + m ≤ 1000000000000) (hbel : Below B w0 w) (hB : B ≤ w.heap.size)
    (h : ∀ a' c' w', w'.ownsRow B 5 1 (.slice a' (n + m) c') (n + m) (kcells .u8 (xs ++ bs)) → Below B w0 w' → B ≤ w'.heap.size → w.grownBy w' v.ownBlock → wpList Try.prog ops Q rest (a.put o.dst (.slice a' (n + m) c')) w') : wpList Try.prog ops Q (o :: rest) a w := by
  obtain ⟨i0, hi, hz0, hz1, hz2⟩ := info_parts Try.info5
  obtain ⟨h1, h2, h3, h4⟩ := hrow
  cases ad with
  | none =>
    obtain ⟨rfl, rfl⟩ := hnil rfl
    obtain rfl : bs = [] := List.length_eq_zero_iff.mp h1
    refine wpList_append_own_none hgd s x 26 ho B 5 i0 1 Try.underlying26 hi v n (kcells .u8 xs) hs hown hx ?_
    obtain ⟨a', c', rfl⟩ := slice_of_owns hown
    exact h a' c' w (by simpa using hown) hbel hB ⟨rfl, rfl, rfl, Nat.le_refl _, fun _ _ _ => rfl⟩
  | some ad =>
    refine wpList_append_own w hgd s x 26 ho B 5 i0 (.int .u8 0) 1 1 Try.underlying26 hi hz0 hz1 hz2 rfl (by decide) v n (kcells .u8 xs) hs hown ad m c (kcells .u8 bs) hx (by rw [kcells_length]; omega) ?_ ?_ (by unfold maxLen; omega) (by omega) hB ?_
    · intro j u hj
      obtain ⟨hlt, rfl⟩ := kcells_get .u8 bs j u hj
      rcases h4 with h0 | ⟨b, off, e, hc⟩
      · omega
      · obtain rfl : ad = ⟨b, off, none⟩ := by simpa using e
        rw [add_at]; exact hc j (by omega)
    · intro u hu
      simp only [kcells, List.mem_map] at hu
      obtain ⟨n, _, rfl⟩ := hu
      rfl
    · intro v' w' hown' hg _
      obtain ⟨a', c', rfl⟩ := slice_of_owns hown'
      refine h a' c' w' (by rw [kcells_append]; exact hown') (hbel.grown hg hB (fun k hk => (hown.lt k hk).1)) (Nat.le_trans hB hg.size) hg

/-- append at a step of a region that draws: a row of bytes behind an own one -/
theorem step_u8 {w0 w : World} {B : Nat} {ops : Array Oper} {o : Oper} {a : Act} {K : Act → World → Prop} {Q : Exit → Act → World → Prop} {E : Prop} (hgd : o.guard = none) (s x : Operand)
    (ho : o.op = .call { callee := .builtin .append, args := #[s, x], argTypes := #[26, 26] })
    (v : Value) (n : Nat) (xs : List Nat) (hs : a.eval s = v) (hown : w.ownsRow B 5 1 v n (kcells .u8 xs))
    (ad : Addr) (m c : Nat) (bs : List Nat) (hx : a.eval x = .slice (some ad) m c) (hrow : Row .u8 w (some ad) m bs) (hm : 0 < m)
    (hnm : n + m ≤ 1000000000000) (hbel : Below B w0 w) (hB : B ≤ w.heap.size)
    (h : ∀ a' c' w', w'.ownsRow B 5 1 (.slice a' (n + m) c') (n + m) (kcells .u8 (xs ++ bs)) → Below B w0 w' → B ≤ w'.heap.size → w.grownBy w' v.ownBlock → K (a.put o.dst (.slice a' (n + m) c')) w') :
    if Region.wanted o (yielded ops a.tmps) = true then Oper.wp Try.prog o a w K Q else E := by
  obtain ⟨i0, hi, hz0, hz1, hz2⟩ := info_parts Try.info5
  obtain ⟨h1, h2, h3, h4⟩ := hrow
  refine step_append_lies w hgd s x 26 ho B 5 i0 (.int .u8 0) 1 1 Try.underlying26 hi hz0 hz1 hz2 rfl (by decide) v n (kcells .u8 xs) hs hown ad m c (kcells .u8 bs) hx (by rw [kcells_length]; omega) ?_ ?_ hm (by unfold maxLen; omega) (by omega) hB w.heap.size rfl ?_
  · intro j u hj
    obtain ⟨hlt, rfl⟩ := kcells_get .u8 bs j u hj
    rcases h4 with h0 | ⟨b, off, e, hc⟩
    · omega
    · obtain rfl : ad = ⟨b, off, none⟩ := by simpa using e
      rw [add_at]; exact hc j (by omega)
  · intro u hu
    simp only [kcells, List.mem_map] at hu
    obtain ⟨n, _, rfl⟩ := hu
    rfl
  · intro g cap w' hown' hg _ _
    exact h _ _ w' (by rw [kcells_append]; exact hown') (hbel.grown hg hB (fun k hk => (hown.lt k hk).1)) (Nat.le_trans hB hg.size) hg

theorem row_newz (k : IntKind) (w : World) (e : TypeId) (z : Int) (x : Nat) (hz : z = (x : Nat)) (hx : x < lim k) : Row k (w.alloc (.cells #[.int k z] e)) (some ⟨w.heap.size, 0, none⟩) 1 [x] := hz ▸ row_new k w e x hx
theorem cell_new (w : World) (cs : Array Value) (e : TypeId) (i : Nat) : (w.alloc (.cells cs e)).cell? ⟨w.heap.size, i, none⟩ = cs[i]? := by
  have : (w.alloc (.cells cs e)).heap[w.heap.size]? = some (.cells cs e) := heap_alloc_new w _
  simp only [World.cell?, this]
  rfl
theorem own_ne {w : World} {base : Nat} {e : TypeId} {size : Nat} {v : Value} {n : Nat} {xs : List Value} (h : w.ownsRow base e size v n xs) {k : Nat} (hk : k < base) : some k ≠ v.ownBlock := by
  intro e
  have := (h.lt k e.symm).1
  omega
theorem grown_cell {w w' : World} {row : Option Nat} (hg : w.grownBy w' row) {p : Addr} (hp : p.block < w.heap.size) (hne : some p.block ≠ row) : w'.cell? p = w.cell? p := World.cell?_of_block (w := w) (hg.block p.block hp hne)
theorem cell_past (w : World) (o : Obj) (p : Addr) (h : p.block < w.heap.size) : (w.alloc o).cell? p = w.cell? p := World.cell?_of_block (w := w) (Below.heap_alloc w o p.block h)
theorem row_inz {k : IntKind} {w : World} {e : TypeId} {b : Nat} (z : Int) (x : Nat) (hz : z = (x : Nat)) (hx : x < lim k) (h : w.heap[b]? = some (.cells #[.int k z] e (0, 0))) : Row k w (some ⟨b, 0, none⟩) 1 [x] := by
  subst hz
  refine ⟨rfl, by omega, by simpa using hx, .inr ⟨_, _, rfl, fun i hi => ?_⟩⟩
  obtain rfl : i = 0 := by omega
  simp only [World.cell?, h]
  rfl

theorem le4_take (s j : Nat) (hj : j < 4) : (Fr.le4 s).take (j + 1) = (Fr.le4 s).take j ++ [s / 256 ^ j % 256] := by
  match j, hj with
  | 0, _ | 1, _ | 2, _ | 3, _ => simp [Fr.le4]
theorem div_step (s j : Nat) : s / 256 ^ j / 256 = s / 256 ^ (j + 1) := by rw [Nat.div_div_eq_div_mul, ← Nat.pow_succ]

set_option maxRecDepth 100000 in
set_option maxHeartbeats 1000000 in
theorem refput1_any (k : Nat) (a : Option Addr) (n c : Nat) (b : List Nat) (w : World) (hk1 : 1 ≤ k) (hk2 : k ≤ 250) (hn : n ≤ 1048576) (hr : Row .u8 w a n b) (hnil : a = none → n = 0 ∧ c = 0) :
    Calls Try.prog 28 #[.agg #[.int .i64 k, .slice a n c]] w (Made .u8 5 w (Fr.put1 k b)) := by
  have hbn : Hid (b.length = n) := hr.1
  have hone : ∀ (W : World) (z : Int), z = (n : Int) → Calls Try.prog 11 #[.int .u64 z] W (Made .u8 5 W (Va.one n)) := fun W z hz => hz ▸ one_any n n W (Nat.le_refl _) (by omega)
  have hsm := Va.one_small n
  have h3 := Fr.one3 hn
  obtain ⟨o, ho'⟩ : ∃ o, o = Va.one n := ⟨_, rfl⟩
  rw [← ho'] at hone hsm h3
  have ho : Hid (o = Va.one n) := ho'
  clear ho'
  have hput : Hid (Fr.put1 k b = o ++ [k] ++ b ++ Fr.le4 (Crc.more 0 (k :: b))) := (by rw [ho.out, ← hbn.out]; simp [Fr.put1] : Fr.put1 k b = o ++ [k] ++ b ++ Fr.le4 (Crc.more 0 (k :: b)))
  clear ho
  have hk8 : ((k : Int) % 256) = k := by omega
  go_enter Try.func28, Try.ntmps28
  go_wp2_with fail
  have hb0 : Below w.heap.size w (w.alloc (.cells #[.int .i64 k, .slice a n c] 31)) := (Below.refl _ _).alloc (Nat.le_refl _) _
  have hc0 : (w.alloc (.cells #[.int .i64 k, .slice a n c] 31)).cell? ⟨w.heap.size, 0, none⟩ = some (.int .i64 k) := by rw [cell_new]; rfl
  have hc1 : (w.alloc (.cells #[.int .i64 k, .slice a n c] 31)).cell? ⟨w.heap.size, 1, none⟩ = some (.slice a n c) := by rw [cell_new]; rfl
  have hlt : w.heap.size < (w.alloc (.cells #[.int .i64 k, .slice a n c] 31)).heap.size := by simp
  generalize w.alloc (.cells #[.int .i64 k, .slice a n c] 31) = w0 at *
  have hr0 := hr.below hb0 (Nat.le_refl _)
  obtain ⟨N, hN⟩ : ∃ N, N = w.heap.size := ⟨_, rfl⟩
  rw [← hN] at hc0 hc1 hlt ⊢
  have HN : Hid (N = w.heap.size) := hN
  have hr' := hr
  clear hN hr
  have hw0 : w.heap.size ≤ w0.heap.size := hb0.size
  have hcs : Hid (∀ W, Below w0.heap.size w0 W → W.cell? ⟨N, 0, none⟩ = some (.int .i64 k) ∧ W.cell? ⟨N, 1, none⟩ = some (.slice a n c) ∧ N < W.heap.size) := (fun W h => ⟨(h.cell (p := ⟨N, 0, none⟩) hlt).trans hc0, (h.cell (p := ⟨N, 1, none⟩) hlt).trans hc1, Nat.lt_of_lt_of_le hlt h.size⟩ : ∀ W, Below w0.heap.size w0 W → W.cell? ⟨N, 0, none⟩ = some (.int .i64 k) ∧ W.cell? ⟨N, 1, none⟩ = some (.slice a n c) ∧ N < W.heap.size)
  go_region_held3 (fun w' => w'.cell? ⟨N, 0, none⟩ = some (.int .i64 k) ∧ w'.cell? ⟨N, 1, none⟩ = some (.slice a n c)) (first | go_keep | (refine ⟨?_, ?_⟩ <;> assumption))
    (first
      | ((go_at_call 11; refine (hone _ _ ?_).mono ?_; (simp only [IntKind.wrap_u64]; omega); rintro e w1 ⟨a1, c1, rfl, hown1, hbel1⟩; have hb1 : Below w0.heap.size w0 w1 := (by first | exact below_of_drew hbel1 | exact ((Below.refl _ _).alloc (Nat.le_refl _) _).trans ((below_of_drew hbel1).mono (by simp))); obtain ⟨hk0, hk1, _⟩ := hcs.out w1 hb1))
      | ((have := hown1; refine step_u8 (w0 := w0) (B := w0.heap.size) (by rfl) _ _ (by rfl) _ o.length o (by rfl) ((hown1.mono (by simp)).alloc _) ⟨w1.heap.size, 0, none⟩ 1 1 [k] (by rfl) (row_newz .u8 _ 5 _ k (by simp only [IntKind.wrap_u8']; omega) (by show k < 256; omega)) (by omega) (by omega) (hb1.alloc hb1.size _) (by have := hb1.size; simp; omega) ?_; intro a2 c2 w2 hown2 hbel2 hsz2 hg2; obtain ⟨hk2, hk3, hn2⟩ := hcs.out w2 hbel2))
      | ((have := hown1; refine step_u8 (w0 := w0) (B := w0.heap.size) (by rfl) _ _ (by rfl) _ o.length o (by rfl) (hown1.mono (by simp)) ⟨w0.heap.size, 0, none⟩ 1 1 [k] (by rfl) (row_inz _ k (by simp only [IntKind.wrap_u8']; omega) (by show k < 256; omega) ((hbel1.block w0.heap.size (by simp)).trans (heap_alloc_new w0 _))) (by omega) (by omega) hb1 hb1.size ?_; intro a2 c2 w2 hown2 hbel2 hsz2 hg2; obtain ⟨hk2, hk3, hn2⟩ := hcs.out w2 hbel2)))
  all_goals
    have hrb : Row .u8 w2 a n b := hr0.below hbel2 (Nat.le_refl _)
    have hbs : ∀ x ∈ k :: b, x < lim .u8 := by
      intro x hx
      rcases List.mem_cons.mp hx with rfl | hx
      · show x < 256; omega
      · exact hr0.2.2.1 x hx
    clear hown1 hbel1 hg2 hk0 hk1
    go_wp2_with (first
      | (at_builtin; have := hown3; go_must (have hlit := owns_lit w3 w3.heap.size 5 (kcells .u8 [k]) 1 rfl (Nat.le_refl _) (by omega); have hB3 : Below w3.heap.size w3 (w3.alloc (.cells #[.int .u8 (k : Nat)] 5)) := (Below.refl _ _).alloc (Nat.le_refl _) _; refine append_u8 (w0 := w3) (B := w3.heap.size) rfl (.tmp 23) (.tmp 25) rfl _ 1 [k] rfl hlit a n c b rfl ((hr0.below hbel3 (Nat.le_refl _)).below hB3 (Nat.le_refl _)) hnil (by omega) hB3 hB3.size ?_; intro a4 c4 w4 hown4 hbel4 hsz4))
      | (at_builtin; refine append_u8 (w0 := w0) (B := w0.heap.size) rfl (.tmp 16) (.tmp 18) rfl _ _ _ rfl hown2 a n c b rfl hrb hnil (by omega) hbel2 hsz2 ?_; intro a3 c3 w3 hown3 hbel3 hsz3; obtain ⟨hk4, hk5, hn3⟩ := hcs.out w3 hbel3)
      | (go_at_call 37; have := hown4; go_must (refine (refof_any _ _ _ (k :: b) _ (row_of_owns hown4 hbs (by omega)).1).mono ?_; rintro e w5 ⟨rfl, hw⟩; subst hw)))
    have hB4 : Below w0.heap.size w0 w5 := hbel3.trans (hbel4.mono hbel3.size)
    have hown5 := owns_below hown3 hbel4
    have hS := Crc.more_lt (s := 0) (k :: b) (by omega) hbs
    generalize Crc.more 0 (k :: b) = S at *
    generalize hPP : o ++ [k] ++ b = PP at *
    have hPl : Hid (PP.length = o.length + 1 + n) := (by rw [← hPP]; simp [hbn.out]; omega : PP.length = o.length + 1 + n)
    clear hPP hown2 hown3 hown4 hbel2 hbel3 hbel4 hbs
    obtain ⟨M, hM⟩ : ∃ M, M = o.length + 1 + n := ⟨_, rfl⟩
    rw [← hM] at hPl hown5 ⊢
    have hMb : M ≤ 2000000 := by omega
    clear hM
    go_loopw [3, 4, 5] (fun v t i wr => ∃ (j : Nat) (q : Nat) (a' : Option Addr) (c' : Nat), j ≤ 4 ∧ i = .int .i64 j ∧ t = .int .u32 q ∧ q < 4294967296 ∧ v = .slice a' (M + j) c' ∧ wr.ownsRow w0.heap.size 5 1 (.slice a' (M + j) c') (M + j) (kcells .u8 (PP ++ (Fr.le4 S).take j)) ∧ Below w0.heap.size w0 wr ∧ Hid (q = S / 256 ^ j))
      (fun _ _ i _ => 4 - (intOf i).toNat)
    case atStart => exact ⟨0, S, a3, c3, by omega, rfl, rfl, hS, rfl, by simpa using hown5, hB4, (by simp : S = S / 256 ^ 0)⟩
    case round =>
      obtain ⟨j, q, a', c', hj, rfl, rfl, hq, rfl, hown, hbel, hqs⟩ := hrel
      have hsz := hbel.size
      by_cases hlt4 : j < 4
      · have Hl : Hid ((Fr.le4 S).take (j + 1) = (Fr.le4 S).take j ++ [q % 256]) := (by rw [le4_take S j hlt4, hqs.out] : (Fr.le4 S).take (j + 1) = (Fr.le4 S).take j ++ [q % 256])
        have Hq : Hid (q / 256 = S / 256 ^ (j + 1)) := (by rw [hqs.out, div_step] : q / 256 = S / 256 ^ (j + 1))
        clear hown5 hqs
        go_wp2_with (at_builtin; refine append_u8 (w0 := w0) rfl (.tmp 32) (.tmp 36) rfl _ (M + j) _ rfl (hown.alloc _) _ 1 1 [q % 256] rfl (row_newz .u8 _ 5 _ (q % 256) (by omega) (by show _ < 256; omega)) (fun h => by cases h) (by omega) (hbel.alloc hsz _) (by simp; omega) ?_; intro a6 c6 w6 hown6 hbel6 hsz6)
        go_roundw
        case rel => exact ⟨j + 1, q / 256, a6, c6, by omega, by go_num, val_int (by omega), by omega, rfl, by rw [Hl.out, ← List.append_assoc]; exact hown6, hbel6, Hq⟩
        case measure => simp [intOf]; omega
      · obtain rfl : j = 4 := by omega
        have Hl : Hid (Fr.put1 k b = PP ++ (Fr.le4 S).take 4) := (by rw [hput.out]; rfl : Fr.put1 k b = PP ++ (Fr.le4 S).take 4)
        have Hn : Hid ((Fr.put1 k b).length = M + 4) := (by rw [Hl.out, List.length_append, hPl.out]; rfl : (Fr.put1 k b).length = M + 4)
        clear hown5
        go_wp2
        go_ret
        refine ⟨a', c', ?_, ?_, hb0.trans (hbel.mono hw0)⟩
        · rw [Hn.out]; rfl
        · rw [Hn.out, Hl.out]; exact hown.mono hw0
end Go.Proofs.Ytjioipkohnlipaa
