/- What the reference's May and Put of a frame do. -/
import Derived.Test.YtgdefibgifcbaaaGa
import Derived.Test.YtgdefibgifcbaaaCrc
import Derived.Test.YtgdefibgifcbaaaMa
import Derived.Deep.AppendLies
import Derived.Deep.Onto
import Derived.Deep.RegionHeld3
import Derived.Test.YtgdefibgifcbaaaI1
namespace Go.Proofs.Ytgdefibgifcbaaa
open Go.RowKit

/-- may a frame of that kind and so many bytes be? -/
def mayB (k : Int) (n : Nat) : Bool := decide (1 ≤ k ∧ k ≤ 250 ∧ n ≤ 1048576)
theorem mayB_may (k : Int) (b : List Nat) : mayB k b.length = Fr.may (k, b) := rfl

set_option maxRecDepth 100000 in
set_option maxHeartbeats 1000000 in
theorem refput1_any (k : Nat) (a : Option Addr) (n c : Nat) (b : List Nat) (w : World) (hk1 : 1 ≤ k) (hk2 : k ≤ 250) (hn : n ≤ 1048576) (hr : Row .u8 w a n b) (hnil : a = none → n = 0 ∧ c = 0) :
    Calls Try.prog 13 #[.agg #[.int .i64 k, .slice a n c]] w (Made .u8 5 w (Fr.put1 k b)) := by
  have hbn : Hid (b.length = n) := hr.1
  have hone : ∀ (W : World) (z : Int), z = (n : Int) → Calls Try.prog 27 #[.int .u64 z] W (Made .u8 5 W (Va.one n)) := fun W z hz => hz ▸ one_any n n W (Nat.le_refl _) (by omega)
  have hsm := Va.one_small n
  have h3 := Fr.one3 hn
  obtain ⟨o, ho'⟩ : ∃ o, o = Va.one n := ⟨_, rfl⟩
  rw [← ho'] at hone hsm h3
  have ho : Hid (o = Va.one n) := ho'
  clear ho'
  have hput : Hid (Fr.put1 k b = o ++ [k] ++ b ++ Fr.le4 (Crc.more 0 (k :: b))) := (by rw [ho.out, ← hbn.out]; simp [Fr.put1] : Fr.put1 k b = o ++ [k] ++ b ++ Fr.le4 (Crc.more 0 (k :: b)))
  clear ho
  have hk8 : ((k : Int) % 256) = k := by omega
  go_enter Try.func13, Try.ntmps13
  go_wp2_with fail
  have hb0 : Below w.heap.size w (w.alloc (.cells #[.int .i64 k, .slice a n c] 39)) := (Below.refl _ _).alloc (Nat.le_refl _) _
  have hc0 : (w.alloc (.cells #[.int .i64 k, .slice a n c] 39)).cell? ⟨w.heap.size, 0, none⟩ = some (.int .i64 k) := by rw [cell_new]; rfl
  have hc1 : (w.alloc (.cells #[.int .i64 k, .slice a n c] 39)).cell? ⟨w.heap.size, 1, none⟩ = some (.slice a n c) := by rw [cell_new]; rfl
  have hlt : w.heap.size < (w.alloc (.cells #[.int .i64 k, .slice a n c] 39)).heap.size := by simp
  generalize w.alloc (.cells #[.int .i64 k, .slice a n c] 39) = w0 at *
  have hr0 := hr.below hb0 (Nat.le_refl _)
  obtain ⟨N, hN⟩ : ∃ N, N = w.heap.size := ⟨_, rfl⟩
  rw [← hN] at hc0 hc1 hlt ⊢
  have HN : Hid (N = w.heap.size) := hN
  have hr' := hr
  clear hN hr
  have hw0 : w.heap.size ≤ w0.heap.size := hb0.size
  have hcs : Hid (∀ W, Below w0.heap.size w0 W → W.cell? ⟨N, 0, none⟩ = some (.int .i64 k) ∧ W.cell? ⟨N, 1, none⟩ = some (.slice a n c) ∧ N < W.heap.size) := (fun W h => ⟨(h.cell (p := ⟨N, 0, none⟩) hlt).trans hc0, (h.cell (p := ⟨N, 1, none⟩) hlt).trans hc1, Nat.lt_of_lt_of_le hlt h.size⟩ : ∀ W, Below w0.heap.size w0 W → W.cell? ⟨N, 0, none⟩ = some (.int .i64 k) ∧ W.cell? ⟨N, 1, none⟩ = some (.slice a n c) ∧ N < W.heap.size)
  go_region_held3 (fun w' => w'.cell? ⟨N, 0, none⟩ = some (.int .i64 k) ∧ w'.cell? ⟨N, 1, none⟩ = some (.slice a n c)) (first | go_keep | (refine ⟨?_, ?_⟩ <;> assumption))
    (first
      | ((go_at_call 27; refine (hone _ _ ?_).mono ?_; (simp only [IntKind.wrap_u64]; omega); rintro e w1 ⟨a1, c1, rfl, hown1, hbel1⟩; have hb1 : Below w0.heap.size w0 w1 := (by first | exact below_of_drew hbel1 | exact ((Below.refl _ _).alloc (Nat.le_refl _) _).trans ((below_of_drew hbel1).mono (by simp))); obtain ⟨hk0, hk1, _⟩ := hcs.out w1 hb1))
      | ((have := hown1; refine step_u8 (w0 := w0) (B := w0.heap.size) (by rfl) _ _ (by rfl) _ o.length o (by rfl) ((hown1.mono (by simp)).alloc _) ⟨w1.heap.size, 0, none⟩ 1 1 [k] (by rfl) (row_newz .u8 _ 5 _ k (by simp only [IntKind.wrap_u8']; omega) (by show k < 256; omega)) (by omega) (by omega) (hb1.alloc hb1.size _) (by have := hb1.size; simp; omega) ?_; intro a2 c2 w2 hown2 hbel2 hsz2 hg2; obtain ⟨hk2, hk3, hn2⟩ := hcs.out w2 hbel2))
      | ((have := hown1; refine step_u8 (w0 := w0) (B := w0.heap.size) (by rfl) _ _ (by rfl) _ o.length o (by rfl) (hown1.mono (by simp)) ⟨w0.heap.size, 0, none⟩ 1 1 [k] (by rfl) (row_inz _ k (by simp only [IntKind.wrap_u8']; omega) (by show k < 256; omega) ((hbel1.block w0.heap.size (by simp)).trans (heap_alloc_new w0 _))) (by omega) (by omega) hb1 hb1.size ?_; intro a2 c2 w2 hown2 hbel2 hsz2 hg2; obtain ⟨hk2, hk3, hn2⟩ := hcs.out w2 hbel2)))
  all_goals
    have hrb : Row .u8 w2 a n b := hr0.below hbel2 (Nat.le_refl _)
    have hbs : ∀ x ∈ k :: b, x < lim .u8 := by
      intro x hx
      rcases List.mem_cons.mp hx with rfl | hx
      · show x < 256; omega
      · exact hr0.2.2.1 x hx
    clear hown1 hbel1 hg2 hk0 hk1
    go_wp2_with (first
      | (at_builtin; have := hown3; go_must (have hlit := owns_lit w3 w3.heap.size 5 (kcells .u8 [k]) 1 rfl (Nat.le_refl _) (by omega); have hB3 : Below w3.heap.size w3 (w3.alloc (.cells #[.int .u8 (k : Nat)] 5)) := (Below.refl _ _).alloc (Nat.le_refl _) _; refine append_u8 (w0 := w3) (B := w3.heap.size) rfl (.tmp 23) (.tmp 25) rfl _ 1 [k] rfl hlit a n c b rfl ((hr0.below hbel3 (Nat.le_refl _)).below hB3 (Nat.le_refl _)) hnil (by omega) hB3 hB3.size ?_; intro a4 c4 w4 hown4 hbel4 hsz4))
      | (at_builtin; refine append_u8 (w0 := w0) (B := w0.heap.size) rfl (.tmp 16) (.tmp 18) rfl _ _ _ rfl hown2 a n c b rfl hrb hnil (by omega) hbel2 hsz2 ?_; intro a3 c3 w3 hown3 hbel3 hsz3; obtain ⟨hk4, hk5, hn3⟩ := hcs.out w3 hbel3)
      | (go_at_call 26; have := hown4; go_must (refine (refof_any _ _ _ (k :: b) _ (row_of_owns hown4 hbs (by omega)).1).mono ?_; rintro e w5 ⟨rfl, hw⟩; subst hw)))
    have hB4 : Below w0.heap.size w0 w5 := hbel3.trans (hbel4.mono hbel3.size)
    have hown5 := owns_below hown3 hbel4
    have hS := Crc.more_lt (s := 0) (k :: b) (by omega) hbs
    generalize Crc.more 0 (k :: b) = S at *
    generalize hPP : o ++ [k] ++ b = PP at *
    have hPl : Hid (PP.length = o.length + 1 + n) := (by rw [← hPP]; simp [hbn.out]; omega : PP.length = o.length + 1 + n)
    clear hPP hown2 hown3 hown4 hbel2 hbel3 hbel4 hbs
    obtain ⟨M, hM⟩ : ∃ M, M = o.length + 1 + n := ⟨_, rfl⟩
    rw [← hM] at hPl hown5 ⊢
    have hMb : M ≤ 2000000 := by omega
    clear hM
    go_loopw [3, 4, 5] (fun v t i wr => ∃ (j : Nat) (q : Nat) (a' : Option Addr) (c' : Nat), j ≤ 4 ∧ i = .int .i64 j ∧ t = .int .u32 q ∧ q < 4294967296 ∧ v = .slice a' (M + j) c' ∧ wr.ownsRow w0.heap.size 5 1 (.slice a' (M + j) c') (M + j) (kcells .u8 (PP ++ (Fr.le4 S).take j)) ∧ Below w0.heap.size w0 wr ∧ Hid (q = S / 256 ^ j))
      (fun _ _ i _ => 4 - (intOf i).toNat)
    case atStart => exact ⟨0, S, a3, c3, by omega, rfl, rfl, hS, rfl, by simpa using hown5, hB4, (by simp : S = S / 256 ^ 0)⟩
    case round =>
      obtain ⟨j, q, a', c', hj, rfl, rfl, hq, rfl, hown, hbel, hqs⟩ := hrel
      have hsz := hbel.size
      by_cases hlt4 : j < 4
      · have Hl : Hid ((Fr.le4 S).take (j + 1) = (Fr.le4 S).take j ++ [q % 256]) := (by rw [le4_take S j hlt4, hqs.out] : (Fr.le4 S).take (j + 1) = (Fr.le4 S).take j ++ [q % 256])
        have Hq : Hid (q / 256 = S / 256 ^ (j + 1)) := (by rw [hqs.out, div_step] : q / 256 = S / 256 ^ (j + 1))
        clear hown5 hqs
        go_wp2_with (at_builtin; refine append_u8 (w0 := w0) rfl (.tmp 32) (.tmp 36) rfl _ (M + j) _ rfl (hown.alloc _) _ 1 1 [q % 256] rfl (row_newz .u8 _ 5 _ (q % 256) (by omega) (by show _ < 256; omega)) (fun h => by cases h) (by omega) (hbel.alloc hsz _) (by simp; omega) ?_; intro a6 c6 w6 hown6 hbel6 hsz6)
        go_roundw
        case rel => exact ⟨j + 1, q / 256, a6, c6, by omega, by go_num, val_int (by omega), by omega, rfl, by rw [Hl.out, ← List.append_assoc]; exact hown6, hbel6, Hq⟩
        case measure => simp [intOf]; omega
      · obtain rfl : j = 4 := by omega
        have Hl : Hid (Fr.put1 k b = PP ++ (Fr.le4 S).take 4) := (by rw [hput.out]; rfl : Fr.put1 k b = PP ++ (Fr.le4 S).take 4)
        have Hn : Hid ((Fr.put1 k b).length = M + 4) := (by rw [Hl.out, List.length_append, hPl.out]; rfl : (Fr.put1 k b).length = M + 4)
        clear hown5
        go_wp2
        go_ret
        refine ⟨a', c', ?_, ?_, hb0.trans (hbel.mono hw0)⟩
        · rw [Hn.out]; rfl
        · rw [Hn.out, Hl.out]; exact hown.mono hw0
end Go.Proofs.Ytgdefibgifcbaaa

/- Rows of frames; what the reference's Ints, Same and All do. -/
namespace Go.Proofs.Ytgdefibgifcbaaa
open Go.RowKit

/-- a frame's cells at a place -/
def FAt (w : World) (b o : Nat) (f : Fr.F) : Prop :=
  ∃ A L C, w.cell? ⟨b, o, none⟩ = some (.int .i64 f.1) ∧ w.cell? ⟨b, o + 1, none⟩ = some (.slice A L C) ∧ Row .u8 w A L f.2 ∧ Shape A L C ∧ (A = none → L = 0 ∧ C = 0) ∧ -9223372036854775808 ≤ f.1 ∧ f.1 ≤ 9223372036854775807
/-- A slice that reads as the frames fs. -/
def FRow (w : World) (a : Option Addr) (len : Nat) (fs : List Fr.F) : Prop :=
  fs.length = len ∧ len ≤ 1000000000000000 ∧ (len = 0 ∨ ∃ b off, a = some ⟨b, off, none⟩ ∧ ∀ i, i < len → FAt w b (off + i * 2) (fs.getD i (0, [])))
theorem FAt.below {w w' : World} {B b o : Nat} {f : Fr.F} (h : FAt w b o f) (hb : Below B w w') (hB : w.heap.size ≤ B) : FAt w' b o f := by
  obtain ⟨A, L, C, h1, h2, h3, h4⟩ := h
  exact ⟨A, L, C, (hb.cell (p := ⟨b, o, none⟩) (Nat.lt_of_lt_of_le (cell_lt h1) hB)).trans h1, (hb.cell (p := ⟨b, o + 1, none⟩) (Nat.lt_of_lt_of_le (cell_lt h2) hB)).trans h2, h3.below hb hB, h4⟩
theorem FRow.below {w w' : World} {B : Nat} {a : Option Addr} {l : Nat} {fs : List Fr.F} (h : FRow w a l fs) (hb : Below B w w') (hB : w.heap.size ≤ B) : FRow w' a l fs := by
  obtain ⟨h1, h2, h3⟩ := h
  refine ⟨h1, h2, ?_⟩
  rcases h3 with h0 | ⟨b, off, e, hc⟩
  · exact .inl h0
  · exact .inr ⟨b, off, e, fun i hi => (hc i hi).below hb hB⟩
theorem FRow.at {w : World} {a : Option Addr} {n : Nat} {fs : List Fr.F} (h : FRow w a n fs) (hn : 0 < n) :
    ∃ b off, a = some ⟨b, off, none⟩ ∧ ∀ i, i < n → FAt w b (off + i * 2) (fs.getD i (0, [])) := by
  obtain ⟨_, _, h0 | h0⟩ := h
  · omega
  · exact h0
theorem feq_of_getD {a b : List Fr.F} (hl : a.length = b.length) (h : ∀ j, j < a.length → a.getD j (0, []) = b.getD j (0, [])) : a = b := by
  apply List.ext_getElem hl
  intro i h1 h2
  have := h i h1
  simpa [h1, h2] using this

end Go.Proofs.Ytgdefibgifcbaaa


/- What the reference's Ints and All do. -/
namespace Go.Proofs.Ytgdefibgifcbaaa
open Go.RowKit

theorem fall_take (l : List Fr.F) (k : Nat) (h : k < l.length) : Fr.all (l.take (k + 1)) = Fr.all (l.take k) ++ Fr.one (l.getD k (0, [])) := by
  rw [List.take_succ_eq_append_getElem h, Fr.all_append]; simp [h, Fr.all]
theorem fall_take_le (l : List Fr.F) (k : Nat) : (Fr.all (l.take k)).length ≤ (Fr.all l).length := by
  have h : Fr.all l = Fr.all (l.take k) ++ Fr.all (l.drop k) := by rw [← Fr.all_append, List.take_append_drop]
  rw [h, List.length_append]; omega
theorem good_get {l : List Fr.F} (hg : Fr.Good l) (k : Nat) (h : k < l.length) : Fr.may (l.getD k (0, [])) = true := by
  have : l.getD k (0, []) = l[k] := by simp [h]
  rw [this]; exact (hg _ (List.getElem_mem h)).1

end Go.Proofs.Ytgdefibgifcbaaa
