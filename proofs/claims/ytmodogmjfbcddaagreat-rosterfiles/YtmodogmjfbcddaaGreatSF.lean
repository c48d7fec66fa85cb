/- Files of the program. -/
import Derived.Test.YtmodogmjfbcddaaGreatRWa
namespace Go.Proofs.YtmodogmjfbcddaaGreat
open Go.RowKit

theorem fileE : Elem 48 51 2 16 (.agg #[.int .i64 0, .int .i64 0]) := ⟨Tryz.underlying48, by kernel_rfl, rfl, by decide, by decide⟩
/-- a new row of files -/
def FlRes (w : World) (l : List (Int × Int)) (e : Ending) (w' : World) : Prop := ∃ g c, e = .returned (.slice g l.length c) ∧ w'.ownsRow w.heap.size 51 2 (.slice g l.length c) l.length (tcells me l) ∧ Below w.heap.size w w'
theorem made_f (n : Nat) : (madeCells (Value.cells (.agg #[.int .i64 0, .int .i64 0])) (n * 2)).toList = tcells me (List.replicate n (0, 0)) := by
  induction n with
  | zero => simp [madeCells, tcells]
  | succ n ih =>
    rw [List.replicate_succ', tcells_append, ← ih]
    apply List.ext_getElem?
    intro j
    by_cases h : j < n * 2
    · rw [List.getElem?_append_left (by simp [madeCells]; omega)]
      simp [madeCells, h, show j < (n + 1) * 2 by omega]
    · rw [List.getElem?_append_right (by simp [madeCells]; omega)]
      have hl : (madeCells (Value.cells (.agg #[.int .i64 0, .int .i64 0])) (n * 2)).toList.length = n * 2 := by simp [madeCells]
      rw [hl]
      by_cases h1 : j = n * 2
      · subst h1; simp [madeCells, show n * 2 < (n + 1) * 2 by omega, tcells, me, Value.cells]
      · by_cases h2 : j = n * 2 + 1
        · subst h2; simp [madeCells, show n * 2 + 1 < (n + 1) * 2 by omega, tcells, me, Value.cells, show (n * 2 + 1) % 2 = 1 by omega, show n * 2 + 1 - n * 2 = 1 by omega]
        · have e2 : (tcells me [((0 : Int), (0 : Int))]).length = 2 := rfl
          simp [madeCells, show ¬ (j < (n + 1) * 2) by omega]
          rw [e2]; omega
theorem fset (L : List (Int × Int)) (n j : Nat) (x y : Int) (hj : j < n) (hl : L.length = n) (hx : L.getD j (0, 0) = (x, y)) : ((tcells me (L.take j ++ List.replicate (n - j) (0, 0))).set (j * 2) (.int .i64 x)).set (j * 2 + 1) (.int .i64 y) = tcells me (L.take (j + 1) ++ List.replicate (n - (j + 1)) (0, 0)) := by
  have h := tcells_setL meE (L.take j ++ List.replicate (n - j) (0, 0)) j (x, y) (by rw [List.length_append, List.length_take, List.length_replicate]; omega)
  have e1 : (L.take j).length = j := by rw [List.length_take]; omega
  have e2 : n - j = (n - (j + 1)) + 1 := by omega
  have e3 : (L.take j ++ List.replicate (n - j) (0, 0)).set j (x, y) = L.take (j + 1) ++ List.replicate (n - (j + 1)) (0, 0) := by
    rw [e2, List.replicate_succ, gtake (0, 0) (by omega), hx, List.set_append_right _ _ (by omega), e1, Nat.sub_self]
    simp
  rw [e3] at h
  exact h
theorem fat (L : List (Int × Int)) (n j : Nat) (hj : j < n) (hl : L.length = n) : (tcells me (L.take j ++ List.replicate (n - j) (0, 0)))[j * 2]? = some (.int .i64 0) ∧ (tcells me (L.take j ++ List.replicate (n - j) (0, 0)))[j * 2 + 1]? = some (.int .i64 0) := by
  have e1 : (tcells me (L.take j)).length = j * 2 := by rw [tcells_length meE, List.length_take]; congr 1; omega
  rw [tcells_append, show n - j = (n - (j + 1)) + 1 by omega, List.replicate_succ]
  constructor
  · rw [List.getElem?_append_right (by omega), e1, Nat.sub_self]; rfl
  · rw [List.getElem?_append_right (by omega), e1, show j * 2 + 1 - j * 2 = 1 by omega]; rfl

set_option maxRecDepth 100000 in
set_option maxHeartbeats 1000000 in
theorem rfilesof_any (kind : Int) (a : Option Addr) (n c : Nat) (l : List Int) (w : World) (hn : n ≤ 1000000) (hr : ZRow w a n l) :
    Calls Tryz.prog 40 #[.int .i64 kind, .slice a n c] w (FlRes w (l.map (fun x => (kind, x)))) := by
  have hll : Hid (l.length = n) := hr.1
  obtain ⟨L, hL⟩ : ∃ L, L = l.map (fun x => (kind, x)) := ⟨_, rfl⟩
  have hLn : L.length = n := by rw [hL, List.length_map]; exact hr.1
  rw [← hL]
  unfold FlRes
  rw [hLn]
  have HL : Hid (L = l.map (fun x => (kind, x))) := hL
  have HN : Hid (L.length = n) := hLn
  clear hL hLn
  obtain ⟨i0, hi0, hz0, hz1, hz2⟩ := info_parts fileE.info
  go_enter Tryz.func40, Tryz.ntmps40
  go_wp2_with (at_make; go_must (refine make_full _ rfl _ _ 48 rfl w.heap.size 51 i0 _ 2 Tryz.underlying48 hi0 hz0 hz1 .i64 .i64 n rfl rfl (by rw [hz2]; omega) (by unfold maxLen; omega) (Nat.le_refl _) ?_; intro w3 hmade hb3; rw [made_f] at hmade))
  go_loopw [13] (fun iv wr => ∃ (j : Nat), j ≤ n ∧ iv = .int .i64 j ∧ wr.ownsRow w.heap.size 51 2 (.slice (some ⟨w.heap.size, 0, none⟩) n n) n (tcells me (L.take j ++ List.replicate (n - j) (0, 0))) ∧ Below w.heap.size w wr) (fun iv _ => n - (intOf iv).toNat)
  case atStart => exact ⟨0, by omega, rfl, hmade, hb3⟩
  case round =>
    obtain ⟨j, hj, rfl, hown, hbel⟩ := hrel
    clear hmade hb3
    by_cases hlt : j < n
    · obtain ⟨b, off, x, rfl, hx, q0⟩ := zget hr hbel hlt
      have hj' : j < l.length := by rw [hll.out]; exact hlt
      have hg : L.getD j (0, 0) = (kind, x) := by rw [HL.out, ← hx.out]; simp [hj']
      have HS : Hid (((tcells me (L.take j ++ List.replicate (n - j) (0, 0))).set (j * 2) (.int .i64 kind)).set (j * 2 + 1) (.int .i64 x) = tcells me (L.take (j + 1) ++ List.replicate (n - (j + 1)) (0, 0))) := (fset L n j _ _ hlt HN.out hg : _ = _)
      obtain ⟨f0, f1⟩ := fat L n j hlt HN.out
      obtain ⟨k0, k1⟩ := own_cells hown f0
      obtain ⟨k2, k3⟩ := own_cells hown f1
      have i0 : (0 : Int) ≤ (j : Int) := by omega
      have i5 : (j : Int) < (n : Int) := by omega
      clear hx hg f0 f1
      go_wp2
      go_roundw
      case rel => exact ⟨j + 1, by omega, by go_num, by rw [← HS.out]; exact own_store (own_store hown (j * 2) _) (j * 2 + 1) _, below_putB (below_putB hbel (Nat.le_refl _) _ _) (Nat.le_refl _) _ _⟩
      case measure => simp [intOf]; omega
    · obtain rfl : j = n := by omega
      have HC : Hid (L.take j ++ List.replicate (j - j) (0, 0) = L) := (by
        rw [List.take_of_length_le (by rw [HN.out]; exact Nat.le_refl _)]; simp : _ = _)
      go_wp2
      go_ret
      rw [HC.out] at hown
      exact ⟨some ⟨w.heap.size, 0, none⟩, j, rfl, hown, hbel⟩

set_option maxRecDepth 100000 in
set_option maxHeartbeats 1000000 in
theorem fgrow_nil (n : Nat) (w : World) (hn : n ≤ 100000) :
    Calls Tryz.prog 88 #[.slice none 0 0, .int .i64 (n : Nat)] w fun e w' => ∃ g c, e = .returned (.slice g 0 c) ∧ w'.ownsRow w.heap.size 51 2 (.slice g 0 c) 0 (tcells me []) ∧ Below w.heap.size w w' := by
  rcases Nat.eq_zero_or_pos n with rfl | h0
  · go_enter Tryz.func88, Tryz.ntmps88
    go_wp2
    go_ret
    exact ⟨none, 0, rfl, ⟨rfl, .inl ⟨rfl, rfl⟩⟩, Below.refl _ _⟩
  · obtain ⟨i0, hi0, hz0, hz1, hz2⟩ := info_parts fileE.info
    have hrun := Lib.run_append_nil_zeros (P := Tryz.prog) w 48 3 48 51 i0 (.agg #[.int .i64 0, .int .i64 0]) .i64 .i64 Tryz.underlying48 Tryz.underlying3 hi0 hz0 n h0 (by rw [hz1]; decide) (by omega) (by rw [hz2]; omega)
    have hm := grownCap_le_maxLen w n 0 51 (by unfold maxLen; omega)
    have hge := grownCap_ge w n 0 51
    clear hi0 hz0 hz1 hz2
    generalize grownCap w n 0 51 = C at *
    have hsz : (Builtin.zeroCells (Value.cells (.agg #[.int .i64 0, .int .i64 0])) n ++ Builtin.zeroCells (Value.cells (.agg #[.int .i64 0, .int .i64 0])) (C - n)).size = C * 2 := by
      simp [Builtin.zeroCells, Value.cells]; omega
    generalize Builtin.zeroCells (Value.cells (.agg #[.int .i64 0, .int .i64 0])) n ++ Builtin.zeroCells (Value.cells (.agg #[.int .i64 0, .int .i64 0])) (C - n) = cs at *
    go_enter Tryz.func88, Tryz.ntmps88
    go_wp2_with (at_builtin; refine Lib.wpList_append_run _ rfl _ _ _ _ rfl _ _ rfl rfl _ _ hrun ?_)
    go_ret
    exact ⟨_, _, rfl, ⟨rfl, .inr ⟨_, _, _, rfl, Nat.le_refl _, heap_alloc_new _ _, Nat.zero_le _, hm, hsz, rfl⟩⟩, ((Below.refl _ _).drew).alloc (Nat.le_refl _) _⟩

set_option maxRecDepth 100000 in
set_option maxHeartbeats 2000000 in
theorem fconcat4 (g : Nat) (a1 : Option Addr) (n1 c1 : Nat) (b1 : List (Int × Int)) (a2 : Option Addr) (n2 c2 : Nat) (b2 : List (Int × Int)) (a3 : Option Addr) (n3 c3 : Nat) (b3 : List (Int × Int)) (a4 : Option Addr) (n4 c4 : Nat) (b4 : List (Int × Int)) (w : World)
    (h1 : w.cell? ⟨g, 0, none⟩ = some (.slice a1 n1 c1)) (h2 : w.cell? ⟨g, 1, none⟩ = some (.slice a2 n2 c2)) (h3 : w.cell? ⟨g, 2, none⟩ = some (.slice a3 n3 c3)) (h4 : w.cell? ⟨g, 3, none⟩ = some (.slice a4 n4 c4))
    (r1 : MRow w a1 n1 b1) (z1 : a1 = none → n1 = 0 ∧ c1 = 0) (r2 : MRow w a2 n2 b2) (z2 : a2 = none → n2 = 0 ∧ c2 = 0) (r3 : MRow w a3 n3 b3) (z3 : a3 = none → n3 = 0 ∧ c3 = 0) (r4 : MRow w a4 n4 b4) (z4 : a4 = none → n4 = 0 ∧ c4 = 0)
    (hgl : g < w.heap.size) (m1 : n1 ≤ 1000) (m2 : n2 ≤ 1000) (m3 : n3 ≤ 1000) (m4 : n4 ≤ 1000) :
    Calls Tryz.prog 39 #[.slice (some ⟨g, 0, none⟩) 4 4] w (FlRes w (b1 ++ b2 ++ b3 ++ b4)) := by
  have hl1 : Hid (b1.length = n1) := r1.1
  have hl2 : Hid (b2.length = n2) := r2.1
  have hl3 : Hid (b3.length = n3) := r3.1
  have hl4 : Hid (b4.length = n4) := r4.1
  go_enter Tryz.func39, Tryz.ntmps39
  go_wp2
  go_loop [3, 11] (fun t i => ∃ k : Nat, k ≤ 4 ∧ i = .int .i64 k ∧ ((k = 0 ∧ t = .int .i64 (0 : Nat)) ∨ (k = 1 ∧ t = .int .i64 (n1 : Nat)) ∨ (k = 2 ∧ t = .int .i64 (n1 + n2 : Nat)) ∨ (k = 3 ∧ t = .int .i64 (n1 + n2 + n3 : Nat)) ∨ (k = 4 ∧ t = .int .i64 (n1 + n2 + n3 + n4 : Nat)))) (fun _ i => 4 - (intOf i).toNat)
  case atStart => exact ⟨0, by omega, rfl, .inl ⟨rfl, rfl⟩⟩
  case round =>
    obtain ⟨k, hk, rfl, ⟨rfl, rfl⟩ | ⟨rfl, rfl⟩ | ⟨rfl, rfl⟩ | ⟨rfl, rfl⟩ | ⟨rfl, rfl⟩⟩ := hrel
    · go_wp2
      go_round
      case rel => exact ⟨1, by omega, rfl, .inr (.inl ⟨rfl, val_int (by omega)⟩)⟩
      case measure => simp [intOf]
    · go_wp2
      go_round
      case rel => exact ⟨2, by omega, rfl, .inr (.inr (.inl ⟨rfl, val_int (by omega)⟩))⟩
      case measure => simp [intOf]
    · go_wp2
      go_round
      case rel => exact ⟨3, by omega, rfl, .inr (.inr (.inr (.inl ⟨rfl, val_int (by omega)⟩)))⟩
      case measure => simp [intOf]
    · go_wp2
      go_round
      case rel => exact ⟨4, by omega, rfl, .inr (.inr (.inr (.inr (⟨rfl, val_int (by omega)⟩))))⟩
      case measure => simp [intOf]
    · have hg := fun W => fgrow_nil (n1 + n2 + n3 + n4) W (by omega)
      go_wp2_with (go_at_call 88; go_must (refine (hg _).mono ?_; rintro e w2 ⟨gg, gc, rfl, hown2, hbel2⟩))
      go_loopw [6, 27] (fun v i wr => ∃ (k : Nat) (a' : Option Addr) (n c : Nat), k ≤ 4 ∧ i = .int .i64 k ∧ v = .slice a' n c ∧ Below w.heap.size w wr ∧ ((k = 0 ∧ 0 = n ∧ wr.ownsRow w.heap.size 51 2 (.slice a' n c) n (tcells me ([]))) ∨ (k = 1 ∧ n1 = n ∧ wr.ownsRow w.heap.size 51 2 (.slice a' n c) n (tcells me (b1))) ∨ (k = 2 ∧ n1 + n2 = n ∧ wr.ownsRow w.heap.size 51 2 (.slice a' n c) n (tcells me (b1 ++ b2))) ∨ (k = 3 ∧ n1 + n2 + n3 = n ∧ wr.ownsRow w.heap.size 51 2 (.slice a' n c) n (tcells me (b1 ++ b2 ++ b3))) ∨ (k = 4 ∧ n1 + n2 + n3 + n4 = n ∧ wr.ownsRow w.heap.size 51 2 (.slice a' n c) n (tcells me (b1 ++ b2 ++ b3 ++ b4))))) (fun _ i _ => 4 - (intOf i).toNat)
      case atStart => exact ⟨0, _, 0, gc, by omega, rfl, rfl, hbel2, .inl ⟨rfl, rfl, hown2⟩⟩
      case round =>
        obtain ⟨k, a', n, c, hk, rfl, rfl, hbel, hcase⟩ := hrel
        have hsz := hbel.size
        have q1 := (hbel.cell (p := ⟨g, 0, none⟩) hgl).trans h1
        have q2 := (hbel.cell (p := ⟨g, 1, none⟩) hgl).trans h2
        have q3 := (hbel.cell (p := ⟨g, 2, none⟩) hgl).trans h3
        have q4 := (hbel.cell (p := ⟨g, 3, none⟩) hgl).trans h4
        clear hown2 hbel2 hg
        rcases hcase with ⟨rfl, rfl, hown⟩ | ⟨rfl, rfl, hown⟩ | ⟨rfl, rfl, hown⟩ | ⟨rfl, rfl, hown⟩ | ⟨rfl, rfl, hown⟩
        · go_wp2_with (at_builtin; go_must (refine append_t fileE meE (w0 := w) (B := w.heap.size) rfl (.tmp 31) (.tmp 32) rfl _ (0) ([]) rfl hown a1 n1 c1 b1 rfl (r1.below hbel (Nat.le_refl _)) z1 (by omega) hbel hsz ?_; intro a6 c6 w6 _ _ _ hown6 hbel6 hsz6))
          go_roundw
          case rel => exact ⟨1, a6, _, c6, by omega, rfl, rfl, hbel6, .inr (.inl ⟨rfl, by omega, by simpa using hown6⟩)⟩
          case measure => simp [intOf]
        · go_wp2_with (at_builtin; go_must (refine append_t fileE meE (w0 := w) (B := w.heap.size) rfl (.tmp 31) (.tmp 32) rfl _ (n1) (b1) rfl hown a2 n2 c2 b2 rfl (r2.below hbel (Nat.le_refl _)) z2 (by omega) hbel hsz ?_; intro a6 c6 w6 _ _ _ hown6 hbel6 hsz6))
          go_roundw
          case rel => exact ⟨2, a6, _, c6, by omega, rfl, rfl, hbel6, .inr (.inr (.inl ⟨rfl, by omega, by simpa using hown6⟩))⟩
          case measure => simp [intOf]
        · go_wp2_with (at_builtin; go_must (refine append_t fileE meE (w0 := w) (B := w.heap.size) rfl (.tmp 31) (.tmp 32) rfl _ (n1 + n2) (b1 ++ b2) rfl hown a3 n3 c3 b3 rfl (r3.below hbel (Nat.le_refl _)) z3 (by omega) hbel hsz ?_; intro a6 c6 w6 _ _ _ hown6 hbel6 hsz6))
          go_roundw
          case rel => exact ⟨3, a6, _, c6, by omega, rfl, rfl, hbel6, .inr (.inr (.inr (.inl ⟨rfl, by omega, by simpa using hown6⟩)))⟩
          case measure => simp [intOf]
        · go_wp2_with (at_builtin; go_must (refine append_t fileE meE (w0 := w) (B := w.heap.size) rfl (.tmp 31) (.tmp 32) rfl _ (n1 + n2 + n3) (b1 ++ b2 ++ b3) rfl hown a4 n4 c4 b4 rfl (r4.below hbel (Nat.le_refl _)) z4 (by omega) hbel hsz ?_; intro a6 c6 w6 _ _ _ hown6 hbel6 hsz6))
          go_roundw
          case rel => exact ⟨4, a6, _, c6, by omega, rfl, rfl, hbel6, .inr (.inr (.inr (.inr (⟨rfl, by omega, by simpa using hown6⟩))))⟩
          case measure => simp [intOf]
        · go_wp2
          go_ret
          have hlen : (b1 ++ b2 ++ b3 ++ b4).length = n1 + n2 + n3 + n4 := by simp only [List.length_append, hl1.out, hl2.out, hl3.out, hl4.out]
          refine ⟨a', c, ?_, ?_, hbel⟩
          · rw [hlen]; rfl
          · rw [hlen]; exact hown

theorem fres_of {w U W : World} {a : Option Addr} {n c : Nat} {l : List (Int × Int)} (h : W.ownsRow U.heap.size 51 2 (.slice a n c) n (tcells me l)) (hb : Below U.heap.size U W) (hU : Below w.heap.size w U) : FlRes w l (.returned (.slice a n c)) W := by
  have hl : l.length = n := by have := h.1; rw [tcells_length meE] at this; omega
  subst hl
  exact ⟨a, c, rfl, lowns_base h hU.size, hU.trans (hb.mono hU.size)⟩
def Ro.files (r : Ro.R) : List (Int × Int) := if Ro.check r = true then r.segs.map (fun x => ((3 : Int), x)) ++ (r.moves.map (·.2)).map (fun x => ((7 : Int), x)) ++ (r.tabs.map (·.num)).map (fun x => ((5 : Int), x)) ++ (r.stills.map (·.1)).map (fun x => ((6 : Int), x)) else []

set_option maxRecDepth 100000 in
set_option maxHeartbeats 2000000 in
theorem rfiles_no (s : List Int) (ms : List (Int × Int)) (ts : List Lv.T) (ks : List (Int × Int × Int)) (a1 : Option Addr) (n1 c1 : Nat) (a2 : Option Addr) (n2 c2 : Nat) (a3 : Option Addr) (n3 c3 : Nat) (a4 : Option Addr) (n4 c4 : Nat) (i1 i2 i3 i4 i5 i6 i7 : Int) (w : World) (h : RIn w a1 n1 c1 a2 n2 c2 a3 n3 c3 a4 n4 c4 ⟨s, ms, ts, ks, i1, i2, i3, i4, i5, i6, i7⟩) (hc : Ro.check ⟨s, ms, ts, ks, i1, i2, i3, i4, i5, i6, i7⟩ = false) :
    Calls Tryz.prog 19 #[.agg #[.slice a1 n1 c1, .slice a2 n2 c2, .slice a3 n3 c3, .slice a4 n4 c4, .int .i64 i1, .int .i64 i2, .int .i64 i3, .int .i64 i4, .int .i64 i5, .int .i64 i6, .int .i64 i7]] w (FlRes w []) := by
  obtain ⟨U, hU⟩ : ∃ U, U = w.alloc (.cells #[.slice a1 n1 c1, .slice a2 n2 c2, .slice a3 n3 c3, .slice a4 n4 c4, .int .i64 i1, .int .i64 i2, .int .i64 i3, .int .i64 i4, .int .i64 i5, .int .i64 i6, .int .i64 i7] 29) := ⟨_, rfl⟩
  have hbU : Below w.heap.size w U := by rw [hU]; exact below_alloc _ _
  have e0 : U.heap[w.heap.size]? = some (.cells #[.slice a1 n1 c1, .slice a2 n2 c2, .slice a3 n3 c3, .slice a4 n4 c4, .int .i64 i1, .int .i64 i2, .int .i64 i3, .int .i64 i4, .int .i64 i5, .int .i64 i6, .int .i64 i7] 29 (0, 0)) := by rw [hU]; exact heap_alloc_new _ _
  have x0 := (blkc e0).1 0
  have x1 := (blkc e0).1 1
  have x2 := (blkc e0).1 2
  have x3 := (blkc e0).1 3
  have x4 := (blkc e0).1 4
  have x5 := (blkc e0).1 5
  have x6 := (blkc e0).1 6
  have x7 := (blkc e0).1 7
  have x8 := (blkc e0).1 8
  have x9 := (blkc e0).1 9
  have x10 := (blkc e0).1 10
  have HV : Hid (∀ W, Below U.heap.size U W → (W.cell? ⟨w.heap.size, 0, none⟩ = some (.slice a1 n1 c1) ∧ W.cell? ⟨w.heap.size, 1, none⟩ = some (.slice a2 n2 c2) ∧ W.cell? ⟨w.heap.size, 2, none⟩ = some (.slice a3 n3 c3) ∧ W.cell? ⟨w.heap.size, 3, none⟩ = some (.slice a4 n4 c4))) := (fun W hb => by
    have a := (blkc ((hb.block _ (ob_ltB e0)).trans e0)).1
    exact ⟨a 0, a 1, a 2, a 3⟩ : ∀ W, _ → _)
  have HU : Hid (Below w.heap.size w U) := hbU
  have hUe : w.alloc (.cells #[.slice a1 n1 c1, .slice a2 n2 c2, .slice a3 n3 c3, .slice a4 n4 c4, .int .i64 i1, .int .i64 i2, .int .i64 i3, .int .i64 i4, .int .i64 i5, .int .i64 i6, .int .i64 i7] 29) = U := hU.symm
  have hck := rcheck_in (r := ⟨s, ms, ts, ks, i1, i2, i3, i4, i5, i6, i7⟩) a1 n1 c1 a2 n2 c2 a3 n3 c3 a4 n4 c4 U (h.below hbU) 1 (by rw [hc]; rfl)
  clear hU hbU e0 h hc
  go_enter Tryz.func19, Tryz.ntmps19
  go_wp2_with (go_at_call 11; go_must (refine hck.mono ?_; rintro e w5 ⟨rfl, hb5⟩))
  go_ret
  exact fres_of (U := U) ⟨rfl, .inl ⟨rfl, rfl⟩⟩ hb5 HU.out

set_option maxRecDepth 100000 in
set_option maxHeartbeats 4000000 in
theorem rfiles_yes (s : List Int) (ms : List (Int × Int)) (ts : List Lv.T) (ks : List (Int × Int × Int)) (a1 : Option Addr) (n1 c1 : Nat) (a2 : Option Addr) (n2 c2 : Nat) (a3 : Option Addr) (n3 c3 : Nat) (a4 : Option Addr) (n4 c4 : Nat) (i1 i2 i3 i4 i5 i6 i7 : Int) (w : World) (h : RIn w a1 n1 c1 a2 n2 c2 a3 n3 c3 a4 n4 c4 ⟨s, ms, ts, ks, i1, i2, i3, i4, i5, i6, i7⟩) (hc : Ro.check ⟨s, ms, ts, ks, i1, i2, i3, i4, i5, i6, i7⟩ = true) :
    Calls Tryz.prog 19 #[.agg #[.slice a1 n1 c1, .slice a2 n2 c2, .slice a3 n3 c3, .slice a4 n4 c4, .int .i64 i1, .int .i64 i2, .int .i64 i3, .int .i64 i4, .int .i64 i5, .int .i64 i6, .int .i64 i7]] w (FlRes w (s.map (fun x => ((3 : Int), x)) ++ (ms.map (·.2)).map (fun x => ((7 : Int), x)) ++ (ts.map (·.num)).map (fun x => ((5 : Int), x)) ++ (ks.map (·.1)).map (fun x => ((6 : Int), x)))) := by
  obtain ⟨U, hU⟩ : ∃ U, U = w.alloc (.cells #[.slice a1 n1 c1, .slice a2 n2 c2, .slice a3 n3 c3, .slice a4 n4 c4, .int .i64 i1, .int .i64 i2, .int .i64 i3, .int .i64 i4, .int .i64 i5, .int .i64 i6, .int .i64 i7] 29) := ⟨_, rfl⟩
  have hbU : Below w.heap.size w U := by rw [hU]; exact below_alloc _ _
  have e0 : U.heap[w.heap.size]? = some (.cells #[.slice a1 n1 c1, .slice a2 n2 c2, .slice a3 n3 c3, .slice a4 n4 c4, .int .i64 i1, .int .i64 i2, .int .i64 i3, .int .i64 i4, .int .i64 i5, .int .i64 i6, .int .i64 i7] 29 (0, 0)) := by rw [hU]; exact heap_alloc_new _ _
  have x0 := (blkc e0).1 0
  have x1 := (blkc e0).1 1
  have x2 := (blkc e0).1 2
  have x3 := (blkc e0).1 3
  have x4 := (blkc e0).1 4
  have x5 := (blkc e0).1 5
  have x6 := (blkc e0).1 6
  have x7 := (blkc e0).1 7
  have x8 := (blkc e0).1 8
  have x9 := (blkc e0).1 9
  have x10 := (blkc e0).1 10
  have HV : Hid (∀ W, Below U.heap.size U W → (W.cell? ⟨w.heap.size, 0, none⟩ = some (.slice a1 n1 c1) ∧ W.cell? ⟨w.heap.size, 1, none⟩ = some (.slice a2 n2 c2) ∧ W.cell? ⟨w.heap.size, 2, none⟩ = some (.slice a3 n3 c3) ∧ W.cell? ⟨w.heap.size, 3, none⟩ = some (.slice a4 n4 c4))) := (fun W hb => by
    have a := (blkc ((hb.block _ (ob_ltB e0)).trans e0)).1
    exact ⟨a 0, a 1, a 2, a 3⟩ : ∀ W, _ → _)
  have HU : Hid (Below w.heap.size w U) := hbU
  have hUe : w.alloc (.cells #[.slice a1 n1 c1, .slice a2 n2 c2, .slice a3 n3 c3, .slice a4 n4 c4, .int .i64 i1, .int .i64 i2, .int .i64 i3, .int .i64 i4, .int .i64 i5, .int .i64 i6, .int .i64 i7] 29) = U := hU.symm
  have hck := rcheck_in (r := ⟨s, ms, ts, ks, i1, i2, i3, i4, i5, i6, i7⟩) a1 n1 c1 a2 n2 c2 a3 n3 c3 a4 n4 c4 U (h.below hbU) 0 (by rw [hc]; rfl)
  have m1 := h.m1; have m2 := h.m2; have m3 := h.m3; have m4 := h.m4
  have l1 : s.length = n1 := h.r1.1
  have l2 : (ms.map (·.2)).length = n2 := by rw [List.length_map]; exact h.r2.1
  have l3 : (ts.map (·.num)).length = n3 := by rw [List.length_map]; exact h.r3.1
  have l4 : (ks.map (·.1)).length = n4 := by rw [List.length_map]; exact h.r4.1
  have hz1 := fun W (hb : Below U.heap.size U W) => h.r1.below (hbU.trans (hb.mono hbU.size)) (Nat.le_refl _)
  dsimp only at hz1
  have hfo : ∀ W (kind : Int) (a : Option Addr) (n c : Nat) (l : List Int), n ≤ 1000000 → ZRow W a n l → Calls Tryz.prog 40 #[.int .i64 kind, .slice a n c] W (fun e w' => ∃ g d, e = .returned (.slice g n d) ∧ MRow w' g n (l.map (fun x => (kind, x))) ∧ (g = none → n = 0 ∧ d = 0) ∧ Below W.heap.size W w') := fun W kind a n c l hn hr =>
    (rfilesof_any kind a n c l W hn hr).mono (by
      rintro e w' ⟨g, d, rfl, how, hbe⟩
      have hl : (l.map (fun x => (kind, x))).length = n := by rw [List.length_map]; exact hr.1
      rw [hl] at how ⊢
      obtain ⟨a', c', e, z1, z2⟩ := t_shape how
      simp only [Value.slice.injEq, true_and] at e
      obtain ⟨rfl, rfl⟩ := e
      exact ⟨g, d, rfl, trow_of_owns meE how (by omega) (by omega), z1, hbe⟩)
  have hn2 : ∀ W, Below U.heap.size U W → Calls Tryz.prog 41 #[.slice a2 n2 c2, .func (.func 42) #[] #[]] W (fun e w' => ∃ g d, e = .returned (.slice g n2 d) ∧ ZRow w' g n2 (ms.map (·.2)) ∧ Below W.heap.size W w') := fun W hb =>
    (rmnums a2 n2 c2 ms W (by omega) (h.r2.below (hbU.trans (hb.mono hbU.size)) (Nat.le_refl _))).mono (by
      rintro e w' ⟨g, d, rfl, how, hbe⟩
      rw [l2] at how ⊢
      exact ⟨g, d, rfl, trow_of_owns zeE how (by omega) (by omega), hbe⟩)
  have hn3 : ∀ W, Below U.heap.size U W → Calls Tryz.prog 43 #[.slice a3 n3 c3, .func (.func 44) #[] #[]] W (fun e w' => ∃ g d, e = .returned (.slice g n3 d) ∧ ZRow w' g n3 (ts.map (·.num)) ∧ Below W.heap.size W w') := fun W hb =>
    (rtnums a3 n3 c3 ts W (by omega) (h.r3.below (hbU.trans (hb.mono hbU.size)) (Nat.le_refl _))).mono (by
      rintro e w' ⟨g, d, rfl, how, hbe⟩
      rw [l3] at how ⊢
      exact ⟨g, d, rfl, trow_of_owns zeE how (by omega) (by omega), hbe⟩)
  have hn4 : ∀ W, Below U.heap.size U W → Calls Tryz.prog 45 #[.slice a4 n4 c4, .func (.func 46) #[] #[]] W (fun e w' => ∃ g d, e = .returned (.slice g n4 d) ∧ ZRow w' g n4 (ks.map (·.1)) ∧ Below W.heap.size W w') := fun W hb =>
    (rknums a4 n4 c4 ks W (by omega) (h.r4.below (hbU.trans (hb.mono hbU.size)) (Nat.le_refl _))).mono (by
      rintro e w' ⟨g, d, rfl, how, hbe⟩
      rw [l4] at how ⊢
      exact ⟨g, d, rfl, trow_of_owns zeE how (by omega) (by omega), hbe⟩)
  obtain ⟨F, hF⟩ : ∃ F : List (Int × Int), F = (s.map (fun x => ((3 : Int), x)) ++ (ms.map (·.2)).map (fun x => ((7 : Int), x)) ++ (ts.map (·.num)).map (fun x => ((5 : Int), x)) ++ (ks.map (·.1)).map (fun x => ((6 : Int), x))) := ⟨_, rfl⟩
  have hFl : F.length = n1 + n2 + n3 + n4 := by rw [hF]; simp only [List.length_append, List.length_map] at *; omega
  have hcc : ∀ (W : World) (g1 : Option Addr) (d1 : Nat) (g3 : Option Addr) (d3 : Nat) (g5 : Option Addr) (d5 : Nat) (g7 : Option Addr) (d7 : Nat), MRow W g1 n1 (s.map (fun x => ((3 : Int), x))) → MRow W g3 n2 ((ms.map (·.2)).map (fun x => ((7 : Int), x))) → MRow W g5 n3 ((ts.map (·.num)).map (fun x => ((5 : Int), x))) → MRow W g7 n4 ((ks.map (·.1)).map (fun x => ((6 : Int), x))) → (g1 = none → n1 = 0 ∧ d1 = 0) → (g3 = none → n2 = 0 ∧ d3 = 0) → (g5 = none → n3 = 0 ∧ d5 = 0) → (g7 = none → n4 = 0 ∧ d7 = 0) →
      Calls Tryz.prog 39 #[.slice (some ⟨W.heap.size, 0, none⟩) 4 4] (W.alloc (.cells #[.slice g1 n1 d1, .slice g3 n2 d3, .slice g5 n3 d5, .slice g7 n4 d7] 48)) (fun e w' => ∃ g d, e = .returned (.slice g (n1 + n2 + n3 + n4) d) ∧ w'.ownsRow (W.alloc (.cells #[.slice g1 n1 d1, .slice g3 n2 d3, .slice g5 n3 d5, .slice g7 n4 d7] 48)).heap.size 51 2 (.slice g (n1 + n2 + n3 + n4) d) (n1 + n2 + n3 + n4) (tcells me F) ∧ Below (W.alloc (.cells #[.slice g1 n1 d1, .slice g3 n2 d3, .slice g5 n3 d5, .slice g7 n4 d7] 48)).heap.size (W.alloc (.cells #[.slice g1 n1 d1, .slice g3 n2 d3, .slice g5 n3 d5, .slice g7 n4 d7] 48)) w') := fun W g1 d1 g3 d3 g5 d5 g7 d7 r1 r2 r3 r4 z1 z2 z3 z4 => by
    have hb := below_alloc W (.cells #[.slice g1 n1 d1, .slice g3 n2 d3, .slice g5 n3 d5, .slice g7 n4 d7] 48)
    have e := (blkc (heap_alloc_new W (.cells #[.slice g1 n1 d1, .slice g3 n2 d3, .slice g5 n3 d5, .slice g7 n4 d7] 48))).1
    have := fconcat4 W.heap.size g1 n1 d1 _ g3 n2 d3 _ g5 n3 d5 _ g7 n4 d7 _ (W.alloc (.cells #[.slice g1 n1 d1, .slice g3 n2 d3, .slice g5 n3 d5, .slice g7 n4 d7] 48)) (e 0) (e 1) (e 2) (e 3) (r1.below hb (Nat.le_refl _)) z1 (r2.below hb (Nat.le_refl _)) z2 (r3.below hb (Nat.le_refl _)) z3 (r4.below hb (Nat.le_refl _)) z4 (by rw [World.size_alloc]; omega) m1 m2 m3 m4
    rw [← hF] at this
    unfold FlRes at this
    rw [hFl] at this
    exact this
  rw [← hF]
  clear hU hbU e0 h hc l1 l2 l3 l4 hF hFl
  go_enter Tryz.func19, Tryz.ntmps19
  go_wp2_with fail
  clear hUe x0 x1 x2 x3 x4 x5 x6 x7 x8 x9 x10
  refine hck.mono ?_
  rintro e w5 ⟨rfl, hb5⟩
  have hb5d := hb5.drew
  obtain ⟨y0, y1, y2, y3⟩ := HV.out w5 hb5
  clear hck
  go_wp2_with fail
  refine wp_region_held_drew (S := (fun W => W.cell? ⟨w.heap.size, 0, none⟩ = some (.slice a1 n1 c1) ∧ W.cell? ⟨w.heap.size, 1, none⟩ = some (.slice a2 n2 c2) ∧ W.cell? ⟨w.heap.size, 2, none⟩ = some (.slice a3 n3 c3) ∧ W.cell? ⟨w.heap.size, 3, none⟩ = some (.slice a4 n4 c4))) (by kernel_rfl) (HV.out _ hb5d) (fun hHeld => ?_)
  refine wpAnyH_take (i := 0) (oi := ⟨some 6, _, _, _, _, _⟩) (v := ?_) rfl (by kernel_rfl) (by kernel_rfl) (by kernel_rfl) (fun _ _ _ h => h) (Or.inl ⟨by rfl, ?_⟩) (by assumption) ?_
  rotate_left
  · intro w hSw; (try dsimp only at hSw); go_simp <;> (try with_reducible rfl)
  go_frame
  refine wpAnyH_take (i := 1) (oi := ⟨some 7, _, _, _, _, _⟩) (v := ?_) rfl (by kernel_rfl) (by kernel_rfl) (by kernel_rfl) (fun _ _ _ h => h) (Or.inl ⟨by rfl, ?_⟩) (by assumption) ?_
  rotate_left
  · intro w hSw; (try dsimp only at hSw); go_simp <;> (try with_reducible rfl)
  go_frame
  refine wpAnyH_take (i := 3) (oi := ⟨some 9, _, _, _, _, _⟩) (v := ?_) rfl (by kernel_rfl) (by kernel_rfl) (by kernel_rfl) (fun _ _ _ h => h) (Or.inl ⟨by rfl, ?_⟩) (by assumption) ?_
  rotate_left
  · intro w hSw; (try dsimp only at hSw); go_simp <;> (try with_reducible rfl)
  go_frame
  refine wpAnyH_take (i := 4) (oi := ⟨some 10, _, _, _, _, _⟩) (v := ?_) rfl (by kernel_rfl) (by kernel_rfl) (by kernel_rfl) (fun _ _ _ h => h) (Or.inl ⟨by rfl, ?_⟩) (by assumption) ?_
  rotate_left
  · intro w hSw; (try dsimp only at hSw); go_simp <;> (try with_reducible rfl)
  go_frame
  refine wpAnyH_take (i := 7) (oi := ⟨some 13, _, _, _, _, _⟩) (v := ?_) rfl (by kernel_rfl) (by kernel_rfl) (by kernel_rfl) (fun _ _ _ h => h) (Or.inl ⟨by rfl, ?_⟩) (by assumption) ?_
  rotate_left
  · intro w hSw; (try dsimp only at hSw); go_simp <;> (try with_reducible rfl)
  go_frame
  refine wpAnyH_take (i := 8) (oi := ⟨some 14, _, _, _, _, _⟩) (v := ?_) rfl (by kernel_rfl) (by kernel_rfl) (by kernel_rfl) (fun _ _ _ h => h) (Or.inl ⟨by rfl, ?_⟩) (by assumption) ?_
  rotate_left
  · intro w hSw; (try dsimp only at hSw); go_simp <;> (try with_reducible rfl)
  go_frame
  refine wpAnyH_take (i := 11) (oi := ⟨some 17, _, _, _, _, _⟩) (v := ?_) rfl (by kernel_rfl) (by kernel_rfl) (by kernel_rfl) (fun _ _ _ h => h) (Or.inl ⟨by rfl, ?_⟩) (by assumption) ?_
  rotate_left
  · intro w hSw; (try dsimp only at hSw); go_simp <;> (try with_reducible rfl)
  go_frame
  refine wpAnyH_take (i := 12) (oi := ⟨some 18, _, _, _, _, _⟩) (v := ?_) rfl (by kernel_rfl) (by kernel_rfl) (by kernel_rfl) (fun _ _ _ h => h) (Or.inl ⟨by rfl, ?_⟩) (by assumption) ?_
  rotate_left
  · intro w hSw; (try dsimp only at hSw); go_simp <;> (try with_reducible rfl)
  go_frame
  refine wpAnyH_ready (rs := [2]) (by kernel_rfl) (by simp) ?_
  refine AllReadyH.cons rfl (fun K hK => ?_) AllReadyH.nil
  go_simp; go_at_call 40; refine (hfo _ 3 a1 n1 c1 s (by omega) (hz1 _ hb5d)).mono ?_; rintro e v1 ⟨g1, d1, rfl, r1, z1, h1⟩; have b1 := hb5d.trans (h1.mono (hb5d).size)
  refine hK.out _ _ (HV.out _ b1) (fun hHeld => ?_)
  clear hK K
  try go_frame
  refine wpAnyH_ready (rs := [5]) (by kernel_rfl) (by simp) ?_
  refine AllReadyH.cons rfl (fun K hK => ?_) AllReadyH.nil
  go_simp; go_at_call 41; refine (hn2 _ b1).mono ?_; rintro e v2 ⟨g2, d2, rfl, r2, h2⟩; have b2 := b1.trans (h2.mono (b1).size)
  refine hK.out _ _ (HV.out _ b2) (fun hHeld => ?_)
  clear hK K
  try go_frame
  refine wpAnyH_ready (rs := [6]) (by kernel_rfl) (by simp) ?_
  refine AllReadyH.cons rfl (fun K hK => ?_) AllReadyH.nil
  go_simp; go_at_call 40; refine (hfo _ 7 g2 n2 d2 (ms.map (·.2)) (by omega) r2).mono ?_; rintro e v3 ⟨g3, d3, rfl, r3, z3, h3⟩; have b3 := b2.trans (h3.mono (b2).size)
  refine hK.out _ _ (HV.out _ b3) (fun hHeld => ?_)
  clear hK K
  try go_frame
  refine wpAnyH_ready (rs := [9]) (by kernel_rfl) (by simp) ?_
  refine AllReadyH.cons rfl (fun K hK => ?_) AllReadyH.nil
  go_simp; go_at_call 43; refine (hn3 _ b3).mono ?_; rintro e v4 ⟨g4, d4, rfl, r4, h4⟩; have b4 := b3.trans (h4.mono (b3).size)
  refine hK.out _ _ (HV.out _ b4) (fun hHeld => ?_)
  clear hK K
  try go_frame
  refine wpAnyH_ready (rs := [10]) (by kernel_rfl) (by simp) ?_
  refine AllReadyH.cons rfl (fun K hK => ?_) AllReadyH.nil
  go_simp; go_at_call 40; refine (hfo _ 5 g4 n3 d4 (ts.map (·.num)) (by omega) r4).mono ?_; rintro e v5 ⟨g5, d5, rfl, r5, z5, h5⟩; have b5 := b4.trans (h5.mono (b4).size)
  refine hK.out _ _ (HV.out _ b5) (fun hHeld => ?_)
  clear hK K
  try go_frame
  refine wpAnyH_ready (rs := [13]) (by kernel_rfl) (by simp) ?_
  refine AllReadyH.cons rfl (fun K hK => ?_) AllReadyH.nil
  go_simp; go_at_call 45; refine (hn4 _ b5).mono ?_; rintro e v6 ⟨g6, d6, rfl, r6, h6⟩; have b6 := b5.trans (h6.mono (b5).size)
  refine hK.out _ _ (HV.out _ b6) (fun hHeld => ?_)
  clear hK K
  try go_frame
  refine wpAnyH_ready (rs := [14]) (by kernel_rfl) (by simp) ?_
  refine AllReadyH.cons rfl (fun K hK => ?_) AllReadyH.nil
  go_simp; go_at_call 40; refine (hfo _ 6 g6 n4 d6 (ks.map (·.1)) (by omega) r6).mono ?_; rintro e v7 ⟨g7, d7, rfl, r7, z7, h7⟩; have b7 := b6.trans (h7.mono (b6).size)
  refine hK.out _ _ (HV.out _ b7) (fun hHeld => ?_)
  clear hK K
  try go_frame
  refine wpAnyH_ready (rs := [15]) (by kernel_rfl) (by simp) ?_
  refine AllReadyH.cons rfl (fun K hK => ?_) AllReadyH.nil
  go_simp
  refine hK.out _ _ (HV.out _ (b7.alloc b7.size _)) (fun hHeld => ?_)
  clear hK K
  refine wpAnyH_ready (rs := [16]) (by kernel_rfl) (by simp) ?_
  refine AllReadyH.cons rfl (fun K hK => ?_) AllReadyH.nil
  go_simp; go_at_call 39; refine (hcc v7 g1 d1 g3 d3 g5 d5 g7 d7 (r1.below (((h2.trans (h3.mono h2.size)).trans ((h4.trans (h5.mono h4.size)).mono (h2.trans (h3.mono h2.size)).size)).trans ((h6.trans (h7.mono h6.size)).mono ((h2.trans (h3.mono h2.size)).trans ((h4.trans (h5.mono h4.size)).mono (h2.trans (h3.mono h2.size)).size)).size)) (Nat.le_refl _)) (r3.below ((h4.trans (h5.mono h4.size)).trans ((h6.trans (h7.mono h6.size)).mono (h4.trans (h5.mono h4.size)).size)) (Nat.le_refl _)) (r5.below (h6.trans (h7.mono h6.size)) (Nat.le_refl _)) r7 z1 z3 z5 z7).mono ?_; rintro e v9 ⟨g9, d9, rfl, hown9, h9⟩
  refine hK.out _ _ (HV.out _ ((b7.alloc b7.size _).trans (h9.mono (b7.alloc b7.size _).size))) (fun hHeld => ?_)
  clear hK K
  try go_frame
  refine wpAnyH_take (i := 17) (oi := ⟨some 2, _, _, _, _, _⟩) (v := ?_) rfl (by kernel_rfl) (by kernel_rfl) (by kernel_rfl) (fun _ _ _ h => h) (Or.inl ⟨by rfl, ?_⟩) (by assumption) ?_
  rotate_left
  · intro w hSw; (try dsimp only at hSw); go_simp <;> (try with_reducible rfl)
  go_frame
  refine wpAnyH_done (by kernel_rfl) ?_ _
  go_wp2
  go_ret
  exact fres_of (lowns_base hown9 (b7.alloc b7.size _).size) ((b7.alloc b7.size _).trans (h9.mono (b7.alloc b7.size _).size)) HU.out
theorem rfiles_any (s : List Int) (ms : List (Int × Int)) (ts : List Lv.T) (ks : List (Int × Int × Int)) (a1 : Option Addr) (n1 c1 : Nat) (a2 : Option Addr) (n2 c2 : Nat) (a3 : Option Addr) (n3 c3 : Nat) (a4 : Option Addr) (n4 c4 : Nat) (i1 i2 i3 i4 i5 i6 i7 : Int) (w : World) (h : RIn w a1 n1 c1 a2 n2 c2 a3 n3 c3 a4 n4 c4 ⟨s, ms, ts, ks, i1, i2, i3, i4, i5, i6, i7⟩) : Calls Tryz.prog 19 #[.agg #[.slice a1 n1 c1, .slice a2 n2 c2, .slice a3 n3 c3, .slice a4 n4 c4, .int .i64 i1, .int .i64 i2, .int .i64 i3, .int .i64 i4, .int .i64 i5, .int .i64 i6, .int .i64 i7]] w (FlRes w (Ro.files ⟨s, ms, ts, ks, i1, i2, i3, i4, i5, i6, i7⟩)) := by
  unfold Ro.files
  cases hc : Ro.check ⟨s, ms, ts, ks, i1, i2, i3, i4, i5, i6, i7⟩ with
  | false => exact rfiles_no s ms ts ks a1 n1 c1 a2 n2 c2 a3 n3 c3 a4 n4 c4 i1 i2 i3 i4 i5 i6 i7 w h hc
  | true => exact rfiles_yes s ms ts ks a1 n1 c1 a2 n2 c2 a3 n3 c3 a4 n4 c4 i1 i2 i3 i4 i5 i6 i7 w h hc
end Go.Proofs.YtmodogmjfbcddaaGreat
