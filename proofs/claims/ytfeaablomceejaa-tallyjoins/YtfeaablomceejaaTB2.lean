/- What the program's weigh, compare and isEmpty, and slices.Clone, slices.Grow and slices.Concat of rows of shares, do. -/
import Derived.Test.YtfeaablomceejaaTB1
import Derived.Test.YtfeaablomceejaaTA3
import Derived.Test.YtfeaablomceejaaQ4
import Derived.Lib.AppendZeros
namespace Go.Proofs.Ytfeaablomceejaa
open Go.RowKit

set_option maxRecDepth 100000 in
set_option maxHeartbeats 1000000 in
theorem tweigh_any (a : Option Addr) (len cap : Nat) (ps : List Po.P) (w : World) (hlen : len ≤ 100000) (hr : PRow w a len ps) :
    Calls Try.prog 23 #[.slice a len cap] w (ShRes w (Ta.shares ps)) := by
  have hll : Hid (ps.length = len) := hr.1
  obtain ⟨L, hL⟩ : ∃ L, L = Ta.shares ps := ⟨_, rfl⟩
  rw [← hL]
  have HL : Hid (L = Ta.shares ps) := hL
  clear hL
  go_enter Try.func23, Try.ntmps23
  go_wp2
  go_loopw [3, 8] (fun v i wr => ∃ (k m c : Nat) (g : Option Addr) (O : List Ta.S), k ≤ len ∧ m ≤ k ∧ i = .int .i64 k ∧ v = .slice g m c ∧ Hid (L = O ++ Ta.shares (ps.drop k)) ∧ Hid (O.length = m) ∧ wr.ownsRow w.heap.size 47 2 (.slice g m c) m (tcells se O) ∧ Below w.heap.size w wr)
    (fun _ i _ => len - (intOf i).toNat)
  case atStart => exact ⟨0, 0, 0, none, [], by omega, by omega, rfl, rfl, (HL.out : L = [] ++ Ta.shares (ps.drop 0)), (rfl : ([] : List Ta.S).length = 0), ⟨rfl, .inl ⟨rfl, rfl⟩⟩, Below.refl _ _⟩
  case round =>
    obtain ⟨k, m, c, g, O, hk, hmk, rfl, rfl, H, HO, hown, hbel⟩ := hrel
    by_cases hlt : k < len
    · obtain ⟨b, off, rfl, hc⟩ := hr.at (by omega)
      obtain ⟨p0, p1, p2, p3, _⟩ := (hc k hlt)
      have q0 := (hbel.cell (p := ⟨b, off + k * 4, none⟩) (cell_lt p0)).trans p0
      have q1 := (hbel.cell (p := ⟨b, off + k * 4 + 1, none⟩) (cell_lt p1)).trans p1
      have q2 := (hbel.cell (p := ⟨b, off + k * 4 + 2, none⟩) (cell_lt p2)).trans p2
      have q3 := (hbel.cell (p := ⟨b, off + k * 4 + 3, none⟩) (cell_lt p3)).trans p3
      have hst : Hid (Ta.shares (ps.drop k) = if 0 < (ps.getD k Po.zero).2.2.1 then ((ps.getD k Po.zero).1, (ps.getD k Po.zero).2.2.1) :: Ta.shares (ps.drop (k + 1)) else Ta.shares (ps.drop (k + 1))) := (by
        have hk' : k < ps.length := by rw [hll.out]; exact hlt
        rw [List.drop_eq_getElem_cons hk', show ps.getD k Po.zero = ps[k] by simp [hk']]
        rfl : Ta.shares (ps.drop k) = if 0 < (ps.getD k Po.zero).2.2.1 then ((ps.getD k Po.zero).1, (ps.getD k Po.zero).2.2.1) :: Ta.shares (ps.drop (k + 1)) else Ta.shares (ps.drop (k + 1)))
      generalize ps.getD k Po.zero = p at *
      obtain ⟨y0, y1, y2, y3⟩ := p
      simp only at q0 q1 q2 q3 hst
      have i0 : (0 : Int) ≤ (k : Int) := by omega
      have i1 : (k : Int) < (len : Int) := by omega
      have hb2 := hbel.alloc hbel.size (.cells #[.int .i64 y0, .int .i64 y1, .int .i64 y2, .int .u32 (y3 : Nat)] 41)
      clear p0 p1 p2 p3 hc HL
      by_cases hz : 0 < y2
      · have d0 : decide (0 < y2) = true := by simp [hz]
        have H2 : Hid (L = (O ++ [(y0, y2)]) ++ Ta.shares (ps.drop (k + 1))) := (by rw [H.out, hst.out, if_pos hz]; simp : L = (O ++ [(y0, y2)]) ++ Ta.shares (ps.drop (k + 1)))
        have HO2 : Hid ((O ++ [(y0, y2)]).length = m + 1) := (by rw [List.length_append, HO.out]; rfl : (O ++ [(y0, y2)]).length = m + 1)
        have hown2 := hown.alloc (.cells #[.int .i64 y0, .int .i64 y1, .int .i64 y2, .int .u32 (y3 : Nat)] 41)
        have hls := lit_share (wr.alloc (.cells #[.int .i64 y0, .int .i64 y1, .int .i64 y2, .int .u32 (y3 : Nat)] 41)) y0 y2 (g := wr.heap.size + 1) (by simp)
        clear hst H hz
        go_wp2_with (at_builtin; go_must (refine append_t shareE seE (w0 := w) (B := w.heap.size) rfl (.tmp 15) (.tmp 21) rfl _ _ _ rfl (hown2.alloc _) (some ⟨wr.heap.size + 1, 0, none⟩) 1 1 [(y0, y2)] rfl hls (fun h => by cases h) (by omega) (hb2.alloc hb2.size _) (hb2.alloc hb2.size _).size ?_; intro a3 c3 w3 _ _ _ hown3 hb3 _))
        go_roundw
        case rel => exact ⟨k + 1, m + 1, c3, a3, _, by omega, by omega, by go_num, rfl, H2, HO2, hown3, hb3⟩
        case measure => simp [intOf]; omega
      · have d0 : decide (0 < y2) = false := by simp; omega
        have H2 : Hid (L = O ++ Ta.shares (ps.drop (k + 1))) := (by rw [H.out, hst.out, if_neg hz] : L = O ++ Ta.shares (ps.drop (k + 1)))
        have hown2 := hown.alloc (.cells #[.int .i64 y0, .int .i64 y1, .int .i64 y2, .int .u32 (y3 : Nat)] 41)
        clear hst H hz
        go_wp2
        go_roundw
        case rel => exact ⟨k + 1, m, c, g, O, by omega, by omega, by go_num, rfl, H2, HO, hown2, hb2⟩
        case measure => simp [intOf]; omega
    · obtain rfl : k = len := by omega
      have HE : Hid (L = O) := (by rw [H.out, List.drop_of_length_le (by rw [hll.out]; omega)]; simp [Ta.shares] : L = O)
      clear H HL
      go_wp2
      go_ret
      obtain rfl := HE.out
      obtain rfl := HO.out
      exact ⟨g, c, rfl, hown, hbel⟩

set_option maxRecDepth 100000 in
set_option maxHeartbeats 400000 in
theorem tgrow_nil (n : Nat) (w : World) (hn : n ≤ 100000) :
    Calls Try.prog 36 #[.slice none 0 0, .int .i64 (n : Nat)] w fun e w' => ∃ g c, e = .returned (.slice g 0 c) ∧ w'.ownsRow w.heap.size 47 2 (.slice g 0 c) 0 (tcells se []) ∧ Below w.heap.size w w' := by
  rcases Nat.eq_zero_or_pos n with rfl | h0
  · go_enter Try.func36, Try.ntmps36
    go_wp2
    go_ret
    exact ⟨none, 0, rfl, ⟨rfl, .inl ⟨rfl, rfl⟩⟩, Below.refl _ _⟩
  · obtain ⟨i0, hi0, hz0, hz1, hz2⟩ := info_parts shareE.info
    have hrun := Lib.run_append_nil_zeros (P := Try.prog) w 22 3 22 47 i0 (.agg #[.int .i64 0, .int .i64 0]) .i64 .i64 Try.underlying22 Try.underlying3 hi0 hz0 n h0 (by rw [hz1]; decide) (by omega) (by rw [hz2]; omega)
    have hm := grownCap_le_maxLen w n 0 47 (by unfold maxLen; omega)
    have hge := grownCap_ge w n 0 47
    clear hi0 hz0 hz1 hz2
    generalize grownCap w n 0 47 = C at *
    have hsz : (Builtin.zeroCells (Value.agg #[.int .i64 0, .int .i64 0]).cells n ++ Builtin.zeroCells (Value.agg #[.int .i64 0, .int .i64 0]).cells (C - n)).size = C * 2 := by
      simp [Builtin.zeroCells, Value.cells]; omega
    generalize Builtin.zeroCells (Value.agg #[.int .i64 0, .int .i64 0]).cells n ++ Builtin.zeroCells (Value.agg #[.int .i64 0, .int .i64 0]).cells (C - n) = cs at *
    go_enter Try.func36, Try.ntmps36
    go_wp2_with (at_builtin; refine Lib.wpList_append_run _ rfl _ _ _ _ rfl _ _ rfl rfl _ _ hrun ?_)
    go_ret
    exact ⟨_, _, rfl, ⟨rfl, .inr ⟨_, _, _, rfl, Nat.le_refl _, heap_alloc_new _ _, Nat.zero_le _, hm, hsz, rfl⟩⟩, ((Below.refl _ _).drew).alloc (Nat.le_refl _) _⟩

set_option maxRecDepth 100000 in
set_option maxHeartbeats 400000 in
theorem tclone_any (a : Option Addr) (n c : Nat) (l : List Ta.S) (w : World) (hn : n ≤ 1000000) (hr : ShRow w a n l) (hnil : a = none → n = 0 ∧ c = 0) :
    Calls Try.prog 27 #[.slice a n c] w (ShRes w l) := by
  obtain rfl := hr.1
  cases a with
  | none =>
    obtain ⟨h0, rfl⟩ := hnil rfl
    obtain rfl : l = [] := List.length_eq_zero_iff.mp h0
    go_enter Try.func27, Try.ntmps27
    go_wp2_with fail
    rw [Lib.run_eql_slice_nil _ 22 47 none _ 0 0 0 Try.underlying22]
    go_wp2
    go_ret
    exact ⟨none, 0, rfl, ⟨rfl, .inl ⟨rfl, rfl⟩⟩, Below.refl _ _⟩
  | some p =>
    have hr2 := hr.below (below_alloc w (.cells #[] 47)) (Nat.le_refl _)
    have hm0 := made_t (s := 2) (enc := se) w (B := w.heap.size) (E := 47) (Nat.le_refl _) rfl
    obtain ⟨n, hn'⟩ : ∃ n, n = l.length := ⟨_, rfl⟩
    rw [← hn'] at hr hr2 hn ⊢
    have HN : Hid (n = l.length) := hn'
    clear hn' hnil
    go_enter Try.func27, Try.ntmps27
    go_wp2_with fail
    rw [Lib.run_eql_slice_nil _ 22 47 (some p) n c 0 0 Try.underlying22]
    go_wp2_with (at_builtin; go_must (refine append_t shareE seE (w0 := w) (B := w.heap.size) rfl (.tmp 5) (.tmp 6) rfl _ 0 [] rfl hm0 (some p) n c l rfl hr2 (fun h => by cases h) (by omega) (below_alloc _ _) (by simp) ?_; intro A C w2 _ _ _ hown2 hbel2 _))
    rw [Nat.zero_add, List.nil_append] at hown2
    go_ret
    obtain rfl := HN.out
    exact ⟨A, C, rfl, hown2, hbel2⟩

set_option maxRecDepth 100000 in
set_option maxHeartbeats 1000000 in
theorem tconcat2 (g : Nat) (a1 : Option Addr) (n1 c1 : Nat) (b1 : List Ta.S) (a2 : Option Addr) (n2 c2 : Nat) (b2 : List Ta.S) (w : World)
    (h1 : w.cell? ⟨g, 0, none⟩ = some (.slice a1 n1 c1)) (h2 : w.cell? ⟨g, 1, none⟩ = some (.slice a2 n2 c2))
    (r1 : ShRow w a1 n1 b1) (r2 : ShRow w a2 n2 b2) (z1 : a1 = none → n1 = 0 ∧ c1 = 0) (z2 : a2 = none → n2 = 0 ∧ c2 = 0)
    (hgl : g < w.heap.size) (m1 : n1 ≤ 1000) (m2 : n2 ≤ 1000) :
    Calls Try.prog 31 #[.slice (some ⟨g, 0, none⟩) 2 2] w (ShRes w (b1 ++ b2)) := by
  have hl1 : Hid (b1.length = n1) := r1.1
  have hl2 : Hid (b2.length = n2) := r2.1
  go_enter Try.func31, Try.ntmps31
  go_wp2
  go_loop [3, 11] (fun t i => ∃ k : Nat, k ≤ 2 ∧ i = .int .i64 k ∧ ((k = 0 ∧ t = .int .i64 (0 : Nat)) ∨ (k = 1 ∧ t = .int .i64 (n1 : Nat)) ∨ (k = 2 ∧ t = .int .i64 (n1 + n2 : Nat)))) (fun _ i => 2 - (intOf i).toNat)
  case atStart => exact ⟨0, by omega, rfl, .inl ⟨rfl, rfl⟩⟩
  case round =>
    obtain ⟨k, hk, rfl, ⟨rfl, rfl⟩ | ⟨rfl, rfl⟩ | ⟨rfl, rfl⟩⟩ := hrel
    · go_wp2
      go_round
      case rel => exact ⟨1, by omega, rfl, .inr (.inl ⟨rfl, val_int (by omega)⟩)⟩
      case measure => simp [intOf]
    · go_wp2
      go_round
      case rel => exact ⟨2, by omega, rfl, .inr (.inr ⟨rfl, val_int (by omega)⟩)⟩
      case measure => simp [intOf]
    · have hg := fun W => tgrow_nil (n1 + n2) W (by omega)
      go_wp2_with (go_at_call 36; go_must (refine (hg _).mono ?_; rintro e w2 ⟨gg, gc, rfl, hown2, hbel2⟩))
      go_loopw [6, 27] (fun v i wr => ∃ (k : Nat) (a' : Option Addr) (n c : Nat), k ≤ 2 ∧ i = .int .i64 k ∧ v = .slice a' n c ∧ Below w.heap.size w wr ∧ ((k = 0 ∧ n = 0 ∧ wr.ownsRow w.heap.size 47 2 (.slice a' n c) n (tcells se [])) ∨ (k = 1 ∧ n1 = n ∧ wr.ownsRow w.heap.size 47 2 (.slice a' n c) n (tcells se b1)) ∨ (k = 2 ∧ n = n1 + n2 ∧ wr.ownsRow w.heap.size 47 2 (.slice a' n c) n (tcells se (b1 ++ b2))))) (fun _ i _ => 2 - (intOf i).toNat)
      case atStart => exact ⟨0, _, 0, gc, by omega, rfl, rfl, hbel2, .inl ⟨rfl, rfl, hown2⟩⟩
      case round =>
        obtain ⟨k, a', n, c, hk, rfl, rfl, hbel, hcase⟩ := hrel
        have hsz := hbel.size
        have q1 := (hbel.cell (p := ⟨g, 0, none⟩) hgl).trans h1
        have q2 := (hbel.cell (p := ⟨g, 1, none⟩) hgl).trans h2
        clear hown2 hbel2 hg
        rcases hcase with ⟨rfl, rfl, hown⟩ | ⟨rfl, rfl, hown⟩ | ⟨rfl, rfl, hown⟩
        · go_wp2_with (at_builtin; go_must (refine append_t shareE seE (w0 := w) (B := w.heap.size) rfl (.tmp 31) (.tmp 32) rfl _ 0 [] rfl hown a1 n1 c1 b1 rfl (r1.below hbel (Nat.le_refl _)) z1 (by omega) hbel hsz ?_; intro a6 c6 w6 _ _ _ hown6 hbel6 hsz6))
          go_roundw
          case rel => exact ⟨1, a6, _, c6, by omega, rfl, rfl, hbel6, .inr (.inl ⟨rfl, by omega, by simpa using hown6⟩)⟩
          case measure => simp [intOf]
        · go_wp2_with (at_builtin; go_must (refine append_t shareE seE (w0 := w) (B := w.heap.size) rfl (.tmp 31) (.tmp 32) rfl _ n1 b1 rfl hown a2 n2 c2 b2 rfl (r2.below hbel (Nat.le_refl _)) z2 (by omega) hbel hsz ?_; intro a6 c6 w6 _ _ _ hown6 hbel6 hsz6))
          go_roundw
          case rel => exact ⟨2, a6, _, c6, by omega, rfl, rfl, hbel6, .inr (.inr (⟨rfl, rfl, hown6⟩))⟩
          case measure => simp [intOf]
        · go_wp2
          go_ret
          refine ⟨a', c, ?_, ?_, hbel⟩
          · rw [List.length_append, hl1.out, hl2.out]; rfl
          · rw [List.length_append, hl1.out, hl2.out]; exact hown

/-- a share as a value -/
def sv (x : Ta.S) : Value := .agg #[.int .i64 x.1, .int .i64 x.2]

set_option maxRecDepth 100000 in
set_option maxHeartbeats 400000 in
theorem tcompare_any (x y : Ta.S) (w : World) : Calls Try.prog 33 #[sv x, sv y] w fun e w' => e = .returned (.int .i64 (icmp x.1 y.1)) ∧ w' = (w.alloc (.cells #[.int .i64 x.1, .int .i64 x.2] 47)).alloc (.cells #[.int .i64 y.1, .int .i64 y.2] 47) := by
  have hcon := fun W => compare_any x.1 y.1 W
  obtain ⟨x1, x2⟩ := x
  obtain ⟨y1, y2⟩ := y
  simp only [sv] at hcon ⊢
  generalize icmp x1 y1 = r at hcon ⊢
  go_enter Try.func33, Try.ntmps33
  go_wp2_with (go_at_call 39; refine (hcon _).mono ?_; rintro e w' ⟨rfl, rfl⟩)
  go_ret
  exact ⟨rfl, rfl⟩

set_option maxRecDepth 100000 in
set_option maxHeartbeats 400000 in
theorem tempty_any (x : Ta.S) (r : Bool) (hr : r = decide (x.2 = 0)) (w : World) : Calls Try.prog 29 #[sv x] w fun e w' => e = .returned (.bool r) ∧ w' = w.alloc (.cells #[.int .i64 x.1, .int .i64 x.2] 47) := by
  obtain ⟨x1, x2⟩ := x
  simp only [sv] at hr ⊢
  have hd : (x2 == 0) = r := by rw [hr]; by_cases h : x2 = 0 <;> simp [h]
  clear hr
  go_enter Try.func29, Try.ntmps29
  go_wp2
  go_ret
  exact ⟨rfl, rfl⟩
end Go.Proofs.Ytfeaablomceejaa
