/- Edits of the program: those that make a roster. -/
import Derived.Test.YtmodogmjfbcddaaGreatRTa
import Derived.Lib.AppendZeros
namespace Go.Proofs.YtmodogmjfbcddaaGreat
open Go.RowKit

set_option maxRecDepth 100000 in
set_option maxHeartbeats 1000000 in
theorem zgrow_nil (n : Nat) (w : World) (hn : n ≤ 100000) :
    Calls Tryz.prog 111 #[.slice none 0 0, .int .i64 (n : Nat)] w fun e w' => ∃ g c, e = .returned (.slice g 0 c) ∧ w'.ownsRow w.heap.size 3 1 (.slice g 0 c) 0 (tcells ze []) ∧ Below w.heap.size w w' := by
  rcases Nat.eq_zero_or_pos n with rfl | h0
  · go_enter Tryz.func111, Tryz.ntmps111
    go_wp2
    go_ret
    exact ⟨none, 0, rfl, ⟨rfl, .inl ⟨rfl, rfl⟩⟩, Below.refl _ _⟩
  · obtain ⟨i0, hi0, hz0, hz1, hz2⟩ := info_parts intZ.info
    have hrun := Lib.run_append_nil_zeros (P := Tryz.prog) w 22 3 22 3 i0 (.int .i64 0) .i64 .i64 Tryz.underlying22 Tryz.underlying3 hi0 hz0 n h0 (by rw [hz1]; decide) (by omega) (by rw [hz2]; omega)
    have hm := grownCap_le_maxLen w n 0 3 (by unfold maxLen; omega)
    have hge := grownCap_ge w n 0 3
    clear hi0 hz0 hz1 hz2
    generalize grownCap w n 0 3 = C at *
    have hsz : (Builtin.zeroCells (Value.int .i64 0).cells n ++ Builtin.zeroCells (Value.int .i64 0).cells (C - n)).size = C * 1 := by
      simp [Builtin.zeroCells, Value.cells]; omega
    generalize Builtin.zeroCells (Value.int .i64 0).cells n ++ Builtin.zeroCells (Value.int .i64 0).cells (C - n) = cs at *
    go_enter Tryz.func111, Tryz.ntmps111
    go_wp2_with (at_builtin; refine Lib.wpList_append_run _ rfl _ _ _ _ rfl _ _ rfl rfl _ _ hrun ?_)
    go_ret
    exact ⟨_, _, rfl, ⟨rfl, .inr ⟨_, _, _, rfl, Nat.le_refl _, heap_alloc_new _ _, Nat.zero_le _, hm, hsz, rfl⟩⟩, ((Below.refl _ _).drew).alloc (Nat.le_refl _) _⟩

set_option maxRecDepth 100000 in
set_option maxHeartbeats 1000000 in
theorem zconcat2 (g : Nat) (a1 : Option Addr) (n1 c1 : Nat) (b1 : List Int) (a2 : Option Addr) (n2 c2 : Nat) (b2 : List Int) (w : World)
    (h1 : w.cell? ⟨g, 0, none⟩ = some (.slice a1 n1 c1)) (h2 : w.cell? ⟨g, 1, none⟩ = some (.slice a2 n2 c2))
    (r1 : ZRow w a1 n1 b1) (r2 : ZRow w a2 n2 b2) (z1 : a1 = none → n1 = 0 ∧ c1 = 0) (z2 : a2 = none → n2 = 0 ∧ c2 = 0)
    (hgl : g < w.heap.size) (m1 : n1 ≤ 1000) (m2 : n2 ≤ 1000) :
    Calls Tryz.prog 85 #[.slice (some ⟨g, 0, none⟩) 2 2] w (ZRes w (b1 ++ b2)) := by
  have hl1 : Hid (b1.length = n1) := r1.1
  have hl2 : Hid (b2.length = n2) := r2.1
  go_enter Tryz.func85, Tryz.ntmps85
  go_wp2
  go_loop [3, 11] (fun t i => ∃ k : Nat, k ≤ 2 ∧ i = .int .i64 k ∧ ((k = 0 ∧ t = .int .i64 (0 : Nat)) ∨ (k = 1 ∧ t = .int .i64 (n1 : Nat)) ∨ (k = 2 ∧ t = .int .i64 (n1 + n2 : Nat)))) (fun _ i => 2 - (intOf i).toNat)
  case atStart => exact ⟨0, by omega, rfl, .inl ⟨rfl, rfl⟩⟩
  case round =>
    obtain ⟨k, hk, rfl, ⟨rfl, rfl⟩ | ⟨rfl, rfl⟩ | ⟨rfl, rfl⟩⟩ := hrel
    · go_wp2
      go_round
      case rel => exact ⟨1, by omega, rfl, .inr (.inl ⟨rfl, val_int (by omega)⟩)⟩
      case measure => simp [intOf]
    · go_wp2
      go_round
      case rel => exact ⟨2, by omega, rfl, .inr (.inr ⟨rfl, val_int (by omega)⟩)⟩
      case measure => simp [intOf]
    · have hg := fun W => zgrow_nil (n1 + n2) W (by omega)
      go_wp2_with (go_at_call 111; go_must (refine (hg _).mono ?_; rintro e w2 ⟨gg, gc, rfl, hown2, hbel2⟩))
      go_loopw [6, 27] (fun v i wr => ∃ (k : Nat) (a' : Option Addr) (n c : Nat), k ≤ 2 ∧ i = .int .i64 k ∧ v = .slice a' n c ∧ Below w.heap.size w wr ∧ ((k = 0 ∧ n = 0 ∧ wr.ownsRow w.heap.size 3 1 (.slice a' n c) n (tcells ze [])) ∨ (k = 1 ∧ n1 = n ∧ wr.ownsRow w.heap.size 3 1 (.slice a' n c) n (tcells ze b1)) ∨ (k = 2 ∧ n = n1 + n2 ∧ wr.ownsRow w.heap.size 3 1 (.slice a' n c) n (tcells ze (b1 ++ b2))))) (fun _ i _ => 2 - (intOf i).toNat)
      case atStart => exact ⟨0, _, 0, gc, by omega, rfl, rfl, hbel2, .inl ⟨rfl, rfl, hown2⟩⟩
      case round =>
        obtain ⟨k, a', n, c, hk, rfl, rfl, hbel, hcase⟩ := hrel
        have hsz := hbel.size
        have q1 := (hbel.cell (p := ⟨g, 0, none⟩) hgl).trans h1
        have q2 := (hbel.cell (p := ⟨g, 1, none⟩) hgl).trans h2
        clear hown2 hbel2 hg
        rcases hcase with ⟨rfl, rfl, hown⟩ | ⟨rfl, rfl, hown⟩ | ⟨rfl, rfl, hown⟩
        · go_wp2_with (at_builtin; go_must (refine append_t intZ zeE (w0 := w) (B := w.heap.size) rfl (.tmp 31) (.tmp 32) rfl _ 0 [] rfl hown a1 n1 c1 b1 rfl (r1.below hbel (Nat.le_refl _)) z1 (by omega) hbel hsz ?_; intro a6 c6 w6 _ _ _ hown6 hbel6 hsz6))
          go_roundw
          case rel => exact ⟨1, a6, _, c6, by omega, rfl, rfl, hbel6, .inr (.inl ⟨rfl, by omega, by simpa using hown6⟩)⟩
          case measure => simp [intOf]
        · go_wp2_with (at_builtin; go_must (refine append_t intZ zeE (w0 := w) (B := w.heap.size) rfl (.tmp 31) (.tmp 32) rfl _ n1 b1 rfl hown a2 n2 c2 b2 rfl (r2.below hbel (Nat.le_refl _)) z2 (by omega) hbel hsz ?_; intro a6 c6 w6 _ _ _ hown6 hbel6 hsz6))
          go_roundw
          case rel => exact ⟨2, a6, _, c6, by omega, rfl, rfl, hbel6, .inr (.inr (⟨rfl, rfl, hown6⟩))⟩
          case measure => simp [intOf]
        · go_wp2
          go_ret
          refine ⟨a', c, ?_, ?_, hbel⟩
          · rw [List.length_append, hl1.out, hl2.out]; rfl
          · rw [List.length_append, hl1.out, hl2.out]; exact hown

set_option maxRecDepth 100000 in
set_option maxHeartbeats 2000000 in
theorem rallsegs_any (s : List Int) (ms : List (Int × Int)) (ts : List Lv.T) (ks : List (Int × Int × Int)) (a1 : Option Addr) (n1 c1 : Nat) (a2 : Option Addr) (n2 c2 : Nat) (a3 : Option Addr) (n3 c3 : Nat) (a4 : Option Addr) (n4 c4 : Nat) (i1 i2 i3 i4 i5 i6 i7 : Int) (w : World) (h : RIn w a1 n1 c1 a2 n2 c2 a3 n3 c3 a4 n4 c4 ⟨s, ms, ts, ks, i1, i2, i3, i4, i5, i6, i7⟩) :
    Calls Tryz.prog 37 #[.agg #[.slice a1 n1 c1, .slice a2 n2 c2, .slice a3 n3 c3, .slice a4 n4 c4, .int .i64 i1, .int .i64 i2, .int .i64 i3, .int .i64 i4, .int .i64 i5, .int .i64 i6, .int .i64 i7]] w (ZRes w (Ro.sorted (s ++ ms.map (·.1)))) := by
  have m1 := h.m1; have m2 := h.m2
  have hnum := fun W (hb : Below w.heap.size w W) => rnums_m (·.1) 60 (by intro args w; rfl) (fun x y W => rmseg_any x y W) a2 n2 c2 ms W (by omega) (h.r2.below hb (Nat.le_refl _))
  have hml : (ms.map (·.1)).length = n2 := by rw [List.length_map]; exact h.r2.1
  have HS : Hid (ZRow w a1 n1 s) := h.r1
  have HZ : Hid (a1 = none → n1 = 0 ∧ c1 = 0) := h.z1
  have hsl : s.length = n1 := h.r1.1
  generalize ms.map (·.1) = M at *
  unfold ZRes at hnum ⊢
  rw [hml] at hnum
  have hsl2 : (Ro.sorted (s ++ M)).length = n1 + n2 := by rw [sorted_length, List.length_append, hsl, hml]
  have hsl3 : (s ++ M).length = n1 + n2 := by rw [List.length_append, hsl, hml]
  rw [hsl2]
  obtain ⟨N, hN⟩ : ∃ N, N = n1 + n2 := ⟨_, rfl⟩
  rw [← hN] at hsl3 ⊢
  have hcon := fun (W : World) (g : Nat) (b : Option Addr) (d : Nat) (h1 : W.cell? ⟨g, 0, none⟩ = some (.slice a1 n1 c1)) (h2 : W.cell? ⟨g, 1, none⟩ = some (.slice b n2 d)) (hr : ZRow W b n2 M) (hz : b = none → n2 = 0 ∧ d = 0) (hb : Below w.heap.size w W) (hg : g < W.heap.size) => zconcat2 g a1 n1 c1 s b n2 d M W h1 h2 (HS.out.below hb (Nat.le_refl _)) hr HZ.out hz hg m1 m2
  unfold ZRes at hcon
  rw [hsl3] at hcon
  have hN2 : N ≤ 100000 := by omega
  have hso := fun g c B W ho => rsort_any g N c B (s ++ M) W (by omega) ho
  obtain ⟨U, hU⟩ : ∃ U, U = w.alloc (.cells #[.slice a1 n1 c1, .slice a2 n2 c2, .slice a3 n3 c3, .slice a4 n4 c4, .int .i64 i1, .int .i64 i2, .int .i64 i3, .int .i64 i4, .int .i64 i5, .int .i64 i6, .int .i64 i7] 29) := ⟨_, rfl⟩
  have hbU : Below w.heap.size w U := by rw [hU]; exact below_alloc _ _
  have e0 : U.heap[w.heap.size]? = some (.cells #[.slice a1 n1 c1, .slice a2 n2 c2, .slice a3 n3 c3, .slice a4 n4 c4, .int .i64 i1, .int .i64 i2, .int .i64 i3, .int .i64 i4, .int .i64 i5, .int .i64 i6, .int .i64 i7] 29 (0, 0)) := by rw [hU]; exact heap_alloc_new _ _
  have HV : Hid (∀ W, Below U.heap.size U W → (W.cell? ⟨w.heap.size, 0, none⟩ = some (.slice a1 n1 c1) ∧ W.cell? ⟨w.heap.size, 1, none⟩ = some (.slice a2 n2 c2))) := (fun W hb => by
    have a := (blkc ((hb.block _ (ob_ltB e0)).trans e0)).1
    exact ⟨a 0, a 1⟩ : ∀ W, _ → _)
  obtain ⟨x0, x1⟩ := HV.out U (Below.refl _ _)
  have HU : Hid (Below w.heap.size w U) := hbU
  have hUe : w.alloc (.cells #[.slice a1 n1 c1, .slice a2 n2 c2, .slice a3 n3 c3, .slice a4 n4 c4, .int .i64 i1, .int .i64 i2, .int .i64 i3, .int .i64 i4, .int .i64 i5, .int .i64 i6, .int .i64 i7] 29) = U := hU.symm
  clear hU hbU e0 h hsl hml hsl2 hsl3 hN
  go_enter Tryz.func37, Tryz.ntmps37
  go_wp2_with fail
  clear hUe
  go_region_held3 (fun W => W.cell? ⟨w.heap.size, 0, none⟩ = some (.slice a1 n1 c1) ∧ W.cell? ⟨w.heap.size, 1, none⟩ = some (.slice a2 n2 c2)) (first | go_keep | (refine ⟨?_, ?_⟩ <;> assumption))
    (first
      | (go_at_call 41; refine (hnum _ HU.out.drew).mono ?_; rintro e w1 ⟨b, d, rfl, hown1, b1⟩; have hb1 := below_of_drew b1; have hw1 := HU.out.trans (hb1.mono HU.out.size); obtain ⟨y0, y1⟩ := HV.out w1 hb1; have hbz := (t_shape hown1); have hown1' := hown1.alloc (.cells #[.slice a1 n1 c1, .slice b n2 d] 22); have hr1 : ZRow (w1.alloc (.cells #[.slice a1 n1 c1, .slice b n2 d] 22)) b n2 M := trow_of_owns zeE hown1' (by omega) (by omega); have hz1 : b = none → n2 = 0 ∧ d = 0 := (by obtain ⟨_, _, e, hz, _⟩ := hbz; simp only [Value.slice.injEq] at e; obtain ⟨rfl, _, rfl⟩ := e; exact hz); have k0 := cell_new w1 #[.slice a1 n1 c1, .slice b n2 d] 22 0; have k1 := cell_new w1 #[.slice a1 n1 c1, .slice b n2 d] 22 1; have hw2 := hw1.alloc hw1.size (.cells #[.slice a1 n1 c1, .slice b n2 d] 22); have hbw2 := hb1.alloc hb1.size (.cells #[.slice a1 n1 c1, .slice b n2 d] 22); obtain ⟨z0, z1⟩ := HV.out _ hbw2; clear hbz)
      | (go_at_call 85; refine (hcon _ w1.heap.size b d k0 k1 hr1 hz1 hw2 (by simp)).mono ?_; rintro e w3 ⟨g3, c3, rfl, hown3, b3⟩; have hbw3 := hbw2.trans (b3.mono hbw2.size); have hw3 := hw2.trans (b3.mono hw2.size); obtain ⟨v0, v1⟩ := HV.out w3 hbw3; have hown3' := lowns_base (B' := w.heap.size) hown3 hw2.size))
  all_goals
    go_wp2_with (go_at_call 86; go_must (refine (hso _ _ _ _ hown3').mono ?_; rintro e w4 ⟨rfl, hown4, hg4⟩))
    go_ret
    exact ⟨g3, c3, rfl, hown4, hw3.grown hg4 hw3.size (fun k hk => own_base hown3' hk)⟩
end Go.Proofs.YtmodogmjfbcddaaGreat

/- Edits of the program: those that make a roster. -/
namespace Go.Proofs.YtmodogmjfbcddaaGreat
open Go.RowKit

/-- a new row of edits -/
def EdRes (w : World) (l : List Ed.E) (e : Ending) (w' : World) : Prop := ∃ g c, e = .returned (.slice g l.length c) ∧ w'.ownsRow w.heap.size 46 12 (.slice g l.length c) l.length (tcells ee l) ∧ Below w.heap.size w w'
theorem eres_of {w U W : World} {a : Option Addr} {n c : Nat} {l : List Ed.E} (h : W.ownsRow U.heap.size 46 12 (.slice a n c) n (tcells ee l)) (hb : Below U.heap.size U W) (hU : Below w.heap.size w U) : EdRes w l (.returned (.slice a n c)) W := by
  have hl : l.length = n := by have := h.1; rw [tcells_length eeE] at this; omega
  subst hl
  exact ⟨a, c, rfl, lowns_base h hU.size, hU.trans (hb.mono hU.size)⟩
theorem rmakes_eq {s : List Int} {ms : List (Int × Int)} {ts : List Lv.T} {ks : List (Int × Int × Int)} {i1 i2 i3 i4 i5 i6 i7 : Int} {S : List Int} {P2 P3 P4 P5 P6 Q : List Ed.E} (h1 : P2 = [] ++ S.map Ro.eSeg) (h2 : P3 = P2 ++ ms.map Ro.eMove) (h3 : P4 = P3 ++ ts.map Ro.eTab) (hm : P5 = P4 ++ (if 0 < i7 then [Ro.eMark i7] else [])) (h4 : P6 = P5 ++ ks.map Ro.eStill) (hS : S = Ro.sorted (s ++ ms.map (·.1)))
    (hQ : (if Ro.based ⟨s, ms, ts, ks, i1, i2, i3, i4, i5, i6, i7⟩ = true then [Ro.eBase ⟨s, ms, ts, ks, i1, i2, i3, i4, i5, i6, i7⟩] else []) = Q) : P6 ++ Q = Ro.makes ⟨s, ms, ts, ks, i1, i2, i3, i4, i5, i6, i7⟩ := by
  subst h1 h2 h3 hm h4 hS hQ
  simp only [Ro.makes, Ro.allSegs, List.nil_append, List.append_assoc]

set_option maxRecDepth 100000 in
set_option maxHeartbeats 8000000 in
theorem redits_no (s : List Int) (ms : List (Int × Int)) (ts : List Lv.T) (ks : List (Int × Int × Int)) (a1 : Option Addr) (n1 c1 : Nat) (a2 : Option Addr) (n2 c2 : Nat) (a3 : Option Addr) (n3 c3 : Nat) (a4 : Option Addr) (n4 c4 : Nat) (i1 i2 i3 i4 i5 i6 i7 : Int) (w : World) (h : RIn w a1 n1 c1 a2 n2 c2 a3 n3 c3 a4 n4 c4 ⟨s, ms, ts, ks, i1, i2, i3, i4, i5, i6, i7⟩) (hc : Ro.check ⟨s, ms, ts, ks, i1, i2, i3, i4, i5, i6, i7⟩ = false) :
    Calls Tryz.prog 17 #[.agg #[.slice a1 n1 c1, .slice a2 n2 c2, .slice a3 n3 c3, .slice a4 n4 c4, .int .i64 i1, .int .i64 i2, .int .i64 i3, .int .i64 i4, .int .i64 i5, .int .i64 i6, .int .i64 i7]] w (EdRes w []) := by
  have hck := fun W (hb : Below w.heap.size w W) => rcheck_in (r := ⟨s, ms, ts, ks, i1, i2, i3, i4, i5, i6, i7⟩) a1 n1 c1 a2 n2 c2 a3 n3 c3 a4 n4 c4 W (h.below hb) 1 (by rw [hc]; rfl)
  obtain ⟨U, hU⟩ : ∃ U, U = w.alloc (.cells #[.slice a1 n1 c1, .slice a2 n2 c2, .slice a3 n3 c3, .slice a4 n4 c4, .int .i64 i1, .int .i64 i2, .int .i64 i3, .int .i64 i4, .int .i64 i5, .int .i64 i6, .int .i64 i7] 29) := ⟨_, rfl⟩
  have hbU : Below w.heap.size w U := by rw [hU]; exact below_alloc _ _
  have e0 : U.heap[w.heap.size]? = some (.cells #[.slice a1 n1 c1, .slice a2 n2 c2, .slice a3 n3 c3, .slice a4 n4 c4, .int .i64 i1, .int .i64 i2, .int .i64 i3, .int .i64 i4, .int .i64 i5, .int .i64 i6, .int .i64 i7] 29 (0, 0)) := by rw [hU]; exact heap_alloc_new _ _
  have x0 := (blkc e0).1 0
  have x1 := (blkc e0).1 1
  have x2 := (blkc e0).1 2
  have x3 := (blkc e0).1 3
  have x4 := (blkc e0).1 4
  have x5 := (blkc e0).1 5
  have x6 := (blkc e0).1 6
  have x7 := (blkc e0).1 7
  have x8 := (blkc e0).1 8
  have x9 := (blkc e0).1 9
  have x10 := (blkc e0).1 10
  have HU : Hid (Below w.heap.size w U) := hbU
  have hUe : w.alloc (.cells #[.slice a1 n1 c1, .slice a2 n2 c2, .slice a3 n3 c3, .slice a4 n4 c4, .int .i64 i1, .int .i64 i2, .int .i64 i3, .int .i64 i4, .int .i64 i5, .int .i64 i6, .int .i64 i7] 29) = U := hU.symm
  clear hU hbU e0 h hc
  go_enter Tryz.func17, Tryz.ntmps17
  go_wp2_with (go_at_call 11; go_must (refine (hck _ HU.out).mono ?_; rintro e w1 ⟨rfl, hb1⟩))
  go_ret
  exact ⟨none, 0, rfl, ⟨rfl, .inl ⟨rfl, rfl⟩⟩, HU.out.trans (hb1.mono HU.out.size)⟩

set_option maxRecDepth 100000 in
set_option maxHeartbeats 8000000 in
theorem redits_yes (s : List Int) (ms : List (Int × Int)) (ts : List Lv.T) (ks : List (Int × Int × Int)) (a1 : Option Addr) (n1 c1 : Nat) (a2 : Option Addr) (n2 c2 : Nat) (a3 : Option Addr) (n3 c3 : Nat) (a4 : Option Addr) (n4 c4 : Nat) (i1 i2 i3 i4 i5 i6 i7 : Int) (w : World) (h : RIn w a1 n1 c1 a2 n2 c2 a3 n3 c3 a4 n4 c4 ⟨s, ms, ts, ks, i1, i2, i3, i4, i5, i6, i7⟩) (hc : Ro.check ⟨s, ms, ts, ks, i1, i2, i3, i4, i5, i6, i7⟩ = true) :
    Calls Tryz.prog 17 #[.agg #[.slice a1 n1 c1, .slice a2 n2 c2, .slice a3 n3 c3, .slice a4 n4 c4, .int .i64 i1, .int .i64 i2, .int .i64 i3, .int .i64 i4, .int .i64 i5, .int .i64 i6, .int .i64 i7]] w (EdRes w (Ro.makes ⟨s, ms, ts, ks, i1, i2, i3, i4, i5, i6, i7⟩)) := by
  have hck := fun W (hb : Below w.heap.size w W) => rcheck_in (r := ⟨s, ms, ts, ks, i1, i2, i3, i4, i5, i6, i7⟩) a1 n1 c1 a2 n2 c2 a3 n3 c3 a4 n4 c4 W (h.below hb) 0 (by rw [hc]; rfl)
  have hall := fun W (hb : Below w.heap.size w W) => rallsegs_any s ms ts ks a1 n1 c1 a2 n2 c2 a3 n3 c3 a4 n4 c4 i1 i2 i3 i4 i5 i6 i7 W (h.below hb)
  obtain ⟨S, hSE⟩ : ∃ S, S = Ro.sorted (s ++ ms.map (·.1)) := ⟨_, rfl⟩
  rw [← hSE] at hall
  unfold ZRes at hall
  have m1 := h.m1; have m2 := h.m2; have m3 := h.m3; have m4 := h.m4
  have hSl : S.length = n1 + n2 := by rw [hSE, sorted_length, List.length_append, List.length_map, h.r1.1, h.r2.1]
  obtain ⟨NS, hNS⟩ : ∃ NS, NS = S.length := ⟨_, rfl⟩
  rw [← hNS] at hall
  have HSL : Hid (S.length = NS) := hNS.symm
  have hNb : NS ≤ 2000 := by omega
  have HSE : Hid (S = Ro.sorted (s ++ ms.map (·.1))) := hSE
  have R2 : Hid (MRow w a2 n2 ms) := h.r2
  have R3 : Hid (LRow w a3 n3 ts) := h.r3
  have R4 : Hid (KRow w a4 n4 ks) := h.r4
  have HL2 : Hid (ms.length = n2) := h.r2.1
  have HL3 : Hid (ts.length = n3) := h.r3.1
  have HL4 : Hid (ks.length = n4) := h.r4.1
  have HTX : Hid (∀ t ∈ ts, t.first.size ≤ 1000 ∧ t.last.size ≤ 1000) := h.texts
  obtain ⟨U, hU⟩ : ∃ U, U = w.alloc (.cells #[.slice a1 n1 c1, .slice a2 n2 c2, .slice a3 n3 c3, .slice a4 n4 c4, .int .i64 i1, .int .i64 i2, .int .i64 i3, .int .i64 i4, .int .i64 i5, .int .i64 i6, .int .i64 i7] 29) := ⟨_, rfl⟩
  have hbU : Below w.heap.size w U := by rw [hU]; exact below_alloc _ _
  have e0 : U.heap[w.heap.size]? = some (.cells #[.slice a1 n1 c1, .slice a2 n2 c2, .slice a3 n3 c3, .slice a4 n4 c4, .int .i64 i1, .int .i64 i2, .int .i64 i3, .int .i64 i4, .int .i64 i5, .int .i64 i6, .int .i64 i7] 29 (0, 0)) := by rw [hU]; exact heap_alloc_new _ _
  have HV : Hid (∀ W, Below U.heap.size U W → ∀ i, W.cell? ⟨w.heap.size, i, none⟩ = (#[.slice a1 n1 c1, .slice a2 n2 c2, .slice a3 n3 c3, .slice a4 n4 c4, .int .i64 i1, .int .i64 i2, .int .i64 i3, .int .i64 i4, .int .i64 i5, .int .i64 i6, .int .i64 i7] : Array Value)[i]?) := (fun W hb => (blkc ((hb.block _ (ob_ltB e0)).trans e0)).1 : ∀ W, _ → _)
  have ca := HV.out U (Below.refl _ _)
  have j0 := ca 0
  have j1 := ca 1
  have j2 := ca 2
  have j3 := ca 3
  have j4 := ca 4
  have j5 := ca 5
  have j6 := ca 6
  have j7 := ca 7
  have j8 := ca 8
  have j9 := ca 9
  have j10 := ca 10
  clear ca
  have HU : Hid (Below w.heap.size w U) := hbU
  have hUe : w.alloc (.cells #[.slice a1 n1 c1, .slice a2 n2 c2, .slice a3 n3 c3, .slice a4 n4 c4, .int .i64 i1, .int .i64 i2, .int .i64 i3, .int .i64 i4, .int .i64 i5, .int .i64 i6, .int .i64 i7] 29) = U := hU.symm
  clear hU hbU e0 h hc hSE hNS hSl
  go_enter Tryz.func17, Tryz.ntmps17
  go_wp2_with (first
    | (go_at_call 11; go_must (refine (hck _ HU.out).mono ?_; rintro e w1 ⟨rfl, hb1⟩; have hw1 := HU.out.trans (hb1.mono HU.out.size); clear j0 j1 j2 j3 j4 j5 j6 j7 j8 j9 j10; have ca := HV.out w1 hb1; have j0 := ca 0; have j1 := ca 1; have j2 := ca 2; have j3 := ca 3; have j4 := ca 4; have j5 := ca 5; have j6 := ca 6; have j7 := ca 7; have j8 := ca 8; have j9 := ca 9; have j10 := ca 10; clear ca))
    | (go_at_call 37; go_must (refine (hall _ hw1).mono ?_; rintro e w2 ⟨gS, cS, rfl, hS0, hb2⟩; have hw2 := hb1.trans (hb2.mono hb1.size))))
  clear hUe j0 j1 j2 j3 j4 j5 j6 j7 j8 j9 j10
  have hSo := lowns_base (B' := U.heap.size) hS0 hb1.size
  have ca := HV.out w2 hw2
  have j0 := ca 0
  have j1 := ca 1
  have j2 := ca 2
  have j3 := ca 3
  have j4 := ca 4
  have j5 := ca 5
  have j6 := ca 6
  have j7 := ca 7
  have j8 := ca 8
  have j9 := ca 9
  have j10 := ca 10
  clear ca
  have HBw : Hid (Below U.heap.size U w2) := hw2
  have HP1b : Hid (([] : List Ed.E).length ≤ 0) := (Nat.le_refl _ : _ ≤ _)
  have hown0 : w2.ownsRow U.heap.size 46 12 (.slice none 0 0) 0 (tcells ee ([])) := ⟨rfl, .inl ⟨rfl, rfl⟩⟩
  clear hS0 hb1 hb2 hw1 hw2 hck hall
  go_loopw [3, 5, 18] (fun v _ iv wr => ∃ (k : Nat) (a : Option Addr) (n c : Nat), k ≤ NS ∧ iv = .int .i64 k ∧ v = .slice a n c ∧ wr.ownsRow U.heap.size 46 12 (.slice a n c) n (tcells ee ([] ++ (S.take k).map Ro.eSeg)) ∧ Hid (Below U.heap.size U wr) ∧ wr.ownsRow U.heap.size 3 1 (.slice gS NS cS) NS (tcells ze S)) (fun _ _ iv _ => NS - (intOf iv).toNat)
  case atStart => exact ⟨0, _, _, _, by omega, rfl, rfl, by simpa using hown0, HBw, hSo⟩
  case round =>
    obtain ⟨k, a, n, c, hk, rfl, rfl, ow1, HB1, hS⟩ := hrel
    clear hown0 j0 j1 j2 j3 j4 j5 j6 j7 j8 j9 j10 hSo
    have ca := HV.out wr HB1.out
    have j0 := ca 0
    have j1 := ca 1
    have j2 := ca 2
    have j3 := ca 3
    have j4 := ca 4
    have j5 := ca 5
    have j6 := ca 6
    have j7 := ca 7
    have j8 := ca 8
    have j9 := ca 9
    have j10 := ca 10
    clear ca
    have hnn : n ≤ 0 + 1000 * 2 := by
      have h1 := ow1.1
      rw [tcells_length eeE, List.length_append, List.length_map, List.length_take] at h1
      have h2 := HP1b.out
      omega
    by_cases hlt : k < NS
    · obtain ⟨gs, rfl⟩ := town_blk hS (by omega)
      have hkS : k < S.length := by rw [HSL.out]; exact hlt
      obtain ⟨x, hx⟩ : ∃ x, S.getD k 0 = x := ⟨_, rfl⟩
      have hc0 := tcells_get (d := (0 : Int)) zeE S k 0 hkS (by omega)
      rw [Nat.mul_one, Nat.add_zero, hx] at hc0
      have q0 := (own_cells hS hc0).1
      have HT : Hid ([] ++ (S.take (k + 1)).map Ro.eSeg = [] ++ (S.take k).map Ro.eSeg ++ [Ro.eSeg x]) := (by rw [gtake 0 hkS, hx, List.map_append, List.append_assoc]; rfl : _ = _)
      have hlit := lit_edit wr 1 x 0 0 0 0 0 0 0 0 ⟨#[]⟩ ⟨#[]⟩ (o := wr.heap.size) rfl
      have hb2 := HB1.out.alloc HB1.out.size (oed 1 x 0 0 0 0 0 0 0 0 ⟨#[]⟩ ⟨#[]⟩)
      have hown2 := ow1.alloc (oed 1 x 0 0 0 0 0 0 0 0 ⟨#[]⟩ ⟨#[]⟩)
      have hS2 := hS.alloc (oed 1 x 0 0 0 0 0 0 0 0 ⟨#[]⟩ ⟨#[]⟩)
      have i0 : (0 : Int) ≤ (k : Int) := by omega
      have i5 : (k : Int) < (NS : Int) := by omega
      clear hc0 hx hkS
      generalize hPP : [] ++ (S.take k).map Ro.eSeg = PP at *
      clear hPP
      go_wp2_with (at_builtin; go_must (refine append_tg edE eeE (w0 := U) (B := U.heap.size) rfl (.tmp 22) (.tmp 25) rfl _ n PP rfl hown2 (some ⟨wr.heap.size, 0, none⟩) 1 1 [Ro.eSeg x] rfl hlit (fun h => by cases h) (by omega) hb2 hb2.size ?_; intro a6 c6 w6 hg6 _ _ _ hown6 hb6 _))
      go_roundw
      case rel => exact ⟨k + 1, a6, n + 1, c6, by omega, by go_num, rfl, by rw [HT.out]; exact hown6, hb6, hS2.kept hg6 (own_apart hS2 hown2 (by decide))⟩
      case measure => simp [intOf]; omega
    · obtain rfl : k = NS := by omega
      rw [List.take_of_length_le (by rw [HSL.out]; exact Nat.le_refl _)] at ow1
      obtain ⟨P2, hPe⟩ : ∃ P, P = [] ++ S.map Ro.eSeg := ⟨_, rfl⟩
      rw [← hPe] at ow1
      have HPE1 : Hid (P2 = [] ++ S.map Ro.eSeg) := hPe
      have HP2b : Hid (P2.length ≤ 0 + 1000 * 2) := (by
        have h1 := ow1.1
        rw [tcells_length eeE] at h1
        omega : _ ≤ _)
      clear hPe hS
      go_wp2
      go_loopw [3, 7, 31] (fun v _ iv wr => ∃ (k : Nat) (a : Option Addr) (n c : Nat), k ≤ n2 ∧ iv = .int .i64 k ∧ v = .slice a n c ∧ wr.ownsRow U.heap.size 46 12 (.slice a n c) n (tcells ee (P2 ++ (ms.take k).map Ro.eMove)) ∧ Hid (Below U.heap.size U wr)) (fun _ _ iv _ => n2 - (intOf iv).toNat)
      case atStart => exact ⟨0, _, _, _, by omega, rfl, rfl, by simpa using ow1, HB1⟩
      case round =>
        obtain ⟨k, a, n, c, hk, rfl, rfl, ow2, HB2⟩ := hrel
        clear ow1 j0 j1 j2 j3 j4 j5 j6 j7 j8 j9 j10
        have ca := HV.out wr HB2.out
        have j0 := ca 0
        have j1 := ca 1
        have j2 := ca 2
        have j3 := ca 3
        have j4 := ca 4
        have j5 := ca 5
        have j6 := ca 6
        have j7 := ca 7
        have j8 := ca 8
        have j9 := ca 9
        have j10 := ca 10
        clear ca
        have hnn : n ≤ 2000 + 1000 * 1 := by
          have h1 := ow2.1
          rw [tcells_length eeE, List.length_append, List.length_map, List.length_take] at h1
          have h2 := HP2b.out
          omega
        by_cases hlt : k < n2
        · obtain ⟨b, off, x, y, rfl, hx, q0, q1⟩ := mget R2.out (HU.out.trans (HB2.out.mono HU.out.size)) hlt
          have hkS : k < ms.length := by rw [HL2.out]; exact hlt
          have HT : Hid (P2 ++ (ms.take (k + 1)).map Ro.eMove = P2 ++ (ms.take k).map Ro.eMove ++ [Ro.eMove (x, y)]) := (by rw [gtake (0, 0) hkS, hx.out, List.map_append, List.append_assoc]; rfl : _ = _)
          have i0 : (0 : Int) ≤ (k : Int) := by omega
          have i5 : (k : Int) < (n2 : Int) := by omega
          generalize hPP : P2 ++ (ms.take k).map Ro.eMove = PP at *
          have hb1 := HB2.out.alloc HB2.out.size (.cells #[.int .i64 x, .int .i64 y] 53)
          have hown1 := ow2.alloc (.cells #[.int .i64 x, .int .i64 y] 53)
          have hb2 := hb1.alloc hb1.size (oed 2 y x 0 0 0 0 0 0 0 ⟨#[]⟩ ⟨#[]⟩)
          have hown2 := hown1.alloc (oed 2 y x 0 0 0 0 0 0 0 ⟨#[]⟩ ⟨#[]⟩)
          have hlit := lit_edit (wr.alloc (.cells #[.int .i64 x, .int .i64 y] 53)) 2 y x 0 0 0 0 0 0 0 ⟨#[]⟩ ⟨#[]⟩ (o := wr.heap.size + 1) (by simp)
          clear hPP hx hkS
          go_wp2_with (at_builtin; go_must (refine append_tg edE eeE (w0 := U) (B := U.heap.size) rfl (.tmp 35) (.tmp 41) rfl _ n PP rfl hown2 (some ⟨wr.heap.size + 1, 0, none⟩) 1 1 [Ro.eMove (x, y)] rfl hlit (fun h => by cases h) (by omega) hb2 hb2.size ?_; intro a6 c6 w6 hg6 _ _ _ hown6 hb6 _))
          go_roundw
          case rel => exact ⟨k + 1, a6, n + 1, c6, by omega, by go_num, rfl, by rw [HT.out]; exact hown6, hb6⟩
          case measure => simp [intOf]; omega
        · obtain rfl : k = n2 := by omega
          rw [List.take_of_length_le (by rw [HL2.out]; exact Nat.le_refl _)] at ow2
          obtain ⟨P3, hPe⟩ : ∃ P, P = P2 ++ ms.map Ro.eMove := ⟨_, rfl⟩
          rw [← hPe] at ow2
          have HPE2 : Hid (P3 = P2 ++ ms.map Ro.eMove) := hPe
          have HP3b : Hid (P3.length ≤ 2000 + 1000 * 1) := (by
            have h1 := ow2.1
            rw [tcells_length eeE] at h1
            omega : _ ≤ _)
          clear hPe
          go_wp2
          go_loopw [3, 9, 47] (fun v _ iv wr => ∃ (k : Nat) (a : Option Addr) (n c : Nat), k ≤ n3 ∧ iv = .int .i64 k ∧ v = .slice a n c ∧ wr.ownsRow U.heap.size 46 12 (.slice a n c) n (tcells ee (P3 ++ (ts.take k).map Ro.eTab)) ∧ Hid (Below U.heap.size U wr)) (fun _ _ iv _ => n3 - (intOf iv).toNat)
          case atStart => exact ⟨0, _, _, _, by omega, rfl, rfl, by simpa using ow2, HB2⟩
          case round =>
            obtain ⟨k, a, n, c, hk, rfl, rfl, ow3, HB3⟩ := hrel
            clear ow2 j0 j1 j2 j3 j4 j5 j6 j7 j8 j9 j10
            have ca := HV.out wr HB3.out
            have j0 := ca 0
            have j1 := ca 1
            have j2 := ca 2
            have j3 := ca 3
            have j4 := ca 4
            have j5 := ca 5
            have j6 := ca 6
            have j7 := ca 7
            have j8 := ca 8
            have j9 := ca 9
            have j10 := ca 10
            clear ca
            have hnn : n ≤ 3000 + 1000 * 1 := by
              have h1 := ow3.1
              rw [tcells_length eeE, List.length_append, List.length_map, List.length_take] at h1
              have h2 := HP3b.out
              omega
            by_cases hlt : k < n3
            · obtain ⟨b, off, x1, x2, x3, x4, x5, rfl, hx, q0, q1, q2, q3, q4⟩ := lget R3.out (HU.out.trans (HB3.out.mono HU.out.size)) hlt
              have hkS : k < ts.length := by rw [HL3.out]; exact hlt
              have HT : Hid (P3 ++ (ts.take (k + 1)).map Ro.eTab = P3 ++ (ts.take k).map Ro.eTab ++ [Ro.eTab ⟨x1, x2, x3, x4, x5⟩]) := (by rw [gtake Lv.zero hkS, hx.out, List.map_append, List.append_assoc]; rfl : _ = _)
              have i0 : (0 : Int) ≤ (k : Int) := by omega
              have i5 : (k : Int) < (n3 : Int) := by omega
              generalize hPP : P3 ++ (ts.take k).map Ro.eTab = PP at *
              have hb1 := HB3.out.alloc HB3.out.size (.cells #[.int .i64 x1, .int .i64 x2, .int .i64 x3, .string x4, .string x5] 44)
              have hown1 := ow3.alloc (.cells #[.int .i64 x1, .int .i64 x2, .int .i64 x3, .string x4, .string x5] 44)
              have hmem : ts.getD k Lv.zero ∈ ts := by simp [hkS]
              rw [hx.out] at hmem
              obtain ⟨hx4, hx5⟩ := HTX.out _ hmem
              dsimp only at hx4 hx5
              have hot := fun W => rowntab_any x1 x2 x3 x4 x5 (by omega) (by omega) W
              clear hPP hx hkS hmem hx4 hx5
              go_wp2_with (first
                | (go_at_call 38; go_must (refine (hot _).mono ?_; rintro e w4 ⟨rfl, hb4⟩; have hown2 := (own_keptB hown1 hb4).alloc (oed 4 0 0 0 0 0 0 x1 x2 x3 x4 x5); have hb3 := hb1.trans (hb4.mono hb1.size); have hb2 := hb3.alloc hb3.size (oed 4 0 0 0 0 0 0 x1 x2 x3 x4 x5); have hlit := lit_edit w4 4 0 0 0 0 0 0 x1 x2 x3 x4 x5 (o := w4.heap.size) rfl))
                | (at_builtin; go_must (refine append_tg edE eeE (w0 := U) (B := U.heap.size) rfl (.tmp 51) (.tmp 55) rfl _ n PP rfl hown2 (some ⟨w4.heap.size, 0, none⟩) 1 1 [Ro.eTab ⟨x1, x2, x3, x4, x5⟩] rfl hlit (fun h => by cases h) (by omega) hb2 hb2.size ?_; intro a6 c6 w6 hg6 _ _ _ hown6 hb6 _)))
              go_roundw
              case rel => exact ⟨k + 1, a6, n + 1, c6, by omega, by go_num, rfl, by rw [HT.out]; exact hown6, hb6⟩
              case measure => simp [intOf]; omega
            · obtain rfl : k = n3 := by omega
              rw [List.take_of_length_le (by rw [HL3.out]; exact Nat.le_refl _)] at ow3
              obtain ⟨P4, hPe⟩ : ∃ P, P = P3 ++ ts.map Ro.eTab := ⟨_, rfl⟩
              rw [← hPe] at ow3
              have HPE3 : Hid (P4 = P3 ++ ts.map Ro.eTab) := hPe
              have HP4b : Hid (P4.length ≤ 3000 + 1000 * 1) := (by
                have h1 := ow3.1
                rw [tcells_length eeE] at h1
                omega : _ ≤ _)
              clear hPe
              by_cases hmk : 0 < i7
              · have hd : decide (0 < i7) = true := by simpa using hmk
                have hlit := lit_edit wr 9 0 i7 0 0 0 0 0 0 0 ⟨#[]⟩ ⟨#[]⟩ (o := wr.heap.size) rfl
                have hb2 := HB3.out.alloc HB3.out.size (oed 9 0 i7 0 0 0 0 0 0 0 ⟨#[]⟩ ⟨#[]⟩)
                have hown2 := ow3.alloc (oed 9 0 i7 0 0 0 0 0 0 0 ⟨#[]⟩ ⟨#[]⟩)
                go_wp2_with (at_builtin; go_must (refine append_tg edE eeE (w0 := U) (B := U.heap.size) rfl (.tmp 61) (.tmp 65) rfl _ n P4 rfl hown2 (some ⟨wr.heap.size, 0, none⟩) 1 1 [Ro.eMark i7] rfl hlit (fun h => by cases h) (by omega) hb2 hb2.size ?_; intro a6 c6 w6 hg6 _ _ _ hown6 hb6 _; clear j0 j1 j2 j3 j4 j5 j6 j7 j8 j9 j10; have ca := HV.out w6 hb6; have j0 := ca 0; have j1 := ca 1; have j2 := ca 2; have j3 := ca 3; have j4 := ca 4; have j5 := ca 5; have j6 := ca 6; have j7 := ca 7; have j8 := ca 8; have j9 := ca 9; have j10 := ca 10; clear ca))
                obtain ⟨P5, hPe⟩ : ∃ P, P = P4 ++ [Ro.eMark i7] := ⟨_, rfl⟩
                rw [← hPe] at hown6
                have HPEm : Hid (P5 = P4 ++ (if 0 < i7 then [Ro.eMark i7] else [])) := (by rw [hPe, if_pos hmk] : _ = _)
                have HP5b : Hid (P5.length ≤ 4001) := (by have := HP4b.out; rw [hPe]; simp; omega : _ ≤ _)
                have HB4m : Hid (Below U.heap.size U w6) := hb6
                clear hPe hmk hd hlit hb2 hown2 ow3
                go_loopw [3, 11, 70] (fun v _ iv wr => ∃ (k : Nat) (a : Option Addr) (n c : Nat), k ≤ n4 ∧ iv = .int .i64 k ∧ v = .slice a n c ∧ wr.ownsRow U.heap.size 46 12 (.slice a n c) n (tcells ee (P5 ++ (ks.take k).map Ro.eStill)) ∧ Hid (Below U.heap.size U wr)) (fun _ _ iv _ => n4 - (intOf iv).toNat)
                case atStart => exact ⟨0, _, _, _, by omega, rfl, rfl, by simpa using hown6, HB4m⟩
                case round =>
                  obtain ⟨k, a, n, c, hk, rfl, rfl, ow4, HB4⟩ := hrel
                  clear hown6 j0 j1 j2 j3 j4 j5 j6 j7 j8 j9 j10
                  have ca := HV.out wr HB4.out
                  have j0 := ca 0
                  have j1 := ca 1
                  have j2 := ca 2
                  have j3 := ca 3
                  have j4 := ca 4
                  have j5 := ca 5
                  have j6 := ca 6
                  have j7 := ca 7
                  have j8 := ca 8
                  have j9 := ca 9
                  have j10 := ca 10
                  clear ca
                  have hnn : n ≤ 4001 + 1000 * 1 := by
                    have h1 := ow4.1
                    rw [tcells_length eeE, List.length_append, List.length_map, List.length_take] at h1
                    have h2 := HP5b.out
                    omega
                  by_cases hlt : k < n4
                  · obtain ⟨b, off, x, y, z, rfl, hx, q0, q1, q2⟩ := kget R4.out (HU.out.trans (HB4.out.mono HU.out.size)) hlt
                    have hkS : k < ks.length := by rw [HL4.out]; exact hlt
                    have HT : Hid (P5 ++ (ks.take (k + 1)).map Ro.eStill = P5 ++ (ks.take k).map Ro.eStill ++ [Ro.eStill (x, y, z)]) := (by rw [gtake (0, 0, 0) hkS, hx.out, List.map_append, List.append_assoc]; rfl : _ = _)
                    have i0 : (0 : Int) ≤ (k : Int) := by omega
                    have i5 : (k : Int) < (n4 : Int) := by omega
                    generalize hPP : P5 ++ (ks.take k).map Ro.eStill = PP at *
                    have hb1 := HB4.out.alloc HB4.out.size (.cells #[.int .i64 x, .int .i64 y, .int .i64 z] 67)
                    have hown1 := ow4.alloc (.cells #[.int .i64 x, .int .i64 y, .int .i64 z] 67)
                    have hb2 := hb1.alloc hb1.size (oed 6 x y z 0 0 0 0 0 0 ⟨#[]⟩ ⟨#[]⟩)
                    have hown2 := hown1.alloc (oed 6 x y z 0 0 0 0 0 0 ⟨#[]⟩ ⟨#[]⟩)
                    have hlit := lit_edit (wr.alloc (.cells #[.int .i64 x, .int .i64 y, .int .i64 z] 67)) 6 x y z 0 0 0 0 0 0 ⟨#[]⟩ ⟨#[]⟩ (o := wr.heap.size + 1) (by simp)
                    clear hPP hx hkS
                    go_wp2_with (at_builtin; go_must (refine append_tg edE eeE (w0 := U) (B := U.heap.size) rfl (.tmp 74) (.tmp 82) rfl _ n PP rfl hown2 (some ⟨wr.heap.size + 1, 0, none⟩) 1 1 [Ro.eStill (x, y, z)] rfl hlit (fun h => by cases h) (by omega) hb2 hb2.size ?_; intro a6 c6 w6 hg6 _ _ _ hown6 hb6 _))
                    go_roundw
                    case rel => exact ⟨k + 1, a6, n + 1, c6, by omega, by go_num, rfl, by rw [HT.out]; exact hown6, hb6⟩
                    case measure => simp [intOf]; omega
                  · obtain rfl : k = n4 := by omega
                    rw [List.take_of_length_le (by rw [HL4.out]; exact Nat.le_refl _)] at ow4
                    obtain ⟨P6, hPe⟩ : ∃ P, P = P5 ++ ks.map Ro.eStill := ⟨_, rfl⟩
                    rw [← hPe] at ow4
                    have HPE4 : Hid (P6 = P5 ++ ks.map Ro.eStill) := hPe
                    have HP6b : Hid (P6.length ≤ 4001 + 1000 * 1) := (by
                      have h1 := ow4.1
                      rw [tcells_length eeE] at h1
                      omega : _ ≤ _)
                    clear hPe
                    by_cases h1 : 1 < i1
                    · have c1 : decide (1 < i1) = true := by simpa using h1
                      have hbd : Ro.based ⟨s, ms, ts, ks, i1, i2, i3, i4, i5, i6, i7⟩ = true := by simp [Ro.based, h1]
                      have hlit := lit_edit wr 8 i1 i2 i3 i4 i5 i6 0 0 0 ⟨#[]⟩ ⟨#[]⟩ (o := wr.heap.size) rfl
                      have hb2 := HB4.out.alloc HB4.out.size (oed 8 i1 i2 i3 i4 i5 i6 0 0 0 ⟨#[]⟩ ⟨#[]⟩)
                      have hown2 := ow4.alloc (oed 8 i1 i2 i3 i4 i5 i6 0 0 0 ⟨#[]⟩ ⟨#[]⟩)
                      go_wp2_with (at_builtin; go_must (refine append_tg edE eeE (w0 := U) (B := U.heap.size) rfl (.tmp 99) (.tmp 109) rfl _ n P6 rfl hown2 (some ⟨wr.heap.size, 0, none⟩) 1 1 [Ro.eBase ⟨s, ms, ts, ks, i1, i2, i3, i4, i5, i6, i7⟩] rfl hlit (fun h => by cases h) (by omega) hb2 hb2.size ?_; intro a6 c6 w6 hg6 _ _ _ hown6 hb6 _))
                      go_ret
                      have hmm : P6 ++ [Ro.eBase ⟨s, ms, ts, ks, i1, i2, i3, i4, i5, i6, i7⟩] = Ro.makes ⟨s, ms, ts, ks, i1, i2, i3, i4, i5, i6, i7⟩ := rmakes_eq HPE1.out HPE2.out HPE3.out HPEm.out HPE4.out HSE.out (by rw [if_pos hbd])
                      rw [hmm] at hown6
                      exact eres_of hown6 hb6 HU.out
                    · have c1 : decide (1 < i1) = false := by simpa using h1
                      by_cases h2 : 0 < i2
                      · have c2 : decide (0 < i2) = true := by simpa using h2
                        have hbd : Ro.based ⟨s, ms, ts, ks, i1, i2, i3, i4, i5, i6, i7⟩ = true := by simp [Ro.based, h2]
                        have hlit := lit_edit wr 8 i1 i2 i3 i4 i5 i6 0 0 0 ⟨#[]⟩ ⟨#[]⟩ (o := wr.heap.size) rfl
                        have hb2 := HB4.out.alloc HB4.out.size (oed 8 i1 i2 i3 i4 i5 i6 0 0 0 ⟨#[]⟩ ⟨#[]⟩)
                        have hown2 := ow4.alloc (oed 8 i1 i2 i3 i4 i5 i6 0 0 0 ⟨#[]⟩ ⟨#[]⟩)
                        go_wp2_with (at_builtin; go_must (refine append_tg edE eeE (w0 := U) (B := U.heap.size) rfl (.tmp 99) (.tmp 109) rfl _ n P6 rfl hown2 (some ⟨wr.heap.size, 0, none⟩) 1 1 [Ro.eBase ⟨s, ms, ts, ks, i1, i2, i3, i4, i5, i6, i7⟩] rfl hlit (fun h => by cases h) (by omega) hb2 hb2.size ?_; intro a6 c6 w6 hg6 _ _ _ hown6 hb6 _))
                        go_ret
                        have hmm : P6 ++ [Ro.eBase ⟨s, ms, ts, ks, i1, i2, i3, i4, i5, i6, i7⟩] = Ro.makes ⟨s, ms, ts, ks, i1, i2, i3, i4, i5, i6, i7⟩ := rmakes_eq HPE1.out HPE2.out HPE3.out HPEm.out HPE4.out HSE.out (by rw [if_pos hbd])
                        rw [hmm] at hown6
                        exact eres_of hown6 hb6 HU.out
                      · have c2 : decide (0 < i2) = false := by simpa using h2
                        by_cases h3 : i4 = 0
                        · subst h3
                          by_cases h4 : i5 = 0
                          · subst h4
                            by_cases h5 : i6 = 0
                            · subst h5
                              have hbd : Ro.based ⟨s, ms, ts, ks, i1, i2, i3, 0, 0, 0, i7⟩ = false := by simp [Ro.based, h1, h2]
                              go_wp2
                              go_ret
                              have hmm : P6 ++ [] = Ro.makes ⟨s, ms, ts, ks, i1, i2, i3, 0, 0, 0, i7⟩ := rmakes_eq HPE1.out HPE2.out HPE3.out HPEm.out HPE4.out HSE.out (by rw [if_neg (by rw [hbd]; decide)])
                              rw [List.append_nil] at hmm
                              rw [hmm] at ow4
                              exact eres_of ow4 HB4.out HU.out
                            · have c5 : (i6 == 0) = false := by simpa using h5
                              have hbd : Ro.based ⟨s, ms, ts, ks, i1, i2, i3, 0, 0, i6, i7⟩ = true := by simp [Ro.based, h5]
                              have hlit := lit_edit wr 8 i1 i2 i3 0 0 i6 0 0 0 ⟨#[]⟩ ⟨#[]⟩ (o := wr.heap.size) rfl
                              have hb2 := HB4.out.alloc HB4.out.size (oed 8 i1 i2 i3 0 0 i6 0 0 0 ⟨#[]⟩ ⟨#[]⟩)
                              have hown2 := ow4.alloc (oed 8 i1 i2 i3 0 0 i6 0 0 0 ⟨#[]⟩ ⟨#[]⟩)
                              go_wp2_with (at_builtin; go_must (refine append_tg edE eeE (w0 := U) (B := U.heap.size) rfl (.tmp 99) (.tmp 109) rfl _ n P6 rfl hown2 (some ⟨wr.heap.size, 0, none⟩) 1 1 [Ro.eBase ⟨s, ms, ts, ks, i1, i2, i3, 0, 0, i6, i7⟩] rfl hlit (fun h => by cases h) (by omega) hb2 hb2.size ?_; intro a6 c6 w6 hg6 _ _ _ hown6 hb6 _))
                              go_ret
                              have hmm : P6 ++ [Ro.eBase ⟨s, ms, ts, ks, i1, i2, i3, 0, 0, i6, i7⟩] = Ro.makes ⟨s, ms, ts, ks, i1, i2, i3, 0, 0, i6, i7⟩ := rmakes_eq HPE1.out HPE2.out HPE3.out HPEm.out HPE4.out HSE.out (by rw [if_pos hbd])
                              rw [hmm] at hown6
                              exact eres_of hown6 hb6 HU.out
                          · have c4 : (i5 == 0) = false := by simpa using h4
                            have hbd : Ro.based ⟨s, ms, ts, ks, i1, i2, i3, 0, i5, i6, i7⟩ = true := by simp [Ro.based, h4]
                            have hlit := lit_edit wr 8 i1 i2 i3 0 i5 i6 0 0 0 ⟨#[]⟩ ⟨#[]⟩ (o := wr.heap.size) rfl
                            have hb2 := HB4.out.alloc HB4.out.size (oed 8 i1 i2 i3 0 i5 i6 0 0 0 ⟨#[]⟩ ⟨#[]⟩)
                            have hown2 := ow4.alloc (oed 8 i1 i2 i3 0 i5 i6 0 0 0 ⟨#[]⟩ ⟨#[]⟩)
                            go_wp2_with (at_builtin; go_must (refine append_tg edE eeE (w0 := U) (B := U.heap.size) rfl (.tmp 99) (.tmp 109) rfl _ n P6 rfl hown2 (some ⟨wr.heap.size, 0, none⟩) 1 1 [Ro.eBase ⟨s, ms, ts, ks, i1, i2, i3, 0, i5, i6, i7⟩] rfl hlit (fun h => by cases h) (by omega) hb2 hb2.size ?_; intro a6 c6 w6 hg6 _ _ _ hown6 hb6 _))
                            go_ret
                            have hmm : P6 ++ [Ro.eBase ⟨s, ms, ts, ks, i1, i2, i3, 0, i5, i6, i7⟩] = Ro.makes ⟨s, ms, ts, ks, i1, i2, i3, 0, i5, i6, i7⟩ := rmakes_eq HPE1.out HPE2.out HPE3.out HPEm.out HPE4.out HSE.out (by rw [if_pos hbd])
                            rw [hmm] at hown6
                            exact eres_of hown6 hb6 HU.out
                        · have c3 : (i4 == 0) = false := by simpa using h3
                          have hbd : Ro.based ⟨s, ms, ts, ks, i1, i2, i3, i4, i5, i6, i7⟩ = true := by simp [Ro.based, h3]
                          have hlit := lit_edit wr 8 i1 i2 i3 i4 i5 i6 0 0 0 ⟨#[]⟩ ⟨#[]⟩ (o := wr.heap.size) rfl
                          have hb2 := HB4.out.alloc HB4.out.size (oed 8 i1 i2 i3 i4 i5 i6 0 0 0 ⟨#[]⟩ ⟨#[]⟩)
                          have hown2 := ow4.alloc (oed 8 i1 i2 i3 i4 i5 i6 0 0 0 ⟨#[]⟩ ⟨#[]⟩)
                          go_wp2_with (at_builtin; go_must (refine append_tg edE eeE (w0 := U) (B := U.heap.size) rfl (.tmp 99) (.tmp 109) rfl _ n P6 rfl hown2 (some ⟨wr.heap.size, 0, none⟩) 1 1 [Ro.eBase ⟨s, ms, ts, ks, i1, i2, i3, i4, i5, i6, i7⟩] rfl hlit (fun h => by cases h) (by omega) hb2 hb2.size ?_; intro a6 c6 w6 hg6 _ _ _ hown6 hb6 _))
                          go_ret
                          have hmm : P6 ++ [Ro.eBase ⟨s, ms, ts, ks, i1, i2, i3, i4, i5, i6, i7⟩] = Ro.makes ⟨s, ms, ts, ks, i1, i2, i3, i4, i5, i6, i7⟩ := rmakes_eq HPE1.out HPE2.out HPE3.out HPEm.out HPE4.out HSE.out (by rw [if_pos hbd])
                          rw [hmm] at hown6
                          exact eres_of hown6 hb6 HU.out
              · have hd : decide (0 < i7) = false := by simpa using hmk
                have HPEm : Hid (P4 = P4 ++ (if 0 < i7 then [Ro.eMark i7] else [])) := (by rw [if_neg hmk, List.append_nil] : _ = _)
                obtain ⟨P5, hPe⟩ : ∃ P, P = P4 := ⟨_, rfl⟩
                rw [← hPe] at ow3
                have HPEm : Hid (P5 = P4 ++ (if 0 < i7 then [Ro.eMark i7] else [])) := (by rw [hPe]; exact HPEm.out : _ = _)
                have HP5b : Hid (P5.length ≤ 4001) := (by have := HP4b.out; rw [hPe]; omega : _ ≤ _)
                clear hPe hmk
                go_wp2
                go_loopw [3, 11, 70] (fun v _ iv wr => ∃ (k : Nat) (a : Option Addr) (n c : Nat), k ≤ n4 ∧ iv = .int .i64 k ∧ v = .slice a n c ∧ wr.ownsRow U.heap.size 46 12 (.slice a n c) n (tcells ee (P5 ++ (ks.take k).map Ro.eStill)) ∧ Hid (Below U.heap.size U wr)) (fun _ _ iv _ => n4 - (intOf iv).toNat)
                case atStart => exact ⟨0, _, _, _, by omega, rfl, rfl, by simpa using ow3, HB3⟩
                case round =>
                  obtain ⟨k, a, n, c, hk, rfl, rfl, ow4, HB4⟩ := hrel
                  clear ow3 j0 j1 j2 j3 j4 j5 j6 j7 j8 j9 j10
                  have ca := HV.out wr HB4.out
                  have j0 := ca 0
                  have j1 := ca 1
                  have j2 := ca 2
                  have j3 := ca 3
                  have j4 := ca 4
                  have j5 := ca 5
                  have j6 := ca 6
                  have j7 := ca 7
                  have j8 := ca 8
                  have j9 := ca 9
                  have j10 := ca 10
                  clear ca
                  have hnn : n ≤ 4001 + 1000 * 1 := by
                    have h1 := ow4.1
                    rw [tcells_length eeE, List.length_append, List.length_map, List.length_take] at h1
                    have h2 := HP5b.out
                    omega
                  by_cases hlt : k < n4
                  · obtain ⟨b, off, x, y, z, rfl, hx, q0, q1, q2⟩ := kget R4.out (HU.out.trans (HB4.out.mono HU.out.size)) hlt
                    have hkS : k < ks.length := by rw [HL4.out]; exact hlt
                    have HT : Hid (P5 ++ (ks.take (k + 1)).map Ro.eStill = P5 ++ (ks.take k).map Ro.eStill ++ [Ro.eStill (x, y, z)]) := (by rw [gtake (0, 0, 0) hkS, hx.out, List.map_append, List.append_assoc]; rfl : _ = _)
                    have i0 : (0 : Int) ≤ (k : Int) := by omega
                    have i5 : (k : Int) < (n4 : Int) := by omega
                    generalize hPP : P5 ++ (ks.take k).map Ro.eStill = PP at *
                    have hb1 := HB4.out.alloc HB4.out.size (.cells #[.int .i64 x, .int .i64 y, .int .i64 z] 67)
                    have hown1 := ow4.alloc (.cells #[.int .i64 x, .int .i64 y, .int .i64 z] 67)
                    have hb2 := hb1.alloc hb1.size (oed 6 x y z 0 0 0 0 0 0 ⟨#[]⟩ ⟨#[]⟩)
                    have hown2 := hown1.alloc (oed 6 x y z 0 0 0 0 0 0 ⟨#[]⟩ ⟨#[]⟩)
                    have hlit := lit_edit (wr.alloc (.cells #[.int .i64 x, .int .i64 y, .int .i64 z] 67)) 6 x y z 0 0 0 0 0 0 ⟨#[]⟩ ⟨#[]⟩ (o := wr.heap.size + 1) (by simp)
                    clear hPP hx hkS
                    go_wp2_with (at_builtin; go_must (refine append_tg edE eeE (w0 := U) (B := U.heap.size) rfl (.tmp 74) (.tmp 82) rfl _ n PP rfl hown2 (some ⟨wr.heap.size + 1, 0, none⟩) 1 1 [Ro.eStill (x, y, z)] rfl hlit (fun h => by cases h) (by omega) hb2 hb2.size ?_; intro a6 c6 w6 hg6 _ _ _ hown6 hb6 _))
                    go_roundw
                    case rel => exact ⟨k + 1, a6, n + 1, c6, by omega, by go_num, rfl, by rw [HT.out]; exact hown6, hb6⟩
                    case measure => simp [intOf]; omega
                  · obtain rfl : k = n4 := by omega
                    rw [List.take_of_length_le (by rw [HL4.out]; exact Nat.le_refl _)] at ow4
                    obtain ⟨P6, hPe⟩ : ∃ P, P = P5 ++ ks.map Ro.eStill := ⟨_, rfl⟩
                    rw [← hPe] at ow4
                    have HPE4 : Hid (P6 = P5 ++ ks.map Ro.eStill) := hPe
                    have HP6b : Hid (P6.length ≤ 4001 + 1000 * 1) := (by
                      have h1 := ow4.1
                      rw [tcells_length eeE] at h1
                      omega : _ ≤ _)
                    clear hPe
                    by_cases h1 : 1 < i1
                    · have c1 : decide (1 < i1) = true := by simpa using h1
                      have hbd : Ro.based ⟨s, ms, ts, ks, i1, i2, i3, i4, i5, i6, i7⟩ = true := by simp [Ro.based, h1]
                      have hlit := lit_edit wr 8 i1 i2 i3 i4 i5 i6 0 0 0 ⟨#[]⟩ ⟨#[]⟩ (o := wr.heap.size) rfl
                      have hb2 := HB4.out.alloc HB4.out.size (oed 8 i1 i2 i3 i4 i5 i6 0 0 0 ⟨#[]⟩ ⟨#[]⟩)
                      have hown2 := ow4.alloc (oed 8 i1 i2 i3 i4 i5 i6 0 0 0 ⟨#[]⟩ ⟨#[]⟩)
                      go_wp2_with (at_builtin; go_must (refine append_tg edE eeE (w0 := U) (B := U.heap.size) rfl (.tmp 99) (.tmp 109) rfl _ n P6 rfl hown2 (some ⟨wr.heap.size, 0, none⟩) 1 1 [Ro.eBase ⟨s, ms, ts, ks, i1, i2, i3, i4, i5, i6, i7⟩] rfl hlit (fun h => by cases h) (by omega) hb2 hb2.size ?_; intro a6 c6 w6 hg6 _ _ _ hown6 hb6 _))
                      go_ret
                      have hmm : P6 ++ [Ro.eBase ⟨s, ms, ts, ks, i1, i2, i3, i4, i5, i6, i7⟩] = Ro.makes ⟨s, ms, ts, ks, i1, i2, i3, i4, i5, i6, i7⟩ := rmakes_eq HPE1.out HPE2.out HPE3.out HPEm.out HPE4.out HSE.out (by rw [if_pos hbd])
                      rw [hmm] at hown6
                      exact eres_of hown6 hb6 HU.out
                    · have c1 : decide (1 < i1) = false := by simpa using h1
                      by_cases h2 : 0 < i2
                      · have c2 : decide (0 < i2) = true := by simpa using h2
                        have hbd : Ro.based ⟨s, ms, ts, ks, i1, i2, i3, i4, i5, i6, i7⟩ = true := by simp [Ro.based, h2]
                        have hlit := lit_edit wr 8 i1 i2 i3 i4 i5 i6 0 0 0 ⟨#[]⟩ ⟨#[]⟩ (o := wr.heap.size) rfl
                        have hb2 := HB4.out.alloc HB4.out.size (oed 8 i1 i2 i3 i4 i5 i6 0 0 0 ⟨#[]⟩ ⟨#[]⟩)
                        have hown2 := ow4.alloc (oed 8 i1 i2 i3 i4 i5 i6 0 0 0 ⟨#[]⟩ ⟨#[]⟩)
                        go_wp2_with (at_builtin; go_must (refine append_tg edE eeE (w0 := U) (B := U.heap.size) rfl (.tmp 99) (.tmp 109) rfl _ n P6 rfl hown2 (some ⟨wr.heap.size, 0, none⟩) 1 1 [Ro.eBase ⟨s, ms, ts, ks, i1, i2, i3, i4, i5, i6, i7⟩] rfl hlit (fun h => by cases h) (by omega) hb2 hb2.size ?_; intro a6 c6 w6 hg6 _ _ _ hown6 hb6 _))
                        go_ret
                        have hmm : P6 ++ [Ro.eBase ⟨s, ms, ts, ks, i1, i2, i3, i4, i5, i6, i7⟩] = Ro.makes ⟨s, ms, ts, ks, i1, i2, i3, i4, i5, i6, i7⟩ := rmakes_eq HPE1.out HPE2.out HPE3.out HPEm.out HPE4.out HSE.out (by rw [if_pos hbd])
                        rw [hmm] at hown6
                        exact eres_of hown6 hb6 HU.out
                      · have c2 : decide (0 < i2) = false := by simpa using h2
                        by_cases h3 : i4 = 0
                        · subst h3
                          by_cases h4 : i5 = 0
                          · subst h4
                            by_cases h5 : i6 = 0
                            · subst h5
                              have hbd : Ro.based ⟨s, ms, ts, ks, i1, i2, i3, 0, 0, 0, i7⟩ = false := by simp [Ro.based, h1, h2]
                              go_wp2
                              go_ret
                              have hmm : P6 ++ [] = Ro.makes ⟨s, ms, ts, ks, i1, i2, i3, 0, 0, 0, i7⟩ := rmakes_eq HPE1.out HPE2.out HPE3.out HPEm.out HPE4.out HSE.out (by rw [if_neg (by rw [hbd]; decide)])
                              rw [List.append_nil] at hmm
                              rw [hmm] at ow4
                              exact eres_of ow4 HB4.out HU.out
                            · have c5 : (i6 == 0) = false := by simpa using h5
                              have hbd : Ro.based ⟨s, ms, ts, ks, i1, i2, i3, 0, 0, i6, i7⟩ = true := by simp [Ro.based, h5]
                              have hlit := lit_edit wr 8 i1 i2 i3 0 0 i6 0 0 0 ⟨#[]⟩ ⟨#[]⟩ (o := wr.heap.size) rfl
                              have hb2 := HB4.out.alloc HB4.out.size (oed 8 i1 i2 i3 0 0 i6 0 0 0 ⟨#[]⟩ ⟨#[]⟩)
                              have hown2 := ow4.alloc (oed 8 i1 i2 i3 0 0 i6 0 0 0 ⟨#[]⟩ ⟨#[]⟩)
                              go_wp2_with (at_builtin; go_must (refine append_tg edE eeE (w0 := U) (B := U.heap.size) rfl (.tmp 99) (.tmp 109) rfl _ n P6 rfl hown2 (some ⟨wr.heap.size, 0, none⟩) 1 1 [Ro.eBase ⟨s, ms, ts, ks, i1, i2, i3, 0, 0, i6, i7⟩] rfl hlit (fun h => by cases h) (by omega) hb2 hb2.size ?_; intro a6 c6 w6 hg6 _ _ _ hown6 hb6 _))
                              go_ret
                              have hmm : P6 ++ [Ro.eBase ⟨s, ms, ts, ks, i1, i2, i3, 0, 0, i6, i7⟩] = Ro.makes ⟨s, ms, ts, ks, i1, i2, i3, 0, 0, i6, i7⟩ := rmakes_eq HPE1.out HPE2.out HPE3.out HPEm.out HPE4.out HSE.out (by rw [if_pos hbd])
                              rw [hmm] at hown6
                              exact eres_of hown6 hb6 HU.out
                          · have c4 : (i5 == 0) = false := by simpa using h4
                            have hbd : Ro.based ⟨s, ms, ts, ks, i1, i2, i3, 0, i5, i6, i7⟩ = true := by simp [Ro.based, h4]
                            have hlit := lit_edit wr 8 i1 i2 i3 0 i5 i6 0 0 0 ⟨#[]⟩ ⟨#[]⟩ (o := wr.heap.size) rfl
                            have hb2 := HB4.out.alloc HB4.out.size (oed 8 i1 i2 i3 0 i5 i6 0 0 0 ⟨#[]⟩ ⟨#[]⟩)
                            have hown2 := ow4.alloc (oed 8 i1 i2 i3 0 i5 i6 0 0 0 ⟨#[]⟩ ⟨#[]⟩)
                            go_wp2_with (at_builtin; go_must (refine append_tg edE eeE (w0 := U) (B := U.heap.size) rfl (.tmp 99) (.tmp 109) rfl _ n P6 rfl hown2 (some ⟨wr.heap.size, 0, none⟩) 1 1 [Ro.eBase ⟨s, ms, ts, ks, i1, i2, i3, 0, i5, i6, i7⟩] rfl hlit (fun h => by cases h) (by omega) hb2 hb2.size ?_; intro a6 c6 w6 hg6 _ _ _ hown6 hb6 _))
                            go_ret
                            have hmm : P6 ++ [Ro.eBase ⟨s, ms, ts, ks, i1, i2, i3, 0, i5, i6, i7⟩] = Ro.makes ⟨s, ms, ts, ks, i1, i2, i3, 0, i5, i6, i7⟩ := rmakes_eq HPE1.out HPE2.out HPE3.out HPEm.out HPE4.out HSE.out (by rw [if_pos hbd])
                            rw [hmm] at hown6
                            exact eres_of hown6 hb6 HU.out
                        · have c3 : (i4 == 0) = false := by simpa using h3
                          have hbd : Ro.based ⟨s, ms, ts, ks, i1, i2, i3, i4, i5, i6, i7⟩ = true := by simp [Ro.based, h3]
                          have hlit := lit_edit wr 8 i1 i2 i3 i4 i5 i6 0 0 0 ⟨#[]⟩ ⟨#[]⟩ (o := wr.heap.size) rfl
                          have hb2 := HB4.out.alloc HB4.out.size (oed 8 i1 i2 i3 i4 i5 i6 0 0 0 ⟨#[]⟩ ⟨#[]⟩)
                          have hown2 := ow4.alloc (oed 8 i1 i2 i3 i4 i5 i6 0 0 0 ⟨#[]⟩ ⟨#[]⟩)
                          go_wp2_with (at_builtin; go_must (refine append_tg edE eeE (w0 := U) (B := U.heap.size) rfl (.tmp 99) (.tmp 109) rfl _ n P6 rfl hown2 (some ⟨wr.heap.size, 0, none⟩) 1 1 [Ro.eBase ⟨s, ms, ts, ks, i1, i2, i3, i4, i5, i6, i7⟩] rfl hlit (fun h => by cases h) (by omega) hb2 hb2.size ?_; intro a6 c6 w6 hg6 _ _ _ hown6 hb6 _))
                          go_ret
                          have hmm : P6 ++ [Ro.eBase ⟨s, ms, ts, ks, i1, i2, i3, i4, i5, i6, i7⟩] = Ro.makes ⟨s, ms, ts, ks, i1, i2, i3, i4, i5, i6, i7⟩ := rmakes_eq HPE1.out HPE2.out HPE3.out HPEm.out HPE4.out HSE.out (by rw [if_pos hbd])
                          rw [hmm] at hown6
                          exact eres_of hown6 hb6 HU.out

theorem redits_any (s : List Int) (ms : List (Int × Int)) (ts : List Lv.T) (ks : List (Int × Int × Int)) (a1 : Option Addr) (n1 c1 : Nat) (a2 : Option Addr) (n2 c2 : Nat) (a3 : Option Addr) (n3 c3 : Nat) (a4 : Option Addr) (n4 c4 : Nat) (i1 i2 i3 i4 i5 i6 i7 : Int) (w : World) (h : RIn w a1 n1 c1 a2 n2 c2 a3 n3 c3 a4 n4 c4 ⟨s, ms, ts, ks, i1, i2, i3, i4, i5, i6, i7⟩) : Calls Tryz.prog 17 #[.agg #[.slice a1 n1 c1, .slice a2 n2 c2, .slice a3 n3 c3, .slice a4 n4 c4, .int .i64 i1, .int .i64 i2, .int .i64 i3, .int .i64 i4, .int .i64 i5, .int .i64 i6, .int .i64 i7]] w (EdRes w (Ro.edits ⟨s, ms, ts, ks, i1, i2, i3, i4, i5, i6, i7⟩)) := by
  unfold Ro.edits
  cases hc : Ro.check ⟨s, ms, ts, ks, i1, i2, i3, i4, i5, i6, i7⟩ with
  | false => exact redits_no s ms ts ks a1 n1 c1 a2 n2 c2 a3 n3 c3 a4 n4 c4 i1 i2 i3 i4 i5 i6 i7 w h hc
  | true => exact redits_yes s ms ts ks a1 n1 c1 a2 n2 c2 a3 n3 c3 a4 n4 c4 i1 i2 i3 i4 i5 i6 i7 w h hc
end Go.Proofs.YtmodogmjfbcddaaGreat
