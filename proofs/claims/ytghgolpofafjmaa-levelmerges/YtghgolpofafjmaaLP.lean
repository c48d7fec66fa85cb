/- What slices.Concat of two rows of tables, and the program's jobOf, do. -/
import Derived.Test.YtghgolpofafjmaaLO
import Derived.Lib.AppendZeros
namespace Go.Proofs.Ytghgolpofafjmaa
open Go.RowKit

set_option maxRecDepth 100000 in
set_option maxHeartbeats 400000 in
theorem lgrow_nil (n : Nat) (w : World) (hn : n ≤ 100000) :
    Calls Try.prog 45 #[.slice none 0 0, .int .i64 (n : Nat)] w fun e w' => ∃ g c, e = .returned (.slice g 0 c) ∧ w'.ownsRow w.heap.size 30 5 (.slice g 0 c) 0 (tcells le []) ∧ Below w.heap.size w w' := by
  rcases Nat.eq_zero_or_pos n with rfl | h0
  · go_enter Try.func45, Try.ntmps45
    go_wp2
    go_ret
    exact ⟨none, 0, rfl, ⟨rfl, .inl ⟨rfl, rfl⟩⟩, Below.refl _ _⟩
  · obtain ⟨i0, hi0, hz0, hz1, hz2⟩ := info_parts tabE.info
    have hrun := Lib.run_append_nil_zeros (P := Try.prog) w 22 3 22 30 i0 (.agg #[.int .i64 0, .int .i64 0, .int .i64 0, .string ⟨#[]⟩, .string ⟨#[]⟩]) .i64 .i64 Try.underlying22 Try.underlying3 hi0 hz0 n h0 (by rw [hz1]; decide) (by omega) (by rw [hz2]; omega)
    have hm := grownCap_le_maxLen w n 0 30 (by unfold maxLen; omega)
    have hge := grownCap_ge w n 0 30
    clear hi0 hz0 hz1 hz2
    generalize grownCap w n 0 30 = C at *
    have hsz : (Builtin.zeroCells (Value.agg #[.int .i64 0, .int .i64 0, .int .i64 0, .string ⟨#[]⟩, .string ⟨#[]⟩]).cells n ++ Builtin.zeroCells (Value.agg #[.int .i64 0, .int .i64 0, .int .i64 0, .string ⟨#[]⟩, .string ⟨#[]⟩]).cells (C - n)).size = C * 5 := by
      simp [Builtin.zeroCells, Value.cells]; omega
    generalize Builtin.zeroCells (Value.agg #[.int .i64 0, .int .i64 0, .int .i64 0, .string ⟨#[]⟩, .string ⟨#[]⟩]).cells n ++ Builtin.zeroCells (Value.agg #[.int .i64 0, .int .i64 0, .int .i64 0, .string ⟨#[]⟩, .string ⟨#[]⟩]).cells (C - n) = cs at *
    go_enter Try.func45, Try.ntmps45
    go_wp2_with (at_builtin; refine Lib.wpList_append_run _ rfl _ _ _ _ rfl _ _ rfl rfl _ _ hrun ?_)
    go_ret
    exact ⟨_, _, rfl, ⟨rfl, .inr ⟨_, _, _, rfl, Nat.le_refl _, heap_alloc_new _ _, Nat.zero_le _, hm, hsz, rfl⟩⟩, ((Below.refl _ _).drew).alloc (Nat.le_refl _) _⟩

set_option maxRecDepth 100000 in
set_option maxHeartbeats 1000000 in
theorem lconcat2 (g : Nat) (a1 : Option Addr) (n1 c1 : Nat) (b1 : List Lv.T) (a2 : Option Addr) (n2 c2 : Nat) (b2 : List Lv.T) (w : World)
    (h1 : w.cell? ⟨g, 0, none⟩ = some (.slice a1 n1 c1)) (h2 : w.cell? ⟨g, 1, none⟩ = some (.slice a2 n2 c2))
    (r1 : LRow w a1 n1 b1) (r2 : LRow w a2 n2 b2) (z1 : a1 = none → n1 = 0 ∧ c1 = 0) (z2 : a2 = none → n2 = 0 ∧ c2 = 0)
    (hgl : g < w.heap.size) (m1 : n1 ≤ 1000) (m2 : n2 ≤ 1000) :
    Calls Try.prog 39 #[.slice (some ⟨g, 0, none⟩) 2 2] w (LRes w (b1 ++ b2)) := by
  have hl1 : Hid (b1.length = n1) := r1.1
  have hl2 : Hid (b2.length = n2) := r2.1
  go_enter Try.func39, Try.ntmps39
  go_wp2
  go_loop [3, 11] (fun t i => ∃ k : Nat, k ≤ 2 ∧ i = .int .i64 k ∧ ((k = 0 ∧ t = .int .i64 (0 : Nat)) ∨ (k = 1 ∧ t = .int .i64 (n1 : Nat)) ∨ (k = 2 ∧ t = .int .i64 (n1 + n2 : Nat)))) (fun _ i => 2 - (intOf i).toNat)
  case atStart => exact ⟨0, by omega, rfl, .inl ⟨rfl, rfl⟩⟩
  case round =>
    obtain ⟨k, hk, rfl, ⟨rfl, rfl⟩ | ⟨rfl, rfl⟩ | ⟨rfl, rfl⟩⟩ := hrel
    · go_wp2
      go_round
      case rel => exact ⟨1, by omega, rfl, .inr (.inl ⟨rfl, val_int (by omega)⟩)⟩
      case measure => simp [intOf]
    · go_wp2
      go_round
      case rel => exact ⟨2, by omega, rfl, .inr (.inr ⟨rfl, val_int (by omega)⟩)⟩
      case measure => simp [intOf]
    · have hg := fun W => lgrow_nil (n1 + n2) W (by omega)
      go_wp2_with (go_at_call 45; go_must (refine (hg _).mono ?_; rintro e w2 ⟨gg, gc, rfl, hown2, hbel2⟩))
      go_loopw [6, 27] (fun v i wr => ∃ (k : Nat) (a' : Option Addr) (n c : Nat), k ≤ 2 ∧ i = .int .i64 k ∧ v = .slice a' n c ∧ Below w.heap.size w wr ∧ ((k = 0 ∧ n = 0 ∧ wr.ownsRow w.heap.size 30 5 (.slice a' n c) n (tcells le [])) ∨ (k = 1 ∧ n1 = n ∧ wr.ownsRow w.heap.size 30 5 (.slice a' n c) n (tcells le b1)) ∨ (k = 2 ∧ n = n1 + n2 ∧ wr.ownsRow w.heap.size 30 5 (.slice a' n c) n (tcells le (b1 ++ b2))))) (fun _ i _ => 2 - (intOf i).toNat)
      case atStart => exact ⟨0, _, 0, gc, by omega, rfl, rfl, hbel2, .inl ⟨rfl, rfl, hown2⟩⟩
      case round =>
        obtain ⟨k, a', n, c, hk, rfl, rfl, hbel, hcase⟩ := hrel
        have hsz := hbel.size
        have q1 := (hbel.cell (p := ⟨g, 0, none⟩) hgl).trans h1
        have q2 := (hbel.cell (p := ⟨g, 1, none⟩) hgl).trans h2
        clear hown2 hbel2 hg
        rcases hcase with ⟨rfl, rfl, hown⟩ | ⟨rfl, rfl, hown⟩ | ⟨rfl, rfl, hown⟩
        · go_wp2_with (at_builtin; go_must (refine append_t tabE leE (w0 := w) (B := w.heap.size) rfl (.tmp 31) (.tmp 32) rfl _ 0 [] rfl hown a1 n1 c1 b1 rfl (r1.below hbel (Nat.le_refl _)) z1 (by omega) hbel hsz ?_; intro a6 c6 w6 _ _ _ hown6 hbel6 hsz6))
          go_roundw
          case rel => exact ⟨1, a6, _, c6, by omega, rfl, rfl, hbel6, .inr (.inl ⟨rfl, by omega, by simpa using hown6⟩)⟩
          case measure => simp [intOf]
        · go_wp2_with (at_builtin; go_must (refine append_t tabE leE (w0 := w) (B := w.heap.size) rfl (.tmp 31) (.tmp 32) rfl _ n1 b1 rfl hown a2 n2 c2 b2 rfl (r2.below hbel (Nat.le_refl _)) z2 (by omega) hbel hsz ?_; intro a6 c6 w6 _ _ _ hown6 hbel6 hsz6))
          go_roundw
          case rel => exact ⟨2, a6, _, c6, by omega, rfl, rfl, hbel6, .inr (.inr (⟨rfl, rfl, hown6⟩))⟩
          case measure => simp [intOf]
        · go_wp2
          go_ret
          refine ⟨a', c, ?_, ?_, hbel⟩
          · rw [List.length_append, hl1.out, hl2.out]; rfl
          · rw [List.length_append, hl1.out, hl2.out]; exact hown

end Go.Proofs.Ytghgolpofafjmaa
