/- What slices.Clone, slices.Grow and slices.Concat of three rows of bytes do. -/
import Derived.Test.YtgmcjalcpgldhaaU1
import Derived.Lib.AppendZeros
namespace Go.Proofs.Ytgmcjalcpgldhaa
open Go.RowKit

set_option maxRecDepth 100000 in
set_option maxHeartbeats 400000 in
theorem grow_nil (n : Nat) (w : World) (h0 : 0 < n) (hn : n ≤ 100000) :
    Calls Try.prog 37 #[.slice none 0 0, .int .i64 (n : Nat)] w fun e w' => ∃ g c, e = .returned (.slice (some ⟨g, 0, none⟩) 0 c) ∧ w'.ownsRow w.heap.size 5 1 (.slice (some ⟨g, 0, none⟩) 0 c) 0 (kcells .u8 []) ∧ Below w.heap.size w w' := by
  obtain ⟨i0, hi0, hz0, hz1, hz2⟩ := info_parts Try.info5
  have hrun := Lib.run_append_nil_zeros (P := Try.prog) w 22 3 22 5 i0 (.int .u8 0) .i64 .i64 Try.underlying22 Try.underlying3 hi0 hz0 n h0 (by rw [hz1]; decide) (by omega) (by rw [hz2]; omega)
  have hm := grownCap_le_maxLen w n 0 5 (by unfold maxLen; omega)
  have hge := grownCap_ge w n 0 5
  clear hi0 hz0 hz1 hz2
  generalize grownCap w n 0 5 = C at *
  have hsz : (Builtin.zeroCells (Value.int .u8 0).cells n ++ Builtin.zeroCells (Value.int .u8 0).cells (C - n)).size = C * 1 := by
    simp [Builtin.zeroCells, Value.cells]; omega
  generalize Builtin.zeroCells (Value.int .u8 0).cells n ++ Builtin.zeroCells (Value.int .u8 0).cells (C - n) = cs at *
  go_enter Try.func37, Try.ntmps37
  go_wp2_with (at_builtin; refine Lib.wpList_append_run _ rfl _ _ _ _ rfl _ _ rfl rfl _ _ hrun ?_)
  go_ret
  exact ⟨_, _, rfl, ⟨rfl, .inr ⟨_, _, _, rfl, Nat.le_refl _, heap_alloc_new _ _, Nat.zero_le _, hm, hsz, rfl⟩⟩, ((Below.refl _ _).drew).alloc (Nat.le_refl _) _⟩

theorem own_new {W : World} {B n c : Nat} {a : Option Addr} {xs : List Value} {e : TypeId} (h : W.ownsRow B e 1 (.slice a n c) n xs) : ∀ b off, a = some ⟨b, off, none⟩ → B ≤ b := by
  intro b off e
  subst e
  exact (h.lt b rfl).1

/-- a copy: a row of the call's own, nil if it was nil -/
def Copied (w : World) (n : Nat) (bs : List Nat) (e : Ending) (w' : World) : Prop :=
  ∃ a c, e = .returned (.slice a n c) ∧ Row .u8 w' a n bs ∧ (a = none → n = 0 ∧ c = 0) ∧ (∀ b o, a = some ⟨b, o, none⟩ → w.heap.size ≤ b) ∧ Below w.heap.size w w'

set_option maxRecDepth 100000 in
set_option maxHeartbeats 400000 in
theorem copy_any (a : Option Addr) (n c : Nat) (bs : List Nat) (w : World) (hn : n ≤ 1000000) (hr : Row .u8 w a n bs) (hnil : a = none → n = 0 ∧ c = 0) :
    Calls Try.prog 34 #[.slice a n c] w (Copied w n bs) := by
  cases a with
  | none =>
    obtain ⟨rfl, rfl⟩ := hnil rfl
    go_enter Try.func34, Try.ntmps34
    go_wp2_with fail
    rw [Lib.run_eql_slice_nil _ 22 5 none 0 0 0 0 Try.underlying22]
    go_wp2
    go_ret
    exact ⟨none, 0, rfl, hr, fun _ => ⟨rfl, rfl⟩, (fun _ _ h => by cases h), Below.refl _ _⟩
  | some p =>
    have hsm := hr.2.2.1
    have hr2 := hr.below (below_alloc w (.cells #[] 5)) (Nat.le_refl _)
    go_enter Try.func34, Try.ntmps34
    go_wp2_with fail
    rw [Lib.run_eql_slice_nil _ 22 5 (some p) n c 0 0 Try.underlying22]
    go_wp2_with (at_builtin; refine append_u8 (w0 := w) (B := w.heap.size) rfl (.tmp 5) (.tmp 6) rfl _ 0 [] rfl (made_at w 5 w.heap.size rfl (Nat.le_refl _)) (some p) n c bs rfl hr2 (fun h => by cases h) (by omega) (below_alloc _ _) (by simp) ?_; intro A C w2 hown2 hbel2 hsz2)
    rw [Nat.zero_add, List.nil_append] at hown2
    have k := row_of_owns hown2 hsm (by omega)
    go_ret
    exact ⟨A, C, rfl, k.1, k.2.1, own_new hown2, hbel2⟩

set_option maxRecDepth 100000 in
set_option maxHeartbeats 1000000 in
theorem concat3 (g : Nat) (a1 : Option Addr) (n1 c1 : Nat) (b1 : List Nat) (a2 : Option Addr) (n2 c2 : Nat) (b2 : List Nat) (a3 : Option Addr) (n3 c3 : Nat) (b3 : List Nat) (w : World)
    (h1 : w.cell? ⟨g, 0, none⟩ = some (.slice a1 n1 c1)) (h2 : w.cell? ⟨g, 1, none⟩ = some (.slice a2 n2 c2)) (h3 : w.cell? ⟨g, 2, none⟩ = some (.slice a3 n3 c3))
    (r1 : Row .u8 w a1 n1 b1) (r2 : Row .u8 w a2 n2 b2) (r3 : Row .u8 w a3 n3 b3) (z1 : a1 = none → n1 = 0 ∧ c1 = 0) (z2 : a2 = none → n2 = 0 ∧ c2 = 0) (z3 : a3 = none → n3 = 0 ∧ c3 = 0)
    (hgl : g < w.heap.size) (p1 : 0 < n1) (m1 : n1 ≤ 1000) (m2 : n2 ≤ 1000) (m3 : n3 ≤ 1000) :
    Calls Try.prog 23 #[.slice (some ⟨g, 0, none⟩) 3 3] w (Made .u8 5 w (b1 ++ b2 ++ b3)) := by
  have hl1 : Hid (b1.length = n1) := r1.1
  have hl2 : Hid (b2.length = n2) := r2.1
  have hl3 : Hid (b3.length = n3) := r3.1
  go_enter Try.func23, Try.ntmps23
  go_wp2
  go_loop [3, 11] (fun t i => ∃ k : Nat, k ≤ 3 ∧ i = .int .i64 k ∧ ((k = 0 ∧ t = .int .i64 (0 : Nat)) ∨ (k = 1 ∧ t = .int .i64 (n1 : Nat)) ∨ (k = 2 ∧ t = .int .i64 (n1 + n2 : Nat)) ∨ (k = 3 ∧ t = .int .i64 (n1 + n2 + n3 : Nat)))) (fun _ i => 3 - (intOf i).toNat)
  case atStart => exact ⟨0, by omega, rfl, .inl ⟨rfl, rfl⟩⟩
  case round =>
    obtain ⟨k, hk, rfl, ⟨rfl, rfl⟩ | ⟨rfl, rfl⟩ | ⟨rfl, rfl⟩ | ⟨rfl, rfl⟩⟩ := hrel
    · go_wp2
      go_round
      case rel => exact ⟨1, by omega, rfl, .inr (.inl ⟨rfl, val_int (by omega)⟩)⟩
      case measure => simp [intOf]
    · go_wp2
      go_round
      case rel => exact ⟨2, by omega, rfl, .inr (.inr (.inl ⟨rfl, val_int (by omega)⟩))⟩
      case measure => simp [intOf]
    · go_wp2
      go_round
      case rel => exact ⟨3, by omega, rfl, .inr (.inr (.inr ⟨rfl, val_int (by omega)⟩))⟩
      case measure => simp [intOf]
    · have hg := fun W => grow_nil (n1 + n2 + n3) W (by omega) (by omega)
      go_wp2_with (go_at_call 37; go_must (refine (hg _).mono ?_; rintro e w2 ⟨gg, gc, rfl, hown2, hbel2⟩))
      go_loopw [6, 27] (fun v i wr => ∃ (k : Nat) (a' : Option Addr) (n c : Nat), k ≤ 3 ∧ i = .int .i64 k ∧ v = .slice a' n c ∧ Below w.heap.size w wr ∧ ((k = 0 ∧ n = 0 ∧ wr.ownsRow w.heap.size 5 1 (.slice a' n c) n (kcells .u8 [])) ∨ (k = 1 ∧ n1 = n ∧ wr.ownsRow w.heap.size 5 1 (.slice a' n c) n (kcells .u8 b1)) ∨ (k = 2 ∧ n = n1 + n2 ∧ wr.ownsRow w.heap.size 5 1 (.slice a' n c) n (kcells .u8 (b1 ++ b2))) ∨ (k = 3 ∧ n = n1 + n2 + n3 ∧ wr.ownsRow w.heap.size 5 1 (.slice a' n c) n (kcells .u8 (b1 ++ b2 ++ b3))))) (fun _ i _ => 3 - (intOf i).toNat)
      case atStart => exact ⟨0, _, 0, gc, by omega, rfl, rfl, hbel2, .inl ⟨rfl, rfl, hown2⟩⟩
      case round =>
        obtain ⟨k, a', n, c, hk, rfl, rfl, hbel, hcase⟩ := hrel
        have hsz := hbel.size
        have q1 := (hbel.cell (p := ⟨g, 0, none⟩) hgl).trans h1
        have q2 := (hbel.cell (p := ⟨g, 1, none⟩) hgl).trans h2
        have q3 := (hbel.cell (p := ⟨g, 2, none⟩) hgl).trans h3
        clear hown2 hbel2 hg
        rcases hcase with ⟨rfl, rfl, hown⟩ | ⟨rfl, rfl, hown⟩ | ⟨rfl, rfl, hown⟩ | ⟨rfl, rfl, hown⟩
        · go_wp2_with (at_builtin; go_must (refine append_u8 (w0 := w) (B := w.heap.size) rfl (.tmp 31) (.tmp 32) rfl _ 0 [] rfl hown a1 n1 c1 b1 rfl (r1.below hbel (Nat.le_refl _)) z1 (by omega) hbel hsz ?_; intro a6 c6 w6 hown6 hbel6 hsz6))
          go_roundw
          case rel => exact ⟨1, a6, _, c6, by omega, rfl, rfl, hbel6, .inr (.inl ⟨rfl, by omega, by simpa using hown6⟩)⟩
          case measure => simp [intOf]
        · go_wp2_with (at_builtin; go_must (refine append_u8 (w0 := w) (B := w.heap.size) rfl (.tmp 31) (.tmp 32) rfl _ n1 b1 rfl hown a2 n2 c2 b2 rfl (r2.below hbel (Nat.le_refl _)) z2 (by omega) hbel hsz ?_; intro a6 c6 w6 hown6 hbel6 hsz6))
          go_roundw
          case rel => exact ⟨2, a6, _, c6, by omega, rfl, rfl, hbel6, .inr (.inr (.inl ⟨rfl, rfl, hown6⟩))⟩
          case measure => simp [intOf]
        · go_wp2_with (at_builtin; go_must (refine append_u8 (w0 := w) (B := w.heap.size) rfl (.tmp 31) (.tmp 32) rfl _ (n1 + n2) (b1 ++ b2) rfl hown a3 n3 c3 b3 rfl (r3.below hbel (Nat.le_refl _)) z3 (by omega) hbel hsz ?_; intro a6 c6 w6 hown6 hbel6 hsz6))
          go_roundw
          case rel => exact ⟨3, a6, _, c6, by omega, rfl, rfl, hbel6, .inr (.inr (.inr (⟨rfl, rfl, hown6⟩)))⟩
          case measure => simp [intOf]
        · go_wp2
          go_ret
          refine ⟨a', c, ?_, ?_, hbel⟩
          · rw [List.length_append, List.length_append, hl1.out, hl2.out, hl3.out]; rfl
          · rw [List.length_append, List.length_append, hl1.out, hl2.out, hl3.out]; exact hown
end Go.Proofs.Ytgmcjalcpgldhaa
