/- What the program's Put and the reference's Put do. -/
import Derived.Test.YtgmcjalcpgldhaaW4
namespace Go.Proofs.Ytgmcjalcpgldhaa
open Go.RowKit

theorem put_take (l : List Nat) (k : Nat) (h : k < l.length) : Va.put (l.take (k + 1)) = Va.put (l.take k) ++ Va.one (l.getD k 0) := by
  rw [Va.take_snoc l k h, Va.put_snoc]
theorem put_take_len (l : List Nat) (hs : ∀ u ∈ l, u < lim .u64) (k : Nat) (hk : k ≤ 1000) : (Va.put (l.take k)).length ≤ 10000 := by
  have h1 := Va.put_len (l.take k) (fun u hu => hs u (List.mem_of_mem_take hu))
  have h2 : (l.take k).length ≤ k := by rw [List.length_take]; omega
  omega
theorem or128 : ∀ x : Fin 256, x.val ||| 128 = x.val % 128 + 128 := by decide +kernel
theorem or128_walk (u : Nat) : bits .or .u8 ((u : Int) % 256) 128 = ((u % 128 + 128 : Nat) : Int) := by
  have h1 : (u : Int) % 256 = ((u % 256 : Nat) : Int) := by omega
  have h2 := u8_or_nat (u % 256) 128 (by omega) (by omega)
  have h3 := or128 ⟨u % 256, by omega⟩
  simp only at h3
  rw [h1]
  have h4 : ((128 : Nat) : Int) = 128 := rfl
  rw [h4] at h2
  rw [h2, h3]; omega

set_option maxRecDepth 100000 in
set_option maxHeartbeats 1000000 in
theorem put_any (a : Option Addr) (len cap : Nat) (l : List Nat) (w : World) (hlen : len ≤ 1000) (hr : Row .u64 w a len l) :
    Calls Try.prog 24 #[.slice a len cap] w (Made .u8 5 w (Va.put l)) := by
  have hll : Hid (l.length = len) := hr.1
  go_enter Try.func24, Try.ntmps24
  go_wp2
  go_loop [3, 11] (fun t i => ∃ k : Nat, k ≤ len ∧ i = .int .i64 k ∧ t = .int .i64 ((Va.put (l.take k)).length : Nat)) (fun _ i => len - (intOf i).toNat)
  case atStart => exact ⟨0, by omega, rfl, rfl⟩
  case round =>
    obtain ⟨k, hk, rfl, rfl⟩ := hrel
    have hb := put_take_len l hr.2.2.1 k (by omega)
    by_cases hlt : k < len
    · obtain ⟨b, off, rfl, hc⟩ := hr.at (by omega)
      have hcell := hc k hlt
      have hx := getD_lt64 hr.2.2.1 k
      have H : Hid ((Va.put (l.take (k + 1))).length = (Va.put (l.take k)).length + Va.size (l.getD k 0)) := (by
        rw [put_take l k (by rw [hll.out]; exact hlt), List.length_append, Va.size_one _ hx] : (Va.put (l.take (k + 1))).length = (Va.put (l.take k)).length + Va.size (l.getD k 0))
      have hs10 : Va.size (l.getD k 0) ≤ 10 := by rw [Va.size_one _ hx]; exact Va.one_len10 hx
      clear hc hr
      generalize l.getD k 0 = x at *
      generalize (Va.put (l.take k)).length = n at *
      go_wp2_with (go_at_call 38; refine (size_any _ _ (by omega)).mono ?_; rintro e w' ⟨rfl, rfl⟩)
      go_round
      case rel => exact ⟨k + 1, by omega, by go_num, val_int (by rw [H.out]; omega)⟩
      case measure => simp [intOf]; omega
    · have hkl : Hid (l.take k = l) := (List.take_of_length_le (by rw [hll.out]; omega) : l.take k = l)
      rw [hkl.out] at hb ⊢
      generalize (Va.put l).length = N at *
      obtain ⟨i0, hi0, hz0, hz1, hz2⟩ := info_parts Try.info5
      clear hkl
      go_wp2_with (at_make; refine wpList_make_own _ rfl _ _ 22 rfl w.heap.size 5 i0 (.int .u8 0) 1 Try.underlying22 hi0 hz0 hz1 .i64 .i64 _ N rfl rfl rfl (by rw [hz2]; omega) (by unfold maxLen; omega) (Nat.le_refl _) ?_; intro w2 hmade hg)
      have hbel0 : Below w.heap.size w w2 := (Below.refl _ _).grown hg (Nat.le_refl _) (fun k h => by cases h)
      clear hg hi0 hz0 hz1 hz2 hk hlt
      go_loopw [6, 24] (fun v i wr => ∃ (k : Nat) (a' : Option Addr) (n c : Nat), k ≤ len ∧ i = .int .i64 k ∧ v = .slice a' n c ∧ Hid (n = (Va.put (l.take k)).length) ∧ wr.ownsRow w.heap.size 5 1 (.slice a' n c) n (kcells .u8 (Va.put (l.take k))) ∧ Below w.heap.size w wr)
        (fun _ i _ => len - (intOf i).toNat)
      case atStart => exact ⟨0, _, 0, N, by omega, rfl, rfl, (rfl : 0 = (Va.put (l.take 0)).length), hmade, hbel0⟩
      case round =>
        obtain ⟨k, a', n, c, hk, rfl, rfl, hn, hown, hbel⟩ := hrel
        clear hmade hbel0
        by_cases hlt : k < len
        · have hr' := hr.below hbel (Nat.le_refl _)
          obtain ⟨b, off, rfl, hc⟩ := hr'.at (by omega)
          have hcell := hc k hlt
          have hx := getD_lt64 hr.2.2.1 k
          have H : Hid (Va.put (l.take (k + 1)) = Va.put (l.take k) ++ Va.one (l.getD k 0)) := put_take l k (by rw [hll.out]; exact hlt)
          have hb1 : Hid ((Va.put (l.take (k + 1))).length ≤ 10000) := put_take_len l hr.2.2.1 (k + 1) (by omega)
          clear hc hr'
          generalize l.getD k 0 = x at *
          go_wp2
          go_loopw [6, 8] (fun v t wr => ∃ (a' : Option Addr) (n c u : Nat) (d : List Nat), v = .slice a' n c ∧ t = .int .u64 u ∧ u < 18446744073709551616 ∧ wr.ownsRow w.heap.size 5 1 (.slice a' n c) n (kcells .u8 d) ∧ Below w.heap.size w wr ∧ Hid (n = d.length) ∧ Hid (Va.put (l.take (k + 1)) = d ++ Va.one u))
            (fun _ t _ => (intOf t).toNat)
          case atStart => exact ⟨a', n, c, x, Va.put (l.take k), rfl, rfl, hx, hown, hbel, hn, H⟩
          case round =>
            obtain ⟨a2, n2, c2, u, d, rfl, rfl, hu, hown2, hbel2, hn2, H2⟩ := hrel
            have hd : n2 ≤ 10000 := by have := hb1.out; rw [H2.out, List.length_append, ← hn2.out] at this; omega
            have hsz := hbel2.size
            clear hown hbel H hcell
            by_cases h128 : u < 128
            · have H3 : Hid (Va.put (l.take (k + 1)) = d ++ [u]) := (by rw [H2.out, Va.one_lo h128] : Va.put (l.take (k + 1)) = d ++ [u])
              clear H2
              go_wp2_with (at_builtin; refine append_u8 (w0 := w) rfl (.tmp 38) (.tmp 41) rfl _ n2 d rfl (hown2.alloc _) _ 1 1 [u] rfl (row_new .u8 _ 5 u (by show u < 256; omega)) (fun h => by cases h) (by omega) (hbel2.alloc hsz _) (by simp; omega) ?_; intro a3 c3 w3 hown3 hbel3 hsz3)
              go_roundw
              case rel => exact ⟨k + 1, a3, n2 + 1, c3, by omega, by go_num, rfl, (by rw [H3.out, List.length_append, ← hn2.out]; rfl : n2 + 1 = (Va.put (l.take (k + 1))).length), by rw [H3.out]; exact hown3, hbel3⟩
              case measure => simp [intOf]; omega
            · have H3 : Hid (Va.put (l.take (k + 1)) = d ++ [u % 128 + 128] ++ Va.one (u / 128)) := (by rw [H2.out, Va.one_hi h128]; simp : Va.put (l.take (k + 1)) = d ++ [u % 128 + 128] ++ Va.one (u / 128))
              clear H2
              have hw : Hid (_ = _) := or128_walk u
              go_wp2_with (at_builtin; refine append_u8 (w0 := w) rfl (.tmp 30) (.tmp 34) rfl _ n2 d rfl (hown2.alloc _) _ 1 1 [u % 128 + 128] rfl (by rw [hw.out]; exact row_new .u8 _ 5 (u % 128 + 128) (by show _ < 256; omega)) (fun h => by cases h) (by omega) (hbel2.alloc hsz _) (by simp; omega) ?_; intro a3 c3 w3 hown3 hbel3 hsz3)
              go_roundw
              case rel => exact ⟨a3, n2 + 1, c3, u / 128, _, rfl, val_int (by omega), by omega, hown3, hbel3, (by rw [List.length_append, ← hn2.out]; rfl : n2 + 1 = (d ++ [u % 128 + 128]).length), H3⟩
              case measure => simp [intOf]; omega
        · have hkl : Hid (l.take k = l) := (List.take_of_length_le (by rw [hll.out]; omega) : l.take k = l)
          rw [hkl.out] at hown
          have hn' : Hid (n = (Va.put l).length) := (by rw [hn.out, hkl.out] : n = (Va.put l).length)
          clear hn
          go_wp2
          go_ret
          exact ⟨a', c, by rw [← hn'.out]; rfl, by rw [← hn'.out]; exact hown, hbel⟩

set_option maxRecDepth 100000 in
set_option maxHeartbeats 1000000 in
theorem refput_any (a : Option Addr) (len cap : Nat) (l : List Nat) (w : World) (hlen : len ≤ 1000) (hr : Row .u64 w a len l) :
    Calls Try.prog 39 #[.slice a len cap] w (Made .u8 5 w (Va.put l)) := by
  have hll : Hid (l.length = len) := hr.1
  have hbel0 : Below w.heap.size w (w.alloc (.cells #[] 5)) := (Below.refl _ _).alloc (Nat.le_refl _) _
  have hmade := World.ownsRow_made (base := w.heap.size) (e := 5) (size := 1) w #[] 0 (Nat.le_refl _) (by decide) (by simp)
  go_enter Try.func39, Try.ntmps39
  go_wp2
  go_loopw [3, 4] (fun v i wr => ∃ (k : Nat) (a' : Option Addr) (n c : Nat), k ≤ len ∧ i = .int .i64 k ∧ v = .slice a' n c ∧ Hid (n = (Va.put (l.take k)).length) ∧ wr.ownsRow w.heap.size 5 1 (.slice a' n c) n (kcells .u8 (Va.put (l.take k))) ∧ Below w.heap.size w wr)
    (fun _ i _ => len - (intOf i).toNat)
  case atStart => exact ⟨0, _, 0, 0, by omega, rfl, rfl, (rfl : 0 = (Va.put (l.take 0)).length), hmade, hbel0⟩
  case round =>
    obtain ⟨k, a', n, c, hk, rfl, rfl, hn, hown, hbel⟩ := hrel
    clear hmade hbel0
    by_cases hlt : k < len
    · have hr' := hr.below hbel (Nat.le_refl _)
      obtain ⟨b, off, rfl, hc⟩ := hr'.at (by omega)
      have hcell := hc k hlt
      have hx := getD_lt64 hr.2.2.1 k
      have H : Hid (Va.put (l.take (k + 1)) = Va.put (l.take k) ++ Va.one (l.getD k 0)) := put_take l k (by rw [hll.out]; exact hlt)
      have hb := put_take_len l hr.2.2.1 k (by omega)
      rw [← hn.out] at hb
      clear hc hr'
      generalize l.getD k 0 = x at *
      have hl10 := Va.one_len10 hx
      have hsm := Va.one_small x
      have hc1 := fun w => one_any x x w (Nat.le_refl _) hx
      have hsz := hbel.size
      generalize Va.one x = r at *
      go_wp2_with (first | (go_at_call 29; refine (hc1 _).mono ?_; rintro e w1 ⟨a1, c1, rfl, hown1, hbel1⟩) | (at_builtin; have := hown1; go_must (obtain ⟨hr1, hn1, _⟩ := row_of_owns hown1 hsm (by omega); refine append_u8 (w0 := w) rfl (.tmp 12) (.tmp 17) rfl _ n _ rfl (owns_below hown hbel1) a1 _ c1 r rfl hr1 hn1 (by omega) (hbel.trans (hbel1.mono hsz)) (Nat.le_trans hsz hbel1.size) ?_; intro a2 c2 w2 hown2 hbel2 hsz2)))
      go_roundw
      case rel => exact ⟨k + 1, a2, n + r.length, c2, by omega, by go_num, rfl, (by rw [H.out, List.length_append, ← hn.out] : n + r.length = (Va.put (l.take (k + 1))).length), by rw [H.out]; exact hown2, hbel2⟩
      case measure => simp [intOf]; omega
    · have hkl : Hid (l.take k = l) := (List.take_of_length_le (by rw [hll.out]; omega) : l.take k = l)
      rw [hkl.out] at hown
      have hn' : Hid (n = (Va.put l).length) := (by rw [hn.out, hkl.out] : n = (Va.put l).length)
      clear hn
      go_wp2
      go_ret
      exact ⟨a', c, by rw [← hn'.out]; rfl, by rw [← hn'.out]; exact hown, hbel⟩
end Go.Proofs.Ytgmcjalcpgldhaa
