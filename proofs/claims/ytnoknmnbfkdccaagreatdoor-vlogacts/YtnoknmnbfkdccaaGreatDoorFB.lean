/- What the sums do: crc.take, More, Of, and the reference's bit, step, run, Of, More. -/
import Derived.Test.YtnoknmnbfkdccaaGreatDoorGa
import Derived.Test.YtnoknmnbfkdccaaGreatDoorMa
import Derived.Laws.BitsAllLaws
import Derived.Deep.QuietTactic
import Derived.BigQuiet
import Derived.Deep.AppendLies
import Derived.Deep.Onto
import Derived.Deep.RegionHeld3
namespace Go.Proofs.YtnoknmnbfkdccaaGreatDoor
open Go.RowKit

theorem lin_walk (r : Nat) (h : r < 4294967296) :
    bits .xor .u32 ((r : Int) / 2) (bits .and .u32 2197175160 (-bits .and .u32 (r : Int) 1 % 4294967296)) = (Crc.lin r : Nat) := by
  have e1 : bits .and .u32 (r : Int) 1 = ((r % 2 : Nat) : Int) := by
    have := u32_and_nat r 1 h (by omega); rw [Nat.and_one_is_mod] at this; exact_mod_cast this
  have e2 : (r : Int) / 2 = ((r / 2 : Nat) : Int) := by omega
  rw [e1, e2]
  unfold Crc.lin
  rcases Nat.mod_two_eq_zero_or_one r with h1 | h1
  · rw [h1, if_neg (by omega)]
    have e3 : (-((0 : Nat) : Int) % 4294967296) = ((0 : Nat) : Int) := by decide
    rw [e3]
    have := u32_and_nat 2197175160 0 (by omega) (by omega)
    rw [show ((2197175160 : Nat) : Int) = 2197175160 from rfl] at this
    rw [this, u32_xor_nat _ _ (by omega) (by decide)]
    simp
  · rw [h1, if_pos rfl]
    have e3 : (-((1 : Nat) : Int) % 4294967296) = ((4294967295 : Nat) : Int) := by decide
    rw [e3]
    have := u32_and_nat 2197175160 4294967295 (by omega) (by omega)
    rw [show ((2197175160 : Nat) : Int) = 2197175160 from rfl, show 2197175160 &&& 4294967295 = 2197175160 by decide +kernel] at this
    rw [this, u32_xor_nat _ _ (by omega) (by omega)]

set_option maxHeartbeats 400000 in
theorem take_any (r x : Nat) (w : World) (hr : r < 4294967296) (hx : x < 256) :
    Calls Tryz.prog 134 #[.int .u32 r, .int .u8 x] w fun e w' => e = .returned (.int .u32 (Crc.tk r x : Nat)) ∧ w' = w := by
  go_enter Tryz.func134, Tryz.ntmps134
  go_wp2
  go_loop [0, 10] (fun t i => ∃ k : Nat, k ≤ 8 ∧ i = .int .i64 k ∧ t = .int .u32 (Crc.lins k (r ^^^ x) : Nat)) (fun _ i => 8 - (intOf i).toNat)
  case atStart => exact ⟨0, by omega, rfl, val_int (u32_xor_nat r x hr (by omega))⟩
  case round =>
    obtain ⟨k, hk, rfl, rfl⟩ := hrel
    have hb := Crc.lins_lt (r := r ^^^ x) k (Crc.xor_lt hr (by omega))
    by_cases hlt : k < 8
    · go_wp2
      go_round
      case rel => exact ⟨k + 1, by omega, by go_num, val_int (lin_walk _ hb)⟩
      case measure => simp [intOf]; omega
    · have hk8 : 8 = k := by omega
      go_wp2
      go_ret
      exact ⟨ret_int (by subst hk8; rfl), rfl⟩

set_option maxHeartbeats 400000 in
theorem bit_any (n i : Nat) (w : World) (hn : n < 4294967296) (hi : i ≤ 8) :
    Calls Tryz.prog 147 #[.int .u32 n, .int .i64 i] w fun e w' => e = .returned (.int .i64 (Crc.bt n i : Nat)) ∧ w' = w := by
  go_enter Tryz.func147, Tryz.ntmps147
  go_wp2
  go_loop [0, 5] (fun t j => ∃ k : Nat, k ≤ i ∧ j = .int .i64 k ∧ t = .int .u32 (n / 2 ^ k : Nat)) (fun _ j => i - (intOf j).toNat)
  case atStart => exact ⟨0, by omega, rfl, val_int (by simp)⟩
  case round =>
    obtain ⟨k, hk, rfl, rfl⟩ := hrel
    obtain ⟨m, hm⟩ : ∃ m, m = n / 2 ^ k := ⟨_, rfl⟩
    have hmb : m < 4294967296 := by rw [hm]; exact Nat.lt_of_le_of_lt (Nat.div_le_self _ _) hn
    rw [← hm]
    have HM : Hid (m = n / 2 ^ k) := hm
    clear hm
    by_cases hlt : k < i
    · go_wp2
      go_round
      case rel => exact ⟨k + 1, by omega, by go_num, val_int (by rw [← Crc.div_pow_succ, ← HM.out]; omega)⟩
      case measure => simp [intOf]; omega
    · have hki : Hid (k = i) := (by omega : k = i)
      go_wp2
      go_ret
      exact ⟨ret_int (by unfold Crc.bt; rw [← hki.out, ← HM.out]; omega), rfl⟩

set_option maxHeartbeats 400000 in
theorem step_any (r b : Nat) (w : World) (hr : r < 4294967296) (hb : b < 2) :
    Calls Tryz.prog 146 #[.int .u32 r, .int .i64 b] w fun e w' => e = .returned (.int .u32 (Crc.stp r b : Nat)) ∧ w' = w := by
  have hb0 := bit_any r 0 w hr (by omega)
  rw [show Crc.bt r 0 = r % 2 by simp [Crc.bt]] at hb0
  by_cases h : r % 2 = b
  · go_enter Tryz.func146, Tryz.ntmps146
    go_wp2_with (go_at_call 147; refine hb0.mono ?_; rintro e w' ⟨rfl, rfl⟩)
    go_ret
    exact ⟨ret_int (by unfold Crc.stp; rw [if_neg (by omega)]; omega), rfl⟩
  · go_enter Tryz.func146, Tryz.ntmps146
    go_wp2_with (go_at_call 147; refine hb0.mono ?_; rintro e w' ⟨rfl, rfl⟩)
    go_ret
    exact ⟨ret_int (by
      unfold Crc.stp; rw [if_pos h]
      have := u32_xor_nat (r / 2) 2197175160 (by omega) (by omega)
      rw [← this]; rfl), rfl⟩

theorem not_walk (s : Nat) (h : s < 4294967296) : bits .xor .u32 IntKind.u32.max (s : Int) = ((s ^^^ 4294967295 : Nat) : Int) := by
  have := u32_xor_nat 4294967295 s (by omega) h
  rw [Nat.xor_comm] at this
  rw [← this]; rfl
theorem run_hid (q : Nat) (bs : List Nat) (k : Nat) (h : k < bs.length) : Crc.run q (bs.take (k + 1)) = Crc.tk (Crc.run q (bs.take k)) (bs.getD k 0) := by
  rw [Va.take_snoc bs k h, Crc.run_snoc]

set_option maxHeartbeats 400000 in
theorem more_any (s : Nat) (a : Option Addr) (len cap : Nat) (bs : List Nat) (w : World) (hs : s < 4294967296) (hrow : Row .u8 w a len bs) :
    Calls Tryz.prog 121 #[.int .u32 s, .slice a len cap] w fun e w' => e = .returned (.int .u32 (Crc.more s bs : Nat)) ∧ w' = w := by
  obtain ⟨hlen, hbig, hsm, hcells⟩ := hrow
  rcases hcells with h0 | ⟨b, off, rfl, hc⟩
  · subst h0
    obtain rfl : bs = [] := List.length_eq_zero_iff.mp hlen
    go_enter Tryz.func121, Tryz.ntmps121
    go_wp2
    go_loop [5, 12] (fun t i => i = .int .i64 (0 : Nat) ∧ t = .int .u32 (s ^^^ 4294967295 : Nat)) (fun _ i => 0)
    case atStart => exact ⟨rfl, val_int (not_walk s hs)⟩
    case round =>
      obtain ⟨rfl, rfl⟩ := hrel
      have hb := Crc.xor_lt hs (show 4294967295 < 4294967296 by omega)
      go_wp2
      go_ret
      exact ⟨ret_int (not_walk _ hb), rfl⟩
  · go_enter Tryz.func121, Tryz.ntmps121
    go_wp2
    go_loop [5, 12] (fun t i => ∃ k : Nat, k ≤ len ∧ i = .int .i64 k ∧ t = .int .u32 (Crc.run (s ^^^ 4294967295) (bs.take k) : Nat)) (fun _ i => len - (intOf i).toNat)
    case atStart => exact ⟨0, by omega, rfl, val_int (not_walk s hs)⟩
    case round =>
      obtain ⟨k, hk, rfl, rfl⟩ := hrel
      have hb := Crc.run_lt (r := s ^^^ 4294967295) (bs.take k) (Crc.xor_lt hs (by omega)) (take_small hsm k)
      by_cases hlt : k < len
      · have hcell := hc k hlt
        have hg := getD_lt8 hsm k
        have H1 : Hid (Crc.run (s ^^^ 4294967295) (bs.take (k + 1)) = Crc.tk (Crc.run (s ^^^ 4294967295) (bs.take k)) (bs.getD k 0)) := run_hid _ bs k (by omega)
        generalize Crc.run (s ^^^ 4294967295) (bs.take k) = q at *
        generalize bs.getD k 0 = x at *
        clear hc
        go_wp2_with (go_at_call 134; refine (take_any _ _ _ (by omega) (by omega)).mono ?_; rintro e w' ⟨rfl, rfl⟩)
        go_round
        case rel => exact ⟨k + 1, by omega, by go_num, by rw [H1.out]⟩
        case measure => simp [intOf]; omega
      · have hkl : Hid (k = bs.length) := (by omega : k = bs.length)
        go_wp2
        go_ret
        exact ⟨ret_int (by rw [not_walk _ hb, hkl.out, List.take_length]; rfl), rfl⟩

set_option maxHeartbeats 400000 in
theorem of_any (a : Option Addr) (len cap : Nat) (bs : List Nat) (w : World) (hrow : Row .u8 w a len bs) :
    Calls Tryz.prog 100 #[.slice a len cap] w fun e w' => e = .returned (.int .u32 (Crc.more 0 bs : Nat)) ∧ w' = w := by
  have hm := more_any 0 a len cap bs w (by omega) hrow
  go_enter Tryz.func100, Tryz.ntmps100
  go_wp2_with (go_at_call 121; refine hm.mono ?_; rintro e w' ⟨rfl, rfl⟩)
  go_ret
  exact ⟨rfl, rfl⟩

set_option maxHeartbeats 800000 in
theorem run_any (r : Nat) (a : Option Addr) (len cap : Nat) (bs : List Nat) (w : World) (hs : r < 4294967296) (hrow : Row .u8 w a len bs) :
    Calls Tryz.prog 132 #[.int .u32 r, .slice a len cap] w fun e w' => e = .returned (.int .u32 (Crc.run r bs : Nat)) ∧ w' = w := by
  obtain ⟨hlen, hbig, hsm, hcells⟩ := hrow
  rcases hcells with h0 | ⟨b, off, rfl, hc⟩
  · subst h0
    obtain rfl : bs = [] := List.length_eq_zero_iff.mp hlen
    go_enter Tryz.func132, Tryz.ntmps132
    go_wp2
    go_loop [0, 5] (fun t i => i = .int .i64 (0 : Nat) ∧ t = .int .u32 r) (fun _ i => 0)
    case atStart => exact ⟨rfl, rfl⟩
    case round =>
      obtain ⟨rfl, rfl⟩ := hrel
      go_wp2
      go_ret
      exact ⟨rfl, rfl⟩
  · go_enter Tryz.func132, Tryz.ntmps132
    go_wp2
    go_loop [0, 5] (fun t i => ∃ k : Nat, k ≤ len ∧ i = .int .i64 k ∧ t = .int .u32 (Crc.run r (bs.take k) : Nat)) (fun _ i => len - (intOf i).toNat)
    case atStart => exact ⟨0, by omega, rfl, rfl⟩
    case round =>
      obtain ⟨k, hk, rfl, rfl⟩ := hrel
      have hb := Crc.run_lt (r := r) (bs.take k) hs (take_small hsm k)
      by_cases hlt : k < len
      · have hcell := hc k hlt
        have hg := getD_lt8 hsm k
        have H1 : Hid (Crc.run r (bs.take (k + 1)) = Crc.tk (Crc.run r (bs.take k)) (bs.getD k 0)) := run_hid _ bs k (by omega)
        generalize Crc.run r (bs.take k) = q at *
        generalize bs.getD k 0 = x at *
        have H2 : Hid (Crc.tk q x = Crc.stps 8 q x) := Crc.tk_stps q x hg
        clear hc
        go_wp2
        go_loop [0, 6] (fun t i => ∃ j : Nat, j ≤ 8 ∧ i = .int .i64 j ∧ t = .int .u32 (Crc.stps j q x : Nat)) (fun _ i => 8 - (intOf i).toNat)
        case atStart => exact ⟨0, by omega, rfl, rfl⟩
        case round =>
          obtain ⟨j, hj, rfl, rfl⟩ := hrel
          have hb2 := Crc.stps_lt j x hb
          have hbt := Crc.bt_lt x j
          by_cases hjt : j < 8
          · have H3 : Hid (Crc.stps (j + 1) q x = Crc.stp (Crc.stps j q x) (Crc.bt x j)) := (rfl : Crc.stps (j + 1) q x = _)
            generalize Crc.stps j q x = q2 at *
            go_wp2_with (first | (go_at_call 147; refine (bit_any _ _ _ (by omega) (by omega)).mono ?_; rintro e w' ⟨rfl, rfl⟩) | (go_at_call 146; refine (step_any _ _ _ (by omega) (by omega)).mono ?_; rintro e w' ⟨rfl, rfl⟩))
            go_round
            case rel => exact ⟨j + 1, by omega, by go_num, by rw [H3.out]⟩
            case measure => simp [intOf]; omega
          · have hk8 : Hid (j = 8) := (by omega : j = 8)
            go_wp2
            go_round
            case rel => exact ⟨k + 1, by omega, by go_num, by rw [H1.out, H2.out, hk8.out]⟩
            case measure => simp [intOf]; omega
      · have hkl : Hid (k = bs.length) := (by omega : k = bs.length)
        go_wp2
        go_ret
        exact ⟨ret_int (by rw [hkl.out, List.take_length]), rfl⟩

set_option maxHeartbeats 400000 in
theorem refof_any (a : Option Addr) (len cap : Nat) (bs : List Nat) (w : World) (hrow : Row .u8 w a len bs) :
    Calls Tryz.prog 117 #[.slice a len cap] w fun e w' => e = .returned (.int .u32 (Crc.more 0 bs : Nat)) ∧ w' = w := by
  have hm := run_any 4294967295 a len cap bs w (by omega) hrow
  have hb := Crc.run_lt (r := 4294967295) bs (by omega) hrow.2.2.1
  go_enter Tryz.func117, Tryz.ntmps117
  go_wp2_with (go_at_call 132; refine hm.mono ?_; rintro e w' ⟨rfl, rfl⟩)
  go_ret
  exact ⟨ret_int (by
    have := u32_xor_nat 4294967295 _ (by omega) hb
    unfold Crc.more; rw [Nat.xor_comm, show 0 ^^^ 4294967295 = 4294967295 by decide +kernel, ← this]; rfl), rfl⟩

end Go.Proofs.YtnoknmnbfkdccaaGreatDoor

/- What the reference's Ints does. -/
namespace Go.Proofs.YtnoknmnbfkdccaaGreatDoor
open Go.RowKit

end Go.Proofs.YtnoknmnbfkdccaaGreatDoor

/- What the reference's May and Put of a frame do. -/
namespace Go.Proofs.YtnoknmnbfkdccaaGreatDoor
open Go.RowKit

/-- may a frame of that kind and so many bytes be? -/
def mayB (k : Int) (n : Nat) : Bool := decide (1 ≤ k ∧ k ≤ 250 ∧ n ≤ 1048576)
theorem mayB_may (k : Int) (b : List Nat) : mayB k b.length = Fr.may (k, b) := rfl

set_option maxRecDepth 100000 in
set_option maxHeartbeats 1000000 in
theorem refput1_any (k : Nat) (a : Option Addr) (n c : Nat) (b : List Nat) (w : World) (hk1 : 1 ≤ k) (hk2 : k ≤ 250) (hn : n ≤ 1048576) (hr : Row .u8 w a n b) (hnil : a = none → n = 0 ∧ c = 0) :
    Calls Tryz.prog 118 #[.agg #[.int .i64 k, .slice a n c]] w (Made .u8 5 w (Fr.put1 k b)) := by
  have hbn : Hid (b.length = n) := hr.1
  have hone : ∀ (W : World) (z : Int), z = (n : Int) → Calls Tryz.prog 133 #[.int .u64 z] W (Made .u8 5 W (Va.one n)) := fun W z hz => hz ▸ one_any n n W (Nat.le_refl _) (by omega)
  have hsm := Va.one_small n
  have h3 := Fr.one3 hn
  obtain ⟨o, ho'⟩ : ∃ o, o = Va.one n := ⟨_, rfl⟩
  rw [← ho'] at hone hsm h3
  have ho : Hid (o = Va.one n) := ho'
  clear ho'
  have hput : Hid (Fr.put1 k b = o ++ [k] ++ b ++ Fr.le4 (Crc.more 0 (k :: b))) := (by rw [ho.out, ← hbn.out]; simp [Fr.put1] : Fr.put1 k b = o ++ [k] ++ b ++ Fr.le4 (Crc.more 0 (k :: b)))
  clear ho
  have hk8 : ((k : Int) % 256) = k := by omega
  go_enter Tryz.func118, Tryz.ntmps118
  go_wp2_with fail
  have hb0 : Below w.heap.size w (w.alloc (.cells #[.int .i64 k, .slice a n c] 113)) := (Below.refl _ _).alloc (Nat.le_refl _) _
  have hc0 : (w.alloc (.cells #[.int .i64 k, .slice a n c] 113)).cell? ⟨w.heap.size, 0, none⟩ = some (.int .i64 k) := by rw [cell_new]; rfl
  have hc1 : (w.alloc (.cells #[.int .i64 k, .slice a n c] 113)).cell? ⟨w.heap.size, 1, none⟩ = some (.slice a n c) := by rw [cell_new]; rfl
  have hlt : w.heap.size < (w.alloc (.cells #[.int .i64 k, .slice a n c] 113)).heap.size := by simp
  generalize w.alloc (.cells #[.int .i64 k, .slice a n c] 113) = w0 at *
  have hr0 := hr.below hb0 (Nat.le_refl _)
  obtain ⟨N, hN⟩ : ∃ N, N = w.heap.size := ⟨_, rfl⟩
  rw [← hN] at hc0 hc1 hlt ⊢
  have HN : Hid (N = w.heap.size) := hN
  have hr' := hr
  clear hN hr
  have hw0 : w.heap.size ≤ w0.heap.size := hb0.size
  have hcs : Hid (∀ W, Below w0.heap.size w0 W → W.cell? ⟨N, 0, none⟩ = some (.int .i64 k) ∧ W.cell? ⟨N, 1, none⟩ = some (.slice a n c) ∧ N < W.heap.size) := (fun W h => ⟨(h.cell (p := ⟨N, 0, none⟩) hlt).trans hc0, (h.cell (p := ⟨N, 1, none⟩) hlt).trans hc1, Nat.lt_of_lt_of_le hlt h.size⟩ : ∀ W, Below w0.heap.size w0 W → W.cell? ⟨N, 0, none⟩ = some (.int .i64 k) ∧ W.cell? ⟨N, 1, none⟩ = some (.slice a n c) ∧ N < W.heap.size)
  go_region_held3 (fun w' => w'.cell? ⟨N, 0, none⟩ = some (.int .i64 k) ∧ w'.cell? ⟨N, 1, none⟩ = some (.slice a n c)) (first | go_keep | (refine ⟨?_, ?_⟩ <;> assumption))
    (first
      | ((go_at_call 133; refine (hone _ _ ?_).mono ?_; (simp only [IntKind.wrap_u64]; omega); rintro e w1 ⟨a1, c1, rfl, hown1, hbel1⟩; have hb1 : Below w0.heap.size w0 w1 := (by first | exact below_of_drew hbel1 | exact ((Below.refl _ _).alloc (Nat.le_refl _) _).trans ((below_of_drew hbel1).mono (by simp))); obtain ⟨hk0, hk1, _⟩ := hcs.out w1 hb1))
      | ((have := hown1; refine step_u8 (w0 := w0) (B := w0.heap.size) (by rfl) _ _ (by rfl) _ o.length o (by rfl) ((hown1.mono (by simp)).alloc _) ⟨w1.heap.size, 0, none⟩ 1 1 [k] (by rfl) (row_newz .u8 _ 5 _ k (by simp only [IntKind.wrap_u8']; omega) (by show k < 256; omega)) (by omega) (by omega) (hb1.alloc hb1.size _) (by have := hb1.size; simp; omega) ?_; intro a2 c2 w2 hown2 hbel2 hsz2 hg2; obtain ⟨hk2, hk3, hn2⟩ := hcs.out w2 hbel2))
      | ((have := hown1; refine step_u8 (w0 := w0) (B := w0.heap.size) (by rfl) _ _ (by rfl) _ o.length o (by rfl) (hown1.mono (by simp)) ⟨w0.heap.size, 0, none⟩ 1 1 [k] (by rfl) (row_inz _ k (by simp only [IntKind.wrap_u8']; omega) (by show k < 256; omega) ((hbel1.block w0.heap.size (by simp)).trans (heap_alloc_new w0 _))) (by omega) (by omega) hb1 hb1.size ?_; intro a2 c2 w2 hown2 hbel2 hsz2 hg2; obtain ⟨hk2, hk3, hn2⟩ := hcs.out w2 hbel2)))
  all_goals
    have hrb : Row .u8 w2 a n b := hr0.below hbel2 (Nat.le_refl _)
    have hbs : ∀ x ∈ k :: b, x < lim .u8 := by
      intro x hx
      rcases List.mem_cons.mp hx with rfl | hx
      · show x < 256; omega
      · exact hr0.2.2.1 x hx
    clear hown1 hbel1 hg2 hk0 hk1
    go_wp2_with (first
      | (at_builtin; have := hown3; go_must (have hlit := owns_lit w3 w3.heap.size 5 (kcells .u8 [k]) 1 rfl (Nat.le_refl _) (by omega); have hB3 : Below w3.heap.size w3 (w3.alloc (.cells #[.int .u8 (k : Nat)] 5)) := (Below.refl _ _).alloc (Nat.le_refl _) _; refine append_u8 (w0 := w3) (B := w3.heap.size) rfl (.tmp 23) (.tmp 25) rfl _ 1 [k] rfl hlit a n c b rfl ((hr0.below hbel3 (Nat.le_refl _)).below hB3 (Nat.le_refl _)) hnil (by omega) hB3 hB3.size ?_; intro a4 c4 w4 hown4 hbel4 hsz4))
      | (at_builtin; refine append_u8 (w0 := w0) (B := w0.heap.size) rfl (.tmp 16) (.tmp 18) rfl _ _ _ rfl hown2 a n c b rfl hrb hnil (by omega) hbel2 hsz2 ?_; intro a3 c3 w3 hown3 hbel3 hsz3; obtain ⟨hk4, hk5, hn3⟩ := hcs.out w3 hbel3)
      | (go_at_call 117; have := hown4; go_must (refine (refof_any _ _ _ (k :: b) _ (row_of_owns hown4 hbs (by omega)).1).mono ?_; rintro e w5 ⟨rfl, hw⟩; subst hw)))
    have hB4 : Below w0.heap.size w0 w5 := hbel3.trans (hbel4.mono hbel3.size)
    have hown5 := owns_below hown3 hbel4
    have hS := Crc.more_lt (s := 0) (k :: b) (by omega) hbs
    generalize Crc.more 0 (k :: b) = S at *
    generalize hPP : o ++ [k] ++ b = PP at *
    have hPl : Hid (PP.length = o.length + 1 + n) := (by rw [← hPP]; simp [hbn.out]; omega : PP.length = o.length + 1 + n)
    clear hPP hown2 hown3 hown4 hbel2 hbel3 hbel4 hbs
    obtain ⟨M, hM⟩ : ∃ M, M = o.length + 1 + n := ⟨_, rfl⟩
    rw [← hM] at hPl hown5 ⊢
    have hMb : M ≤ 2000000 := by omega
    clear hM
    go_loopw [3, 4, 5] (fun v t i wr => ∃ (j : Nat) (q : Nat) (a' : Option Addr) (c' : Nat), j ≤ 4 ∧ i = .int .i64 j ∧ t = .int .u32 q ∧ q < 4294967296 ∧ v = .slice a' (M + j) c' ∧ wr.ownsRow w0.heap.size 5 1 (.slice a' (M + j) c') (M + j) (kcells .u8 (PP ++ (Fr.le4 S).take j)) ∧ Below w0.heap.size w0 wr ∧ Hid (q = S / 256 ^ j))
      (fun _ _ i _ => 4 - (intOf i).toNat)
    case atStart => exact ⟨0, S, a3, c3, by omega, rfl, rfl, hS, rfl, by simpa using hown5, hB4, (by simp : S = S / 256 ^ 0)⟩
    case round =>
      obtain ⟨j, q, a', c', hj, rfl, rfl, hq, rfl, hown, hbel, hqs⟩ := hrel
      have hsz := hbel.size
      by_cases hlt4 : j < 4
      · have Hl : Hid ((Fr.le4 S).take (j + 1) = (Fr.le4 S).take j ++ [q % 256]) := (by rw [le4_take S j hlt4, hqs.out] : (Fr.le4 S).take (j + 1) = (Fr.le4 S).take j ++ [q % 256])
        have Hq : Hid (q / 256 = S / 256 ^ (j + 1)) := (by rw [hqs.out, div_step] : q / 256 = S / 256 ^ (j + 1))
        clear hown5 hqs
        go_wp2_with (at_builtin; refine append_u8 (w0 := w0) rfl (.tmp 32) (.tmp 36) rfl _ (M + j) _ rfl (hown.alloc _) _ 1 1 [q % 256] rfl (row_newz .u8 _ 5 _ (q % 256) (by omega) (by show _ < 256; omega)) (fun h => by cases h) (by omega) (hbel.alloc hsz _) (by simp; omega) ?_; intro a6 c6 w6 hown6 hbel6 hsz6)
        go_roundw
        case rel => exact ⟨j + 1, q / 256, a6, c6, by omega, by go_num, val_int (by omega), by omega, rfl, by rw [Hl.out, ← List.append_assoc]; exact hown6, hbel6, Hq⟩
        case measure => simp [intOf]; omega
      · obtain rfl : j = 4 := by omega
        have Hl : Hid (Fr.put1 k b = PP ++ (Fr.le4 S).take 4) := (by rw [hput.out]; rfl : Fr.put1 k b = PP ++ (Fr.le4 S).take 4)
        have Hn : Hid ((Fr.put1 k b).length = M + 4) := (by rw [Hl.out, List.length_append, hPl.out]; rfl : (Fr.put1 k b).length = M + 4)
        clear hown5
        go_wp2
        go_ret
        refine ⟨a', c', ?_, ?_, hb0.trans (hbel.mono hw0)⟩
        · rw [Hn.out]; rfl
        · rw [Hn.out, Hl.out]; exact hown.mono hw0
end Go.Proofs.YtnoknmnbfkdccaaGreatDoor

/- Rows of frames; what the reference's Ints, Same and All do. -/
namespace Go.Proofs.YtnoknmnbfkdccaaGreatDoor
open Go.RowKit

/-- a frame's cells at a place -/
def FAt (w : World) (b o : Nat) (f : Fr.F) : Prop :=
  ∃ A L C, w.cell? ⟨b, o, none⟩ = some (.int .i64 f.1) ∧ w.cell? ⟨b, o + 1, none⟩ = some (.slice A L C) ∧ Row .u8 w A L f.2 ∧ Shape A L C ∧ (A = none → L = 0 ∧ C = 0) ∧ -9223372036854775808 ≤ f.1 ∧ f.1 ≤ 9223372036854775807
/-- A slice that reads as the frames fs. -/
def FRow (w : World) (a : Option Addr) (len : Nat) (fs : List Fr.F) : Prop :=
  fs.length = len ∧ len ≤ 1000000000000000 ∧ (len = 0 ∨ ∃ b off, a = some ⟨b, off, none⟩ ∧ ∀ i, i < len → FAt w b (off + i * 2) (fs.getD i (0, [])))
theorem FAt.below {w w' : World} {B b o : Nat} {f : Fr.F} (h : FAt w b o f) (hb : Below B w w') (hB : w.heap.size ≤ B) : FAt w' b o f := by
  obtain ⟨A, L, C, h1, h2, h3, h4⟩ := h
  exact ⟨A, L, C, (hb.cell (p := ⟨b, o, none⟩) (Nat.lt_of_lt_of_le (cell_lt h1) hB)).trans h1, (hb.cell (p := ⟨b, o + 1, none⟩) (Nat.lt_of_lt_of_le (cell_lt h2) hB)).trans h2, h3.below hb hB, h4⟩
theorem FRow.below {w w' : World} {B : Nat} {a : Option Addr} {l : Nat} {fs : List Fr.F} (h : FRow w a l fs) (hb : Below B w w') (hB : w.heap.size ≤ B) : FRow w' a l fs := by
  obtain ⟨h1, h2, h3⟩ := h
  refine ⟨h1, h2, ?_⟩
  rcases h3 with h0 | ⟨b, off, e, hc⟩
  · exact .inl h0
  · exact .inr ⟨b, off, e, fun i hi => (hc i hi).below hb hB⟩
theorem FRow.at {w : World} {a : Option Addr} {n : Nat} {fs : List Fr.F} (h : FRow w a n fs) (hn : 0 < n) :
    ∃ b off, a = some ⟨b, off, none⟩ ∧ ∀ i, i < n → FAt w b (off + i * 2) (fs.getD i (0, [])) := by
  obtain ⟨_, _, h0 | h0⟩ := h
  · omega
  · exact h0
end Go.Proofs.YtnoknmnbfkdccaaGreatDoor


/- What the reference's Ints and All do. -/
namespace Go.Proofs.YtnoknmnbfkdccaaGreatDoor
open Go.RowKit

theorem fall_take (l : List Fr.F) (k : Nat) (h : k < l.length) : Fr.all (l.take (k + 1)) = Fr.all (l.take k) ++ Fr.one (l.getD k (0, [])) := by
  rw [List.take_succ_eq_append_getElem h, Fr.all_append]; simp [h, Fr.all]
theorem fall_take_le (l : List Fr.F) (k : Nat) : (Fr.all (l.take k)).length ≤ (Fr.all l).length := by
  have h : Fr.all l = Fr.all (l.take k) ++ Fr.all (l.drop k) := by rw [← Fr.all_append, List.take_append_drop]
  rw [h, List.length_append]; omega
end Go.Proofs.YtnoknmnbfkdccaaGreatDoor

/- What the reference's First does. -/
namespace Go.Proofs.YtnoknmnbfkdccaaGreatDoor
open Go.RowKit

/-- what First tells: a frame whose body is new memory, how many bytes, the code -/
def FirstRes (w : World) (R : Fr.F × Nat × Nat) (e : Ending) (w' : World) : Prop :=
  ∃ A C, e = .returned (.tuple #[.agg #[.int .i64 R.1.1, .slice A R.1.2.length C], .int .i64 (R.2.1 : Nat), .int .i64 (R.2.2 : Nat)]) ∧ w'.ownsRow w.heap.size 5 1 (.slice A R.1.2.length C) R.1.2.length (kcells .u8 R.1.2) ∧ Below w.heap.size w w'
theorem gap_iff {bs : List Nat} {k : Nat} (hk : k ≤ bs.length) (hh : ∀ j, j < k → 128 ≤ bs.getD j 0) (he : k = bs.length ∨ k = 3 ∨ bs.getD k 0 < 128) : Fr.gapHead bs = decide (k = bs.length ∧ k < 3) := by
  unfold Fr.gapHead
  by_cases h1 : k = bs.length ∧ k < 3
  · have : decide (k = bs.length ∧ k < 3) = true := decide_eq_true h1
    rw [this, Bool.and_eq_true, List.all_eq_true]
    refine ⟨by simp; omega, fun x hx => ?_⟩
    obtain ⟨j, hj, e⟩ := List.mem_iff_getElem.mp hx
    have := hh j (by omega)
    rw [List.getD_eq_getElem?_getD, List.getElem?_eq_getElem hj] at this
    rw [← e]; simp at this ⊢; exact this
  · have : decide (k = bs.length ∧ k < 3) = false := by simpa using h1
    rw [this]
    rw [Bool.and_eq_false_iff]
    by_cases h3 : bs.length < 3
    · right
      rw [List.all_eq_false]
      refine ⟨bs.getD k 0, ?_, ?_⟩
      · have hk' : k < bs.length := by omega
        have : bs.getD k 0 = bs[k] := by simp [hk']
        rw [this]; exact List.getElem_mem hk'
      · have : bs.getD k 0 < 128 := by omega
        simp only [decide_eq_true_eq]; omega
    · left; simpa using h3

/-- behind the frame's block, its body and its store: what the rest wants of the world -/
theorem first_world {w w1 w2 : World} {x g1 C : Nat} {A : Option Addr} {body : List Nat} (hb1 : Below w.heap.size w w1) (hs1 : w.heap.size < w1.heap.size)
    (hN : ∀ i, w1.cell? ⟨w.heap.size, i, none⟩ = (w.alloc (.cells #[.int .i64 0, .slice none 0 0] 113)).cell? ⟨w.heap.size, i, none⟩) (hF : ∀ i, w1.frozen? ⟨w.heap.size, i, none⟩ = (w.alloc (.cells #[.int .i64 0, .slice none 0 0] 113)).frozen? ⟨w.heap.size, i, none⟩)
    (hbel2 : Below (w1.heap.size + 1) (w1.alloc (.cells #[.int .i64 (x : Nat), .slice none 0 0] 113)) w2)
    (hown2 : w2.ownsRow (w1.heap.size + 1) 5 1 (.slice A g1 C) g1 (kcells .u8 body)) :
    ∃ W3, W3 = w2.setCell ⟨w1.heap.size, 1, none⟩ (.slice A g1 C) ∧ W3.cell? ⟨w1.heap.size, 0, none⟩ = some (.int .i64 (x : Nat)) ∧ W3.cell? ⟨w1.heap.size, 1, none⟩ = some (.slice A g1 C) ∧
      W3.cell? ⟨w.heap.size, 0, none⟩ = some (.int .i64 0) ∧ W3.cell? ⟨w.heap.size, 1, none⟩ = some (.slice none 0 0) ∧ W3.frozen? ⟨w.heap.size, 0, none⟩ = false ∧ W3.frozen? ⟨w.heap.size, 1, none⟩ = false ∧
      Below w.heap.size w W3 ∧ W3.ownsRow (w1.heap.size + 1) 5 1 (.slice A g1 C) g1 (kcells .u8 body) ∧ w1.heap.size + 1 ≤ W3.heap.size := by
  have hc : ∀ b i, b < w1.heap.size + 1 → w2.cell? ⟨b, i, none⟩ = (w1.alloc (.cells #[.int .i64 (x : Nat), .slice none 0 0] 113)).cell? ⟨b, i, none⟩ := fun b i h => hbel2.cell (p := ⟨b, i, none⟩) h
  have hf : ∀ b i, b < w1.heap.size + 1 → w2.frozen? ⟨b, i, none⟩ = (w1.alloc (.cells #[.int .i64 (x : Nat), .slice none 0 0] 113)).frozen? ⟨b, i, none⟩ := fun b i h => hbel2.frozen (p := ⟨b, i, none⟩) h
  have hp : ∀ i, (w1.alloc (.cells #[.int .i64 (x : Nat), .slice none 0 0] 113)).cell? ⟨w.heap.size, i, none⟩ = w1.cell? ⟨w.heap.size, i, none⟩ := fun i => cell_past _ _ ⟨w.heap.size, i, none⟩ hs1
  have hq : ∀ i, (w1.alloc (.cells #[.int .i64 (x : Nat), .slice none 0 0] 113)).frozen? ⟨w.heap.size, i, none⟩ = w1.frozen? ⟨w.heap.size, i, none⟩ := fun i => World.frozen?_of_block (w := w1) (Below.heap_alloc w1 _ w.heap.size hs1)
  have hl := hbel2.size
  rw [World.size_alloc] at hl
  have hfz : ∀ i, (w.alloc (.cells #[.int .i64 0, .slice none 0 0] 113)).frozen? ⟨w.heap.size, i, none⟩ = false := by
    intro i
    have : (w.alloc (.cells #[.int .i64 0, .slice none 0 0] 113)).heap[w.heap.size]? = some (.cells #[.int .i64 0, .slice none 0 0] 113) := heap_alloc_new w _
    simp only [World.frozen?, this]
    simp
  refine ⟨_, rfl, ?_, ?_, ?_, ?_, ?_, ?_, ?_, ?_, ?_⟩
  · refine (World.cell?_setCell_other w2 _ _ _ (by simp)).trans ?_; rw [hc _ _ (by omega), cell_new]; rfl
  · exact World.cell?_setCell_same w2 _ _ (u := .slice none 0 0) (by rw [hc _ _ (by omega), cell_new]; rfl)
  · refine (World.cell?_setCell_other w2 _ _ _ (by simp <;> omega)).trans ?_; rw [hc _ _ (by omega), hp, hN, cell_new]; rfl
  · refine (World.cell?_setCell_other w2 _ _ _ (by simp <;> omega)).trans ?_; rw [hc _ _ (by omega), hp, hN, cell_new]; rfl
  · rw [World.frozen?_setCell, hf _ _ (by omega), hq, hF, hfz]
  · rw [World.frozen?_setCell, hf _ _ (by omega), hq, hF, hfz]
  · exact (((hb1.alloc (by omega) _).trans (hbel2.mono (by omega)))).setCell (p := ⟨w1.heap.size, 1, none⟩) (by simp; omega) _
  · exact ownsRow_setCell_below hown2 (by simp) _
  · rw [World.size_setCell]; exact hl

set_option maxRecDepth 100000 in
set_option maxHeartbeats 1000000 in
theorem reffirst_any (a : Option Addr) (len cap : Nat) (bs : List Nat) (w : World) (hcap : len ≤ cap) (hbig : len ≤ 100000) (hr : Row .u8 w a len bs) :
    Calls Tryz.prog 116 #[.slice a len cap] w (FirstRes w (Fr.first bs)) := by
  have hlen : Hid (bs.length = len) := hr.1
  obtain ⟨R, hR⟩ : ∃ R, R = Fr.first bs := ⟨_, rfl⟩
  rw [← hR]
  have HR : Hid (R = Fr.first bs) := hR
  clear hR
  have hb0 : Below w.heap.size w (w.alloc (.cells #[.int .i64 0, .slice none 0 0] 113)) := (Below.refl _ _).alloc (Nat.le_refl _) _
  go_enter Tryz.func116, Tryz.ntmps116
  go_wp2
  go_loop [5] (fun i => ∃ k : Nat, k ≤ len ∧ k ≤ 3 ∧ i = .int .i64 k ∧ Hid (∀ j, j < k → 128 ≤ bs.getD j 0)) (fun i => len - (intOf i).toNat)
  case atStart => exact ⟨0, by omega, by omega, rfl, (fun j hj => by omega : ∀ j, j < 0 → 128 ≤ bs.getD j 0)⟩
  case round =>
    obtain ⟨k, hk, hk3, rfl, hh⟩ := hrel
    by_cases hgo : k < len ∧ k < 3 ∧ 128 ≤ bs.getD k 0
    · obtain ⟨hlt, hlt3, hx⟩ := hgo
      obtain ⟨b, off, rfl, hc⟩ := (hr.below hb0 (Nat.le_refl _)).at (by omega)
      have hcell := hc k hlt
      have hx8 := getD_lt8 hr.2.2.1 k
      have H : Hid (∀ j, j < k + 1 → 128 ≤ bs.getD j 0) := high_step hh.out hx
      clear hc
      generalize bs.getD k 0 = x at *
      go_wp2
      go_round
      case rel => exact ⟨k + 1, by omega, by omega, by go_num, H⟩
      case measure => simp [intOf]; omega
    · have hgap := gap_iff (bs := bs) (k := k) (by rw [hlen.out]; exact hk) hh.out (by rw [hlen.out]; omega)
      rw [hlen.out] at hgap
      by_cases hend : k = len ∧ k < 3
      · have H : Hid (R = ((0, []), 0, 5)) := (by rw [HR.out]; unfold Fr.first; rw [if_pos (by rw [hgap]; simpa using hend)] : R = ((0, []), 0, 5))
        obtain ⟨rfl, hend⟩ := hend
        clear hgap
        go_wp2
        exact bodyPost_ret (v := .tuple #[.agg #[.int .i64 0, .slice none 0 0], .int .i64 0, .int .i64 5]) (by simp [results, Tryz.results116, go_sem]) rfl ⟨none, 0, by rw [H.out]; rfl, by rw [H.out]; exact World.ownsRow_nil _ _ _ _, hb0⟩
      · have hgf : Fr.gapHead bs = false := by rw [hgap]; simpa using hend
        clear hgap
        have hrow0 := hr.below hb0 (Nat.le_refl _)
        have hget := refget_any a len cap bs _ hcap hbig hrow0
        have hgle := Va.get_le (bs := bs)
        rw [hlen.out] at hgle
        have hglt := Va.get_lt bs
        obtain ⟨g, hg⟩ : ∃ g, g = Va.get bs := ⟨_, rfl⟩
        rw [← hg] at hget hgle hglt
        obtain ⟨g1, g2⟩ := g
        simp only at hget hgle hglt
        have HG : Hid (Va.get bs = (g1, g2)) := hg.symm
        clear hg
        have hex : (k = 3 ∧ len = 3) ∨ (3 < len ∧ k = 3) ∨ (k < len ∧ k < 3 ∧ bs.getD k 0 < 128) := by omega
        rcases hex with ⟨rfl, rfl⟩ | ⟨hex, rfl⟩ | ⟨hex1, hex2, hex3⟩
        · clear hgo hend hk hk3 hh hrow0
          by_cases hz : g2 = 0
          · have H : Hid (R = ((0, []), 0, 2)) := (by rw [HR.out]; unfold Fr.first; rw [hgf, HG.out, if_neg (by simp), if_pos (by simp; omega)] : R = ((0, []), 0, 2))
            subst hz
            go_wp2_with (go_at_call 131; refine hget.mono ?_; rintro e w1 ⟨rfl, hbel1⟩; obtain ⟨hc1, hf1⟩ := bcell hbel1; have hb1 := hb0.trans (hbel1.mono hb0.size); have hs1 : w.heap.size < w1.heap.size := (by have := hbel1.size; simp at this; omega))
            exact bodyPost_ret (v := .tuple #[.agg #[.int .i64 0, .slice none 0 0], .int .i64 0, .int .i64 2]) (by simp [results, Tryz.results116, go_sem, hc1]) rfl ⟨none, 0, by rw [H.out]; rfl, by rw [H.out]; exact World.ownsRow_nil _ _ _ _, by first | exact hb1 | exact (hb1.setCell (Nat.le_refl _) _).setCell (Nat.le_refl _) _ | exact ((hb1.setCell (Nat.le_refl _) _).setCell (Nat.le_refl _) _).alloc (by simp; omega) _⟩
          · have hz' : ((g2 : Int) == 0) = false := by simp; omega
            by_cases hbg : 1048576 < g1
            · have H : Hid (R = ((0, []), 0, 2)) := (by rw [HR.out]; unfold Fr.first; rw [hgf, HG.out, if_neg (by simp), if_pos (by simp; omega)] : R = ((0, []), 0, 2))
              go_wp2_with (go_at_call 131; refine hget.mono ?_; rintro e w1 ⟨rfl, hbel1⟩; obtain ⟨hc1, hf1⟩ := bcell hbel1; have hb1 := hb0.trans (hbel1.mono hb0.size); have hs1 : w.heap.size < w1.heap.size := (by have := hbel1.size; simp at this; omega))
              exact bodyPost_ret (v := .tuple #[.agg #[.int .i64 0, .slice none 0 0], .int .i64 0, .int .i64 2]) (by simp [results, Tryz.results116, go_sem, hc1]) rfl ⟨none, 0, by rw [H.out]; rfl, by rw [H.out]; exact World.ownsRow_nil _ _ _ _, by first | exact hb1 | exact (hb1.setCell (Nat.le_refl _) _).setCell (Nat.le_refl _) _ | exact ((hb1.setCell (Nat.le_refl _) _).setCell (Nat.le_refl _) _).alloc (by simp; omega) _⟩
            · have hbg' : decide (1048576 < (g1 : Int)) = false := by simp; omega
              by_cases hel : g2 = 3
              · have H : Hid (R = ((0, []), 0, 5)) := (by rw [HR.out]; unfold Fr.first; rw [hgf, HG.out, if_neg (by simp), if_neg (by simp; omega), if_pos (by rw [hlen.out]; exact hel)] : R = ((0, []), 0, 5))
                subst hel
                go_wp2_with (go_at_call 131; refine hget.mono ?_; rintro e w1 ⟨rfl, hbel1⟩; obtain ⟨hc1, hf1⟩ := bcell hbel1; have hb1 := hb0.trans (hbel1.mono hb0.size); have hs1 : w.heap.size < w1.heap.size := (by have := hbel1.size; simp at this; omega))
                exact bodyPost_ret (v := .tuple #[.agg #[.int .i64 0, .slice none 0 0], .int .i64 0, .int .i64 5]) (by simp [results, Tryz.results116, go_sem, hc1]) rfl ⟨none, 0, by rw [H.out]; rfl, by rw [H.out]; exact World.ownsRow_nil _ _ _ _, by first | exact hb1 | exact (hb1.setCell (Nat.le_refl _) _).setCell (Nat.le_refl _) _ | exact ((hb1.setCell (Nat.le_refl _) _).setCell (Nat.le_refl _) _).alloc (by simp; omega) _⟩
              · have hel' : ((g2 : Int) == (3 : Int)) = false := by simp; omega
                have hlt2 : g2 < 3 := by omega
                obtain ⟨b, off, rfl, _⟩ := hr.at (by omega)
                have hx8 := getD_lt8 hr.2.2.1 g2
                obtain ⟨x, hx⟩ : ∃ x, x = bs.getD g2 0 := ⟨_, rfl⟩
                rw [← hx] at hx8
                have Hx : Hid (x = bs.getD g2 0) := hx
                clear hx
                by_cases hk0 : x < 1
                · have H : Hid (R = ((0, []), 0, 2)) := (by rw [HR.out]; unfold Fr.first; rw [hgf, HG.out, if_neg (by simp), if_neg (by simp; omega), if_neg (by rw [hlen.out]; exact hel), if_pos (by simp only []; rw [← Hx.out]; omega)] : R = ((0, []), 0, 2))
                  go_wp2_with (go_at_call 131; refine hget.mono ?_; rintro e w1 ⟨rfl, hbel1⟩; obtain ⟨hc1, hf1⟩ := bcell hbel1; have hb1 := hb0.trans (hbel1.mono hb0.size); have hs1 : w.heap.size < w1.heap.size := (by have := hbel1.size; simp at this; omega); have hcell1 := (hr.below hb1 (Nat.le_refl _)).cell g2 hlt2; rw [← Hx.out] at hcell1)
                  exact bodyPost_ret (v := .tuple #[.agg #[.int .i64 0, .slice none 0 0], .int .i64 0, .int .i64 2]) (by simp [results, Tryz.results116, go_sem, hs1, hc1]) rfl ⟨none, 0, by rw [H.out]; rfl, by rw [H.out]; exact World.ownsRow_nil _ _ _ _, by first | exact hb1 | exact (hb1.setCell (Nat.le_refl _) _).setCell (Nat.le_refl _) _ | exact ((hb1.setCell (Nat.le_refl _) _).setCell (Nat.le_refl _) _).alloc (by simp; omega) _⟩
                · have hk0' : decide ((x : Int) < 1) = false := by simp; omega
                  by_cases hk250 : 250 < x
                  · have H : Hid (R = ((0, []), 0, 2)) := (by rw [HR.out]; unfold Fr.first; rw [hgf, HG.out, if_neg (by simp), if_neg (by simp; omega), if_neg (by rw [hlen.out]; exact hel), if_pos (by simp only []; rw [← Hx.out]; omega)] : R = ((0, []), 0, 2))
                    go_wp2_with (go_at_call 131; refine hget.mono ?_; rintro e w1 ⟨rfl, hbel1⟩; obtain ⟨hc1, hf1⟩ := bcell hbel1; have hb1 := hb0.trans (hbel1.mono hb0.size); have hs1 : w.heap.size < w1.heap.size := (by have := hbel1.size; simp at this; omega); have hcell1 := (hr.below hb1 (Nat.le_refl _)).cell g2 hlt2; rw [← Hx.out] at hcell1)
                    exact bodyPost_ret (v := .tuple #[.agg #[.int .i64 0, .slice none 0 0], .int .i64 0, .int .i64 2]) (by simp [results, Tryz.results116, go_sem, hs1, hc1]) rfl ⟨none, 0, by rw [H.out]; rfl, by rw [H.out]; exact World.ownsRow_nil _ _ _ _, by first | exact hb1 | exact (hb1.setCell (Nat.le_refl _) _).setCell (Nat.le_refl _) _ | exact ((hb1.setCell (Nat.le_refl _) _).setCell (Nat.le_refl _) _).alloc (by simp; omega) _⟩
                  · have hk250' : decide (250 < (x : Int)) = false := by simp; omega
                    by_cases hsh : 3 < g2 + 1 + g1 + 4
                    · have H : Hid (R = ((0, []), 0, 5)) := (by rw [HR.out]; unfold Fr.first; rw [hgf, HG.out, if_neg (by simp), if_neg (by simp; omega), if_neg (by rw [hlen.out]; exact hel), if_neg (by simp only []; rw [← Hx.out]; omega), if_pos (by simp only []; rw [hlen.out]; exact hsh)] : R = ((0, []), 0, 5))
                      go_wp2_with (go_at_call 131; refine hget.mono ?_; rintro e w1 ⟨rfl, hbel1⟩; obtain ⟨hc1, hf1⟩ := bcell hbel1; have hb1 := hb0.trans (hbel1.mono hb0.size); have hs1 : w.heap.size < w1.heap.size := (by have := hbel1.size; simp at this; omega); have hcell1 := (hr.below hb1 (Nat.le_refl _)).cell g2 hlt2; rw [← Hx.out] at hcell1)
                      exact bodyPost_ret (v := .tuple #[.agg #[.int .i64 0, .slice none 0 0], .int .i64 0, .int .i64 5]) (by simp [results, Tryz.results116, go_sem, hs1, hc1]) rfl ⟨none, 0, by rw [H.out]; rfl, by rw [H.out]; exact World.ownsRow_nil _ _ _ _, by first | exact hb1 | exact (hb1.setCell (Nat.le_refl _) _).setCell (Nat.le_refl _) _ | exact ((hb1.setCell (Nat.le_refl _) _).setCell (Nat.le_refl _) _).alloc (by simp; omega) _⟩
                    · omega
        · have hne3 : ((3 : Int) == (len : Int)) = false := by simp; omega
          clear hgo hend hk hk3 hh hrow0
          by_cases hz : g2 = 0
          · have H : Hid (R = ((0, []), 0, 2)) := (by rw [HR.out]; unfold Fr.first; rw [hgf, HG.out, if_neg (by simp), if_pos (by simp; omega)] : R = ((0, []), 0, 2))
            subst hz
            go_wp2_with (go_at_call 131; refine hget.mono ?_; rintro e w1 ⟨rfl, hbel1⟩; obtain ⟨hc1, hf1⟩ := bcell hbel1; have hb1 := hb0.trans (hbel1.mono hb0.size); have hs1 : w.heap.size < w1.heap.size := (by have := hbel1.size; simp at this; omega))
            exact bodyPost_ret (v := .tuple #[.agg #[.int .i64 0, .slice none 0 0], .int .i64 0, .int .i64 2]) (by simp [results, Tryz.results116, go_sem, hc1]) rfl ⟨none, 0, by rw [H.out]; rfl, by rw [H.out]; exact World.ownsRow_nil _ _ _ _, by first | exact hb1 | exact (hb1.setCell (Nat.le_refl _) _).setCell (Nat.le_refl _) _ | exact ((hb1.setCell (Nat.le_refl _) _).setCell (Nat.le_refl _) _).alloc (by simp; omega) _⟩
          · have hz' : ((g2 : Int) == 0) = false := by simp; omega
            by_cases hbg : 1048576 < g1
            · have H : Hid (R = ((0, []), 0, 2)) := (by rw [HR.out]; unfold Fr.first; rw [hgf, HG.out, if_neg (by simp), if_pos (by simp; omega)] : R = ((0, []), 0, 2))
              go_wp2_with (go_at_call 131; refine hget.mono ?_; rintro e w1 ⟨rfl, hbel1⟩; obtain ⟨hc1, hf1⟩ := bcell hbel1; have hb1 := hb0.trans (hbel1.mono hb0.size); have hs1 : w.heap.size < w1.heap.size := (by have := hbel1.size; simp at this; omega))
              exact bodyPost_ret (v := .tuple #[.agg #[.int .i64 0, .slice none 0 0], .int .i64 0, .int .i64 2]) (by simp [results, Tryz.results116, go_sem, hc1]) rfl ⟨none, 0, by rw [H.out]; rfl, by rw [H.out]; exact World.ownsRow_nil _ _ _ _, by first | exact hb1 | exact (hb1.setCell (Nat.le_refl _) _).setCell (Nat.le_refl _) _ | exact ((hb1.setCell (Nat.le_refl _) _).setCell (Nat.le_refl _) _).alloc (by simp; omega) _⟩
            · have hbg' : decide (1048576 < (g1 : Int)) = false := by simp; omega
              by_cases hel : g2 = len
              · have H : Hid (R = ((0, []), 0, 5)) := (by rw [HR.out]; unfold Fr.first; rw [hgf, HG.out, if_neg (by simp), if_neg (by simp; omega), if_pos (by rw [hlen.out]; exact hel)] : R = ((0, []), 0, 5))
                subst hel
                go_wp2_with (go_at_call 131; refine hget.mono ?_; rintro e w1 ⟨rfl, hbel1⟩; obtain ⟨hc1, hf1⟩ := bcell hbel1; have hb1 := hb0.trans (hbel1.mono hb0.size); have hs1 : w.heap.size < w1.heap.size := (by have := hbel1.size; simp at this; omega))
                exact bodyPost_ret (v := .tuple #[.agg #[.int .i64 0, .slice none 0 0], .int .i64 0, .int .i64 5]) (by simp [results, Tryz.results116, go_sem, hc1]) rfl ⟨none, 0, by rw [H.out]; rfl, by rw [H.out]; exact World.ownsRow_nil _ _ _ _, by first | exact hb1 | exact (hb1.setCell (Nat.le_refl _) _).setCell (Nat.le_refl _) _ | exact ((hb1.setCell (Nat.le_refl _) _).setCell (Nat.le_refl _) _).alloc (by simp; omega) _⟩
              · have hel' : ((g2 : Int) == (len : Int)) = false := by simp; omega
                have hlt2 : g2 < len := by omega
                obtain ⟨b, off, rfl, _⟩ := hr.at (by omega)
                have hx8 := getD_lt8 hr.2.2.1 g2
                obtain ⟨x, hx⟩ : ∃ x, x = bs.getD g2 0 := ⟨_, rfl⟩
                rw [← hx] at hx8
                have Hx : Hid (x = bs.getD g2 0) := hx
                clear hx
                by_cases hk0 : x < 1
                · have H : Hid (R = ((0, []), 0, 2)) := (by rw [HR.out]; unfold Fr.first; rw [hgf, HG.out, if_neg (by simp), if_neg (by simp; omega), if_neg (by rw [hlen.out]; exact hel), if_pos (by simp only []; rw [← Hx.out]; omega)] : R = ((0, []), 0, 2))
                  go_wp2_with (go_at_call 131; refine hget.mono ?_; rintro e w1 ⟨rfl, hbel1⟩; obtain ⟨hc1, hf1⟩ := bcell hbel1; have hb1 := hb0.trans (hbel1.mono hb0.size); have hs1 : w.heap.size < w1.heap.size := (by have := hbel1.size; simp at this; omega); have hcell1 := (hr.below hb1 (Nat.le_refl _)).cell g2 hlt2; rw [← Hx.out] at hcell1)
                  exact bodyPost_ret (v := .tuple #[.agg #[.int .i64 0, .slice none 0 0], .int .i64 0, .int .i64 2]) (by simp [results, Tryz.results116, go_sem, hs1, hc1]) rfl ⟨none, 0, by rw [H.out]; rfl, by rw [H.out]; exact World.ownsRow_nil _ _ _ _, by first | exact hb1 | exact (hb1.setCell (Nat.le_refl _) _).setCell (Nat.le_refl _) _ | exact ((hb1.setCell (Nat.le_refl _) _).setCell (Nat.le_refl _) _).alloc (by simp; omega) _⟩
                · have hk0' : decide ((x : Int) < 1) = false := by simp; omega
                  by_cases hk250 : 250 < x
                  · have H : Hid (R = ((0, []), 0, 2)) := (by rw [HR.out]; unfold Fr.first; rw [hgf, HG.out, if_neg (by simp), if_neg (by simp; omega), if_neg (by rw [hlen.out]; exact hel), if_pos (by simp only []; rw [← Hx.out]; omega)] : R = ((0, []), 0, 2))
                    go_wp2_with (go_at_call 131; refine hget.mono ?_; rintro e w1 ⟨rfl, hbel1⟩; obtain ⟨hc1, hf1⟩ := bcell hbel1; have hb1 := hb0.trans (hbel1.mono hb0.size); have hs1 : w.heap.size < w1.heap.size := (by have := hbel1.size; simp at this; omega); have hcell1 := (hr.below hb1 (Nat.le_refl _)).cell g2 hlt2; rw [← Hx.out] at hcell1)
                    exact bodyPost_ret (v := .tuple #[.agg #[.int .i64 0, .slice none 0 0], .int .i64 0, .int .i64 2]) (by simp [results, Tryz.results116, go_sem, hs1, hc1]) rfl ⟨none, 0, by rw [H.out]; rfl, by rw [H.out]; exact World.ownsRow_nil _ _ _ _, by first | exact hb1 | exact (hb1.setCell (Nat.le_refl _) _).setCell (Nat.le_refl _) _ | exact ((hb1.setCell (Nat.le_refl _) _).setCell (Nat.le_refl _) _).alloc (by simp; omega) _⟩
                  · have hk250' : decide (250 < (x : Int)) = false := by simp; omega
                    by_cases hsh : len < g2 + 1 + g1 + 4
                    · have H : Hid (R = ((0, []), 0, 5)) := (by rw [HR.out]; unfold Fr.first; rw [hgf, HG.out, if_neg (by simp), if_neg (by simp; omega), if_neg (by rw [hlen.out]; exact hel), if_neg (by simp only []; rw [← Hx.out]; omega), if_pos (by simp only []; rw [hlen.out]; exact hsh)] : R = ((0, []), 0, 5))
                      go_wp2_with (go_at_call 131; refine hget.mono ?_; rintro e w1 ⟨rfl, hbel1⟩; obtain ⟨hc1, hf1⟩ := bcell hbel1; have hb1 := hb0.trans (hbel1.mono hb0.size); have hs1 : w.heap.size < w1.heap.size := (by have := hbel1.size; simp at this; omega); have hcell1 := (hr.below hb1 (Nat.le_refl _)).cell g2 hlt2; rw [← Hx.out] at hcell1)
                      exact bodyPost_ret (v := .tuple #[.agg #[.int .i64 0, .slice none 0 0], .int .i64 0, .int .i64 5]) (by simp [results, Tryz.results116, go_sem, hs1, hc1]) rfl ⟨none, 0, by rw [H.out]; rfl, by rw [H.out]; exact World.ownsRow_nil _ _ _ _, by first | exact hb1 | exact (hb1.setCell (Nat.le_refl _) _).setCell (Nat.le_refl _) _ | exact ((hb1.setCell (Nat.le_refl _) _).setCell (Nat.le_refl _) _).alloc (by simp; omega) _⟩
                    · generalize hbody : (bs.drop (g2 + 1)).take g1 = body at *
                      have Hb : Hid ((bs.drop (g2 + 1)).take g1 = body) := hbody
                      have hbl : Hid (body.length = g1) := (by rw [← hbody, List.length_take, List.length_drop, hlen.out]; omega : body.length = g1)
                      have hbs8 : ∀ y ∈ body, y < lim .u8 := by rw [← hbody]; exact take_small (drop_small hr.2.2.1 _) _
                      clear hbody
                      have hm : Hid (g2 + 1 + g1 - (g2 + 1) = g1) := (by omega : g2 + 1 + g1 - (g2 + 1) = g1)
                      go_wp2_with (first
                        | (go_at_call 131; refine hget.mono ?_; rintro e w1 ⟨rfl, hbel1⟩; obtain ⟨hc1, hf1⟩ := bcell hbel1; have hb1 := hb0.trans (hbel1.mono hb0.size); have hs1 : w.heap.size < w1.heap.size := (by have := hbel1.size; simp at this; omega); have hcell1 := (hr.below hb1 (Nat.le_refl _)).cell g2 hlt2; rw [← Hx.out] at hcell1)
                        | (at_builtin; have := hs1; go_must (refine append_u8 (w0 := w1.alloc (.cells #[.int .i64 (x : Nat), .slice none 0 0] 113)) (B := w1.heap.size + 1) rfl (.tmp 79) (.tmp 84) rfl _ 0 [] rfl (made_at _ _ _ (by simp) (by simp)) _ (g2 + 1 + g1 - (g2 + 1)) _ body rfl (by rw [hm.out]; exact Hb.out ▸ ((((hr.below hb1 (Nat.le_refl _)).below ((Below.refl _ _).alloc (Nat.le_refl _) _) (Nat.le_refl _)).below ((Below.refl _ _).alloc (Nat.le_refl _) _) (Nat.le_refl _)).drop (g2 + 1) (by omega)).take g1 (by omega)) (fun h => by cases h) (by omega) ((Below.refl _ _).alloc (by simp) _) (by simp) ?_; intro A C w2 hown2 hbel2 hsz2; have hm0 : 0 + (g2 + 1 + g1 - (g2 + 1)) = g1 := (by omega); rw [hm0, List.nil_append] at hown2; rw [hm0]; clear hm0; obtain ⟨hc2, hf2⟩ := bcell (W := w1.alloc (.cells #[.int .i64 (x : Nat), .slice none 0 0] 113)) (w1 := w2) (by simpa using hbel2))))
                      obtain ⟨W3, hW3, hF0, hF1, hN0, hN1, hz0, hz1, hB3, hown3, hsz3⟩ := first_world hb1 hs1 (fun i => hc1 _ i (by simp)) (fun i => hf1 _ i (by simp)) hbel2 hown2
                      rw [← hW3]
                      have hr3 := hr.below hB3 (Nat.le_refl _)
                      have hrb3 := (row_of_owns hown3 hbs8 (by omega)).1
                      have hnb3 := (row_of_owns hown3 hbs8 (by omega)).2.1
                      have hrt3 := hr3.take (g2 + 1 + g1 + 4) (by omega)
                      clear hW3 hc1 hf1 hc2 hf2 hbel1 hbel2 hown2 hb1 hcell1 hsz2 hget
                      have hMN : w.heap.size < w1.heap.size := hs1
                      generalize w1.heap.size = M at *
                      clear hs1
                      have hput := fun W h => refput1_any x A g1 C body W (by omega) (by omega) (by omega) (hrb3.below h (Nat.le_refl _)) hnb3
                      have hps : ∀ y ∈ Fr.put1 x body, y < lim .u8 := Fr.put1_small (by omega) hbs8
                      have hpl : Hid ((Fr.put1 x body).length ≤ 200000) := (by rw [Fr.put1_len, hbl.out]; have := Fr.size_le (n := g1) (by omega); omega : (Fr.put1 x body).length ≤ 200000)
                      have hR0 : Hid (R = if Fr.put1 x body = bs.take (g2 + 1 + g1 + 4) then (((x : Int), body), g2 + 1 + g1 + 4, 0) else ((0, []), 0, 2)) := (by rw [HR.out]; unfold Fr.first; rw [hgf, HG.out, if_neg (by simp), if_neg (by simp; omega), if_neg (by rw [hlen.out]; exact hel), if_neg (by simp only []; rw [← Hx.out]; omega), if_neg (by simp only []; rw [hlen.out]; exact hsh)]; simp only []; rw [← Hx.out, Hb.out] : R = if Fr.put1 x body = bs.take (g2 + 1 + g1 + 4) then (((x : Int), body), g2 + 1 + g1 + 4, 0) else ((0, []), 0, 2))
                      generalize Fr.put1 x body = q at *
                      have i2 : (g2 : Int) + 1 + g1 + 4 ≤ (cap : Int) := by omega
                      have i3 : (0 : Int) ≤ (g2 : Int) + 1 + g1 + 4 := by omega
                      have i4 : IntKind.i64.wrap ((g2 : Int) + 1 + g1 + 4) = (g2 : Int) + 1 + g1 + 4 := by rw [IntKind.wrap_i64]; omega
                      by_cases hq : q = bs.take (g2 + 1 + g1 + 4)
                      · have hd : decide (q = bs.take (g2 + 1 + g1 + 4)) = true := by simp [hq]
                        have H : Hid (R = (((x : Int), body), g2 + 1 + g1 + 4, 0)) := (by rw [hR0.out, if_pos hq] : R = (((x : Int), body), g2 + 1 + g1 + 4, 0))
                        clear hq hR0
                        go_region_held3 (fun w' => w'.cell? ⟨M, 0, none⟩ = some (.int .i64 (x : Nat)) ∧ w'.cell? ⟨M, 1, none⟩ = some (.slice A g1 C)) (first | go_keep | (refine ⟨?_, ?_⟩ <;> assumption))
                          (first
                            | ((go_at_call 118; refine (hput _ ((Below.refl _ _).drew)).mono ?_; rintro e w5 ⟨a5, c5, rfl, hown5, hbel5⟩; have hbel5' := below_of_drew hbel5; have hk0 := (hbel5'.cell (p := ⟨M, 0, none⟩) (by simp; omega)).trans hF0; have hk1 := (hbel5'.cell (p := ⟨M, 1, none⟩) (by simp; omega)).trans hF1))
                            | ((go_at_call 21; have := hown5; refine (bytes_any _ _ _ _ _ _ _ _ _ (row_of_owns hown5 hps (by have := hpl.out; omega)).1 (hrt3.below hbel5' (Nat.le_refl _))).mono ?_; rintro e w6 ⟨rfl, m6, rfl⟩)))
                        have n0 := (hbel5'.cell (p := ⟨w.heap.size, 0, none⟩) (by simp; omega)).trans hN0
                        have n1 := (hbel5'.cell (p := ⟨w.heap.size, 1, none⟩) (by simp; omega)).trans hN1
                        have f0 := (hbel5'.frozen (p := ⟨w.heap.size, 0, none⟩) (by simp; omega)).trans hz0
                        have f1 := (hbel5'.frozen (p := ⟨w.heap.size, 1, none⟩) (by simp; omega)).trans hz1
                        have hB5 := (hB3.trans (hbel5'.mono hB3.size)).trans (below_drewN _ _ m6)
                        have hown6 := owns_below (owns_below hown3 hbel5') (below_drewN _ _ m6)
                        clear hown3 hown5 hbel5 hbel5' hput hrb3 hr3 hrt3
                        go_wp2
                        refine bodyPost_ret (v := .tuple #[.agg #[.int .i64 (x : Nat), .slice A g1 C], .int .i64 ((g2 + 1 + g1 + 4 : Nat) : Int), .int .i64 0]) (by simp [results, Tryz.results116, go_sem, n0, n1]) rfl ⟨A, C, ?_, ?_, (hB5.setCell (Nat.le_refl _) _).setCell (Nat.le_refl _) _⟩
                        · rw [H.out]; simp only []; rw [hbl.out]; rfl
                        · rw [H.out]; simp only []; rw [hbl.out]
                          exact (ownsRow_setCell_below (ownsRow_setCell_below hown6 (by simp; omega) _) (by simp; omega) _).mono (by omega)
                      · have hd : decide (q = bs.take (g2 + 1 + g1 + 4)) = false := by simp [hq]
                        have H : Hid (R = ((0, []), 0, 2)) := (by rw [hR0.out, if_neg hq] : R = ((0, []), 0, 2))
                        clear hq hR0
                        go_region_held3 (fun w' => w'.cell? ⟨M, 0, none⟩ = some (.int .i64 (x : Nat)) ∧ w'.cell? ⟨M, 1, none⟩ = some (.slice A g1 C)) (first | go_keep | (refine ⟨?_, ?_⟩ <;> assumption))
                          (first
                            | ((go_at_call 118; refine (hput _ ((Below.refl _ _).drew)).mono ?_; rintro e w5 ⟨a5, c5, rfl, hown5, hbel5⟩; have hbel5' := below_of_drew hbel5; have hk0 := (hbel5'.cell (p := ⟨M, 0, none⟩) (by simp; omega)).trans hF0; have hk1 := (hbel5'.cell (p := ⟨M, 1, none⟩) (by simp; omega)).trans hF1))
                            | ((go_at_call 21; have := hown5; refine (bytes_any _ _ _ _ _ _ _ _ _ (row_of_owns hown5 hps (by have := hpl.out; omega)).1 (hrt3.below hbel5' (Nat.le_refl _))).mono ?_; rintro e w6 ⟨rfl, m6, rfl⟩)))
                        have n0 := (hbel5'.cell (p := ⟨w.heap.size, 0, none⟩) (by simp; omega)).trans hN0
                        have n1 := (hbel5'.cell (p := ⟨w.heap.size, 1, none⟩) (by simp; omega)).trans hN1
                        have f0 := (hbel5'.frozen (p := ⟨w.heap.size, 0, none⟩) (by simp; omega)).trans hz0
                        have f1 := (hbel5'.frozen (p := ⟨w.heap.size, 1, none⟩) (by simp; omega)).trans hz1
                        have hB5 := (hB3.trans (hbel5'.mono hB3.size)).trans (below_drewN _ _ m6)
                        clear hown3 hown5 hbel5 hbel5' hput hrb3 hr3 hrt3
                        go_wp2
                        refine bodyPost_ret (v := .tuple #[.agg #[.int .i64 0, .slice none 0 0], .int .i64 0, .int .i64 2]) (by simp [results, Tryz.results116, go_sem, n0, n1]) rfl ⟨none, 0, ?_, ?_, (hB5.setCell (Nat.le_refl _) _).setCell (Nat.le_refl _) _⟩
                        · rw [H.out]; rfl
                        · rw [H.out]; exact World.ownsRow_nil _ _ _ _
        · have hnek : ((k : Int) == (len : Int)) = false := by simp; omega
          clear hgo hend hk hk3 hh hrow0
          obtain ⟨b, off, rfl, _⟩ := hr.at (by omega)
          have hcellk := (hr.below hb0 (Nat.le_refl _)).cell k hex1
          obtain ⟨y, hy⟩ : ∃ y, y = bs.getD k 0 := ⟨_, rfl⟩
          rw [← hy] at hcellk hex3
          clear hy
          by_cases hz : g2 = 0
          · have H : Hid (R = ((0, []), 0, 2)) := (by rw [HR.out]; unfold Fr.first; rw [hgf, HG.out, if_neg (by simp), if_pos (by simp; omega)] : R = ((0, []), 0, 2))
            subst hz
            go_wp2_with (go_at_call 131; refine hget.mono ?_; rintro e w1 ⟨rfl, hbel1⟩; obtain ⟨hc1, hf1⟩ := bcell hbel1; have hb1 := hb0.trans (hbel1.mono hb0.size); have hs1 : w.heap.size < w1.heap.size := (by have := hbel1.size; simp at this; omega))
            exact bodyPost_ret (v := .tuple #[.agg #[.int .i64 0, .slice none 0 0], .int .i64 0, .int .i64 2]) (by simp [results, Tryz.results116, go_sem, hc1]) rfl ⟨none, 0, by rw [H.out]; rfl, by rw [H.out]; exact World.ownsRow_nil _ _ _ _, by first | exact hb1 | exact (hb1.setCell (Nat.le_refl _) _).setCell (Nat.le_refl _) _ | exact ((hb1.setCell (Nat.le_refl _) _).setCell (Nat.le_refl _) _).alloc (by simp; omega) _⟩
          · have hz' : ((g2 : Int) == 0) = false := by simp; omega
            by_cases hbg : 1048576 < g1
            · have H : Hid (R = ((0, []), 0, 2)) := (by rw [HR.out]; unfold Fr.first; rw [hgf, HG.out, if_neg (by simp), if_pos (by simp; omega)] : R = ((0, []), 0, 2))
              go_wp2_with (go_at_call 131; refine hget.mono ?_; rintro e w1 ⟨rfl, hbel1⟩; obtain ⟨hc1, hf1⟩ := bcell hbel1; have hb1 := hb0.trans (hbel1.mono hb0.size); have hs1 : w.heap.size < w1.heap.size := (by have := hbel1.size; simp at this; omega))
              exact bodyPost_ret (v := .tuple #[.agg #[.int .i64 0, .slice none 0 0], .int .i64 0, .int .i64 2]) (by simp [results, Tryz.results116, go_sem, hc1]) rfl ⟨none, 0, by rw [H.out]; rfl, by rw [H.out]; exact World.ownsRow_nil _ _ _ _, by first | exact hb1 | exact (hb1.setCell (Nat.le_refl _) _).setCell (Nat.le_refl _) _ | exact ((hb1.setCell (Nat.le_refl _) _).setCell (Nat.le_refl _) _).alloc (by simp; omega) _⟩
            · have hbg' : decide (1048576 < (g1 : Int)) = false := by simp; omega
              by_cases hel : g2 = len
              · have H : Hid (R = ((0, []), 0, 5)) := (by rw [HR.out]; unfold Fr.first; rw [hgf, HG.out, if_neg (by simp), if_neg (by simp; omega), if_pos (by rw [hlen.out]; exact hel)] : R = ((0, []), 0, 5))
                subst hel
                go_wp2_with (go_at_call 131; refine hget.mono ?_; rintro e w1 ⟨rfl, hbel1⟩; obtain ⟨hc1, hf1⟩ := bcell hbel1; have hb1 := hb0.trans (hbel1.mono hb0.size); have hs1 : w.heap.size < w1.heap.size := (by have := hbel1.size; simp at this; omega))
                exact bodyPost_ret (v := .tuple #[.agg #[.int .i64 0, .slice none 0 0], .int .i64 0, .int .i64 5]) (by simp [results, Tryz.results116, go_sem, hc1]) rfl ⟨none, 0, by rw [H.out]; rfl, by rw [H.out]; exact World.ownsRow_nil _ _ _ _, by first | exact hb1 | exact (hb1.setCell (Nat.le_refl _) _).setCell (Nat.le_refl _) _ | exact ((hb1.setCell (Nat.le_refl _) _).setCell (Nat.le_refl _) _).alloc (by simp; omega) _⟩
              · have hel' : ((g2 : Int) == (len : Int)) = false := by simp; omega
                have hlt2 : g2 < len := by omega
                have hx8 := getD_lt8 hr.2.2.1 g2
                obtain ⟨x, hx⟩ : ∃ x, x = bs.getD g2 0 := ⟨_, rfl⟩
                rw [← hx] at hx8
                have Hx : Hid (x = bs.getD g2 0) := hx
                clear hx
                by_cases hk0 : x < 1
                · have H : Hid (R = ((0, []), 0, 2)) := (by rw [HR.out]; unfold Fr.first; rw [hgf, HG.out, if_neg (by simp), if_neg (by simp; omega), if_neg (by rw [hlen.out]; exact hel), if_pos (by simp only []; rw [← Hx.out]; omega)] : R = ((0, []), 0, 2))
                  go_wp2_with (go_at_call 131; refine hget.mono ?_; rintro e w1 ⟨rfl, hbel1⟩; obtain ⟨hc1, hf1⟩ := bcell hbel1; have hb1 := hb0.trans (hbel1.mono hb0.size); have hs1 : w.heap.size < w1.heap.size := (by have := hbel1.size; simp at this; omega); have hcell1 := (hr.below hb1 (Nat.le_refl _)).cell g2 hlt2; rw [← Hx.out] at hcell1)
                  exact bodyPost_ret (v := .tuple #[.agg #[.int .i64 0, .slice none 0 0], .int .i64 0, .int .i64 2]) (by simp [results, Tryz.results116, go_sem, hs1, hc1]) rfl ⟨none, 0, by rw [H.out]; rfl, by rw [H.out]; exact World.ownsRow_nil _ _ _ _, by first | exact hb1 | exact (hb1.setCell (Nat.le_refl _) _).setCell (Nat.le_refl _) _ | exact ((hb1.setCell (Nat.le_refl _) _).setCell (Nat.le_refl _) _).alloc (by simp; omega) _⟩
                · have hk0' : decide ((x : Int) < 1) = false := by simp; omega
                  by_cases hk250 : 250 < x
                  · have H : Hid (R = ((0, []), 0, 2)) := (by rw [HR.out]; unfold Fr.first; rw [hgf, HG.out, if_neg (by simp), if_neg (by simp; omega), if_neg (by rw [hlen.out]; exact hel), if_pos (by simp only []; rw [← Hx.out]; omega)] : R = ((0, []), 0, 2))
                    go_wp2_with (go_at_call 131; refine hget.mono ?_; rintro e w1 ⟨rfl, hbel1⟩; obtain ⟨hc1, hf1⟩ := bcell hbel1; have hb1 := hb0.trans (hbel1.mono hb0.size); have hs1 : w.heap.size < w1.heap.size := (by have := hbel1.size; simp at this; omega); have hcell1 := (hr.below hb1 (Nat.le_refl _)).cell g2 hlt2; rw [← Hx.out] at hcell1)
                    exact bodyPost_ret (v := .tuple #[.agg #[.int .i64 0, .slice none 0 0], .int .i64 0, .int .i64 2]) (by simp [results, Tryz.results116, go_sem, hs1, hc1]) rfl ⟨none, 0, by rw [H.out]; rfl, by rw [H.out]; exact World.ownsRow_nil _ _ _ _, by first | exact hb1 | exact (hb1.setCell (Nat.le_refl _) _).setCell (Nat.le_refl _) _ | exact ((hb1.setCell (Nat.le_refl _) _).setCell (Nat.le_refl _) _).alloc (by simp; omega) _⟩
                  · have hk250' : decide (250 < (x : Int)) = false := by simp; omega
                    by_cases hsh : len < g2 + 1 + g1 + 4
                    · have H : Hid (R = ((0, []), 0, 5)) := (by rw [HR.out]; unfold Fr.first; rw [hgf, HG.out, if_neg (by simp), if_neg (by simp; omega), if_neg (by rw [hlen.out]; exact hel), if_neg (by simp only []; rw [← Hx.out]; omega), if_pos (by simp only []; rw [hlen.out]; exact hsh)] : R = ((0, []), 0, 5))
                      go_wp2_with (go_at_call 131; refine hget.mono ?_; rintro e w1 ⟨rfl, hbel1⟩; obtain ⟨hc1, hf1⟩ := bcell hbel1; have hb1 := hb0.trans (hbel1.mono hb0.size); have hs1 : w.heap.size < w1.heap.size := (by have := hbel1.size; simp at this; omega); have hcell1 := (hr.below hb1 (Nat.le_refl _)).cell g2 hlt2; rw [← Hx.out] at hcell1)
                      exact bodyPost_ret (v := .tuple #[.agg #[.int .i64 0, .slice none 0 0], .int .i64 0, .int .i64 5]) (by simp [results, Tryz.results116, go_sem, hs1, hc1]) rfl ⟨none, 0, by rw [H.out]; rfl, by rw [H.out]; exact World.ownsRow_nil _ _ _ _, by first | exact hb1 | exact (hb1.setCell (Nat.le_refl _) _).setCell (Nat.le_refl _) _ | exact ((hb1.setCell (Nat.le_refl _) _).setCell (Nat.le_refl _) _).alloc (by simp; omega) _⟩
                    · generalize hbody : (bs.drop (g2 + 1)).take g1 = body at *
                      have Hb : Hid ((bs.drop (g2 + 1)).take g1 = body) := hbody
                      have hbl : Hid (body.length = g1) := (by rw [← hbody, List.length_take, List.length_drop, hlen.out]; omega : body.length = g1)
                      have hbs8 : ∀ y ∈ body, y < lim .u8 := by rw [← hbody]; exact take_small (drop_small hr.2.2.1 _) _
                      clear hbody
                      have hm : Hid (g2 + 1 + g1 - (g2 + 1) = g1) := (by omega : g2 + 1 + g1 - (g2 + 1) = g1)
                      go_wp2_with (first
                        | (go_at_call 131; refine hget.mono ?_; rintro e w1 ⟨rfl, hbel1⟩; obtain ⟨hc1, hf1⟩ := bcell hbel1; have hb1 := hb0.trans (hbel1.mono hb0.size); have hs1 : w.heap.size < w1.heap.size := (by have := hbel1.size; simp at this; omega); have hcell1 := (hr.below hb1 (Nat.le_refl _)).cell g2 hlt2; rw [← Hx.out] at hcell1)
                        | (at_builtin; have := hs1; go_must (refine append_u8 (w0 := w1.alloc (.cells #[.int .i64 (x : Nat), .slice none 0 0] 113)) (B := w1.heap.size + 1) rfl (.tmp 79) (.tmp 84) rfl _ 0 [] rfl (made_at _ _ _ (by simp) (by simp)) _ (g2 + 1 + g1 - (g2 + 1)) _ body rfl (by rw [hm.out]; exact Hb.out ▸ ((((hr.below hb1 (Nat.le_refl _)).below ((Below.refl _ _).alloc (Nat.le_refl _) _) (Nat.le_refl _)).below ((Below.refl _ _).alloc (Nat.le_refl _) _) (Nat.le_refl _)).drop (g2 + 1) (by omega)).take g1 (by omega)) (fun h => by cases h) (by omega) ((Below.refl _ _).alloc (by simp) _) (by simp) ?_; intro A C w2 hown2 hbel2 hsz2; have hm0 : 0 + (g2 + 1 + g1 - (g2 + 1)) = g1 := (by omega); rw [hm0, List.nil_append] at hown2; rw [hm0]; clear hm0; obtain ⟨hc2, hf2⟩ := bcell (W := w1.alloc (.cells #[.int .i64 (x : Nat), .slice none 0 0] 113)) (w1 := w2) (by simpa using hbel2))))
                      obtain ⟨W3, hW3, hF0, hF1, hN0, hN1, hz0, hz1, hB3, hown3, hsz3⟩ := first_world hb1 hs1 (fun i => hc1 _ i (by simp)) (fun i => hf1 _ i (by simp)) hbel2 hown2
                      rw [← hW3]
                      have hr3 := hr.below hB3 (Nat.le_refl _)
                      have hrb3 := (row_of_owns hown3 hbs8 (by omega)).1
                      have hnb3 := (row_of_owns hown3 hbs8 (by omega)).2.1
                      have hrt3 := hr3.take (g2 + 1 + g1 + 4) (by omega)
                      clear hW3 hc1 hf1 hc2 hf2 hbel1 hbel2 hown2 hb1 hcell1 hsz2 hget
                      have hMN : w.heap.size < w1.heap.size := hs1
                      generalize w1.heap.size = M at *
                      clear hs1
                      have hput := fun W h => refput1_any x A g1 C body W (by omega) (by omega) (by omega) (hrb3.below h (Nat.le_refl _)) hnb3
                      have hps : ∀ y ∈ Fr.put1 x body, y < lim .u8 := Fr.put1_small (by omega) hbs8
                      have hpl : Hid ((Fr.put1 x body).length ≤ 200000) := (by rw [Fr.put1_len, hbl.out]; have := Fr.size_le (n := g1) (by omega); omega : (Fr.put1 x body).length ≤ 200000)
                      have hR0 : Hid (R = if Fr.put1 x body = bs.take (g2 + 1 + g1 + 4) then (((x : Int), body), g2 + 1 + g1 + 4, 0) else ((0, []), 0, 2)) := (by rw [HR.out]; unfold Fr.first; rw [hgf, HG.out, if_neg (by simp), if_neg (by simp; omega), if_neg (by rw [hlen.out]; exact hel), if_neg (by simp only []; rw [← Hx.out]; omega), if_neg (by simp only []; rw [hlen.out]; exact hsh)]; simp only []; rw [← Hx.out, Hb.out] : R = if Fr.put1 x body = bs.take (g2 + 1 + g1 + 4) then (((x : Int), body), g2 + 1 + g1 + 4, 0) else ((0, []), 0, 2))
                      generalize Fr.put1 x body = q at *
                      have i2 : (g2 : Int) + 1 + g1 + 4 ≤ (cap : Int) := by omega
                      have i3 : (0 : Int) ≤ (g2 : Int) + 1 + g1 + 4 := by omega
                      have i4 : IntKind.i64.wrap ((g2 : Int) + 1 + g1 + 4) = (g2 : Int) + 1 + g1 + 4 := by rw [IntKind.wrap_i64]; omega
                      by_cases hq : q = bs.take (g2 + 1 + g1 + 4)
                      · have hd : decide (q = bs.take (g2 + 1 + g1 + 4)) = true := by simp [hq]
                        have H : Hid (R = (((x : Int), body), g2 + 1 + g1 + 4, 0)) := (by rw [hR0.out, if_pos hq] : R = (((x : Int), body), g2 + 1 + g1 + 4, 0))
                        clear hq hR0
                        go_region_held3 (fun w' => w'.cell? ⟨M, 0, none⟩ = some (.int .i64 (x : Nat)) ∧ w'.cell? ⟨M, 1, none⟩ = some (.slice A g1 C)) (first | go_keep | (refine ⟨?_, ?_⟩ <;> assumption))
                          (first
                            | ((go_at_call 118; refine (hput _ ((Below.refl _ _).drew)).mono ?_; rintro e w5 ⟨a5, c5, rfl, hown5, hbel5⟩; have hbel5' := below_of_drew hbel5; have hk0 := (hbel5'.cell (p := ⟨M, 0, none⟩) (by simp; omega)).trans hF0; have hk1 := (hbel5'.cell (p := ⟨M, 1, none⟩) (by simp; omega)).trans hF1))
                            | ((go_at_call 21; have := hown5; refine (bytes_any _ _ _ _ _ _ _ _ _ (row_of_owns hown5 hps (by have := hpl.out; omega)).1 (hrt3.below hbel5' (Nat.le_refl _))).mono ?_; rintro e w6 ⟨rfl, m6, rfl⟩)))
                        have n0 := (hbel5'.cell (p := ⟨w.heap.size, 0, none⟩) (by simp; omega)).trans hN0
                        have n1 := (hbel5'.cell (p := ⟨w.heap.size, 1, none⟩) (by simp; omega)).trans hN1
                        have f0 := (hbel5'.frozen (p := ⟨w.heap.size, 0, none⟩) (by simp; omega)).trans hz0
                        have f1 := (hbel5'.frozen (p := ⟨w.heap.size, 1, none⟩) (by simp; omega)).trans hz1
                        have hB5 := (hB3.trans (hbel5'.mono hB3.size)).trans (below_drewN _ _ m6)
                        have hown6 := owns_below (owns_below hown3 hbel5') (below_drewN _ _ m6)
                        clear hown3 hown5 hbel5 hbel5' hput hrb3 hr3 hrt3
                        go_wp2
                        refine bodyPost_ret (v := .tuple #[.agg #[.int .i64 (x : Nat), .slice A g1 C], .int .i64 ((g2 + 1 + g1 + 4 : Nat) : Int), .int .i64 0]) (by simp [results, Tryz.results116, go_sem, n0, n1]) rfl ⟨A, C, ?_, ?_, (hB5.setCell (Nat.le_refl _) _).setCell (Nat.le_refl _) _⟩
                        · rw [H.out]; simp only []; rw [hbl.out]; rfl
                        · rw [H.out]; simp only []; rw [hbl.out]
                          exact (ownsRow_setCell_below (ownsRow_setCell_below hown6 (by simp; omega) _) (by simp; omega) _).mono (by omega)
                      · have hd : decide (q = bs.take (g2 + 1 + g1 + 4)) = false := by simp [hq]
                        have H : Hid (R = ((0, []), 0, 2)) := (by rw [hR0.out, if_neg hq] : R = ((0, []), 0, 2))
                        clear hq hR0
                        go_region_held3 (fun w' => w'.cell? ⟨M, 0, none⟩ = some (.int .i64 (x : Nat)) ∧ w'.cell? ⟨M, 1, none⟩ = some (.slice A g1 C)) (first | go_keep | (refine ⟨?_, ?_⟩ <;> assumption))
                          (first
                            | ((go_at_call 118; refine (hput _ ((Below.refl _ _).drew)).mono ?_; rintro e w5 ⟨a5, c5, rfl, hown5, hbel5⟩; have hbel5' := below_of_drew hbel5; have hk0 := (hbel5'.cell (p := ⟨M, 0, none⟩) (by simp; omega)).trans hF0; have hk1 := (hbel5'.cell (p := ⟨M, 1, none⟩) (by simp; omega)).trans hF1))
                            | ((go_at_call 21; have := hown5; refine (bytes_any _ _ _ _ _ _ _ _ _ (row_of_owns hown5 hps (by have := hpl.out; omega)).1 (hrt3.below hbel5' (Nat.le_refl _))).mono ?_; rintro e w6 ⟨rfl, m6, rfl⟩)))
                        have n0 := (hbel5'.cell (p := ⟨w.heap.size, 0, none⟩) (by simp; omega)).trans hN0
                        have n1 := (hbel5'.cell (p := ⟨w.heap.size, 1, none⟩) (by simp; omega)).trans hN1
                        have f0 := (hbel5'.frozen (p := ⟨w.heap.size, 0, none⟩) (by simp; omega)).trans hz0
                        have f1 := (hbel5'.frozen (p := ⟨w.heap.size, 1, none⟩) (by simp; omega)).trans hz1
                        have hB5 := (hB3.trans (hbel5'.mono hB3.size)).trans (below_drewN _ _ m6)
                        clear hown3 hown5 hbel5 hbel5' hput hrb3 hr3 hrt3
                        go_wp2
                        refine bodyPost_ret (v := .tuple #[.agg #[.int .i64 0, .slice none 0 0], .int .i64 0, .int .i64 2]) (by simp [results, Tryz.results116, go_sem, n0, n1]) rfl ⟨none, 0, ?_, ?_, (hB5.setCell (Nat.le_refl _) _).setCell (Nat.le_refl _) _⟩
                        · rw [H.out]; rfl
                        · rw [H.out]; exact World.ownsRow_nil _ _ _ _
end Go.Proofs.YtnoknmnbfkdccaaGreatDoor

/- Frames that a call makes of its own: a row of frames, their bodies rows of their own. -/
namespace Go.Proofs.YtnoknmnbfkdccaaGreatDoor
open Go.RowKit

theorem Tryz.info113 : (Tryz.prog.info? 113).map (fun i => (i.zero, i.size, i.bytes)) = some (some (.agg #[.int .i64 0, .slice none 0 0]), 2, 32) := by kernel_rfl
theorem Tryz.info3 : (Tryz.prog.info? 3).map (fun i => (i.zero, i.size, i.bytes)) = some (some (.int .i64 0), 1, 8) := by kernel_rfl

/-- the cells of frames, each body a row of its own -/
def Held (w : World) (B : Nat) : List Fr.F → List Value → Prop
  | [], cs => cs = []
  | f :: fs, cs => ∃ A C rest, cs = .int .i64 f.1 :: .slice A f.2.length C :: rest ∧ w.ownsRow B 5 1 (.slice A f.2.length C) f.2.length (kcells .u8 f.2) ∧ (∀ x ∈ f.2, x < 256) ∧ f.2.length ≤ 1000000000 ∧ (-9223372036854775808 ≤ f.1 ∧ f.1 ≤ 9223372036854775807) ∧ Held w B fs rest
theorem Held.length {w : World} {B : Nat} : ∀ {fs : List Fr.F} {cs : List Value}, Held w B fs cs → cs.length = fs.length * 2 := by
  intro fs
  induction fs with
  | nil => intro cs h; rw [show cs = [] from h]; rfl
  | cons f fs ih => rintro cs ⟨A, C, rest, rfl, _, _, _, _, h⟩; simp [ih h]; omega
theorem Held.snoc {w : World} {B : Nat} {f : Fr.F} {A : Option Addr} {C : Nat} (hf : w.ownsRow B 5 1 (.slice A f.2.length C) f.2.length (kcells .u8 f.2)) (hs : ∀ x ∈ f.2, x < 256) (hl : f.2.length ≤ 1000000000) (hk : -9223372036854775808 ≤ f.1 ∧ f.1 ≤ 9223372036854775807) :
    ∀ {fs : List Fr.F} {cs : List Value}, Held w B fs cs → Held w B (fs ++ [f]) (cs ++ [.int .i64 f.1, .slice A f.2.length C]) := by
  intro fs
  induction fs with
  | nil => intro cs h; rw [show cs = [] from h]; exact ⟨A, C, [], rfl, hf, hs, hl, hk, rfl⟩
  | cons g fs ih => rintro cs ⟨A', C', rest, rfl, h1, h2, h3, h4, h5⟩; exact ⟨A', C', _, rfl, h1, h2, h3, h4, ih h5⟩
theorem Held.below {w w' : World} {B : Nat} (hb : Below w.heap.size w w') : ∀ {fs : List Fr.F} {cs : List Value}, Held w B fs cs → Held w' B fs cs := by
  intro fs
  induction fs with
  | nil => intro cs h; exact h
  | cons f fs ih => rintro cs ⟨A, C, rest, rfl, h1, h2, h3, h4, h5⟩; exact ⟨A, C, rest, rfl, owns_below h1 hb, h2, h3, h4, ih h5⟩
theorem Held.grown {w w' : World} {B B' : Nat} {e : TypeId} {s : Nat} {v : Value} {n : Nat} {xs : List Value} (hv : w.ownsRow B' e s v n xs) (he : (5 : Nat) ≠ e) (hg : w.grownBy w' v.ownBlock) : ∀ {fs : List Fr.F} {cs : List Value}, Held w B fs cs → Held w' B fs cs := by
  intro fs
  induction fs with
  | nil => intro cs h; exact h
  | cons f fs ih => rintro cs ⟨A, C, rest, rfl, h1, h2, h3, h4, h5⟩; exact ⟨A, C, rest, rfl, h1.kept hg (own_apart h1 hv he), h2, h3, h4, ih h5⟩
theorem Held.get {w : World} {B : Nat} : ∀ {fs : List Fr.F} {cs : List Value}, Held w B fs cs → ∀ i, i < fs.length → ∃ A C, cs[i * 2]? = some (.int .i64 (fs.getD i (0, [])).1) ∧ cs[i * 2 + 1]? = some (.slice A (fs.getD i (0, [])).2.length C) ∧
    w.ownsRow B 5 1 (.slice A (fs.getD i (0, [])).2.length C) (fs.getD i (0, [])).2.length (kcells .u8 (fs.getD i (0, [])).2) ∧ (∀ x ∈ (fs.getD i (0, [])).2, x < 256) ∧ (fs.getD i (0, [])).2.length ≤ 1000000000 ∧ (-9223372036854775808 ≤ (fs.getD i (0, [])).1 ∧ (fs.getD i (0, [])).1 ≤ 9223372036854775807) := by
  intro fs
  induction fs with
  | nil => intro cs h i hi; simp at hi
  | cons f fs ih =>
    rintro cs ⟨A, C, rest, rfl, h1, h2, h3, h4, h5⟩ i hi
    cases i with
    | zero => exact ⟨A, C, rfl, rfl, h1, h2, h3, h4⟩
    | succ i =>
      obtain ⟨A', C', q1, q2, q3⟩ := ih h5 i (by simpa using hi)
      refine ⟨A', C', ?_, ?_, q3⟩
      · rw [show (i + 1) * 2 = i * 2 + 1 + 1 by omega]; simpa using q1
      · rw [show (i + 1) * 2 + 1 = i * 2 + 1 + 1 + 1 by omega]; simpa using q2
end Go.Proofs.YtnoknmnbfkdccaaGreatDoor

/- What the reference's Scan does. -/
namespace Go.Proofs.YtnoknmnbfkdccaaGreatDoor
open Go.RowKit

theorem append_i64g {w0 w : World} {B : Nat} {ops : Array Oper} {rest : List Oper} {o : Oper} {a : Act} {Q : Exit → Act → World → Prop} (hgd : o.guard = none) (s x : Operand)
    (ho : o.op = .call { callee := .builtin .append, args := #[s, x], argTypes := #[22, 22] })
    (v : Value) (n : Nat) (xs : List Nat) (hs : a.eval s = v) (hown : w.ownsRow B 3 1 v n (kcells .i64 xs))
    (ad : Option Addr) (m c : Nat) (bs : List Nat) (hx : a.eval x = .slice ad m c) (hrow : Row .i64 w ad m bs) (hnil : ad = none → m = 0 ∧ c = 0)
    (hnm : n + m ≤ 1000000000000) (hbel : Below B w0 w) (hB : B ≤ w.heap.size)
    (h : ∀ a' c' w', w'.ownsRow B 3 1 (.slice a' (n + m) c') (n + m) (kcells .i64 (xs ++ bs)) → Below B w0 w' → B ≤ w'.heap.size → w.grownBy w' v.ownBlock → wpList Tryz.prog ops Q rest (a.put o.dst (.slice a' (n + m) c')) w') : wpList Tryz.prog ops Q (o :: rest) a w := by
  obtain ⟨i0, hi, hz0, hz1, hz2⟩ := info_parts Tryz.info3
  obtain ⟨h1, h2, h3, h4⟩ := hrow
  cases ad with
  | none =>
    obtain ⟨rfl, rfl⟩ := hnil rfl
    obtain rfl : bs = [] := List.length_eq_zero_iff.mp h1
    refine wpList_append_own_none hgd s x 22 ho B 3 i0 1 Tryz.underlying22 hi v n (kcells .i64 xs) hs hown hx ?_
    obtain ⟨a', c', rfl⟩ := slice_of_owns hown
    exact h a' c' w (by simpa using hown) hbel hB ⟨rfl, rfl, rfl, Nat.le_refl _, fun _ _ _ => rfl⟩
  | some ad =>
    refine wpList_append_own w hgd s x 22 ho B 3 i0 (.int .i64 0) 1 8 Tryz.underlying22 hi hz0 hz1 hz2 rfl (by decide) v n (kcells .i64 xs) hs hown ad m c (kcells .i64 bs) hx (by rw [kcells_length]; omega) ?_ ?_ (by unfold maxLen; omega) (by omega) hB ?_
    · intro j u hj
      obtain ⟨hlt, rfl⟩ := kcells_get .i64 bs j u hj
      rcases h4 with h0 | ⟨b, off, e, hc⟩
      · omega
      · obtain rfl : ad = ⟨b, off, none⟩ := by simpa using e
        rw [add_at]; exact hc j (by omega)
    · intro u hu
      simp only [kcells, List.mem_map] at hu
      obtain ⟨n, _, rfl⟩ := hu
      rfl
    · intro v' w' hown' hg _
      obtain ⟨a', c', rfl⟩ := slice_of_owns hown'
      refine h a' c' w' (by rw [kcells_append]; exact hown') (hbel.grown hg hB (fun k hk => (hown.lt k hk).1)) (Nat.le_trans hB hg.size) hg

/-- append of one frame to a row of frames -/
theorem append_fr {w0 w : World} {B : Nat} {ops : Array Oper} {rest : List Oper} {o : Oper} {a : Act} {Q : Exit → Act → World → Prop} (hgd : o.guard = none) (s x : Operand)
    (ho : o.op = .call { callee := .builtin .append, args := #[s, x], argTypes := #[110, 110] })
    (v : Value) (n : Nat) (cs : List Value) (hs : a.eval s = v) (hown : w.ownsRow B 113 2 v n cs)
    (b c : Nat) (c0 c1 : Value) (hx : a.eval x = .slice (some ⟨b, 0, none⟩) 1 c) (h0 : w.cell? ⟨b, 0, none⟩ = some c0) (h1 : w.cell? ⟨b, 1, none⟩ = some c1) (ho0 : c0.oneCell' = true) (ho1 : c1.oneCell' = true)
    (hn : n ≤ 1000000000) (hbel : Below B w0 w) (hB : B ≤ w.heap.size)
    (h : ∀ a' c' w', w'.ownsRow B 113 2 (.slice a' (n + 1) c') (n + 1) (cs ++ [c0, c1]) → Below B w0 w' → B ≤ w'.heap.size → w.grownBy w' v.ownBlock → wpList Tryz.prog ops Q rest (a.put o.dst (.slice a' (n + 1) c')) w') : wpList Tryz.prog ops Q (o :: rest) a w := by
  obtain ⟨i0, hi, hz0, hz1, hz2⟩ := info_parts Tryz.info113
  refine wpList_append_own w hgd s x 110 ho B 113 i0 (.agg #[.int .i64 0, .slice none 0 0]) 2 32 Tryz.underlying110 hi hz0 hz1 hz2 rfl (by decide) v n cs hs hown ⟨b, 0, none⟩ 1 c [c0, c1] hx rfl ?_ ?_ (by unfold maxLen; omega) (by omega) hB ?_
  · intro j u hj
    rw [add_at]
    match j, hj with
    | 0, hj => simp at hj; subst hj; exact h0
    | 1, hj => simp at hj; subst hj; exact h1
    | j + 2, hj => simp at hj
  · intro u hu
    simp at hu
    rcases hu with rfl | rfl
    · exact ho0
    · exact ho1
  · intro v' w' hown' hg _
    rcases hown'.2 with ⟨rfl, h0⟩ | ⟨g, cap, cur, rfl, _⟩
    · omega
    · exact h _ _ w' hown' (hbel.grown hg hB (fun k hk => (hown.lt k hk).1)) (Nat.le_trans hB hg.size) hg

/-- what Scan tells -/
def ScanRes (w : World) (R : List Fr.F × List Nat × Nat) (e : Ending) (w' : World) : Prop :=
  ∃ a1 c1 a2 c2 cs, e = .returned (.tuple #[.slice a1 R.1.length c1, .slice a2 R.1.length c2, .int .i64 (R.2.2 : Nat)]) ∧ w'.ownsRow w.heap.size 113 2 (.slice a1 R.1.length c1) R.1.length cs ∧ Held w' w.heap.size R.1 cs ∧ w'.ownsRow w.heap.size 3 1 (.slice a2 R.1.length c2) R.1.length (kcells .i64 R.2.1) ∧ R.2.1.length = R.1.length ∧ Below w.heap.size w w'

theorem scan_mid {wr w1 w3 : World} {B : Nat} {vl vp : Value} {k : Nat} {cs cs' xs : List Value} {fs : List Fr.F} {c0 c1 : Value}
    (hl : wr.ownsRow B 113 2 vl k cs) (hs1 : wr.heap.size ≤ w1.heap.size) (hl1 : w1.ownsRow B 113 2 vl k cs) (hp1 : w1.ownsRow B 3 1 vp k xs) (hh1 : Held w1 B fs cs')
    (hg : ((w1.alloc (.cells #[c0, c1] 113)).alloc (.cells #[c0, c1] 113)).grownBy w3 vl.ownBlock) :
    w3.cell? ⟨w1.heap.size, 1, none⟩ = some c1 ∧ w3.ownsRow B 3 1 vp k xs ∧ w1.heap.size < w3.heap.size ∧ Held w3 B fs cs' := by
  have hl2 := (hl1.alloc (.cells #[c0, c1] 113)).alloc (.cells #[c0, c1] 113)
  have hp2 := (hp1.alloc (.cells #[c0, c1] 113)).alloc (.cells #[c0, c1] 113)
  have hs := hg.size
  simp only [World.size_alloc] at hs
  refine ⟨?_, hp2.kept hg (own_apart hp2 hl2 (by decide)), by omega, ((hh1.below (below_alloc _ _)).below (below_alloc _ _)).grown hl2 (by decide) hg⟩
  refine (grown_cell hg (p := ⟨w1.heap.size, 1, none⟩) (by simp; omega) (own_lt_ne hl hs1)).trans ?_
  exact (cell_past _ _ ⟨w1.heap.size, 1, none⟩ (by simp)).trans (cell_two w1 c0 c1 113 rfl).2

theorem scan_end {w3 w4 : World} {o : Obj} {B : Nat} {vl vp : Value} {n k : Nat} {cs xs : List Value} {fs : List Fr.F}
    (hl3 : w3.ownsRow B 113 2 vl n cs) (hp3 : w3.ownsRow B 3 1 vp k xs) (hh3 : Held w3 B fs cs) (hg : (w3.alloc o).grownBy w4 vp.ownBlock) : w4.ownsRow B 113 2 vl n cs ∧ Held w4 B fs cs :=
  ⟨(hl3.alloc o).kept hg (own_apart (hl3.alloc o) (hp3.alloc o) (by decide)), (hh3.below (below_alloc _ o)).grown (hp3.alloc o) (by decide) hg⟩

set_option maxRecDepth 100000 in
set_option maxHeartbeats 2000000 in
theorem refscan_any (a : Option Addr) (len cap : Nat) (bs : List Nat) (w : World) (hbig : len ≤ 100000) (hshape : Shape a len cap) (hr : Row .u8 w a len bs) :
    Calls Tryz.prog 91 #[.slice a len cap] w (ScanRes w (Fr.scan bs)) := by
  have hlen : Hid (bs.length = len) := hr.1
  obtain ⟨R, hR⟩ : ∃ R, R = Fr.scan bs := ⟨_, rfl⟩
  rw [← hR]
  have HR : Hid (len + 1 ≤ (len + 1) + 0 ∧ R = Fr.sc (len + 1) bs 0 [] []) := (⟨by omega, by rw [hR, Fr.scan, hlen.out]⟩ : len + 1 ≤ (len + 1) + 0 ∧ R = Fr.sc (len + 1) bs 0 [] [])
  clear hR
  have hb1 := below_alloc w (.cells #[] 113)
  have hb2 : Below w.heap.size w ((w.alloc (.cells #[] 113)).alloc (.cells #[] 3)) := hb1.alloc (by simp) _
  have hl0 := (made_b w 113 2 w.heap.size rfl (Nat.le_refl _)).alloc (.cells #[] 3)
  have hp0 := made_b (w.alloc (.cells #[] 113)) 3 1 w.heap.size (b := w.heap.size + 1) (by simp) (by omega)
  go_enter Tryz.func91, Tryz.ntmps91
  go_wp2
  go_loopw [5, 6, 7] (fun v u t wr => ∃ (k at' m : Nat) (fs : List Fr.F) (ps : List Nat) (cs : List Value) (a1 : Option Addr) (c1 : Nat) (a2 : Option Addr) (c2 : Nat), k ≤ at' ∧ at' ≤ len ∧ t = .int .i64 at' ∧ v = .slice a1 k c1 ∧ u = .slice a2 k c2 ∧
      wr.ownsRow w.heap.size 113 2 (.slice a1 k c1) k cs ∧ Held wr w.heap.size fs cs ∧ wr.ownsRow w.heap.size 3 1 (.slice a2 k c2) k (kcells .i64 ps) ∧ Below w.heap.size w wr ∧ Hid (fs.length = k) ∧ Hid (ps.length = k) ∧ Hid (len + 1 ≤ m + at' ∧ R = Fr.sc m bs at' fs ps))
    (fun _ _ t _ => len + 1 - (intOf t).toNat)
  case atStart => exact ⟨0, 0, len + 1, [], [], [], _, _, _, _, by omega, by omega, rfl, rfl, rfl, hl0, rfl, hp0, hb2, (rfl : [].length = 0), (rfl : [].length = 0), HR⟩
  case round =>
    obtain ⟨k, at', m, fs, ps, cs, a1, c1, a2, c2, hka, hat, rfl, rfl, rfl, hl, hh, hp, hbel, hfk, hpk, H⟩ := hrel
    clear hl0 hp0 hb1 hb2 HR
    have hsz := hbel.size
    have hr' := hr.below hbel (Nat.le_refl _)
    have H0 := H.out.2
    obtain ⟨m', hm'⟩ : ∃ m', m = m' + 1 := ⟨m - 1, by have := H.out.1; omega⟩
    rw [hm'] at H0
    have hfl := Fr.first_le (bs.drop at')
    rw [List.length_drop, hlen.out] at hfl
    obtain ⟨R1, hR1⟩ : ∃ R1, Fr.first (bs.drop at') = R1 := ⟨_, rfl⟩
    have hok := fun h => Fr.first_ok (bs := bs.drop at') h
    rw [hR1] at hfl hok
    obtain ⟨⟨x, y⟩, rn, rc⟩ := R1
    simp only at hfl hok
    rcases hshape with ⟨rfl, rfl⟩ | ⟨b, off, rfl, hc⟩
    · have hrow := hr'.take 0 (by omega)
      obtain rfl : at' = 0 := by omega
      have hbs0 : bs = [] := List.length_eq_zero_iff.mp hlen.out
      have hcz : ¬ rc = 0 := by
        have : Fr.first (bs.drop 0) = ((0, []), 0, 5) := by rw [hbs0]; exact Fr.first_nil
        rw [hR1] at this
        simp at this; omega
      rw [show bs.take 0 = bs.drop 0 by rw [hbs0]; rfl] at hrow
      have hcall := fun c (_ : 0 ≤ c) => reffirst_any a 0 c (bs.drop 0) wr (by omega) (by omega) hrow
      rw [hR1] at hcall
      clear hr hr' hrow hok
      have H2 : Hid (R = (fs, ps, 0)) := (by rw [H0, Fr.sc_no (by rw [hR1]; exact hcz)] : R = (fs, ps, 0))
      clear H0
      have hR1' : Hid (_ = _) := hR1
      clear hR1
      have hcb : ((rc : Int) != 0) = true := by simp; omega
      go_wp2_with (go_at_call 116; refine (hcall _ (by omega)).mono ?_; rintro e w1 ⟨A, C, rfl, hown1, hbel1⟩; have hs1 := hbel1.size)
      have hB1 := hbel.trans (hbel1.mono hsz)
      go_ret3
      refine ⟨a1, c1, a2, c2, cs, ?_, ?_, ?_, ?_, ?_, ?_⟩
      · rw [H2.out]; simp only []; rw [hfk.out]; rfl
      · rw [H2.out]; simp only []; rw [hfk.out]; exact (owns_below hl hbel1).alloc _
      · rw [H2.out]; exact (hh.below hbel1).below (below_alloc _ _)
      · rw [H2.out]; simp only []; rw [hfk.out]; exact (owns_below hp hbel1).alloc _
      · rw [H2.out]; simp only []; rw [hfk.out, hpk.out]
      · exact hB1.alloc hB1.size _
    · by_cases hcap : cap = at'
      · have hrow : Row .u8 wr (some ⟨b, off, none⟩) (len - at') (bs.drop at') := by
          have h1 := hr'.drop at' hat
          exact ⟨h1.1, h1.2.1, h1.2.2.1, .inl (by omega)⟩
        have hcz : ¬ rc = 0 := by
          have : Fr.first (bs.drop at') = ((0, []), 0, 5) := by rw [List.drop_of_length_le (by rw [hlen.out]; omega)]; exact Fr.first_nil
          rw [hR1] at this
          simp at this; omega
        have hcall := fun c (h : len - at' ≤ c) => reffirst_any (some ⟨b, off, none⟩) (len - at') c (bs.drop at') wr h (by omega) hrow
        rw [hR1] at hcall
        clear hr hr' hrow hok
        have H2 : Hid (R = (fs, ps, at')) := (by rw [H0, Fr.sc_no (by rw [hR1]; exact hcz)] : R = (fs, ps, at'))
        clear H0
        have hR1' : Hid (_ = _) := hR1
        clear hR1
        have hcb : ((rc : Int) != 0) = true := by simp; omega
        go_wp2_with (go_at_call 116; refine (hcall _ (by omega)).mono ?_; rintro e w1 ⟨A, C, rfl, hown1, hbel1⟩; have hs1 := hbel1.size)
        have hB1 := hbel.trans (hbel1.mono hsz)
        go_ret3
        refine ⟨a1, c1, a2, c2, cs, ?_, ?_, ?_, ?_, ?_, ?_⟩
        · rw [H2.out]; simp only []; rw [hfk.out]; rfl
        · rw [H2.out]; simp only []; rw [hfk.out]; exact (owns_below hl hbel1).alloc _
        · rw [H2.out]; exact (hh.below hbel1).below (below_alloc _ _)
        · rw [H2.out]; simp only []; rw [hfk.out]; exact (owns_below hp hbel1).alloc _
        · rw [H2.out]; simp only []; rw [hfk.out, hpk.out]
        · exact hB1.alloc hB1.size _
      · have hrow := hr'.drop at' hat
        have hcall := fun c (h : len - at' ≤ c) => reffirst_any (some ⟨b, off + at', none⟩) (len - at') c (bs.drop at') wr h (by omega) hrow
        rw [hR1] at hcall
        clear hr' hrow
        by_cases hcz : rc = 0
        · subst hcz
          obtain ⟨o1, o2, o3, o4, o5⟩ := hok rfl
          have hys : ∀ z ∈ y, z < 256 := by
            rw [o3]; exact take_small (drop_small (drop_small hr.2.2.1 _) _) _
          clear o3 hok hr
          rw [Fr.sc_ok (by rw [hR1]), hR1] at H0
          simp only at H0
          have H2 : Hid (len + 1 ≤ m' + (at' + rn) ∧ R = Fr.sc m' bs (at' + rn) (fs ++ [(x, y)]) (ps ++ [at' + rn - 4 - y.length])) := (⟨by have := H.out.1; omega, H0⟩ : len + 1 ≤ m' + (at' + rn) ∧ R = Fr.sc m' bs (at' + rn) (fs ++ [(x, y)]) (ps ++ [at' + rn - 4 - y.length]))
          clear H0 H hR1 hm'
          go_wp2_with (first
            | (go_at_call 116; go_must (refine (hcall _ (by omega)).mono ?_; rintro e w1 ⟨A, C, rfl, hown1, hbel1⟩; have hs1 := hbel1.size; have hl1 := owns_below hl hbel1; have hp1 := owns_below hp hbel1; have hB1 := hbel.trans (hbel1.mono hsz); have hh1 := Held.snoc (f := (x, y)) (hown1.mono hsz) hys (show y.length ≤ 1000000000 by omega) ⟨(show -9223372036854775808 ≤ x by omega), (show x ≤ 9223372036854775807 by omega)⟩ (hh.below hbel1); simp only at hh1))
            | (at_builtin; have := hl3; go_must (refine append_i64g (w0 := w) (B := w.heap.size) rfl (.tmp 31) (.tmp 40) rfl _ k ps rfl (hp3.alloc _) _ 1 1 [at' + rn - 4 - y.length] rfl (row_newz .i64 _ 3 _ (at' + rn - 4 - y.length) (by omega) (by show _ < 18446744073709551616; omega)) (fun h => by cases h) (by omega) (hB3.alloc hs3 _) (by simp; omega) ?_; intro a4 c4 w4 hp4 hB4 hs4 hg4))
            | (at_builtin; have := hl1; go_must (refine append_fr (w0 := w) (B := w.heap.size) rfl (.tmp 27) (.tmp 29) rfl _ k cs rfl ((hl1.alloc _).alloc _) (w1.heap.size + 1) 1 (.int .i64 x) (.slice A y.length C) rfl (cell_two _ _ _ _ (by simp)).1 (cell_two _ _ _ _ (by simp)).2 rfl rfl (by omega) ((hB1.alloc hB1.size _).alloc (by simp; have := hB1.size; omega) _) (by simp; have := hB1.size; omega) ?_; intro a3 c3 w3 hl3 hB3 hs3 hg3; obtain ⟨hF, hp3, hlt3, hh3⟩ := scan_mid hl hs1 hl1 hp1 hh1 hg3)))
          obtain ⟨hl4, hh4⟩ := scan_end hl3 hp3 hh3 hg4
          go_roundw
          case rel => exact ⟨k + 1, at' + rn, m', _, _, _, a3, c3, a4, c4, by omega, by omega, val_int (by omega), rfl, rfl, hl4, hh4, hp4, hB4, (by rw [List.length_append, hfk.out]; rfl : (fs ++ [(x, y)]).length = k + 1), (by rw [List.length_append, hpk.out]; rfl : (ps ++ [at' + rn - 4 - y.length]).length = k + 1), H2⟩
          case measure => simp [intOf]; omega
        · clear hr hok
          have H2 : Hid (R = (fs, ps, at')) := (by rw [H0, Fr.sc_no (by rw [hR1]; exact hcz)] : R = (fs, ps, at'))
          clear H0
          have hR1' : Hid (_ = _) := hR1
          clear hR1
          have hcb : ((rc : Int) != 0) = true := by simp; omega
          go_wp2_with (go_at_call 116; refine (hcall _ (by omega)).mono ?_; rintro e w1 ⟨A, C, rfl, hown1, hbel1⟩; have hs1 := hbel1.size)
          have hB1 := hbel.trans (hbel1.mono hsz)
          go_ret3
          refine ⟨a1, c1, a2, c2, cs, ?_, ?_, ?_, ?_, ?_, ?_⟩
          · rw [H2.out]; simp only []; rw [hfk.out]; rfl
          · rw [H2.out]; simp only []; rw [hfk.out]; exact (owns_below hl hbel1).alloc _
          · rw [H2.out]; exact (hh.below hbel1).below (below_alloc _ _)
          · rw [H2.out]; simp only []; rw [hfk.out]; exact (owns_below hp hbel1).alloc _
          · rw [H2.out]; simp only []; rw [hfk.out, hpk.out]
          · exact hB1.alloc hB1.size _
end Go.Proofs.YtnoknmnbfkdccaaGreatDoor
