/- The law SegWalks. -/
import Derived.Test.YtgdefibgifcbaaaSGe
import Derived.Test.YtgdefibgifcbaaaSGc
namespace Go.Proofs.Ytgdefibgifcbaaa
open Go.RowKit

theorem Sg.pts_fits (s : Int) (hs : -9223372036854775808 ≤ s ∧ s ≤ 9223372036854775807) : ∀ (vs : List (List Nat)) (at' : Nat), (∀ v ∈ vs, ∀ x ∈ v, x < 256) → at' + (Sg.put vs).length ≤ 1000000000 → ∀ p ∈ Sg.pts s at' vs, Po.Fits p
  | [], _, _, _, p, hp => by simp [Sg.pts] at hp
  | v :: vs, at', hx, hl, p, hp => by
    rw [Sg.put_cons, List.length_append, Fr.put1_len] at hl
    have hsz : Fr.size v.length = (Va.one v.length).length + 1 + v.length + 4 := rfl
    rcases List.mem_cons.mp hp with rfl | hp
    · refine ⟨hs, ?_, ?_, Crc.more_lt _ (by omega) (hx v (by simp))⟩
      · show _ ≤ ((at' + Sg.head v.length : Nat) : Int) ∧ ((at' + Sg.head v.length : Nat) : Int) ≤ _
        unfold Sg.head; omega
      · show _ ≤ ((v.length : Nat) : Int) ∧ ((v.length : Nat) : Int) ≤ _
        omega
    · exact Sg.pts_fits s hs vs _ (fun u hu => hx u (by simp [hu])) (by omega) p hp
theorem Sg.put_mem {v : List Nat} {vs : List (List Nat)} (h : v ∈ vs) : ∀ x ∈ v, x ∈ Sg.put vs := by
  have h1 : ((2 : Int), v) ∈ Sg.fr vs := by simp only [Sg.fr, List.mem_map]; exact ⟨v, h, rfl⟩
  exact (Fr.one_le_all h1).2
theorem Sg.walk_small {bs : List Nat} (h : ∀ x ∈ bs, x < 256) : ∀ v ∈ (Sg.walk bs).1, ∀ x ∈ v, x < 256 := fun _ hv x hx =>
  h x ((Sg.take_all bs).subset (Sg.put_mem hv x hx))
theorem Sg.walk_fits (s : Int) (hs : -9223372036854775808 ≤ s ∧ s ≤ 9223372036854775807) {bs : List Nat} (h : ∀ x ∈ bs, x < 256) (hb : bs.length ≤ 100000) : ∀ p ∈ Sg.pts s 0 (Sg.walk bs).1, Po.Fits p :=
  Sg.pts_fits s hs _ 0 (Sg.walk_small h) (by have := Sg.walk_le bs; rw [Sg.walk_end] at this; omega)
theorem Sg.value_small {bs : List Nat} (p : Po.P) (h : ∀ x ∈ bs, x < 256) : (∀ x ∈ (Sg.value bs p).1, x < 256) ∧ (Sg.value bs p).1.length ≤ bs.length := by
  unfold Sg.value
  split
  · split
    · exact ⟨by simp, by simp⟩
    · split
      · exact ⟨take_small (drop_small h _) _, by simp only [List.length_take, List.length_drop]; omega⟩
      · exact ⟨by simp, by simp⟩
  · exact ⟨by simp, by simp⟩

set_option maxRecDepth 100000 in
set_option maxHeartbeats 4000000 in
theorem sgwalks_any (n : Int) (a : Option Addr) (len cap : Nat) (bs : List Nat) (p : Po.P) (w : World) (hn : -9223372036854775808 ≤ n ∧ n ≤ 9223372036854775807) (hl : len ≤ 6000) (hshape : Shape a len cap) (hnil : a = none → len = 0 ∧ cap = 0) (hr : Row .u8 w a len bs) (hf : Po.Fits p) :
    Calls Try.prog 4 #[.int .i64 n, .slice a len cap, pv p] w fun e w' => e = .returned (.bool true) ∧ Below w.heap.size w w' := by
  have hval := fun W (h : Below w.heap.size w W) => svalue_any a len cap bs p W (by omega) hshape hnil (hr.below h (Nat.le_refl _)) hf
  have hrval := fun W (h : Below w.heap.size w W) => refvalue_any a len cap bs p W (by omega) hshape hnil (hr.below h (Nat.le_refl _)) hf
  have hvs := Sg.value_small p hr.2.2.1
  rw [hr.1] at hvs
  generalize Sg.value bs p = V at *
  obtain ⟨vb, vc⟩ := V
  simp only at hvs
  obtain ⟨m, hm⟩ : ∃ m, m = vb.length := ⟨_, rfl⟩
  rw [← hm] at hvs
  have hval : ∀ W, Below w.heap.size w W → Calls Try.prog 18 #[.slice a len cap, pv p] W fun e w' => ∃ a c, e = .returned (.tuple #[.slice a m c, .int .i64 (vc : Nat)]) ∧ w'.ownsRow W.heap.size 5 1 (.slice a m c) m (kcells .u8 vb) ∧ Below W.heap.size W w' := by
    rw [hm]; exact hval
  have hrval : ∀ W, Below w.heap.size w W → Calls Try.prog 19 #[.slice a len cap, pv p] W fun e w' => ∃ a c, e = .returned (.tuple #[.slice a m c, .int .i64 (vc : Nat)]) ∧ w'.ownsRow W.heap.size 5 1 (.slice a m c) m (kcells .u8 vb) ∧ Below W.heap.size W w' := by
    rw [hm]; exact hrval
  clear hm
  have hvsm : ∀ x ∈ vb, x < lim .u8 := hvs.1
  have hml : m ≤ 6000 := by omega
  have hby := fun W a1 c1 a2 c2 (h1 : Row .u8 W a1 m vb) (h2 : Row .u8 W a2 m vb) => bytes_any a1 m c1 vb a2 m c2 vb W h1 h2
  simp only [decide_true] at hby
  have hd6 : decide ((6000 : Int) < (len : Int)) = false := by simp; omega
  have hd6' : decide (6000 < len) = false := by simp; omega
  have hvc : ((vc : Int) != (vc : Int)) = false := by simp
  obtain ⟨x, y, z, u⟩ := p
  simp only [pv] at hval hrval
  simp only [pv]
  have hb0 := below_alloc w (.cells #[.int .i64 x, .int .i64 y, .int .i64 z, .int .u32 (u : Nat)] 32)
  have hk := fun (W : World) (h : Below (w.alloc (.cells #[.int .i64 x, .int .i64 y, .int .i64 z, .int .u32 (u : Nat)] 32)).heap.size (w.alloc (.cells #[.int .i64 x, .int .i64 y, .int .i64 z, .int .u32 (u : Nat)] 32)) W) => four_keep h
  have hk : Hid (∀ W : World, _ → _) := hk
  by_cases hg : 1 ≤ n ∧ n ≤ 2147483647
  · have hwk := fun W (h : Below w.heap.size w W) => swalk_any n hg.1 hg.2 a len cap bs W (by omega) hshape (hr.below h (Nat.le_refl _))
    have hrwk := fun W (h : Below w.heap.size w W) => refwalk19_any n a len cap bs W (by omega) hshape (hr.below h (Nat.le_refl _))
    have hfit := Sg.walk_fits n hn hr.2.2.1 (by rw [hr.1]; omega)
    have hle := Sg.walk_le bs
    rw [hr.1] at hle
    have hcnt := Sg.count_le (Sg.walk bs).1
    rw [← Sg.walk_end] at hcnt
    have hpn := Sg.pts_length n 0 (Sg.walk bs).1
    generalize Sg.pts n 0 (Sg.walk bs).1 = PL at *
    generalize (Sg.walk bs).1.length = k at *
    generalize (Sg.walk bs).2 = E at *
    have hwk : ∀ W, Below w.heap.size w W → Calls Try.prog 17 #[.int .i64 n, .slice a len cap] W fun e w' => ∃ a c, e = .returned (.tuple #[.slice a k c, .int .i64 (E : Nat)]) ∧ w'.ownsRow W.heap.size 32 4 (.slice a k c) k (pcells PL) ∧ Below W.heap.size W w' := by
      rw [← hpn]; exact hwk
    have hrwk : ∀ W, Below w.heap.size w W → Calls Try.prog 20 #[.int .i64 n, .slice a len cap] W fun e w' => ∃ a c, e = .returned (.tuple #[.slice a k c, .int .i64 (E : Nat)]) ∧ w'.ownsRow W.heap.size 32 4 (.slice a k c) k (pcells PL) ∧ Below W.heap.size W w' := by
      rw [← hpn]; exact hrwk
    have hpr := fun (W : World) B a1 c1 (h : W.ownsRow B 32 4 (.slice a1 k c1) k (pcells PL)) => (prow_of_owns h hfit (by omega)).1
    have hsm := fun a1 c1 a2 c2 W h1 h2 => psame_any a1 k c1 PL a2 k c2 PL W h1 h2 rfl
    have haw := fun W => sgawake_any W
    have hd1 : decide (n < 1) = false := by simp; omega
    have hd2 : decide ((2147483647 : Int) < n) = false := by simp; omega
    clear hr hvs hfit hpn hf hnil hshape hb0
    go_enter Try.func4, Try.ntmps4
    go_wp2_with (first
      | (go_at_call 17; go_must (refine (hwk _ (below_alloc w _)).mono ?_; rintro e w1 ⟨a1, c1, rfl, hown1, hbel1⟩; obtain ⟨r0, r1, r2, r3, hs1, hb1⟩ := hk.out _ hbel1; have ht1 := hbel1))
      | (go_at_call 18; go_must (refine (hval _ hb1).mono ?_; rintro e w2 ⟨a2, c2, rfl, hown2, hbel2⟩; have hb2 := hb1.trans (hbel2.mono hb1.size); have ht2 := ht1.trans (hbel2.mono ht1.size); obtain ⟨q0, q1, q2, q3, _, _⟩ := hk.out _ ht2; have hownL2 := owns_below hown1 hbel2; have hs2 := hbel2.size))
      | (go_at_call 19; go_must (refine (hrval _ hb2).mono ?_; rintro e w3 ⟨a3, c3, rfl, hown3, hbel3⟩; have hb3 := hb2.trans (hbel3.mono hb2.size); have hownL3 := owns_below hownL2 hbel3; have hownV3 := owns_below hown2 hbel3))
      | (go_at_call 15; go_must (refine (hby _ _ _ _ _ (row_of_owns hownV3 hvsm (by omega)).1 (row_of_owns hown3 hvsm (by omega)).1).mono ?_; rintro e w4 ⟨rfl, nq, rfl⟩; have hb4 : Below w3.heap.size w3 (w3.drewN nq) := below_drewN _ _ _; have hownL4 := owns_below hownL3 hb4; have hB4 := hb3.trans (hb4.mono hb3.size)))
      | (go_at_call 20; go_must (refine (hrwk _ hB4).mono ?_; rintro e w5 ⟨a5, c5, rfl, hown5, hbel5⟩; have hb5 := hB4.trans (hbel5.mono hB4.size); have hownL5 := owns_below hownL4 hbel5))
      | (go_at_call 21; go_must (refine (hsm _ _ _ _ _ (hpr _ _ _ _ hownL5) (hpr _ _ _ _ hown5)).mono ?_; rintro e w6 ⟨rfl, nq6, rfl⟩; have hb6 : Below w.heap.size w (w5.drewN nq6) := hb5.trans (below_drewN _ _ _)))
      | (go_at_call 8; go_must (refine (haw _).mono ?_; rintro e w7 ⟨rfl, hbel7⟩)))
    go_ret
    exact ⟨rfl, hb6.trans (hbel7.mono hb6.size)⟩
  · have hwk := fun W (h : Below w.heap.size w W) => swalk_bad n hn hg a len cap bs W (by omega) hshape (hr.below h (Nat.le_refl _))
    have hwk : ∀ W, Below w.heap.size w W → Calls Try.prog 17 #[.int .i64 n, .slice a len cap] W fun e w' => ∃ a c, e = .returned (.tuple #[.slice a 0 c, .int .i64 (0 : Nat)]) ∧ w'.ownsRow W.heap.size 32 4 (.slice a 0 c) 0 (pcells []) ∧ Below W.heap.size W w' := hwk
    have haw := fun W => sgawake_any W
    clear hr hvs hf hnil hshape hb0
    by_cases hg1 : n < 1
    all_goals
      have hd2 : n < 1 ∨ (2147483647 : Int) < n := by omega
      go_enter Try.func4, Try.ntmps4
      go_wp2_with (first
        | (go_at_call 17; go_must (refine (hwk _ (below_alloc w _)).mono ?_; rintro e w1 ⟨a1, c1, rfl, hown1, hbel1⟩; obtain ⟨r0, r1, r2, r3, hs1, hb1⟩ := hk.out _ hbel1; have ht1 := hbel1))
        | (go_at_call 18; go_must (refine (hval _ hb1).mono ?_; rintro e w2 ⟨a2, c2, rfl, hown2, hbel2⟩; have hb2 := hb1.trans (hbel2.mono hb1.size); have ht2 := ht1.trans (hbel2.mono ht1.size); obtain ⟨q0, q1, q2, q3, _, _⟩ := hk.out _ ht2; have hs2 := hbel2.size))
        | (go_at_call 19; go_must (refine (hrval _ hb2).mono ?_; rintro e w3 ⟨a3, c3, rfl, hown3, hbel3⟩; have hb3 := hb2.trans (hbel3.mono hb2.size); have hownV3 := owns_below hown2 hbel3))
        | (go_at_call 15; go_must (refine (hby _ _ _ _ _ (row_of_owns hownV3 hvsm (by omega)).1 (row_of_owns hown3 hvsm (by omega)).1).mono ?_; rintro e w4 ⟨rfl, nq, rfl⟩; have hb4 : Below w3.heap.size w3 (w3.drewN nq) := below_drewN _ _ _; have hB4 := hb3.trans (hb4.mono hb3.size)))
        | (go_at_call 8; go_must (refine (haw _).mono ?_; rintro e w7 ⟨rfl, hbel7⟩)))
      go_ret
      exact ⟨rfl, hB4.trans (hbel7.mono hB4.size)⟩

set_option maxRecDepth 100000 in
set_option maxHeartbeats 1000000 in
theorem sgwalks_long (n : Int) (a : Option Addr) (len cap : Nat) (p : Po.P) (w : World) (hl : 6000 < len) :
    Calls Try.prog 4 #[.int .i64 n, .slice a len cap, pv p] w fun e w' => e = .returned (.bool true) ∧ Below w.heap.size w w' := by
  obtain ⟨x, y, z, u⟩ := p
  simp only [pv]
  have hb0 := below_alloc w (.cells #[.int .i64 x, .int .i64 y, .int .i64 z, .int .u32 (u : Nat)] 32)
  have haw := fun W => sgawake_any W
  go_enter Try.func4, Try.ntmps4
  go_wp2_with (go_at_call 8; go_must (refine (haw _).mono ?_; rintro e w7 ⟨rfl, hbel7⟩))
  go_ret
  exact ⟨rfl, hb0.trans (hbel7.mono hb0.size)⟩
end Go.Proofs.Ytgdefibgifcbaaa
