/- What the program's Put of a cell does. -/
import Derived.Test.YtgmcjalcpgldhaaX1
import Derived.Test.YtgmcjalcpgldhaaX2
namespace Go.Proofs.Ytgmcjalcpgldhaa
open Go.RowKit

set_option maxRecDepth 100000 in
set_option maxHeartbeats 1000000 in
theorem cput_no (f : Bool) (a : Option Addr) (n c : Nat) (bs : List Nat) (p : Po.P) (w : World) (hr : Row .u8 w a n bs) (hf : Po.Fits p) (hmay : Ce.may (f, bs, p) = false) : Calls Try.prog 8 #[cv f a n c p] w fun e w' => ∃ a c, e = .returned (.tuple #[.slice a 0 c, .int .i64 1]) ∧ Below w.heap.size w w' := by
  have hc := fun W (h : Below w.heap.size w W) => ccheckC f a n c bs p W (hr.below h (Nat.le_refl _)) hf
  rw [hmay] at hc
  obtain ⟨s, y, l, m⟩ := p
  simp only [cv] at hc ⊢
  have hc2 : ∀ W, Below w.heap.size w W → Calls Try.prog 12 #[.agg #[.bool f, .slice a n c, .int .i64 s, .int .i64 y, .int .i64 l, .int .u32 (m : Nat)]] W fun e w' => e = .returned (.int .i64 1) ∧ Below W.heap.size W w' := hc
  clear hc hr
  have hb0 := below_alloc w (.cells #[.bool f, .slice a n c, .int .i64 s, .int .i64 y, .int .i64 l, .int .u32 (m : Nat)] 27)
  go_enter Try.func8, Try.ntmps8
  go_wp2_with (go_at_call 12; go_must (refine (hc2 _ hb0).mono ?_; rintro e w1 ⟨rfl, hbel1⟩))
  go_ret2
  exact ⟨none, 0, rfl, hb0.trans (hbel1.mono hb0.size)⟩

set_option maxRecDepth 100000 in
set_option maxHeartbeats 1000000 in
theorem cput_far (a : Option Addr) (c : Nat) (p : Po.P) (w : World) (hf : Po.Fits p) (hp : Po.may p = true) : Calls Try.prog 8 #[cv true a 0 c p] w fun e w' => ∃ a c, e = .returned (.tuple #[.slice a ((Po.put p).length + 1) c, .int .i64 0]) ∧ w'.ownsRow w.heap.size 5 1 (.slice a ((Po.put p).length + 1) c) ((Po.put p).length + 1) (kcells .u8 (1 :: Po.put p)) ∧ Below w.heap.size w w' := by
  have hc := fun W => ccheckC true a 0 c [] p W (row_nil .u8 W a) hf
  rw [Ce.may_far.mpr ⟨rfl, hp⟩] at hc
  have hsm : ∀ u ∈ Po.put p, u < lim .u8 := Po.put_small
  have hql := Po.put_len hp
  have hpp : ∀ W, Calls Try.prog 22 #[pv p] W fun e w' => ∃ a c, e = .returned (.tuple #[.slice a (Po.put p).length c, .int .i64 0]) ∧ w'.ownsRow W.heap.size 5 1 (.slice a (Po.put p).length c) (Po.put p).length (kcells .u8 (Po.put p)) ∧ Below W.heap.size W w' := fun W => pput_yes p W hf hp
  generalize Po.put p = q at *
  obtain ⟨s, y, l, m⟩ := p
  simp only [cv, pv] at hc hpp ⊢
  have hc2 : ∀ W, Calls Try.prog 12 #[.agg #[.bool true, .slice a 0 c, .int .i64 s, .int .i64 y, .int .i64 l, .int .u32 (m : Nat)]] W fun e w' => e = .returned (.int .i64 0) ∧ Below W.heap.size W w' := hc
  clear hc hp hf
  have hb0 := below_alloc w (.cells #[.bool true, .slice a 0 c, .int .i64 s, .int .i64 y, .int .i64 l, .int .u32 (m : Nat)] 27)
  go_enter Try.func8, Try.ntmps8
  go_wp2_with (first
    | (go_at_call 12; go_must (refine (hc2 _).mono ?_; rintro e w1 ⟨rfl, hbel1⟩; obtain ⟨⟨k0, k1, k2, k3, k4, k5⟩, hs1, hb1⟩ := six_keep hbel1))
    | (go_at_call 22; go_must (have := hbel1; refine (hpp _).mono ?_; rintro e w2 ⟨a2, c2, rfl, hown2, hbel2⟩; have hb2 := hb1.trans (hbel2.mono hb1.size); have r2 := row_of_owns hown2 hsm (by omega)))
    | (at_builtin; go_must (refine append_u8 (w0 := w) (B := w.heap.size) rfl (.tmp 20) (.tmp 21) rfl _ 1 [1] rfl (owns_one w2 1 rfl hb2.size) a2 q.length c2 q rfl (r2.1.below (below_alloc _ _) (Nat.le_refl _)) r2.2.1 (by omega) (hb2.alloc hb2.size _) (Nat.le_trans hb2.size (by simp)) ?_; intro a3 c3 w3 hown3 hbel3 hsz3)))
  go_ret2
  exact ⟨a3, c3, by rw [Nat.add_comm]; rfl, by rw [Nat.add_comm q.length]; exact hown3, hbel3⟩

theorem row_at (k : IntKind) (w : World) (e : TypeId) (z : Int) (x : Nat) {b : Nat} (hb : w.heap.size = b) (hz : z = (x : Nat)) (hx : x < lim k) : Row k (w.alloc (.cells #[.int k z] e)) (some ⟨b, 0, none⟩) 1 [x] := by
  subst hb
  exact row_newz k w e z x hz hx
theorem cell_at (w : World) (cs : Array Value) (e : TypeId) (i : Nat) {b : Nat} (hb : w.heap.size = b) {v : Value} (h : cs[i]? = some v) : (w.alloc (.cells cs e)).cell? ⟨b, i, none⟩ = some v := by
  subst hb
  rw [cell_new, h]

set_option maxRecDepth 100000 in
set_option maxHeartbeats 1000000 in
theorem cput_near (a : Option Addr) (n c : Nat) (bs : List Nat) (w : World) (hn : n ≤ 32) (hr : Row .u8 w a n bs) (hnil : a = none → n = 0 ∧ c = 0) : Calls Try.prog 8 #[cv false a n c Po.zero] w fun e w' => ∃ a c, e = .returned (.tuple #[.slice a ((Va.one n).length + n + 1) c, .int .i64 0]) ∧ w'.ownsRow w.heap.size 5 1 (.slice a ((Va.one n).length + n + 1) c) ((Va.one n).length + n + 1) (kcells .u8 (0 :: (Va.one n ++ bs))) ∧ Below w.heap.size w w' := by
  have hl : Hid (bs.length = n) := hr.1
  have hc := fun W (h : Below w.heap.size w W) => ccheckC false a n c bs Po.zero W (hr.below h (Nat.le_refl _)) ⟨by decide, by decide, by decide, by decide⟩
  rw [Ce.may_near.mpr ⟨by rw [hl.out]; exact hn, rfl⟩] at hc
  have hsm1 : ∀ u ∈ Va.one n, u < lim .u8 := Va.one_small n
  have hl1 := Va.one_len10 (u := n) (by omega)
  have hp1 := Va.one_pos n
  have hput : ∀ (W : World) (q : Addr), Row .u64 W (some q) 1 [n] → Calls Try.prog 24 #[.slice (some q) 1 1] W (Made .u8 5 W (Va.one n)) := fun W q h => by
    have := put_any (some q) 1 1 [n] W (by omega) h
    simpa [Va.put] using this
  generalize Va.one n = o at *
  simp only [cv, Po.zero] at hc ⊢
  have hc2 : ∀ W, Below w.heap.size w W → Calls Try.prog 12 #[.agg #[.bool false, .slice a n c, .int .i64 0, .int .i64 0, .int .i64 0, .int .u32 0]] W fun e w' => e = .returned (.int .i64 0) ∧ Below W.heap.size W w' := hc
  clear hc
  have hb0 := below_alloc w (.cells #[.bool false, .slice a n c, .int .i64 0, .int .i64 0, .int .i64 0, .int .u32 0] 27)
  have i1 : IntKind.u64.wrap (n : Int) = n := by simp only [IntKind.wrap_u64]; omega
  go_enter Try.func8, Try.ntmps8
  go_wp2_with (go_at_call 12; go_must (refine (hc2 _ hb0).mono ?_; rintro e w1 ⟨rfl, hbel1⟩; obtain ⟨⟨k0, k1, k2, k3, k4, k5⟩, hs1, hb1⟩ := six_keep hbel1))
  clear hbel1 k0 k2 k3 k4 k5 hc2 hb0
  have hne := World.new_ne w1 ⟨w.heap.size, 1, none⟩ k1
  have hn64 : n < lim .u64 := by show n < 18446744073709551616; omega
  have hA : Hid (Row .u64 ((w1.alloc (.cells #[.int .u8 0] 5)).alloc (.cells #[.int .u64 (n : Nat)] 53)) (some ⟨w1.heap.size + 1, 0, none⟩) 1 [n]) := row_at .u64 (w1.alloc (.cells #[.int .u8 0] 5)) 53 (n : Int) n (by simp) rfl hn64
  have hC : Hid (Row .u64 (w1.alloc (.cells #[.int .u64 (n : Nat)] 53)) (some ⟨w1.heap.size, 0, none⟩) 1 [n]) := row_at .u64 w1 53 (n : Int) n rfl rfl hn64
  have hB : Hid (Row .u64 ((w1.alloc (.cells #[.int .u64 (n : Nat)] 53)).alloc (.cells #[.int .u8 0] 5)) (some ⟨w1.heap.size, 0, none⟩) 1 [n]) := hC.out.below (below_alloc _ _) (by simp)
  have hoB : Hid (Row .u8 ((w1.alloc (.cells #[.int .u64 (n : Nat)] 53)).alloc (.cells #[.int .u8 0] 5)) (some ⟨w1.heap.size + 1, 0, none⟩) 1 [0]) := row_at .u8 (w1.alloc (.cells #[.int .u64 (n : Nat)] 53)) 5 0 0 (by simp) rfl (by decide)
  have hoA : Hid (Row .u8 ((w1.alloc (.cells #[.int .u8 0] 5)).alloc (.cells #[.int .u64 (n : Nat)] 53)) (some ⟨w1.heap.size, 0, none⟩) 1 [0]) := (row_at .u8 w1 5 0 0 rfl rfl (by decide)).below (below_alloc _ _) (by simp)
  have hbC : Hid (Below w1.heap.size w1 (w1.alloc (.cells #[.int .u64 (n : Nat)] 53))) := below_alloc _ _
  have hbA : Hid (Below w1.heap.size w1 ((w1.alloc (.cells #[.int .u8 0] 5)).alloc (.cells #[.int .u64 (n : Nat)] 53))) := (below_alloc _ _).alloc (by simp) _
  have hbB : Hid (Below w1.heap.size w1 ((w1.alloc (.cells #[.int .u64 (n : Nat)] 53)).alloc (.cells #[.int .u8 0] 5))) := (below_alloc _ _).alloc (by simp) _
  have hdA : Hid (Calls Try.prog 24 #[.slice (some ⟨w1.heap.size + 1, 0, none⟩) 1 1] ((w1.alloc (.cells #[.int .u8 0] 5)).alloc (.cells #[.int .u64 (n : Nat)] 53)).drew (Made .u8 5 ((w1.alloc (.cells #[.int .u8 0] 5)).alloc (.cells #[.int .u64 (n : Nat)] 53)).drew o)) := hput ((w1.alloc (.cells #[.int .u8 0] 5)).alloc (.cells #[.int .u64 (n : Nat)] 53)).drew _ hA.out
  have hdB : Hid (Calls Try.prog 24 #[.slice (some ⟨w1.heap.size, 0, none⟩) 1 1] ((w1.alloc (.cells #[.int .u64 (n : Nat)] 53)).alloc (.cells #[.int .u8 0] 5)).drew (Made .u8 5 ((w1.alloc (.cells #[.int .u64 (n : Nat)] 53)).alloc (.cells #[.int .u8 0] 5)).drew o)) := hput ((w1.alloc (.cells #[.int .u64 (n : Nat)] 53)).alloc (.cells #[.int .u8 0] 5)).drew _ hB.out
  have hdC : Hid (Calls Try.prog 24 #[.slice (some ⟨w1.heap.size, 0, none⟩) 1 1] (w1.alloc (.cells #[.int .u64 (n : Nat)] 53)).drew (Made .u8 5 (w1.alloc (.cells #[.int .u64 (n : Nat)] 53)).drew o)) := hput (w1.alloc (.cells #[.int .u64 (n : Nat)] 53)).drew _ hC.out
  clear hput hA hB hC
  go_region_held3 (fun w' => w'.cell? ⟨w.heap.size, 1, none⟩ = some (.slice a n c)) (first | go_keep | assumption)
    (first
      | ((go_at_call 24; (with_reducible refine (hdA.out).mono ?_); go_must (rintro e w2 ⟨a2, c2, rfl, hown2, hbel2⟩; have hb2d := below_of_drew hbel2; have hB2 : Below w1.heap.size w1 w2 := (hbA.out).trans (hb2d.mono (hbA.out).size); have t1 := (hB2.cell (p := ⟨w.heap.size, 1, none⟩) hs1).trans k1; have hw2 := hb1.trans (hB2.mono hb1.size); have r3 := hr.below hw2 (Nat.le_refl _); have r2 := row_of_owns hown2 hsm1 (by omega); have r1 := hoA.out.below hb2d (by simp))))
      | ((go_at_call 24; (with_reducible refine (hdB.out).mono ?_); go_must (rintro e w2 ⟨a2, c2, rfl, hown2, hbel2⟩; have hb2d := below_of_drew hbel2; have hB2 : Below w1.heap.size w1 w2 := (hbB.out).trans (hb2d.mono (hbB.out).size); have t1 := (hB2.cell (p := ⟨w.heap.size, 1, none⟩) hs1).trans k1; have hw2 := hb1.trans (hB2.mono hb1.size); have r3 := hr.below hw2 (Nat.le_refl _); have r2 := row_of_owns hown2 hsm1 (by omega); have r1 := hoB.out.below hb2d (by simp))))
      | ((go_at_call 24; (with_reducible refine (hdC.out).mono ?_); go_must (rintro e w2 ⟨a2, c2, rfl, hown2, hbel2⟩; have hb2d := below_of_drew hbel2; have hB2 : Below w1.heap.size w1 w2 := (hbC.out).trans (hb2d.mono (hbC.out).size); have t1 := (hB2.cell (p := ⟨w.heap.size, 1, none⟩) hs1).trans k1; have hw2 := hb1.trans (hB2.mono hb1.size); have r3 := hr.below hw2 (Nat.le_refl _); have r2 := row_of_owns hown2 hsm1 (by omega); have hne2 := World.new_ne w2 ⟨w.heap.size, 1, none⟩ t1)))
      | ((go_at_call 23; have := r1; go_must (refine (concat3 _ _ 1 1 [0] _ o.length _ o _ n _ bs _ (cell_at w2 _ _ 0 (by first | rfl | simp) rfl) (cell_at w2 _ _ 1 (by first | rfl | simp) rfl) (cell_at w2 _ _ 2 (by first | rfl | simp) rfl) (r1.below (below_alloc _ _) (Nat.le_refl _)) (r2.1.below (below_alloc _ _) (Nat.le_refl _)) (r3.below (below_alloc w2 _) (Nat.le_refl _)) (fun h => by cases h) r2.2.1 hnil (by simp) (by omega) (by omega) (by omega) (by omega)).mono ?_; rintro e w4 ⟨a4, c4, rfl, hown4, hbel4⟩; have hB4 : Below w2.heap.size w2 w4 := (below_alloc w2 _).trans (hbel4.mono (below_alloc w2 _).size); have t4 := (hB4.cell (p := ⟨w.heap.size, 1, none⟩) (Nat.lt_of_lt_of_le hs1 hB2.size)).trans t1; have hf4 : Below w.heap.size w w4 := hw2.trans (hB4.mono hw2.size); have hown5 := hown4.mono (base' := w.heap.size) (Nat.le_trans hw2.size (by simp only [World.size_alloc]; omega)))))
      | ((go_at_call 23; go_must (refine (concat3 _ _ 1 1 [0] _ o.length _ o _ n _ bs _ (cell_at (w2.alloc (.cells #[.int .u8 0] 5)) _ _ 0 (by first | rfl | simp) rfl) (cell_at (w2.alloc (.cells #[.int .u8 0] 5)) _ _ 1 (by first | rfl | simp) rfl) (cell_at (w2.alloc (.cells #[.int .u8 0] 5)) _ _ 2 (by first | rfl | simp) rfl) ((row_at .u8 w2 5 0 0 rfl rfl (by decide)).below (below_alloc _ _) (by simp)) (r2.1.below ((below_alloc w2 _).alloc (by simp) _) (Nat.le_refl _)) (r3.below ((below_alloc w2 _).alloc (by simp) _) (Nat.le_refl _)) (fun h => by cases h) r2.2.1 hnil (by simp) (by omega) (by omega) (by omega) (by omega)).mono ?_; rintro e w4 ⟨a4, c4, rfl, hown4, hbel4⟩; have hB4 : Below w2.heap.size w2 w4 := ((below_alloc w2 _).alloc (by simp) _).trans (hbel4.mono ((below_alloc w2 _).alloc (by simp) _).size); have t4 := (hB4.cell (p := ⟨w.heap.size, 1, none⟩) (Nat.lt_of_lt_of_le hs1 hB2.size)).trans t1; have hf4 : Below w.heap.size w w4 := hw2.trans (hB4.mono hw2.size); have hown5 := hown4.mono (base' := w.heap.size) (Nat.le_trans hw2.size (by simp only [World.size_alloc]; omega))))))
  all_goals
    go_wp2
    go_ret2
    refine ⟨a4, c4, ?_, ?_, hf4⟩
    · rw [show o.length + n + 1 = o.length + bs.length + 1 by rw [hl.out]]; rfl
    · have e : ([0] ++ o ++ bs).length = o.length + n + 1 := by simp [hl.out]
      rw [← e]
      simpa using hown5
end Go.Proofs.Ytgmcjalcpgldhaa
