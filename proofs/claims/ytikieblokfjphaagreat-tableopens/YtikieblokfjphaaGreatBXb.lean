/- What the program's Put of a cell does. -/
import Derived.Test.YtikieblokfjphaaGreatX1
import Derived.Test.YtikieblokfjphaaGreatBXa
namespace Go.Proofs.YtikieblokfjphaaGreat
open Go.RowKit

set_option maxRecDepth 100000 in
set_option maxHeartbeats 1000000 in
theorem cput_no (f : Bool) (a : Option Addr) (n c : Nat) (bs : List Nat) (p : Po.P) (w : World) (hr : Row .u8 w a n bs) (hf : Po.Fits p) (hmay : Ce.may (f, bs, p) = false) : Calls Tryz.prog 102 #[cv f a n c p] w fun e w' => ∃ a c, e = .returned (.tuple #[.slice a 0 c, .int .i64 1]) ∧ Below w.heap.size w w' := by
  have hc := fun W (h : Below w.heap.size w W) => ccheckC f a n c bs p W (hr.below h (Nat.le_refl _)) hf
  rw [hmay] at hc
  obtain ⟨s, y, l, m⟩ := p
  simp only [cv] at hc ⊢
  have hc2 : ∀ W, Below w.heap.size w W → Calls Tryz.prog 82 #[.agg #[.bool f, .slice a n c, .int .i64 s, .int .i64 y, .int .i64 l, .int .u32 (m : Nat)]] W fun e w' => e = .returned (.int .i64 1) ∧ Below W.heap.size W w' := hc
  clear hc hr
  have hb0 := below_alloc w (.cells #[.bool f, .slice a n c, .int .i64 s, .int .i64 y, .int .i64 l, .int .u32 (m : Nat)] 38)
  go_enter Tryz.func102, Tryz.ntmps102
  go_wp2_with (go_at_call 82; go_must (refine (hc2 _ hb0).mono ?_; rintro e w1 ⟨rfl, hbel1⟩))
  go_ret2
  exact ⟨none, 0, rfl, hb0.trans (hbel1.mono hb0.size)⟩

set_option maxRecDepth 100000 in
set_option maxHeartbeats 1000000 in
theorem cput_far (a : Option Addr) (c : Nat) (p : Po.P) (w : World) (hf : Po.Fits p) (hp : Po.may p = true) : Calls Tryz.prog 102 #[cv true a 0 c p] w fun e w' => ∃ a c, e = .returned (.tuple #[.slice a ((Po.put p).length + 1) c, .int .i64 0]) ∧ w'.ownsRow w.heap.size 5 1 (.slice a ((Po.put p).length + 1) c) ((Po.put p).length + 1) (kcells .u8 (1 :: Po.put p)) ∧ Below w.heap.size w w' := by
  have hc := fun W => ccheckC true a 0 c [] p W (row_nil .u8 W a) hf
  rw [Ce.may_far.mpr ⟨rfl, hp⟩] at hc
  have hsm : ∀ u ∈ Po.put p, u < lim .u8 := Po.put_small
  have hql := Po.put_len hp
  have hpp : ∀ W, Calls Tryz.prog 111 #[pv p] W fun e w' => ∃ a c, e = .returned (.tuple #[.slice a (Po.put p).length c, .int .i64 0]) ∧ w'.ownsRow W.heap.size 5 1 (.slice a (Po.put p).length c) (Po.put p).length (kcells .u8 (Po.put p)) ∧ Below W.heap.size W w' := fun W => pput_yes p W hf hp
  generalize Po.put p = q at *
  obtain ⟨s, y, l, m⟩ := p
  simp only [cv, pv] at hc hpp ⊢
  have hc2 : ∀ W, Calls Tryz.prog 82 #[.agg #[.bool true, .slice a 0 c, .int .i64 s, .int .i64 y, .int .i64 l, .int .u32 (m : Nat)]] W fun e w' => e = .returned (.int .i64 0) ∧ Below W.heap.size W w' := hc
  clear hc hp hf
  have hb0 := below_alloc w (.cells #[.bool true, .slice a 0 c, .int .i64 s, .int .i64 y, .int .i64 l, .int .u32 (m : Nat)] 38)
  go_enter Tryz.func102, Tryz.ntmps102
  go_wp2_with (first
    | (go_at_call 82; go_must (refine (hc2 _).mono ?_; rintro e w1 ⟨rfl, hbel1⟩; obtain ⟨⟨k0, k1, k2, k3, k4, k5⟩, hs1, hb1⟩ := six_keep hbel1))
    | (go_at_call 111; go_must (have := hbel1; refine (hpp _).mono ?_; rintro e w2 ⟨a2, c2, rfl, hown2, hbel2⟩; have hb2 := hb1.trans (hbel2.mono hb1.size); have r2 := row_of_owns hown2 hsm (by omega)))
    | (at_builtin; go_must (refine append_u8 (w0 := w) (B := w.heap.size) rfl (.tmp 20) (.tmp 21) rfl _ 1 [1] rfl (owns_one w2 1 rfl hb2.size) a2 q.length c2 q rfl (r2.1.below (below_alloc _ _) (Nat.le_refl _)) r2.2.1 (by omega) (hb2.alloc hb2.size _) (Nat.le_trans hb2.size (by simp)) ?_; intro a3 c3 w3 hown3 hbel3 hsz3)))
  go_ret2
  exact ⟨a3, c3, by rw [Nat.add_comm]; rfl, by rw [Nat.add_comm q.length]; exact hown3, hbel3⟩

theorem row_at (k : IntKind) (w : World) (e : TypeId) (z : Int) (x : Nat) {b : Nat} (hb : w.heap.size = b) (hz : z = (x : Nat)) (hx : x < lim k) : Row k (w.alloc (.cells #[.int k z] e)) (some ⟨b, 0, none⟩) 1 [x] := by
  subst hb
  exact row_newz k w e z x hz hx
theorem cell_at (w : World) (cs : Array Value) (e : TypeId) (i : Nat) {b : Nat} (hb : w.heap.size = b) {v : Value} (h : cs[i]? = some v) : (w.alloc (.cells cs e)).cell? ⟨b, i, none⟩ = some v := by
  subst hb
  rw [cell_new, h]

set_option maxRecDepth 100000 in
set_option maxHeartbeats 1000000 in
theorem cput_near (a : Option Addr) (n c : Nat) (bs : List Nat) (w : World) (hn : n ≤ 32) (hr : Row .u8 w a n bs) (hnil : a = none → n = 0 ∧ c = 0) : Calls Tryz.prog 102 #[cv false a n c Po.zero] w fun e w' => ∃ a c, e = .returned (.tuple #[.slice a ((Va.one n).length + n + 1) c, .int .i64 0]) ∧ w'.ownsRow w.heap.size 5 1 (.slice a ((Va.one n).length + n + 1) c) ((Va.one n).length + n + 1) (kcells .u8 (0 :: (Va.one n ++ bs))) ∧ Below w.heap.size w w' := by
  have hl : Hid (bs.length = n) := hr.1
  have hc := fun W (h : Below w.heap.size w W) => ccheckC false a n c bs Po.zero W (hr.below h (Nat.le_refl _)) ⟨by decide, by decide, by decide, by decide⟩
  rw [Ce.may_near.mpr ⟨by rw [hl.out]; exact hn, rfl⟩] at hc
  have hsm1 : ∀ u ∈ Va.one n, u < lim .u8 := Va.one_small n
  have hl1 := Va.one_len10 (u := n) (by omega)
  have hp1 := Va.one_pos n
  have hput : ∀ (W : World) (q : Addr), Row .u64 W (some q) 1 [n] → Calls Tryz.prog 39 #[.slice (some q) 1 1] W (Made .u8 5 W (Va.one n)) := fun W q h => by
    have := put_any (some q) 1 1 [n] W (by omega) h
    simpa [Va.put] using this
  generalize Va.one n = o at *
  simp only [cv, Po.zero] at hc ⊢
  have hc2 : ∀ W, Below w.heap.size w W → Calls Tryz.prog 82 #[.agg #[.bool false, .slice a n c, .int .i64 0, .int .i64 0, .int .i64 0, .int .u32 0]] W fun e w' => e = .returned (.int .i64 0) ∧ Below W.heap.size W w' := hc
  clear hc
  have hb0 := below_alloc w (.cells #[.bool false, .slice a n c, .int .i64 0, .int .i64 0, .int .i64 0, .int .u32 0] 38)
  have i1 : IntKind.u64.wrap (n : Int) = n := by simp only [IntKind.wrap_u64]; omega
  go_enter Tryz.func102, Tryz.ntmps102
  go_wp2_with (go_at_call 82; go_must (refine (hc2 _ hb0).mono ?_; rintro e w1 ⟨rfl, hbel1⟩; obtain ⟨⟨k0, k1, k2, k3, k4, k5⟩, hs1, hb1⟩ := six_keep hbel1))
  clear hbel1 k0 k2 k3 k4 k5 hc2 hb0
  have hne := World.new_ne w1 ⟨w.heap.size, 1, none⟩ k1
  have hn64 : n < lim .u64 := by show n < 18446744073709551616; omega
  have hA : Hid (Row .u64 ((w1.alloc (.cells #[.int .u8 0] 5)).alloc (.cells #[.int .u64 (n : Nat)] 83)) (some ⟨w1.heap.size + 1, 0, none⟩) 1 [n]) := row_at .u64 (w1.alloc (.cells #[.int .u8 0] 5)) 83 (n : Int) n (by simp) rfl hn64
  have hC : Hid (Row .u64 (w1.alloc (.cells #[.int .u64 (n : Nat)] 83)) (some ⟨w1.heap.size, 0, none⟩) 1 [n]) := row_at .u64 w1 83 (n : Int) n rfl rfl hn64
  have hB : Hid (Row .u64 ((w1.alloc (.cells #[.int .u64 (n : Nat)] 83)).alloc (.cells #[.int .u8 0] 5)) (some ⟨w1.heap.size, 0, none⟩) 1 [n]) := hC.out.below (below_alloc _ _) (by simp)
  have hoB : Hid (Row .u8 ((w1.alloc (.cells #[.int .u64 (n : Nat)] 83)).alloc (.cells #[.int .u8 0] 5)) (some ⟨w1.heap.size + 1, 0, none⟩) 1 [0]) := row_at .u8 (w1.alloc (.cells #[.int .u64 (n : Nat)] 83)) 5 0 0 (by simp) rfl (by decide)
  have hoA : Hid (Row .u8 ((w1.alloc (.cells #[.int .u8 0] 5)).alloc (.cells #[.int .u64 (n : Nat)] 83)) (some ⟨w1.heap.size, 0, none⟩) 1 [0]) := (row_at .u8 w1 5 0 0 rfl rfl (by decide)).below (below_alloc _ _) (by simp)
  have hbC : Hid (Below w1.heap.size w1 (w1.alloc (.cells #[.int .u64 (n : Nat)] 83))) := below_alloc _ _
  have hbA : Hid (Below w1.heap.size w1 ((w1.alloc (.cells #[.int .u8 0] 5)).alloc (.cells #[.int .u64 (n : Nat)] 83))) := (below_alloc _ _).alloc (by simp) _
  have hbB : Hid (Below w1.heap.size w1 ((w1.alloc (.cells #[.int .u64 (n : Nat)] 83)).alloc (.cells #[.int .u8 0] 5))) := (below_alloc _ _).alloc (by simp) _
  have hdA : Hid (Calls Tryz.prog 39 #[.slice (some ⟨w1.heap.size + 1, 0, none⟩) 1 1] ((w1.alloc (.cells #[.int .u8 0] 5)).alloc (.cells #[.int .u64 (n : Nat)] 83)).drew (Made .u8 5 ((w1.alloc (.cells #[.int .u8 0] 5)).alloc (.cells #[.int .u64 (n : Nat)] 83)).drew o)) := hput ((w1.alloc (.cells #[.int .u8 0] 5)).alloc (.cells #[.int .u64 (n : Nat)] 83)).drew _ hA.out
  have hdB : Hid (Calls Tryz.prog 39 #[.slice (some ⟨w1.heap.size, 0, none⟩) 1 1] ((w1.alloc (.cells #[.int .u64 (n : Nat)] 83)).alloc (.cells #[.int .u8 0] 5)).drew (Made .u8 5 ((w1.alloc (.cells #[.int .u64 (n : Nat)] 83)).alloc (.cells #[.int .u8 0] 5)).drew o)) := hput ((w1.alloc (.cells #[.int .u64 (n : Nat)] 83)).alloc (.cells #[.int .u8 0] 5)).drew _ hB.out
  have hdC : Hid (Calls Tryz.prog 39 #[.slice (some ⟨w1.heap.size, 0, none⟩) 1 1] (w1.alloc (.cells #[.int .u64 (n : Nat)] 83)).drew (Made .u8 5 (w1.alloc (.cells #[.int .u64 (n : Nat)] 83)).drew o)) := hput (w1.alloc (.cells #[.int .u64 (n : Nat)] 83)).drew _ hC.out
  clear hput hA hB hC
  go_region_held3 (fun w' => w'.cell? ⟨w.heap.size, 1, none⟩ = some (.slice a n c)) (first | go_keep | assumption)
    (first
      | ((go_at_call 39; (with_reducible refine (hdA.out).mono ?_); go_must (rintro e w2 ⟨a2, c2, rfl, hown2, hbel2⟩; have hb2d := below_of_drew hbel2; have hB2 : Below w1.heap.size w1 w2 := (hbA.out).trans (hb2d.mono (hbA.out).size); have t1 := (hB2.cell (p := ⟨w.heap.size, 1, none⟩) hs1).trans k1; have hw2 := hb1.trans (hB2.mono hb1.size); have r3 := hr.below hw2 (Nat.le_refl _); have r2 := row_of_owns hown2 hsm1 (by omega); have r1 := hoA.out.below hb2d (by simp))))
      | ((go_at_call 39; (with_reducible refine (hdB.out).mono ?_); go_must (rintro e w2 ⟨a2, c2, rfl, hown2, hbel2⟩; have hb2d := below_of_drew hbel2; have hB2 : Below w1.heap.size w1 w2 := (hbB.out).trans (hb2d.mono (hbB.out).size); have t1 := (hB2.cell (p := ⟨w.heap.size, 1, none⟩) hs1).trans k1; have hw2 := hb1.trans (hB2.mono hb1.size); have r3 := hr.below hw2 (Nat.le_refl _); have r2 := row_of_owns hown2 hsm1 (by omega); have r1 := hoB.out.below hb2d (by simp))))
      | ((go_at_call 39; (with_reducible refine (hdC.out).mono ?_); go_must (rintro e w2 ⟨a2, c2, rfl, hown2, hbel2⟩; have hb2d := below_of_drew hbel2; have hB2 : Below w1.heap.size w1 w2 := (hbC.out).trans (hb2d.mono (hbC.out).size); have t1 := (hB2.cell (p := ⟨w.heap.size, 1, none⟩) hs1).trans k1; have hw2 := hb1.trans (hB2.mono hb1.size); have r3 := hr.below hw2 (Nat.le_refl _); have r2 := row_of_owns hown2 hsm1 (by omega); have hne2 := World.new_ne w2 ⟨w.heap.size, 1, none⟩ t1)))
      | ((go_at_call 112; have := r1; go_must (refine (concat3 _ _ 1 1 [0] _ o.length _ o _ n _ bs _ (cell_at w2 _ _ 0 (by first | rfl | simp) rfl) (cell_at w2 _ _ 1 (by first | rfl | simp) rfl) (cell_at w2 _ _ 2 (by first | rfl | simp) rfl) (r1.below (below_alloc _ _) (Nat.le_refl _)) (r2.1.below (below_alloc _ _) (Nat.le_refl _)) (r3.below (below_alloc w2 _) (Nat.le_refl _)) (fun h => by cases h) r2.2.1 hnil (by simp) (by omega) (by omega) (by omega) (by omega)).mono ?_; rintro e w4 ⟨a4, c4, rfl, hown4, hbel4⟩; have hB4 : Below w2.heap.size w2 w4 := (below_alloc w2 _).trans (hbel4.mono (below_alloc w2 _).size); have t4 := (hB4.cell (p := ⟨w.heap.size, 1, none⟩) (Nat.lt_of_lt_of_le hs1 hB2.size)).trans t1; have hf4 : Below w.heap.size w w4 := hw2.trans (hB4.mono hw2.size); have hown5 := hown4.mono (base' := w.heap.size) (Nat.le_trans hw2.size (by simp only [World.size_alloc]; omega)))))
      | ((go_at_call 112; go_must (refine (concat3 _ _ 1 1 [0] _ o.length _ o _ n _ bs _ (cell_at (w2.alloc (.cells #[.int .u8 0] 5)) _ _ 0 (by first | rfl | simp) rfl) (cell_at (w2.alloc (.cells #[.int .u8 0] 5)) _ _ 1 (by first | rfl | simp) rfl) (cell_at (w2.alloc (.cells #[.int .u8 0] 5)) _ _ 2 (by first | rfl | simp) rfl) ((row_at .u8 w2 5 0 0 rfl rfl (by decide)).below (below_alloc _ _) (by simp)) (r2.1.below ((below_alloc w2 _).alloc (by simp) _) (Nat.le_refl _)) (r3.below ((below_alloc w2 _).alloc (by simp) _) (Nat.le_refl _)) (fun h => by cases h) r2.2.1 hnil (by simp) (by omega) (by omega) (by omega) (by omega)).mono ?_; rintro e w4 ⟨a4, c4, rfl, hown4, hbel4⟩; have hB4 : Below w2.heap.size w2 w4 := ((below_alloc w2 _).alloc (by simp) _).trans (hbel4.mono ((below_alloc w2 _).alloc (by simp) _).size); have t4 := (hB4.cell (p := ⟨w.heap.size, 1, none⟩) (Nat.lt_of_lt_of_le hs1 hB2.size)).trans t1; have hf4 : Below w.heap.size w w4 := hw2.trans (hB4.mono hw2.size); have hown5 := hown4.mono (base' := w.heap.size) (Nat.le_trans hw2.size (by simp only [World.size_alloc]; omega))))))
  all_goals
    go_wp2
    go_ret2
    refine ⟨a4, c4, ?_, ?_, hf4⟩
    · rw [show o.length + n + 1 = o.length + bs.length + 1 by rw [hl.out]]; rfl
    · have e : ([0] ++ o ++ bs).length = o.length + n + 1 := by simp [hl.out]
      rw [← e]
      simpa using hown5
end Go.Proofs.YtikieblokfjphaaGreat

/- The program's Put, Near and Far of cells, as the laws ask for them. -/
namespace Go.Proofs.YtikieblokfjphaaGreat
open Go.RowKit

theorem cputC : CPutC := by
  intro f a n c bs p w hr hnil hf
  by_cases h : Ce.may (f, bs, p) = true
  · cases f with
    | true =>
      obtain ⟨rfl, hp⟩ := Ce.may_far.mp h
      obtain rfl : n = 0 := hr.1.symm
      have e : Ce.put (true, [], p) = 1 :: Po.put p := by simp [Ce.put]
      refine (cput_far a c p w hf hp).mono ?_
      rintro E w' ⟨a', c', rfl, hown, hbel⟩
      refine .inl ⟨h, a', c', ?_⟩
      rw [e]
      exact ⟨rfl, hown, hbel⟩
    | false =>
      obtain ⟨hl, rfl⟩ := Ce.may_near.mp h
      obtain rfl : bs.length = n := hr.1
      have e : Ce.put (false, bs, Po.zero) = 0 :: (Va.one bs.length ++ bs) := by simp [Ce.put]
      have e2 : (Ce.put (false, bs, Po.zero)).length = (Va.one bs.length).length + bs.length + 1 := by rw [e]; simp
      refine (cput_near a bs.length c bs w hl hr hnil).mono ?_
      rintro E w' ⟨a', c', rfl, hown, hbel⟩
      refine .inl ⟨h, a', c', ?_⟩
      rw [e2, e]
      exact ⟨rfl, hown, hbel⟩
  · have h : Ce.may (f, bs, p) = false := by simpa using h
    refine (cput_no f a n c bs p w hr hf h).mono ?_
    rintro E w' hx
    exact .inr ⟨h, hx⟩

def CNearRes (n : Nat) (z : Int) (vs : List Nat) (w : World) (e : Ending) (w' : World) : Prop :=
  (((n : Int) ≤ z ∧ n ≤ 32) ∧ ∃ a' c', e = .returned (.tuple #[cv false a' n c' Po.zero, .bool true]) ∧ Row .u8 w' a' n vs ∧ Below w.heap.size w w') ∨
  (¬ ((n : Int) ≤ z ∧ n ≤ 32) ∧ ∃ a' c', e = .returned (.tuple #[cv false a' 0 c' Po.zero, .bool false]) ∧ Below w.heap.size w w')

/-- two blocks of the call's own: a result of six cells, a point -/
theorem both_keep {w W : World} {c0 c1 c2 c3 c4 c5 d0 d1 d2 d3 : Value} {e e' : TypeId} (h : Below ((w.alloc (.cells #[c0, c1, c2, c3, c4, c5] e)).alloc (.cells #[d0, d1, d2, d3] e')).heap.size ((w.alloc (.cells #[c0, c1, c2, c3, c4, c5] e)).alloc (.cells #[d0, d1, d2, d3] e')) W) :
    ((W.cell? ⟨w.heap.size, 0, none⟩ = some c0 ∧ W.cell? ⟨w.heap.size, 1, none⟩ = some c1 ∧ W.cell? ⟨w.heap.size, 2, none⟩ = some c2 ∧ W.cell? ⟨w.heap.size, 3, none⟩ = some c3 ∧ W.cell? ⟨w.heap.size, 4, none⟩ = some c4 ∧ W.cell? ⟨w.heap.size, 5, none⟩ = some c5) ∧
    (W.frozen? ⟨w.heap.size, 0, none⟩ = false ∧ W.frozen? ⟨w.heap.size, 1, none⟩ = false ∧ W.frozen? ⟨w.heap.size, 2, none⟩ = false ∧ W.frozen? ⟨w.heap.size, 3, none⟩ = false ∧ W.frozen? ⟨w.heap.size, 4, none⟩ = false ∧ W.frozen? ⟨w.heap.size, 5, none⟩ = false) ∧ Below w.heap.size w W ∧ w.heap.size < W.heap.size) ∧
    (W.cell? ⟨w.heap.size + 1, 0, none⟩ = some d0 ∧ W.cell? ⟨w.heap.size + 1, 1, none⟩ = some d1 ∧ W.cell? ⟨w.heap.size + 1, 2, none⟩ = some d2 ∧ W.cell? ⟨w.heap.size + 1, 3, none⟩ = some d3) ∧ W.frozen? ⟨w.heap.size + 1, 3, none⟩ = false := by
  have hs : (w.alloc (.cells #[c0, c1, c2, c3, c4, c5] e)).heap.size = w.heap.size + 1 := by simp
  have hl : (w.alloc (.cells #[c0, c1, c2, c3, c4, c5] e)).heap.size < ((w.alloc (.cells #[c0, c1, c2, c3, c4, c5] e)).alloc (.cells #[d0, d1, d2, d3] e')).heap.size := by simp
  refine ⟨res_keep ((below_alloc _ _).trans (h.mono (by simp))), ?_⟩
  have k : ∀ i, W.cell? ⟨(w.alloc (.cells #[c0, c1, c2, c3, c4, c5] e)).heap.size, i, none⟩ = #[d0, d1, d2, d3][i]? := fun i => (h.cell (p := ⟨_, i, none⟩) hl).trans (cell_new _ _ e' i)
  have f : ∀ i, W.frozen? ⟨(w.alloc (.cells #[c0, c1, c2, c3, c4, c5] e)).heap.size, i, none⟩ = false := fun i => (h.frozen (p := ⟨_, i, none⟩) hl).trans (frozen_new _ _ e' i)
  rw [hs] at k f
  exact ⟨⟨k 0, k 1, k 2, k 3⟩, f 3⟩

def CFarRes (s y : Int) (n : Nat) (vs : List Nat) (w : World) (e : Ending) (w' : World) : Prop :=
  (Po.may (s, y, (n : Int), 0) = true ∧ ∃ a' c', e = .returned (.tuple #[cv true a' 0 c' (s, y, (n : Int), Crc.more 0 vs), .int .i64 0]) ∧ Below w.heap.size w w') ∨
  (Po.may (s, y, (n : Int), 0) = false ∧ ∃ a' c', e = .returned (.tuple #[cv false a' 0 c' Po.zero, .int .i64 1]) ∧ Below w.heap.size w w')

end Go.Proofs.YtikieblokfjphaaGreat


/- What the program's Get of a cell does. -/
namespace Go.Proofs.YtikieblokfjphaaGreat
open Go.RowKit

theorem get_near {bs : List Nat} (h0 : bs.length ≠ 0) (h : bs.getD 0 0 = 0) : Ce.get bs = if (nearOf (bs.drop 1)).2 = 0 then (Ce.zero, 0) else ((false, (nearOf (bs.drop 1)).1, Po.zero), 1 + (nearOf (bs.drop 1)).2) := by
  unfold Ce.get
  rw [if_neg (by omega), if_neg (by omega)]
  by_cases hc : (Va.get (bs.drop 1)).2 = 0 ∨ 32 < (Va.get (bs.drop 1)).1 ∨ bs.length < 1 + (Va.get (bs.drop 1)).2 + (Va.get (bs.drop 1)).1
  · have e : nearOf (bs.drop 1) = ([], 0) := by unfold nearOf; rw [if_pos (by rw [List.length_drop]; omega)]
    rw [if_pos hc, e, if_pos rfl]
  · have e : nearOf (bs.drop 1) = (((bs.drop 1).drop (Va.get (bs.drop 1)).2).take (Va.get (bs.drop 1)).1, (Va.get (bs.drop 1)).2 + (Va.get (bs.drop 1)).1) := by unfold nearOf; rw [if_neg (by rw [List.length_drop]; omega)]
    rw [if_neg hc, e, if_neg (by simp only; omega), List.drop_drop, Nat.add_assoc]
theorem get_far {bs : List Nat} (h0 : bs.length ≠ 0) (h : bs.getD 0 0 = 1) : Ce.get bs = if (Po.get (bs.drop 1)).2 = 0 then (Ce.zero, 0) else ((true, [], (Po.get (bs.drop 1)).1), 1 + (Po.get (bs.drop 1)).2) := by
  unfold Ce.get
  rw [if_neg (by omega), if_pos h, Nat.add_comm 1]
theorem get_none {bs : List Nat} (h : bs.length = 0 ∨ 1 < bs.getD 0 0) : Ce.get bs = (Ce.zero, 0) := by
  unfold Ce.get; rw [if_pos h]

/-- as CGetRes, and that the row of a near cell is the call's own -/
def CGetOwn (w : World) (R : Ce.C × Nat) (e : Ending) (w' : World) : Prop :=
  ∃ a c, e = .returned (.tuple #[cv R.1.1 a R.1.2.1.length c R.1.2.2, .int .i64 (R.2 : Nat), .int .i64 (code R.2 : Nat)]) ∧ Row .u8 w' a R.1.2.1.length R.1.2.1 ∧ (a = none → R.1.2.1.length = 0 ∧ c = 0) ∧ w'.ownsRow w.heap.size 5 1 (.slice a R.1.2.1.length c) R.1.2.1.length (kcells .u8 R.1.2.1) ∧ Below w.heap.size w w'

theorem cgres_zero {w W : World} {G : Ce.C × Nat} (hG : G = (Ce.zero, 0)) (hb : Below w.heap.size w W) : CGetOwn w G (.returned (.tuple #[cv false none 0 0 Po.zero, .int .i64 0, .int .i64 2])) W := by
  subst hG
  exact ⟨none, 0, rfl, ⟨rfl, by simp [Ce.zero], by simp [Ce.zero], .inl rfl⟩, fun _ => ⟨rfl, rfl⟩, ⟨rfl, .inl ⟨rfl, rfl⟩⟩, hb⟩
theorem cgres_far {w W : World} {G : Ce.C × Nat} {p : Po.P} {n : Nat} (hG : G = ((true, [], p), 1 + n)) (hb : Below w.heap.size w W) : CGetOwn w G (.returned (.tuple #[cv true none 0 0 p, .int .i64 ((1 + n : Nat) : Int), .int .i64 0])) W := by
  subst hG
  have hc : code (1 + n) = 0 := by unfold code; rw [if_neg (by omega)]
  refine ⟨none, 0, ?_, ⟨rfl, by simp, by simp, .inl rfl⟩, fun _ => ⟨rfl, rfl⟩, ⟨rfl, .inl ⟨rfl, rfl⟩⟩, hb⟩
  simp only [hc]; rfl
theorem cgres_near {w W : World} {G : Ce.C × Nat} {v : List Nat} {u n c : Nat} {a : Option Addr} (hG : G = ((false, v, Po.zero), 1 + n)) (hu : v.length = u) (hr : Row .u8 W a u v) (hnil : a = none → u = 0 ∧ c = 0) (hown : W.ownsRow w.heap.size 5 1 (.slice a u c) u (kcells .u8 v)) (hb : Below w.heap.size w W) : CGetOwn w G (.returned (.tuple #[cv false a u c Po.zero, .int .i64 ((1 + n : Nat) : Int), .int .i64 0])) W := by
  subst hG; subst hu
  have hc : code (1 + n) = 0 := by unfold code; rw [if_neg (by omega)]
  refine ⟨a, c, ?_, hr, hnil, hown, hb⟩
  simp only [hc]; rfl

/-- two blocks of six cells of the call's own -/
theorem twelve_keep {w W : World} {c0 c1 c2 c3 c4 c5 d0 d1 d2 d3 d4 d5 : Value} {e e' : TypeId} (h : Below ((w.alloc (.cells #[c0, c1, c2, c3, c4, c5] e)).alloc (.cells #[d0, d1, d2, d3, d4, d5] e')).heap.size ((w.alloc (.cells #[c0, c1, c2, c3, c4, c5] e)).alloc (.cells #[d0, d1, d2, d3, d4, d5] e')) W) :
    ((W.cell? ⟨w.heap.size, 0, none⟩ = some c0 ∧ W.cell? ⟨w.heap.size, 1, none⟩ = some c1 ∧ W.cell? ⟨w.heap.size, 2, none⟩ = some c2 ∧ W.cell? ⟨w.heap.size, 3, none⟩ = some c3 ∧ W.cell? ⟨w.heap.size, 4, none⟩ = some c4 ∧ W.cell? ⟨w.heap.size, 5, none⟩ = some c5) ∧
    (W.frozen? ⟨w.heap.size, 0, none⟩ = false ∧ W.frozen? ⟨w.heap.size, 1, none⟩ = false ∧ W.frozen? ⟨w.heap.size, 2, none⟩ = false ∧ W.frozen? ⟨w.heap.size, 3, none⟩ = false ∧ W.frozen? ⟨w.heap.size, 4, none⟩ = false ∧ W.frozen? ⟨w.heap.size, 5, none⟩ = false) ∧ Below w.heap.size w W ∧ w.heap.size < W.heap.size) ∧
    (W.cell? ⟨w.heap.size + 1, 0, none⟩ = some d0 ∧ W.cell? ⟨w.heap.size + 1, 1, none⟩ = some d1 ∧ W.cell? ⟨w.heap.size + 1, 2, none⟩ = some d2 ∧ W.cell? ⟨w.heap.size + 1, 3, none⟩ = some d3 ∧ W.cell? ⟨w.heap.size + 1, 4, none⟩ = some d4 ∧ W.cell? ⟨w.heap.size + 1, 5, none⟩ = some d5) ∧
    (W.frozen? ⟨w.heap.size + 1, 0, none⟩ = false ∧ W.frozen? ⟨w.heap.size + 1, 1, none⟩ = false ∧ W.frozen? ⟨w.heap.size + 1, 2, none⟩ = false ∧ W.frozen? ⟨w.heap.size + 1, 3, none⟩ = false ∧ W.frozen? ⟨w.heap.size + 1, 4, none⟩ = false ∧ W.frozen? ⟨w.heap.size + 1, 5, none⟩ = false) ∧ w.heap.size + 1 < W.heap.size := by
  have hs : (w.alloc (.cells #[c0, c1, c2, c3, c4, c5] e)).heap.size = w.heap.size + 1 := by simp
  have k := res_keep h
  rw [hs] at k
  exact ⟨res_keep ((below_alloc _ _).trans (h.mono (by simp))), k.1, k.2.1, k.2.2.2⟩

set_option maxRecDepth 100000 in
set_option maxHeartbeats 2000000 in
theorem cget_own (a : Option Addr) (len cap : Nat) (bs : List Nat) (w : World) (hlc : len ≤ cap) (hbig : len ≤ 100000) (hr : Row .u8 w a len bs) : Calls Tryz.prog 88 #[.slice a len cap] w (CGetOwn w (Ce.get bs)) := by
  have hlen : Hid (bs.length = len) := hr.1
  have hb0 := below_alloc w (.cells #[.bool false, .slice none 0 0, .int .i64 0, .int .i64 0, .int .i64 0, .int .u32 0] 38)
  have hbb : Below w.heap.size w ((w.alloc (.cells #[.bool false, .slice none 0 0, .int .i64 0, .int .i64 0, .int .i64 0, .int .u32 0] 38)).alloc (.cells #[.bool false, .slice none 0 0, .int .i64 0, .int .i64 0, .int .i64 0, .int .u32 0] 38)) := hb0.alloc hb0.size _
  have hkeep : Hid (∀ W, Below ((w.alloc (.cells #[.bool false, .slice none 0 0, .int .i64 0, .int .i64 0, .int .i64 0, .int .u32 0] 38)).alloc (.cells #[.bool false, .slice none 0 0, .int .i64 0, .int .i64 0, .int .i64 0, .int .u32 0] 38)).heap.size ((w.alloc (.cells #[.bool false, .slice none 0 0, .int .i64 0, .int .i64 0, .int .i64 0, .int .u32 0] 38)).alloc (.cells #[.bool false, .slice none 0 0, .int .i64 0, .int .i64 0, .int .i64 0, .int .u32 0] 38)) W → _) := (fun W h => twelve_keep (w := w) (W := W) h)
  obtain ⟨G, hG⟩ : ∃ G, G = Ce.get bs := ⟨_, rfl⟩
  rw [← hG]
  have HG : Hid (G = Ce.get bs) := hG
  clear hG
  rcases Nat.eq_zero_or_pos len with h0 | h0
  · subst h0
    have H : Hid (G = (Ce.zero, 0)) := (by rw [HG.out, get_none (.inl hlen.out)] : G = (Ce.zero, 0))
    have hk := res_keep (w := w) (W := w.alloc (.cells #[.bool false, .slice none 0 0, .int .i64 0, .int .i64 0, .int .i64 0, .int .u32 0] 38)) (Below.refl _ _)
    obtain ⟨⟨m0, m1, m2, m3, m4, m5⟩, ⟨g0, g1, g2, g3, g4, g5⟩, hb1, hs1⟩ := hk
    clear HG
    go_enter Tryz.func88, Tryz.ntmps88
    go_wp2
    exact bodyPost_ret (v := .tuple #[cv false none 0 0 Po.zero, .int .i64 0, .int .i64 2]) (by simp [cv, Po.zero, results, Tryz.results88, go_sem, m0, m1, m2, m3, m4, m5]) rfl (cgres_zero H.out hb0)
  · have hd0 : ((len : Int) == 0) = false := by simp; omega
    have hlne : Hid (bs.length ≠ 0) := (by rw [hlen.out]; omega : bs.length ≠ 0)
    obtain ⟨b, off, rfl, _⟩ := hr.at h0
    have hx := (hr.below hbb (Nat.le_refl _)).cell 0 (by omega)
    rw [Nat.add_zero] at hx
    have hx8 := getD_lt8 hr.2.2.1 0
    have hrow1 : ∀ W a' l' c', Below w.heap.size w W → l' = len - 1 → ((l' = 0 ∧ c' = 0) ∨ (a' = some ⟨b, off + 1, none⟩ ∧ c' = cap - 1)) → Row .u8 W a' l' (bs.drop 1) ∧ Shape a' l' c' ∧ l' ≤ c' := fun W a' l' c' hW hl hc => by
      have h1 := (hr.below hW (Nat.le_refl _)).drop 1 (by omega)
      rcases hc with ⟨rfl, rfl⟩ | ⟨rfl, rfl⟩
      · exact ⟨⟨by rw [List.length_drop, hlen.out]; omega, by omega, h1.2.2.1, .inl rfl⟩, .inl ⟨rfl, rfl⟩, Nat.le_refl _⟩
      · subst hl
        exact ⟨h1, .inr ⟨b, off + 1, rfl, by omega⟩, by omega⟩
    have hl1 : (1 : Int) ≤ (len : Int) := by omega
    have hl2 : (len : Int) ≤ (cap : Int) := by omega
    have hl3 : (1 : Int) ≤ (cap : Int) := by omega
    by_cases hx1 : 1 < bs.getD 0 0
    · have H : Hid (G = (Ce.zero, 0)) := (by rw [HG.out, get_none (.inr hx1)] : G = (Ce.zero, 0))
      obtain ⟨⟨⟨m0, m1, m2, m3, m4, m5⟩, ⟨g0, g1, g2, g3, g4, g5⟩, hb1, hs1⟩, ⟨q0, q1, q2, q3, q4, q5⟩, ⟨f0, f1, f2, f3, f4, f5⟩, hs2⟩ := hkeep.out _ (Below.refl _ _)
      clear HG hrow1 hr
      generalize bs.getD 0 0 = x at *
      have d0 : ((x : Int) == 0) = false := by simp; omega
      have d1 : ((x : Int) == 1) = false := by simp; omega
      by_cases hc1 : cap = 1
      · subst hc1
        obtain rfl : len = 1 := by omega
        go_enter Tryz.func88, Tryz.ntmps88
        go_wp2
        exact bodyPost_ret (v := .tuple #[cv false none 0 0 Po.zero, .int .i64 0, .int .i64 2]) (by simp [cv, Po.zero, results, Tryz.results88, go_sem, m0, m1, m2, m3, m4, m5]) rfl (cgres_zero H.out hbb)
      · go_enter Tryz.func88, Tryz.ntmps88
        go_wp2
        exact bodyPost_ret (v := .tuple #[cv false none 0 0 Po.zero, .int .i64 0, .int .i64 2]) (by simp [cv, Po.zero, results, Tryz.results88, go_sem, m0, m1, m2, m3, m4, m5]) rfl (cgres_zero H.out hbb)
    · by_cases hx2 : bs.getD 0 0 = 1
      · have hgp : ∀ W a' l' c', Below w.heap.size w W → l' = len - 1 → ((l' = 0 ∧ c' = 0) ∨ (a' = some ⟨b, off + 1, none⟩ ∧ c' = cap - 1)) → Calls Tryz.prog 106 #[.slice a' l' c'] W fun e w' => e = .returned (.tuple #[pv (Po.get (bs.drop 1)).1, .int .i64 ((Po.get (bs.drop 1)).2 : Nat), .int .i64 (code (Po.get (bs.drop 1)).2 : Nat)]) ∧ Below W.heap.size W w' := fun W a' l' c' hW hl hc => by
          obtain ⟨h1, h2, h3⟩ := hrow1 W a' l' c' hW hl hc
          exact pgetC a' l' c' _ W h2 h3 (by omega) h1
        have hbf : Below w.heap.size w ((w.alloc (.cells #[.bool false, .slice none 0 0, .int .i64 0, .int .i64 0, .int .i64 0, .int .u32 0] 38)).alloc (.cells #[.bool true, .slice none 0 0, .int .i64 0, .int .i64 0, .int .i64 0, .int .u32 0] 38)) := hb0.alloc hb0.size _
        have hkeepf : Hid (∀ W, Below ((w.alloc (.cells #[.bool false, .slice none 0 0, .int .i64 0, .int .i64 0, .int .i64 0, .int .u32 0] 38)).alloc (.cells #[.bool true, .slice none 0 0, .int .i64 0, .int .i64 0, .int .i64 0, .int .u32 0] 38)).heap.size ((w.alloc (.cells #[.bool false, .slice none 0 0, .int .i64 0, .int .i64 0, .int .i64 0, .int .u32 0] 38)).alloc (.cells #[.bool true, .slice none 0 0, .int .i64 0, .int .i64 0, .int .i64 0, .int .u32 0] 38)) W → _) := (fun W h => twelve_keep (w := w) (W := W) h)
        have HG2 : Hid (G = if (Po.get (bs.drop 1)).2 = 0 then (Ce.zero, 0) else ((true, [], (Po.get (bs.drop 1)).1), 1 + (Po.get (bs.drop 1)).2)) := (HG.out.trans (get_far hlne.out hx2) : G = if (Po.get (bs.drop 1)).2 = 0 then (Ce.zero, 0) else ((true, [], (Po.get (bs.drop 1)).1), 1 + (Po.get (bs.drop 1)).2))
        have hple := Po.get_le (bs.drop 1)
        rw [List.length_drop, hlen.out] at hple
        rw [hx2] at hx
        clear HG hrow1 hr hx2 hx1 hx8 hlne
        generalize Po.get (bs.drop 1) = R at *
        obtain ⟨⟨s, y, l, m⟩, n⟩ := R
        simp only [pv] at hgp hple
        rcases Nat.eq_zero_or_pos n with hn | hn
        · subst hn
          have H : Hid (G = (Ce.zero, 0)) := (by rw [HG2.out, if_pos rfl] : G = (Ce.zero, 0))
          rw [code_zero] at hgp
          clear HG2
          by_cases hc1 : cap = 1
          · subst hc1
            obtain rfl : len = 1 := by omega
            go_enter Tryz.func88, Tryz.ntmps88
            go_wp2_with (go_at_call 106; go_must (refine (hgp _ _ 0 0 hbf rfl (.inl ⟨rfl, rfl⟩)).mono ?_; rintro e w1 ⟨rfl, hbel1⟩; obtain ⟨⟨⟨m0, m1, m2, m3, m4, m5⟩, ⟨g0, g1, g2, g3, g4, g5⟩, hb1, hs1⟩, ⟨q0, q1, q2, q3, q4, q5⟩, ⟨f0, f1, f2, f3, f4, f5⟩, hs2⟩ := hkeepf.out _ hbel1))
            exact bodyPost_ret (v := .tuple #[cv false none 0 0 Po.zero, .int .i64 0, .int .i64 2]) (by simp [cv, Po.zero, results, Tryz.results88, go_sem, m0, m1, m2, m3, m4, m5]) rfl (cgres_zero H.out (below_six ((((hb1.setCell (p := ⟨w.heap.size + 1, 2, none⟩) (Nat.le_succ _) _).setCell (p := ⟨w.heap.size + 1, 3, none⟩) (Nat.le_succ _) _).setCell (p := ⟨w.heap.size + 1, 4, none⟩) (Nat.le_succ _) _).setCell (p := ⟨w.heap.size + 1, 5, none⟩) (Nat.le_succ _) _) _ _ _ _ _ _))
          · go_enter Tryz.func88, Tryz.ntmps88
            go_wp2_with (go_at_call 106; go_must (refine (hgp _ _ _ _ hbf (by omega) (.inr ⟨rfl, by omega⟩)).mono ?_; rintro e w1 ⟨rfl, hbel1⟩; obtain ⟨⟨⟨m0, m1, m2, m3, m4, m5⟩, ⟨g0, g1, g2, g3, g4, g5⟩, hb1, hs1⟩, ⟨q0, q1, q2, q3, q4, q5⟩, ⟨f0, f1, f2, f3, f4, f5⟩, hs2⟩ := hkeepf.out _ hbel1))
            exact bodyPost_ret (v := .tuple #[cv false none 0 0 Po.zero, .int .i64 0, .int .i64 2]) (by simp [cv, Po.zero, results, Tryz.results88, go_sem, m0, m1, m2, m3, m4, m5]) rfl (cgres_zero H.out (below_six ((((hb1.setCell (p := ⟨w.heap.size + 1, 2, none⟩) (Nat.le_succ _) _).setCell (p := ⟨w.heap.size + 1, 3, none⟩) (Nat.le_succ _) _).setCell (p := ⟨w.heap.size + 1, 4, none⟩) (Nat.le_succ _) _).setCell (p := ⟨w.heap.size + 1, 5, none⟩) (Nat.le_succ _) _) _ _ _ _ _ _))
        · have H : Hid (G = ((true, [], (s, y, l, m)), 1 + n)) := (by rw [HG2.out, if_neg (by simp only; omega)] : G = ((true, [], (s, y, l, m)), 1 + n))
          have hc : code n = 0 := by unfold code; rw [if_neg (by omega)]
          rw [hc] at hgp
          clear HG2 hc
          have j2 : IntKind.i64.wrap (1 + (n : Int)) = 1 + (n : Int) := by rw [IntKind.wrap_i64]; omega
          have hc1 : ¬ cap = 1 := by omega
          go_enter Tryz.func88, Tryz.ntmps88
          go_wp2_with (go_at_call 106; go_must (refine (hgp _ _ _ _ hbf (by omega) (.inr ⟨rfl, by omega⟩)).mono ?_; rintro e w1 ⟨rfl, hbel1⟩; obtain ⟨⟨⟨m0, m1, m2, m3, m4, m5⟩, ⟨g0, g1, g2, g3, g4, g5⟩, hb1, hs1⟩, ⟨q0, q1, q2, q3, q4, q5⟩, ⟨f0, f1, f2, f3, f4, f5⟩, hs2⟩ := hkeepf.out _ hbel1))
          exact bodyPost_ret (v := .tuple #[cv true none 0 0 (s, y, l, m), .int .i64 ((1 + n : Nat) : Int), .int .i64 0]) (by simp [cv, results, Tryz.results88, go_sem, m0, m1, m2, m3, m4, m5]) rfl (cgres_far H.out (below_six ((((hb1.setCell (p := ⟨w.heap.size + 1, 2, none⟩) (Nat.le_succ _) _).setCell (p := ⟨w.heap.size + 1, 3, none⟩) (Nat.le_succ _) _).setCell (p := ⟨w.heap.size + 1, 4, none⟩) (Nat.le_succ _) _).setCell (p := ⟨w.heap.size + 1, 5, none⟩) (Nat.le_succ _) _) _ _ _ _ _ _))
      · have hx3 : bs.getD 0 0 = 0 := by omega
        have hgv : ∀ W a' l' c', Below w.heap.size w W → l' = len - 1 → ((l' = 0 ∧ c' = 0) ∨ (a' = some ⟨b, off + 1, none⟩ ∧ c' = cap - 1)) → Calls Tryz.prog 105 #[.slice a' l' c'] W (NearRes W (nearOf (bs.drop 1))) := fun W a' l' c' hW hl hc => by
          obtain ⟨h1, h2, h3⟩ := hrow1 W a' l' c' hW hl hc
          exact getbytes_any a' l' c' _ W h3 (by omega) h1
        have HG2 : Hid (G = if (nearOf (bs.drop 1)).2 = 0 then (Ce.zero, 0) else ((false, (nearOf (bs.drop 1)).1, Po.zero), 1 + (nearOf (bs.drop 1)).2)) := (HG.out.trans (get_near hlne.out hx3) : G = if (nearOf (bs.drop 1)).2 = 0 then (Ce.zero, 0) else ((false, (nearOf (bs.drop 1)).1, Po.zero), 1 + (nearOf (bs.drop 1)).2))
        have hnle : (nearOf (bs.drop 1)).2 ≤ len - 1 := by
          unfold nearOf
          split
          · omega
          · next h => rw [List.length_drop, hlen.out] at h; simp only; omega
        rw [hx3] at hx
        clear HG hrow1 hr hx2 hx1 hx8 hlne hx3
        unfold NearRes at hgv
        generalize nearOf (bs.drop 1) = R at *
        obtain ⟨v, n⟩ := R
        simp only at hgv hnle
        rcases Nat.eq_zero_or_pos n with hn | hn
        · subst hn
          have H : Hid (G = (Ce.zero, 0)) := (by rw [HG2.out, if_pos rfl] : G = (Ce.zero, 0))
          rw [code_zero] at hgv
          clear HG2
          by_cases hc1 : cap = 1
          · subst hc1
            obtain rfl : len = 1 := by omega
            go_enter Tryz.func88, Tryz.ntmps88
            go_wp2_with (go_at_call 105; go_must (refine (hgv _ _ 0 0 hbb rfl (.inl ⟨rfl, rfl⟩)).mono ?_; rintro e w1 ⟨a1, c1, rfl, r1, n1, nw1, hbel1⟩; obtain ⟨⟨⟨m0, m1, m2, m3, m4, m5⟩, ⟨g0, g1, g2, g3, g4, g5⟩, hb1, hs1⟩, ⟨q0, q1, q2, q3, q4, q5⟩, ⟨f0, f1, f2, f3, f4, f5⟩, hs2⟩ := hkeep.out _ hbel1))
            exact bodyPost_ret (v := .tuple #[cv false none 0 0 Po.zero, .int .i64 0, .int .i64 2]) (by simp [cv, Po.zero, results, Tryz.results88, go_sem, m0, m1, m2, m3, m4, m5]) rfl (cgres_zero H.out (below_six (hb1.setCell (p := ⟨w.heap.size + 1, 1, none⟩) (Nat.le_succ _) _) _ _ _ _ _ _))
          · go_enter Tryz.func88, Tryz.ntmps88
            go_wp2_with (go_at_call 105; go_must (refine (hgv _ _ _ _ hbb (by omega) (.inr ⟨rfl, by omega⟩)).mono ?_; rintro e w1 ⟨a1, c1, rfl, r1, n1, nw1, hbel1⟩; obtain ⟨⟨⟨m0, m1, m2, m3, m4, m5⟩, ⟨g0, g1, g2, g3, g4, g5⟩, hb1, hs1⟩, ⟨q0, q1, q2, q3, q4, q5⟩, ⟨f0, f1, f2, f3, f4, f5⟩, hs2⟩ := hkeep.out _ hbel1))
            exact bodyPost_ret (v := .tuple #[cv false none 0 0 Po.zero, .int .i64 0, .int .i64 2]) (by simp [cv, Po.zero, results, Tryz.results88, go_sem, m0, m1, m2, m3, m4, m5]) rfl (cgres_zero H.out (below_six (hb1.setCell (p := ⟨w.heap.size + 1, 1, none⟩) (Nat.le_succ _) _) _ _ _ _ _ _))
        · have H : Hid (G = ((false, v, Po.zero), 1 + n)) := (by rw [HG2.out, if_neg (by simp only; omega)] : G = ((false, v, Po.zero), 1 + n))
          have hc : code n = 0 := by unfold code; rw [if_neg (by omega)]
          rw [hc] at hgv
          clear HG2 hc
          have j2 : IntKind.i64.wrap (1 + (n : Int)) = 1 + (n : Int) := by rw [IntKind.wrap_i64]; omega
          have hc1 : ¬ cap = 1 := by omega
          go_enter Tryz.func88, Tryz.ntmps88
          go_wp2_with (go_at_call 105; go_must (refine (hgv _ _ _ _ hbb (by omega) (.inr ⟨rfl, by omega⟩)).mono ?_; rintro e w1 ⟨a1, c1, rfl, r1, n1, nw1, hbel1⟩; obtain ⟨⟨⟨m0, m1, m2, m3, m4, m5⟩, ⟨g0, g1, g2, g3, g4, g5⟩, hb1, hs1⟩, ⟨q0, q1, q2, q3, q4, q5⟩, ⟨f0, f1, f2, f3, f4, f5⟩, hs2⟩ := hkeep.out _ hbel1))
          have hab : ∀ b o, a1 = some ⟨b, o, none⟩ → w.heap.size + 1 < b := fun b o e => Nat.lt_of_lt_of_le (by simp) (own_above nw1 b o e)
          have hla := fun b o e => Nat.lt_of_succ_lt (hab b o e)
          have nw2 := nw1.mono (base' := w.heap.size) (by simp only [World.size_alloc]; omega)
          exact bodyPost_ret (v := .tuple #[cv false a1 v.length c1 Po.zero, .int .i64 ((1 + n : Nat) : Int), .int .i64 0]) (by simp [cv, Po.zero, results, Tryz.results88, go_sem, m0, m1, m2, m3, m4, m5]) rfl (cgres_near H.out rfl (row_six (r1.set _ hab _ _) hla _ _ _ _ _ _) n1 (own_six (own_set nw2 _ hab _ _) hla _ _ _ _ _ _) (below_six (hb1.setCell (p := ⟨w.heap.size + 1, 1, none⟩) (Nat.le_succ _) _) _ _ _ _ _ _))
theorem cgetC : CGetC := fun a len cap bs w _ hlc hbig hr => (cget_own a len cap bs w hlc hbig hr).mono fun _ _ ⟨a, c, h1, h2, h3, _, h5⟩ => ⟨a, c, h1, h2, h3, h5⟩
end Go.Proofs.YtikieblokfjphaaGreat
