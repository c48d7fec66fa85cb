/- Edits: what the program's bare does. -/
import Derived.Test.YtfogodbbgbnhkaaGreatDoorEB
import Derived.Laws.CopyOwn
namespace Go.Proofs.YtfogodbbgbnhkaaGreatDoor
open Go.RowKit

theorem kept3 {w w2 : World} {o1 o2 o3 : Obj} (hb : Below (((w.alloc o1).alloc o2).alloc o3).heap.size (((w.alloc o1).alloc o2).alloc o3) w2) :
    w2.heap[w.heap.size]? = some o1 ∧ w2.heap[w.heap.size + 1]? = some o2 ∧ w2.heap[w.heap.size + 1 + 1]? = some o3 ∧ w.heap.size + 1 + 1 < w2.heap.size := by
  have hs : (((w.alloc o1).alloc o2).alloc o3).heap.size = w.heap.size + 3 := by simp
  have hz := hb.size
  rw [hs] at hz
  refine ⟨(hb.block _ (by omega)).trans ?_, (hb.block _ (by omega)).trans ?_, (hb.block _ (by omega)).trans ?_, by omega⟩
  · rw [Below.heap_alloc _ _ _ (by simp; omega), Below.heap_alloc _ _ _ (by simp)]; exact heap_alloc_new w _
  · rw [Below.heap_alloc _ _ _ (by simp)]; simpa using heap_alloc_new (w.alloc o1) o2
  · simpa using heap_alloc_new ((w.alloc o1).alloc o2) o3
theorem blk12 {W : World} {k n i t a b c p q r : Int} {f g : ByteArray} {o : Nat} (h : W.heap[o]? = some (oed k n i t a b c p q r f g)) :
    W.cell? ⟨o, 0, none⟩ = some (.int .i64 k) ∧ W.cell? ⟨o, 1, none⟩ = some (.int .i64 n) ∧ W.cell? ⟨o, 2, none⟩ = some (.int .i64 i) ∧ W.cell? ⟨o, 3, none⟩ = some (.int .i64 t) ∧ W.cell? ⟨o, 4, none⟩ = some (.int .i64 a) ∧ W.cell? ⟨o, 5, none⟩ = some (.int .i64 b) ∧ W.cell? ⟨o, 6, none⟩ = some (.int .i64 c) ∧ W.cell? ⟨o, 7, none⟩ = some (.int .i64 p) ∧ W.cell? ⟨o, 8, none⟩ = some (.int .i64 q) ∧ W.cell? ⟨o, 9, none⟩ = some (.int .i64 r) ∧ W.cell? ⟨o, 10, none⟩ = some (.string f) ∧ W.cell? ⟨o, 11, none⟩ = some (.string g) := by
  refine ⟨?_, ?_, ?_, ?_, ?_, ?_, ?_, ?_, ?_, ?_, ?_, ?_⟩ <;> (simp only [World.cell?, h]; rfl)
theorem blk6 {W : World} {n i t a b c : Int} {o : Nat} {e : TypeId} (h : W.heap[o]? = some (.cells #[.int .i64 n, .int .i64 i, .int .i64 t, .int .i64 a, .int .i64 b, .int .i64 c] e (0, 0))) :
    W.cell? ⟨o, 0, none⟩ = some (.int .i64 n) ∧ W.cell? ⟨o, 1, none⟩ = some (.int .i64 i) ∧ W.cell? ⟨o, 2, none⟩ = some (.int .i64 t) ∧ W.cell? ⟨o, 3, none⟩ = some (.int .i64 a) ∧ W.cell? ⟨o, 4, none⟩ = some (.int .i64 b) ∧ W.cell? ⟨o, 5, none⟩ = some (.int .i64 c) := by
  refine ⟨?_, ?_, ?_, ?_, ?_, ?_⟩ <;> (simp only [World.cell?, h]; rfl)
theorem blk_thaw {W : World} {o : Nat} {C : Array Value} {e : TypeId} (h : W.heap[o]? = some (.cells C e (0, 0))) (i : Nat) : W.frozen? ⟨o, i, none⟩ = false := by
  simp only [World.frozen?, h]; simp
theorem below_put {w W : World} {B g : Nat} (h : Below B w W) (hg : B ≤ g) (i : Nat) (v : Value) : Below B w (W.setCell ⟨g, i, none⟩ v) :=
  ⟨h.os, h.tape, h.output, by simpa using h.size, fun k hk => (Below.heap_setCell W ⟨g, i, none⟩ v k (fun e => by have : k = g := e; omega)).trans (h.block k hk)⟩
theorem ints_u : Tryz.prog.underlying 27 = some (.slice 3) := by kernel_rfl
theorem ints_s : (Tryz.prog.info? 3).map (·.size) = some 1 := by kernel_rfl
/-- copy onto a piece of a block -/
theorem copy_on (W : World) (dT sT ty elem e : TypeId) (hu : Tryz.prog.underlying dT = some (.slice elem)) (hs : (Tryz.prog.info? elem).map (·.size) = some 1) (R F n dcap : Nat) (sp : Option Addr) (scap : Nat) (cs ys : List Value) (hn : cs.length = n)
    (hR : W.heap[R]? = some (.cells ys.toArray e (0, 0))) (hsrc : 0 < n → ∃ ad, sp = some ad ∧ ∀ (j : Nat) (v : Value), cs[j]? = some v → W.cell? (ad.add j) = some v) (hfit : F + n ≤ ys.length) (h1 : ∀ v ∈ cs, v.oneCell' = true) :
    ∃ W4, (Builtin.copy_ #[dT, sT] ty #[.slice (some ⟨R, F, none⟩) n dcap, .slice sp n scap]).run Tryz.prog W = .ok (.int .i64 (n : Int)) W4 ∧ Hid (W4.heap[R]? = some (.cells (splice ys F cs).toArray e (0, 0))) ∧ Below R W W4 := by
  by_cases h0 : n = 0
  · subst h0
    obtain rfl : cs = [] := List.eq_nil_of_length_eq_zero hn
    exact ⟨W, run_copy_none W dT sT ty elem _ _ 0 dcap 0 scap hu hs rfl, (by simpa [splice] using hR : W.heap[R]? = some (.cells (splice ys F []).toArray e (0, 0))), Below.refl _ _⟩
  · obtain ⟨ad, rfl, hsr⟩ := hsrc (by omega)
    have hrun := run_copy_row (P := Tryz.prog) W dT sT ty elem R F n dcap ad n scap ys.toArray e cs hu hs hR (by rw [hn]; exact (Nat.min_self n).symm) hsr (by simpa [hn] using hfit) h1
    rw [hn] at hrun
    refine ⟨_, hrun, ?_, below_setRow (Below.refl _ _) (Nat.le_refl _) _⟩
    have := setRow_heap W R ys.toArray (ys.toArray.toList.take F ++ cs ++ ys.toArray.toList.drop (F + n)).toArray e (0, 0) hR
    rw [show splice ys F cs = ys.toArray.toList.take F ++ cs ++ ys.toArray.toList.drop (F + n) by simp [splice, hn]]
    exact this
theorem src_at {W : World} {A F : Nat} {C : Array Value} {e : TypeId} {cs : List Value} (h : W.heap[A]? = some (.cells C e (0, 0))) (hc : ∀ (j : Nat) (v : Value), cs[j]? = some v → C[F + j]? = some v) : ∀ (j : Nat) (v : Value), cs[j]? = some v → W.cell? ((⟨A, F, none⟩ : Addr).add j) = some v := by
  intro j v hj
  have e : (⟨A, F, none⟩ : Addr).add j = ⟨A, F + j, none⟩ := by
    by_cases h0 : j = 0
    · subst h0; rfl
    · simp [Addr.add, h0]
  rw [e]
  simp only [World.cell?, h]
  exact hc j v hj
set_option maxRecDepth 100000 in
set_option maxHeartbeats 1000000 in
theorem ebare_00t (n i t a b c p q r : Int) (f g : ByteArray) (w : World) (hn : ∀ W, Calls Tryz.prog 165 #[.int .i64 4] W fun e w' => e = .returned (.tuple #[.int .i64 0, .int .i64 0]) ∧ w' = W) :
    Calls Tryz.prog 124 #[ed12 4 n i t a b c p q r f g] w fun e w' => e = .returned (ed12 4 0 0 0 0 0 0 p q r f g) ∧ Below w.heap.size w w' := by
  have hro := fun k n i t a b c p q r f g W => erow_any k n i t a b c p q r f g W
  have hof := fun k n i t a b c W => eofrow_any k n i t a b c W
  go_enter Tryz.func124, Tryz.ntmps124
  go_wp2_with (first | (go_at_call 164; refine (hro _ _ _ _ _ _ _ _ _ _ _ _ _).mono ?_; rintro e w2 ⟨rfl, hb2⟩; obtain ⟨k1, k2, k3, k4⟩ := kept3 hb2; have K1 : Hid (_ = _) := (Below.heap_alloc w2 (.cells #[.int .i64 n, .int .i64 i, .int .i64 t, .int .i64 a, .int .i64 b, .int .i64 c] 216) _ (by omega)).trans k1; have K2 : Hid (_ = _) := (Below.heap_alloc w2 (.cells #[.int .i64 n, .int .i64 i, .int .i64 t, .int .i64 a, .int .i64 b, .int .i64 c] 216) _ (by omega)).trans k2; have K3 : Hid (_ = _) := (Below.heap_alloc w2 (.cells #[.int .i64 n, .int .i64 i, .int .i64 t, .int .i64 a, .int .i64 b, .int .i64 c] 216) _ (by omega)).trans k3; have K4 : Hid (_ = _) := heap_alloc_new w2 (.cells #[.int .i64 n, .int .i64 i, .int .i64 t, .int .i64 a, .int .i64 b, .int .i64 c] 216); clear k1 k2 k3; obtain ⟨c0, c1, c2, c3, c4, c5, c6, c7, c8, c9, c10, c11⟩ := blk12 K1.out; obtain ⟨W3, hW3⟩ : ∃ W3, W3 = w2.alloc (.cells #[.int .i64 n, .int .i64 i, .int .i64 t, .int .i64 a, .int .i64 b, .int .i64 c] 216) := ⟨_, rfl⟩) | (go_at_call 165; refine (hn _).mono ?_; rintro e w3 ⟨rfl, rfl⟩))
  obtain ⟨W4, hrun, hR4, hb4⟩ := copy_on (w2.alloc (.cells #[.int .i64 n, .int .i64 i, .int .i64 t, .int .i64 a, .int .i64 b, .int .i64 c] 216)).drew 27 27 3 3 216 ints_u ints_s (w.heap.size + 1 + 1) 0 0 6 (some ⟨w2.heap.size, 0, none⟩) 6 [] [.int .i64 0, .int .i64 0, .int .i64 0, .int .i64 0, .int .i64 0, .int .i64 0] rfl K3.out (fun _ => ⟨_, rfl, src_at (W := (w2.alloc (.cells #[.int .i64 n, .int .i64 i, .int .i64 t, .int .i64 a, .int .i64 b, .int .i64 c] 216)).drew) K4.out (fun j v hj => by
    match j, hj with
    | j + 0, hj => simp at hj)⟩) (by decide) (by simp [Value.oneCell'])
  have L1 : Hid (W4.heap[w.heap.size]? = _) := (hb4.block _ (by omega)).trans K1.out
  have L2 : Hid (W4.heap[w.heap.size + 1]? = _) := (hb4.block _ (by omega)).trans K2.out
  have R4 : W4.heap[w.heap.size + 1 + 1]? = some (.cells #[.int .i64 0, .int .i64 0, .int .i64 0, .int .i64 0, .int .i64 0, .int .i64 0] 216 (0, 0)) := hR4.out
  obtain ⟨d0, d1, d2, d3, d4, d5, d6, d7, d8, d9, d10, d11⟩ := blk12 L1.out
  obtain ⟨r0, r1, r2, r3, r4, r5⟩ := blk6 R4
  have hs4 : w2.heap.size + 1 ≤ W4.heap.size := by have := hb4.size; simpa using this
  have hB4 : Below w.heap.size w W4 := ((((below_two w _ _).alloc (by simp; omega) _).trans (hb2.mono (by simp; omega))).alloc (by omega) (.cells #[.int .i64 n, .int .i64 i, .int .i64 t, .int .i64 a, .int .i64 b, .int .i64 c] 216)).drew.trans (hb4.mono (by omega))
  clear R4 hR4 K1 K2 K3 K4 c0 c1 c2 c3 c4 c5 c6 c7 c8 c9 c10 c11 hW3 W3
  go_region
  clear hrun
  go_wp2_with (go_at_call 166; refine (hof _ _ _ _ _ _ _ _).mono ?_; rintro e w5 ⟨rfl, hb5⟩; have hs5 := hb5.size; have M1 : Hid (_ = _) := (Below.heap_alloc w5 (oed 4 0 0 0 0 0 0 0 0 0 ⟨#[]⟩ ⟨#[]⟩) w.heap.size (by omega)).trans ((hb5.block _ (by omega)).trans L1.out); have M2 : Hid (_ = _) := (Below.heap_alloc w5 (oed 4 0 0 0 0 0 0 p q r f g) (w.heap.size + 1) (by omega)).trans ((hb5.block _ (by omega)).trans L2.out); obtain ⟨m0, m1, m2, m3, m4, m5, m6, m7, m8, m9, m10, m11⟩ := blk12 M1.out; obtain ⟨z0, z1, z2, z3, z4, z5, z6, z7, z8, z9, z10, z11⟩ := blk12 M2.out; have zf := blk_thaw M2.out)
  exact bodyPost_ret (v := ed12 4 0 0 0 0 0 0 p q r f g) (by simp [results, Tryz.results124, go_sem, z0, z1, z2, z3, z4, z5, z6, z7, z8, z9, z10, z11]) rfl ⟨rfl, (below_put (below_put (below_put (below_put (below_put (below_put (below_put (below_put (below_put (below_put (below_put (below_put ((hB4.trans (hb5.mono (by omega))).alloc (by omega) (oed 4 0 0 0 0 0 0 p q r f g)) (by omega) _ _) (by omega) _ _) (by omega) _ _) (by omega) _ _) (by omega) _ _) (by omega) _ _) (by omega) _ _) (by omega) _ _) (by omega) _ _) (by omega) _ _) (by omega) _ _) (by omega) _ _)⟩
set_option maxRecDepth 100000 in
set_option maxHeartbeats 1000000 in
theorem ebare_00 (k n i t a b c p q r : Int) (f g : ByteArray) (w : World) (hk : ¬ k = 4) (hn : ∀ W, Calls Tryz.prog 165 #[.int .i64 k] W fun e w' => e = .returned (.tuple #[.int .i64 0, .int .i64 0]) ∧ w' = W) :
    Calls Tryz.prog 124 #[ed12 k n i t a b c p q r f g] w fun e w' => e = .returned (ed12 k 0 0 0 0 0 0 0 0 0 ⟨#[]⟩ ⟨#[]⟩) ∧ Below w.heap.size w w' := by
  have hro := fun k n i t a b c p q r f g W => erow_any k n i t a b c p q r f g W
  have hof := fun k n i t a b c W => eofrow_any k n i t a b c W
  go_enter Tryz.func124, Tryz.ntmps124
  go_wp2_with (first | (go_at_call 164; refine (hro _ _ _ _ _ _ _ _ _ _ _ _ _).mono ?_; rintro e w2 ⟨rfl, hb2⟩; obtain ⟨k1, k2, k3, k4⟩ := kept3 hb2; have K1 : Hid (_ = _) := (Below.heap_alloc w2 (.cells #[.int .i64 n, .int .i64 i, .int .i64 t, .int .i64 a, .int .i64 b, .int .i64 c] 216) _ (by omega)).trans k1; have K2 : Hid (_ = _) := (Below.heap_alloc w2 (.cells #[.int .i64 n, .int .i64 i, .int .i64 t, .int .i64 a, .int .i64 b, .int .i64 c] 216) _ (by omega)).trans k2; have K3 : Hid (_ = _) := (Below.heap_alloc w2 (.cells #[.int .i64 n, .int .i64 i, .int .i64 t, .int .i64 a, .int .i64 b, .int .i64 c] 216) _ (by omega)).trans k3; have K4 : Hid (_ = _) := heap_alloc_new w2 (.cells #[.int .i64 n, .int .i64 i, .int .i64 t, .int .i64 a, .int .i64 b, .int .i64 c] 216); clear k1 k2 k3; obtain ⟨c0, c1, c2, c3, c4, c5, c6, c7, c8, c9, c10, c11⟩ := blk12 K1.out; obtain ⟨W3, hW3⟩ : ∃ W3, W3 = w2.alloc (.cells #[.int .i64 n, .int .i64 i, .int .i64 t, .int .i64 a, .int .i64 b, .int .i64 c] 216) := ⟨_, rfl⟩) | (go_at_call 165; refine (hn _).mono ?_; rintro e w3 ⟨rfl, rfl⟩))
  obtain ⟨W4, hrun, hR4, hb4⟩ := copy_on (w2.alloc (.cells #[.int .i64 n, .int .i64 i, .int .i64 t, .int .i64 a, .int .i64 b, .int .i64 c] 216)).drew 27 27 3 3 216 ints_u ints_s (w.heap.size + 1 + 1) 0 0 6 (some ⟨w2.heap.size, 0, none⟩) 6 [] [.int .i64 0, .int .i64 0, .int .i64 0, .int .i64 0, .int .i64 0, .int .i64 0] rfl K3.out (fun _ => ⟨_, rfl, src_at (W := (w2.alloc (.cells #[.int .i64 n, .int .i64 i, .int .i64 t, .int .i64 a, .int .i64 b, .int .i64 c] 216)).drew) K4.out (fun j v hj => by
    match j, hj with
    | j + 0, hj => simp at hj)⟩) (by decide) (by simp [Value.oneCell'])
  have L1 : Hid (W4.heap[w.heap.size]? = _) := (hb4.block _ (by omega)).trans K1.out
  have L2 : Hid (W4.heap[w.heap.size + 1]? = _) := (hb4.block _ (by omega)).trans K2.out
  have R4 : W4.heap[w.heap.size + 1 + 1]? = some (.cells #[.int .i64 0, .int .i64 0, .int .i64 0, .int .i64 0, .int .i64 0, .int .i64 0] 216 (0, 0)) := hR4.out
  obtain ⟨d0, d1, d2, d3, d4, d5, d6, d7, d8, d9, d10, d11⟩ := blk12 L1.out
  obtain ⟨r0, r1, r2, r3, r4, r5⟩ := blk6 R4
  have hs4 : w2.heap.size + 1 ≤ W4.heap.size := by have := hb4.size; simpa using this
  have hB4 : Below w.heap.size w W4 := ((((below_two w _ _).alloc (by simp; omega) _).trans (hb2.mono (by simp; omega))).alloc (by omega) (.cells #[.int .i64 n, .int .i64 i, .int .i64 t, .int .i64 a, .int .i64 b, .int .i64 c] 216)).drew.trans (hb4.mono (by omega))
  clear R4 hR4 K1 K2 K3 K4 c0 c1 c2 c3 c4 c5 c6 c7 c8 c9 c10 c11 hW3 W3
  go_region
  clear hrun
  go_wp2_with (go_at_call 166; refine (hof _ _ _ _ _ _ _ _).mono ?_; rintro e w5 ⟨rfl, hb5⟩; have hs5 := hb5.size; have M1 : Hid (_ = _) := (Below.heap_alloc w5 (oed k 0 0 0 0 0 0 0 0 0 ⟨#[]⟩ ⟨#[]⟩) w.heap.size (by omega)).trans ((hb5.block _ (by omega)).trans L1.out); have M2 : Hid (_ = _) := (Below.heap_alloc w5 (oed k 0 0 0 0 0 0 0 0 0 ⟨#[]⟩ ⟨#[]⟩) (w.heap.size + 1) (by omega)).trans ((hb5.block _ (by omega)).trans L2.out); obtain ⟨m0, m1, m2, m3, m4, m5, m6, m7, m8, m9, m10, m11⟩ := blk12 M1.out; obtain ⟨z0, z1, z2, z3, z4, z5, z6, z7, z8, z9, z10, z11⟩ := blk12 M2.out; have zf := blk_thaw M2.out)
  exact bodyPost_ret (v := ed12 k 0 0 0 0 0 0 0 0 0 ⟨#[]⟩ ⟨#[]⟩) (by simp [results, Tryz.results124, go_sem, z0, z1, z2, z3, z4, z5, z6, z7, z8, z9, z10, z11]) rfl ⟨rfl, (below_put (below_put (below_put (below_put (below_put (below_put (below_put (below_put (below_put (below_put (below_put (below_put ((hB4.trans (hb5.mono (by omega))).alloc (by omega) (oed k 0 0 0 0 0 0 0 0 0 ⟨#[]⟩ ⟨#[]⟩)) (by omega) _ _) (by omega) _ _) (by omega) _ _) (by omega) _ _) (by omega) _ _) (by omega) _ _) (by omega) _ _) (by omega) _ _) (by omega) _ _) (by omega) _ _) (by omega) _ _) (by omega) _ _)⟩
set_option maxRecDepth 100000 in
set_option maxHeartbeats 1000000 in
theorem ebare_01 (k n i t a b c p q r : Int) (f g : ByteArray) (w : World) (hk : ¬ k = 4) (hn : ∀ W, Calls Tryz.prog 165 #[.int .i64 k] W fun e w' => e = .returned (.tuple #[.int .i64 0, .int .i64 1]) ∧ w' = W) :
    Calls Tryz.prog 124 #[ed12 k n i t a b c p q r f g] w fun e w' => e = .returned (ed12 k n 0 0 0 0 0 0 0 0 ⟨#[]⟩ ⟨#[]⟩) ∧ Below w.heap.size w w' := by
  have hro := fun k n i t a b c p q r f g W => erow_any k n i t a b c p q r f g W
  have hof := fun k n i t a b c W => eofrow_any k n i t a b c W
  go_enter Tryz.func124, Tryz.ntmps124
  go_wp2_with (first | (go_at_call 164; refine (hro _ _ _ _ _ _ _ _ _ _ _ _ _).mono ?_; rintro e w2 ⟨rfl, hb2⟩; obtain ⟨k1, k2, k3, k4⟩ := kept3 hb2; have K1 : Hid (_ = _) := (Below.heap_alloc w2 (.cells #[.int .i64 n, .int .i64 i, .int .i64 t, .int .i64 a, .int .i64 b, .int .i64 c] 216) _ (by omega)).trans k1; have K2 : Hid (_ = _) := (Below.heap_alloc w2 (.cells #[.int .i64 n, .int .i64 i, .int .i64 t, .int .i64 a, .int .i64 b, .int .i64 c] 216) _ (by omega)).trans k2; have K3 : Hid (_ = _) := (Below.heap_alloc w2 (.cells #[.int .i64 n, .int .i64 i, .int .i64 t, .int .i64 a, .int .i64 b, .int .i64 c] 216) _ (by omega)).trans k3; have K4 : Hid (_ = _) := heap_alloc_new w2 (.cells #[.int .i64 n, .int .i64 i, .int .i64 t, .int .i64 a, .int .i64 b, .int .i64 c] 216); clear k1 k2 k3; obtain ⟨c0, c1, c2, c3, c4, c5, c6, c7, c8, c9, c10, c11⟩ := blk12 K1.out; obtain ⟨W3, hW3⟩ : ∃ W3, W3 = w2.alloc (.cells #[.int .i64 n, .int .i64 i, .int .i64 t, .int .i64 a, .int .i64 b, .int .i64 c] 216) := ⟨_, rfl⟩) | (go_at_call 165; refine (hn _).mono ?_; rintro e w3 ⟨rfl, rfl⟩))
  obtain ⟨W4, hrun, hR4, hb4⟩ := copy_on (w2.alloc (.cells #[.int .i64 n, .int .i64 i, .int .i64 t, .int .i64 a, .int .i64 b, .int .i64 c] 216)).drew 27 27 3 3 216 ints_u ints_s (w.heap.size + 1 + 1) 0 1 6 (some ⟨w2.heap.size, 0, none⟩) 6 [.int .i64 n] [.int .i64 0, .int .i64 0, .int .i64 0, .int .i64 0, .int .i64 0, .int .i64 0] rfl K3.out (fun _ => ⟨_, rfl, src_at (W := (w2.alloc (.cells #[.int .i64 n, .int .i64 i, .int .i64 t, .int .i64 a, .int .i64 b, .int .i64 c] 216)).drew) K4.out (fun j v hj => by
    match j, hj with
    | 0, hj => exact hj
    | j + 1, hj => simp at hj)⟩) (by decide) (by simp [Value.oneCell'])
  have L1 : Hid (W4.heap[w.heap.size]? = _) := (hb4.block _ (by omega)).trans K1.out
  have L2 : Hid (W4.heap[w.heap.size + 1]? = _) := (hb4.block _ (by omega)).trans K2.out
  have R4 : W4.heap[w.heap.size + 1 + 1]? = some (.cells #[.int .i64 n, .int .i64 0, .int .i64 0, .int .i64 0, .int .i64 0, .int .i64 0] 216 (0, 0)) := hR4.out
  obtain ⟨d0, d1, d2, d3, d4, d5, d6, d7, d8, d9, d10, d11⟩ := blk12 L1.out
  obtain ⟨r0, r1, r2, r3, r4, r5⟩ := blk6 R4
  have hs4 : w2.heap.size + 1 ≤ W4.heap.size := by have := hb4.size; simpa using this
  have hB4 : Below w.heap.size w W4 := ((((below_two w _ _).alloc (by simp; omega) _).trans (hb2.mono (by simp; omega))).alloc (by omega) (.cells #[.int .i64 n, .int .i64 i, .int .i64 t, .int .i64 a, .int .i64 b, .int .i64 c] 216)).drew.trans (hb4.mono (by omega))
  clear R4 hR4 K1 K2 K3 K4 c0 c1 c2 c3 c4 c5 c6 c7 c8 c9 c10 c11 hW3 W3
  go_region
  clear hrun
  go_wp2_with (go_at_call 166; refine (hof _ _ _ _ _ _ _ _).mono ?_; rintro e w5 ⟨rfl, hb5⟩; have hs5 := hb5.size; have M1 : Hid (_ = _) := (Below.heap_alloc w5 (oed k n 0 0 0 0 0 0 0 0 ⟨#[]⟩ ⟨#[]⟩) w.heap.size (by omega)).trans ((hb5.block _ (by omega)).trans L1.out); have M2 : Hid (_ = _) := (Below.heap_alloc w5 (oed k n 0 0 0 0 0 0 0 0 ⟨#[]⟩ ⟨#[]⟩) (w.heap.size + 1) (by omega)).trans ((hb5.block _ (by omega)).trans L2.out); obtain ⟨m0, m1, m2, m3, m4, m5, m6, m7, m8, m9, m10, m11⟩ := blk12 M1.out; obtain ⟨z0, z1, z2, z3, z4, z5, z6, z7, z8, z9, z10, z11⟩ := blk12 M2.out; have zf := blk_thaw M2.out)
  exact bodyPost_ret (v := ed12 k n 0 0 0 0 0 0 0 0 ⟨#[]⟩ ⟨#[]⟩) (by simp [results, Tryz.results124, go_sem, z0, z1, z2, z3, z4, z5, z6, z7, z8, z9, z10, z11]) rfl ⟨rfl, (below_put (below_put (below_put (below_put (below_put (below_put (below_put (below_put (below_put (below_put (below_put (below_put ((hB4.trans (hb5.mono (by omega))).alloc (by omega) (oed k n 0 0 0 0 0 0 0 0 ⟨#[]⟩ ⟨#[]⟩)) (by omega) _ _) (by omega) _ _) (by omega) _ _) (by omega) _ _) (by omega) _ _) (by omega) _ _) (by omega) _ _) (by omega) _ _) (by omega) _ _) (by omega) _ _) (by omega) _ _) (by omega) _ _)⟩
set_option maxRecDepth 100000 in
set_option maxHeartbeats 1000000 in
theorem ebare_02 (k n i t a b c p q r : Int) (f g : ByteArray) (w : World) (hk : ¬ k = 4) (hn : ∀ W, Calls Tryz.prog 165 #[.int .i64 k] W fun e w' => e = .returned (.tuple #[.int .i64 0, .int .i64 2]) ∧ w' = W) :
    Calls Tryz.prog 124 #[ed12 k n i t a b c p q r f g] w fun e w' => e = .returned (ed12 k n i 0 0 0 0 0 0 0 ⟨#[]⟩ ⟨#[]⟩) ∧ Below w.heap.size w w' := by
  have hro := fun k n i t a b c p q r f g W => erow_any k n i t a b c p q r f g W
  have hof := fun k n i t a b c W => eofrow_any k n i t a b c W
  go_enter Tryz.func124, Tryz.ntmps124
  go_wp2_with (first | (go_at_call 164; refine (hro _ _ _ _ _ _ _ _ _ _ _ _ _).mono ?_; rintro e w2 ⟨rfl, hb2⟩; obtain ⟨k1, k2, k3, k4⟩ := kept3 hb2; have K1 : Hid (_ = _) := (Below.heap_alloc w2 (.cells #[.int .i64 n, .int .i64 i, .int .i64 t, .int .i64 a, .int .i64 b, .int .i64 c] 216) _ (by omega)).trans k1; have K2 : Hid (_ = _) := (Below.heap_alloc w2 (.cells #[.int .i64 n, .int .i64 i, .int .i64 t, .int .i64 a, .int .i64 b, .int .i64 c] 216) _ (by omega)).trans k2; have K3 : Hid (_ = _) := (Below.heap_alloc w2 (.cells #[.int .i64 n, .int .i64 i, .int .i64 t, .int .i64 a, .int .i64 b, .int .i64 c] 216) _ (by omega)).trans k3; have K4 : Hid (_ = _) := heap_alloc_new w2 (.cells #[.int .i64 n, .int .i64 i, .int .i64 t, .int .i64 a, .int .i64 b, .int .i64 c] 216); clear k1 k2 k3; obtain ⟨c0, c1, c2, c3, c4, c5, c6, c7, c8, c9, c10, c11⟩ := blk12 K1.out; obtain ⟨W3, hW3⟩ : ∃ W3, W3 = w2.alloc (.cells #[.int .i64 n, .int .i64 i, .int .i64 t, .int .i64 a, .int .i64 b, .int .i64 c] 216) := ⟨_, rfl⟩) | (go_at_call 165; refine (hn _).mono ?_; rintro e w3 ⟨rfl, rfl⟩))
  obtain ⟨W4, hrun, hR4, hb4⟩ := copy_on (w2.alloc (.cells #[.int .i64 n, .int .i64 i, .int .i64 t, .int .i64 a, .int .i64 b, .int .i64 c] 216)).drew 27 27 3 3 216 ints_u ints_s (w.heap.size + 1 + 1) 0 2 6 (some ⟨w2.heap.size, 0, none⟩) 6 [.int .i64 n, .int .i64 i] [.int .i64 0, .int .i64 0, .int .i64 0, .int .i64 0, .int .i64 0, .int .i64 0] rfl K3.out (fun _ => ⟨_, rfl, src_at (W := (w2.alloc (.cells #[.int .i64 n, .int .i64 i, .int .i64 t, .int .i64 a, .int .i64 b, .int .i64 c] 216)).drew) K4.out (fun j v hj => by
    match j, hj with
    | 0, hj => exact hj
    | 1, hj => exact hj
    | j + 2, hj => simp at hj)⟩) (by decide) (by simp [Value.oneCell'])
  have L1 : Hid (W4.heap[w.heap.size]? = _) := (hb4.block _ (by omega)).trans K1.out
  have L2 : Hid (W4.heap[w.heap.size + 1]? = _) := (hb4.block _ (by omega)).trans K2.out
  have R4 : W4.heap[w.heap.size + 1 + 1]? = some (.cells #[.int .i64 n, .int .i64 i, .int .i64 0, .int .i64 0, .int .i64 0, .int .i64 0] 216 (0, 0)) := hR4.out
  obtain ⟨d0, d1, d2, d3, d4, d5, d6, d7, d8, d9, d10, d11⟩ := blk12 L1.out
  obtain ⟨r0, r1, r2, r3, r4, r5⟩ := blk6 R4
  have hs4 : w2.heap.size + 1 ≤ W4.heap.size := by have := hb4.size; simpa using this
  have hB4 : Below w.heap.size w W4 := ((((below_two w _ _).alloc (by simp; omega) _).trans (hb2.mono (by simp; omega))).alloc (by omega) (.cells #[.int .i64 n, .int .i64 i, .int .i64 t, .int .i64 a, .int .i64 b, .int .i64 c] 216)).drew.trans (hb4.mono (by omega))
  clear R4 hR4 K1 K2 K3 K4 c0 c1 c2 c3 c4 c5 c6 c7 c8 c9 c10 c11 hW3 W3
  go_region
  clear hrun
  go_wp2_with (go_at_call 166; refine (hof _ _ _ _ _ _ _ _).mono ?_; rintro e w5 ⟨rfl, hb5⟩; have hs5 := hb5.size; have M1 : Hid (_ = _) := (Below.heap_alloc w5 (oed k n i 0 0 0 0 0 0 0 ⟨#[]⟩ ⟨#[]⟩) w.heap.size (by omega)).trans ((hb5.block _ (by omega)).trans L1.out); have M2 : Hid (_ = _) := (Below.heap_alloc w5 (oed k n i 0 0 0 0 0 0 0 ⟨#[]⟩ ⟨#[]⟩) (w.heap.size + 1) (by omega)).trans ((hb5.block _ (by omega)).trans L2.out); obtain ⟨m0, m1, m2, m3, m4, m5, m6, m7, m8, m9, m10, m11⟩ := blk12 M1.out; obtain ⟨z0, z1, z2, z3, z4, z5, z6, z7, z8, z9, z10, z11⟩ := blk12 M2.out; have zf := blk_thaw M2.out)
  exact bodyPost_ret (v := ed12 k n i 0 0 0 0 0 0 0 ⟨#[]⟩ ⟨#[]⟩) (by simp [results, Tryz.results124, go_sem, z0, z1, z2, z3, z4, z5, z6, z7, z8, z9, z10, z11]) rfl ⟨rfl, (below_put (below_put (below_put (below_put (below_put (below_put (below_put (below_put (below_put (below_put (below_put (below_put ((hB4.trans (hb5.mono (by omega))).alloc (by omega) (oed k n i 0 0 0 0 0 0 0 ⟨#[]⟩ ⟨#[]⟩)) (by omega) _ _) (by omega) _ _) (by omega) _ _) (by omega) _ _) (by omega) _ _) (by omega) _ _) (by omega) _ _) (by omega) _ _) (by omega) _ _) (by omega) _ _) (by omega) _ _) (by omega) _ _)⟩
set_option maxRecDepth 100000 in
set_option maxHeartbeats 1000000 in
theorem ebare_12 (k n i t a b c p q r : Int) (f g : ByteArray) (w : World) (hk : ¬ k = 4) (hn : ∀ W, Calls Tryz.prog 165 #[.int .i64 k] W fun e w' => e = .returned (.tuple #[.int .i64 1, .int .i64 2]) ∧ w' = W) :
    Calls Tryz.prog 124 #[ed12 k n i t a b c p q r f g] w fun e w' => e = .returned (ed12 k 0 i 0 0 0 0 0 0 0 ⟨#[]⟩ ⟨#[]⟩) ∧ Below w.heap.size w w' := by
  have hro := fun k n i t a b c p q r f g W => erow_any k n i t a b c p q r f g W
  have hof := fun k n i t a b c W => eofrow_any k n i t a b c W
  go_enter Tryz.func124, Tryz.ntmps124
  go_wp2_with (first | (go_at_call 164; refine (hro _ _ _ _ _ _ _ _ _ _ _ _ _).mono ?_; rintro e w2 ⟨rfl, hb2⟩; obtain ⟨k1, k2, k3, k4⟩ := kept3 hb2; have K1 : Hid (_ = _) := (Below.heap_alloc w2 (.cells #[.int .i64 n, .int .i64 i, .int .i64 t, .int .i64 a, .int .i64 b, .int .i64 c] 216) _ (by omega)).trans k1; have K2 : Hid (_ = _) := (Below.heap_alloc w2 (.cells #[.int .i64 n, .int .i64 i, .int .i64 t, .int .i64 a, .int .i64 b, .int .i64 c] 216) _ (by omega)).trans k2; have K3 : Hid (_ = _) := (Below.heap_alloc w2 (.cells #[.int .i64 n, .int .i64 i, .int .i64 t, .int .i64 a, .int .i64 b, .int .i64 c] 216) _ (by omega)).trans k3; have K4 : Hid (_ = _) := heap_alloc_new w2 (.cells #[.int .i64 n, .int .i64 i, .int .i64 t, .int .i64 a, .int .i64 b, .int .i64 c] 216); clear k1 k2 k3; obtain ⟨c0, c1, c2, c3, c4, c5, c6, c7, c8, c9, c10, c11⟩ := blk12 K1.out; obtain ⟨W3, hW3⟩ : ∃ W3, W3 = w2.alloc (.cells #[.int .i64 n, .int .i64 i, .int .i64 t, .int .i64 a, .int .i64 b, .int .i64 c] 216) := ⟨_, rfl⟩) | (go_at_call 165; refine (hn _).mono ?_; rintro e w3 ⟨rfl, rfl⟩))
  obtain ⟨W4, hrun, hR4, hb4⟩ := copy_on (w2.alloc (.cells #[.int .i64 n, .int .i64 i, .int .i64 t, .int .i64 a, .int .i64 b, .int .i64 c] 216)).drew 27 27 3 3 216 ints_u ints_s (w.heap.size + 1 + 1) 1 1 5 (some ⟨w2.heap.size, 1, none⟩) 5 [.int .i64 i] [.int .i64 0, .int .i64 0, .int .i64 0, .int .i64 0, .int .i64 0, .int .i64 0] rfl K3.out (fun _ => ⟨_, rfl, src_at (W := (w2.alloc (.cells #[.int .i64 n, .int .i64 i, .int .i64 t, .int .i64 a, .int .i64 b, .int .i64 c] 216)).drew) K4.out (fun j v hj => by
    match j, hj with
    | 0, hj => exact hj
    | j + 1, hj => simp at hj)⟩) (by decide) (by simp [Value.oneCell'])
  have L1 : Hid (W4.heap[w.heap.size]? = _) := (hb4.block _ (by omega)).trans K1.out
  have L2 : Hid (W4.heap[w.heap.size + 1]? = _) := (hb4.block _ (by omega)).trans K2.out
  have R4 : W4.heap[w.heap.size + 1 + 1]? = some (.cells #[.int .i64 0, .int .i64 i, .int .i64 0, .int .i64 0, .int .i64 0, .int .i64 0] 216 (0, 0)) := hR4.out
  obtain ⟨d0, d1, d2, d3, d4, d5, d6, d7, d8, d9, d10, d11⟩ := blk12 L1.out
  obtain ⟨r0, r1, r2, r3, r4, r5⟩ := blk6 R4
  have hs4 : w2.heap.size + 1 ≤ W4.heap.size := by have := hb4.size; simpa using this
  have hB4 : Below w.heap.size w W4 := ((((below_two w _ _).alloc (by simp; omega) _).trans (hb2.mono (by simp; omega))).alloc (by omega) (.cells #[.int .i64 n, .int .i64 i, .int .i64 t, .int .i64 a, .int .i64 b, .int .i64 c] 216)).drew.trans (hb4.mono (by omega))
  clear R4 hR4 K1 K2 K3 K4 c0 c1 c2 c3 c4 c5 c6 c7 c8 c9 c10 c11 hW3 W3
  go_region
  clear hrun
  go_wp2_with (go_at_call 166; refine (hof _ _ _ _ _ _ _ _).mono ?_; rintro e w5 ⟨rfl, hb5⟩; have hs5 := hb5.size; have M1 : Hid (_ = _) := (Below.heap_alloc w5 (oed k 0 i 0 0 0 0 0 0 0 ⟨#[]⟩ ⟨#[]⟩) w.heap.size (by omega)).trans ((hb5.block _ (by omega)).trans L1.out); have M2 : Hid (_ = _) := (Below.heap_alloc w5 (oed k 0 i 0 0 0 0 0 0 0 ⟨#[]⟩ ⟨#[]⟩) (w.heap.size + 1) (by omega)).trans ((hb5.block _ (by omega)).trans L2.out); obtain ⟨m0, m1, m2, m3, m4, m5, m6, m7, m8, m9, m10, m11⟩ := blk12 M1.out; obtain ⟨z0, z1, z2, z3, z4, z5, z6, z7, z8, z9, z10, z11⟩ := blk12 M2.out; have zf := blk_thaw M2.out)
  exact bodyPost_ret (v := ed12 k 0 i 0 0 0 0 0 0 0 ⟨#[]⟩ ⟨#[]⟩) (by simp [results, Tryz.results124, go_sem, z0, z1, z2, z3, z4, z5, z6, z7, z8, z9, z10, z11]) rfl ⟨rfl, (below_put (below_put (below_put (below_put (below_put (below_put (below_put (below_put (below_put (below_put (below_put (below_put ((hB4.trans (hb5.mono (by omega))).alloc (by omega) (oed k 0 i 0 0 0 0 0 0 0 ⟨#[]⟩ ⟨#[]⟩)) (by omega) _ _) (by omega) _ _) (by omega) _ _) (by omega) _ _) (by omega) _ _) (by omega) _ _) (by omega) _ _) (by omega) _ _) (by omega) _ _) (by omega) _ _) (by omega) _ _) (by omega) _ _)⟩
set_option maxRecDepth 100000 in
set_option maxHeartbeats 1000000 in
theorem ebare_03 (k n i t a b c p q r : Int) (f g : ByteArray) (w : World) (hk : ¬ k = 4) (hn : ∀ W, Calls Tryz.prog 165 #[.int .i64 k] W fun e w' => e = .returned (.tuple #[.int .i64 0, .int .i64 3]) ∧ w' = W) :
    Calls Tryz.prog 124 #[ed12 k n i t a b c p q r f g] w fun e w' => e = .returned (ed12 k n i t 0 0 0 0 0 0 ⟨#[]⟩ ⟨#[]⟩) ∧ Below w.heap.size w w' := by
  have hro := fun k n i t a b c p q r f g W => erow_any k n i t a b c p q r f g W
  have hof := fun k n i t a b c W => eofrow_any k n i t a b c W
  go_enter Tryz.func124, Tryz.ntmps124
  go_wp2_with (first | (go_at_call 164; refine (hro _ _ _ _ _ _ _ _ _ _ _ _ _).mono ?_; rintro e w2 ⟨rfl, hb2⟩; obtain ⟨k1, k2, k3, k4⟩ := kept3 hb2; have K1 : Hid (_ = _) := (Below.heap_alloc w2 (.cells #[.int .i64 n, .int .i64 i, .int .i64 t, .int .i64 a, .int .i64 b, .int .i64 c] 216) _ (by omega)).trans k1; have K2 : Hid (_ = _) := (Below.heap_alloc w2 (.cells #[.int .i64 n, .int .i64 i, .int .i64 t, .int .i64 a, .int .i64 b, .int .i64 c] 216) _ (by omega)).trans k2; have K3 : Hid (_ = _) := (Below.heap_alloc w2 (.cells #[.int .i64 n, .int .i64 i, .int .i64 t, .int .i64 a, .int .i64 b, .int .i64 c] 216) _ (by omega)).trans k3; have K4 : Hid (_ = _) := heap_alloc_new w2 (.cells #[.int .i64 n, .int .i64 i, .int .i64 t, .int .i64 a, .int .i64 b, .int .i64 c] 216); clear k1 k2 k3; obtain ⟨c0, c1, c2, c3, c4, c5, c6, c7, c8, c9, c10, c11⟩ := blk12 K1.out; obtain ⟨W3, hW3⟩ : ∃ W3, W3 = w2.alloc (.cells #[.int .i64 n, .int .i64 i, .int .i64 t, .int .i64 a, .int .i64 b, .int .i64 c] 216) := ⟨_, rfl⟩) | (go_at_call 165; refine (hn _).mono ?_; rintro e w3 ⟨rfl, rfl⟩))
  obtain ⟨W4, hrun, hR4, hb4⟩ := copy_on (w2.alloc (.cells #[.int .i64 n, .int .i64 i, .int .i64 t, .int .i64 a, .int .i64 b, .int .i64 c] 216)).drew 27 27 3 3 216 ints_u ints_s (w.heap.size + 1 + 1) 0 3 6 (some ⟨w2.heap.size, 0, none⟩) 6 [.int .i64 n, .int .i64 i, .int .i64 t] [.int .i64 0, .int .i64 0, .int .i64 0, .int .i64 0, .int .i64 0, .int .i64 0] rfl K3.out (fun _ => ⟨_, rfl, src_at (W := (w2.alloc (.cells #[.int .i64 n, .int .i64 i, .int .i64 t, .int .i64 a, .int .i64 b, .int .i64 c] 216)).drew) K4.out (fun j v hj => by
    match j, hj with
    | 0, hj => exact hj
    | 1, hj => exact hj
    | 2, hj => exact hj
    | j + 3, hj => simp at hj)⟩) (by decide) (by simp [Value.oneCell'])
  have L1 : Hid (W4.heap[w.heap.size]? = _) := (hb4.block _ (by omega)).trans K1.out
  have L2 : Hid (W4.heap[w.heap.size + 1]? = _) := (hb4.block _ (by omega)).trans K2.out
  have R4 : W4.heap[w.heap.size + 1 + 1]? = some (.cells #[.int .i64 n, .int .i64 i, .int .i64 t, .int .i64 0, .int .i64 0, .int .i64 0] 216 (0, 0)) := hR4.out
  obtain ⟨d0, d1, d2, d3, d4, d5, d6, d7, d8, d9, d10, d11⟩ := blk12 L1.out
  obtain ⟨r0, r1, r2, r3, r4, r5⟩ := blk6 R4
  have hs4 : w2.heap.size + 1 ≤ W4.heap.size := by have := hb4.size; simpa using this
  have hB4 : Below w.heap.size w W4 := ((((below_two w _ _).alloc (by simp; omega) _).trans (hb2.mono (by simp; omega))).alloc (by omega) (.cells #[.int .i64 n, .int .i64 i, .int .i64 t, .int .i64 a, .int .i64 b, .int .i64 c] 216)).drew.trans (hb4.mono (by omega))
  clear R4 hR4 K1 K2 K3 K4 c0 c1 c2 c3 c4 c5 c6 c7 c8 c9 c10 c11 hW3 W3
  go_region
  clear hrun
  go_wp2_with (go_at_call 166; refine (hof _ _ _ _ _ _ _ _).mono ?_; rintro e w5 ⟨rfl, hb5⟩; have hs5 := hb5.size; have M1 : Hid (_ = _) := (Below.heap_alloc w5 (oed k n i t 0 0 0 0 0 0 ⟨#[]⟩ ⟨#[]⟩) w.heap.size (by omega)).trans ((hb5.block _ (by omega)).trans L1.out); have M2 : Hid (_ = _) := (Below.heap_alloc w5 (oed k n i t 0 0 0 0 0 0 ⟨#[]⟩ ⟨#[]⟩) (w.heap.size + 1) (by omega)).trans ((hb5.block _ (by omega)).trans L2.out); obtain ⟨m0, m1, m2, m3, m4, m5, m6, m7, m8, m9, m10, m11⟩ := blk12 M1.out; obtain ⟨z0, z1, z2, z3, z4, z5, z6, z7, z8, z9, z10, z11⟩ := blk12 M2.out; have zf := blk_thaw M2.out)
  exact bodyPost_ret (v := ed12 k n i t 0 0 0 0 0 0 ⟨#[]⟩ ⟨#[]⟩) (by simp [results, Tryz.results124, go_sem, z0, z1, z2, z3, z4, z5, z6, z7, z8, z9, z10, z11]) rfl ⟨rfl, (below_put (below_put (below_put (below_put (below_put (below_put (below_put (below_put (below_put (below_put (below_put (below_put ((hB4.trans (hb5.mono (by omega))).alloc (by omega) (oed k n i t 0 0 0 0 0 0 ⟨#[]⟩ ⟨#[]⟩)) (by omega) _ _) (by omega) _ _) (by omega) _ _) (by omega) _ _) (by omega) _ _) (by omega) _ _) (by omega) _ _) (by omega) _ _) (by omega) _ _) (by omega) _ _) (by omega) _ _) (by omega) _ _)⟩
set_option maxRecDepth 100000 in
set_option maxHeartbeats 1000000 in
theorem ebare_06 (k n i t a b c p q r : Int) (f g : ByteArray) (w : World) (hk : ¬ k = 4) (hn : ∀ W, Calls Tryz.prog 165 #[.int .i64 k] W fun e w' => e = .returned (.tuple #[.int .i64 0, .int .i64 6]) ∧ w' = W) :
    Calls Tryz.prog 124 #[ed12 k n i t a b c p q r f g] w fun e w' => e = .returned (ed12 k n i t a b c 0 0 0 ⟨#[]⟩ ⟨#[]⟩) ∧ Below w.heap.size w w' := by
  have hro := fun k n i t a b c p q r f g W => erow_any k n i t a b c p q r f g W
  have hof := fun k n i t a b c W => eofrow_any k n i t a b c W
  go_enter Tryz.func124, Tryz.ntmps124
  go_wp2_with (first | (go_at_call 164; refine (hro _ _ _ _ _ _ _ _ _ _ _ _ _).mono ?_; rintro e w2 ⟨rfl, hb2⟩; obtain ⟨k1, k2, k3, k4⟩ := kept3 hb2; have K1 : Hid (_ = _) := (Below.heap_alloc w2 (.cells #[.int .i64 n, .int .i64 i, .int .i64 t, .int .i64 a, .int .i64 b, .int .i64 c] 216) _ (by omega)).trans k1; have K2 : Hid (_ = _) := (Below.heap_alloc w2 (.cells #[.int .i64 n, .int .i64 i, .int .i64 t, .int .i64 a, .int .i64 b, .int .i64 c] 216) _ (by omega)).trans k2; have K3 : Hid (_ = _) := (Below.heap_alloc w2 (.cells #[.int .i64 n, .int .i64 i, .int .i64 t, .int .i64 a, .int .i64 b, .int .i64 c] 216) _ (by omega)).trans k3; have K4 : Hid (_ = _) := heap_alloc_new w2 (.cells #[.int .i64 n, .int .i64 i, .int .i64 t, .int .i64 a, .int .i64 b, .int .i64 c] 216); clear k1 k2 k3; obtain ⟨c0, c1, c2, c3, c4, c5, c6, c7, c8, c9, c10, c11⟩ := blk12 K1.out; obtain ⟨W3, hW3⟩ : ∃ W3, W3 = w2.alloc (.cells #[.int .i64 n, .int .i64 i, .int .i64 t, .int .i64 a, .int .i64 b, .int .i64 c] 216) := ⟨_, rfl⟩) | (go_at_call 165; refine (hn _).mono ?_; rintro e w3 ⟨rfl, rfl⟩))
  obtain ⟨W4, hrun, hR4, hb4⟩ := copy_on (w2.alloc (.cells #[.int .i64 n, .int .i64 i, .int .i64 t, .int .i64 a, .int .i64 b, .int .i64 c] 216)).drew 27 27 3 3 216 ints_u ints_s (w.heap.size + 1 + 1) 0 6 6 (some ⟨w2.heap.size, 0, none⟩) 6 [.int .i64 n, .int .i64 i, .int .i64 t, .int .i64 a, .int .i64 b, .int .i64 c] [.int .i64 0, .int .i64 0, .int .i64 0, .int .i64 0, .int .i64 0, .int .i64 0] rfl K3.out (fun _ => ⟨_, rfl, src_at (W := (w2.alloc (.cells #[.int .i64 n, .int .i64 i, .int .i64 t, .int .i64 a, .int .i64 b, .int .i64 c] 216)).drew) K4.out (fun j v hj => by
    match j, hj with
    | 0, hj => exact hj
    | 1, hj => exact hj
    | 2, hj => exact hj
    | 3, hj => exact hj
    | 4, hj => exact hj
    | 5, hj => exact hj
    | j + 6, hj => simp at hj)⟩) (by decide) (by simp [Value.oneCell'])
  have L1 : Hid (W4.heap[w.heap.size]? = _) := (hb4.block _ (by omega)).trans K1.out
  have L2 : Hid (W4.heap[w.heap.size + 1]? = _) := (hb4.block _ (by omega)).trans K2.out
  have R4 : W4.heap[w.heap.size + 1 + 1]? = some (.cells #[.int .i64 n, .int .i64 i, .int .i64 t, .int .i64 a, .int .i64 b, .int .i64 c] 216 (0, 0)) := hR4.out
  obtain ⟨d0, d1, d2, d3, d4, d5, d6, d7, d8, d9, d10, d11⟩ := blk12 L1.out
  obtain ⟨r0, r1, r2, r3, r4, r5⟩ := blk6 R4
  have hs4 : w2.heap.size + 1 ≤ W4.heap.size := by have := hb4.size; simpa using this
  have hB4 : Below w.heap.size w W4 := ((((below_two w _ _).alloc (by simp; omega) _).trans (hb2.mono (by simp; omega))).alloc (by omega) (.cells #[.int .i64 n, .int .i64 i, .int .i64 t, .int .i64 a, .int .i64 b, .int .i64 c] 216)).drew.trans (hb4.mono (by omega))
  clear R4 hR4 K1 K2 K3 K4 c0 c1 c2 c3 c4 c5 c6 c7 c8 c9 c10 c11 hW3 W3
  go_region
  clear hrun
  go_wp2_with (go_at_call 166; refine (hof _ _ _ _ _ _ _ _).mono ?_; rintro e w5 ⟨rfl, hb5⟩; have hs5 := hb5.size; have M1 : Hid (_ = _) := (Below.heap_alloc w5 (oed k n i t a b c 0 0 0 ⟨#[]⟩ ⟨#[]⟩) w.heap.size (by omega)).trans ((hb5.block _ (by omega)).trans L1.out); have M2 : Hid (_ = _) := (Below.heap_alloc w5 (oed k n i t a b c 0 0 0 ⟨#[]⟩ ⟨#[]⟩) (w.heap.size + 1) (by omega)).trans ((hb5.block _ (by omega)).trans L2.out); obtain ⟨m0, m1, m2, m3, m4, m5, m6, m7, m8, m9, m10, m11⟩ := blk12 M1.out; obtain ⟨z0, z1, z2, z3, z4, z5, z6, z7, z8, z9, z10, z11⟩ := blk12 M2.out; have zf := blk_thaw M2.out)
  exact bodyPost_ret (v := ed12 k n i t a b c 0 0 0 ⟨#[]⟩ ⟨#[]⟩) (by simp [results, Tryz.results124, go_sem, z0, z1, z2, z3, z4, z5, z6, z7, z8, z9, z10, z11]) rfl ⟨rfl, (below_put (below_put (below_put (below_put (below_put (below_put (below_put (below_put (below_put (below_put (below_put (below_put ((hB4.trans (hb5.mono (by omega))).alloc (by omega) (oed k n i t a b c 0 0 0 ⟨#[]⟩ ⟨#[]⟩)) (by omega) _ _) (by omega) _ _) (by omega) _ _) (by omega) _ _) (by omega) _ _) (by omega) _ _) (by omega) _ _) (by omega) _ _) (by omega) _ _) (by omega) _ _) (by omega) _ _) (by omega) _ _)⟩
end Go.Proofs.YtfogodbbgbnhkaaGreatDoor
