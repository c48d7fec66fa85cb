/- What the reference's Put of a point does. -/
import Derived.Test.YtgmcjalcpgldhaaS1
import Derived.Test.YtgmcjalcpgldhaaW5
namespace Go.Proofs.Ytgmcjalcpgldhaa
open Go.RowKit

theorem cell_four (w : World) (c0 c1 c2 c3 : Value) (e : TypeId) {b : Nat} (hb : w.heap.size = b) : (w.alloc (.cells #[c0, c1, c2, c3] e)).cell? ⟨b, 0, none⟩ = some c0 ∧ (w.alloc (.cells #[c0, c1, c2, c3] e)).cell? ⟨b, 1, none⟩ = some c1 ∧ (w.alloc (.cells #[c0, c1, c2, c3] e)).cell? ⟨b, 2, none⟩ = some c2 ∧ (w.alloc (.cells #[c0, c1, c2, c3] e)).cell? ⟨b, 3, none⟩ = some c3 := by
  subst hb
  exact ⟨by rw [cell_new]; rfl, by rw [cell_new]; rfl, by rw [cell_new]; rfl, by rw [cell_new]; rfl⟩

set_option maxRecDepth 100000 in
set_option maxHeartbeats 1000000 in
theorem porefput_any (x y z m : Nat) (w : World) (hx : x ≤ 2147483647) (hy : y ≤ 2147483647) (hz : z ≤ 4096) (hm : m < 4294967296) :
    Calls Try.prog 28 #[.agg #[.int .i64 x, .int .i64 y, .int .i64 z, .int .u32 m]] w (Made .u8 5 w (Va.put [x, y, z] ++ Fr.le4 m)) := by
  have hput : ∀ (W : World) (q : Addr), Row .u64 W (some q) 3 [x, y, z] → Calls Try.prog 39 #[.slice (some q) 3 3] W (Made .u8 5 W (Va.put [x, y, z])) := fun W q h => refput_any (some q) 3 3 [x, y, z] W (by omega) h
  have hsm := Va.put_small [x, y, z]
  have hpl : (Va.put [x, y, z]).length ≤ 30 := by
    have := Va.put_len [x, y, z] (by intro u hu; simp only [List.mem_cons, List.not_mem_nil, or_false] at hu; omega)
    simpa using this
  generalize Va.put [x, y, z] = o at *
  have hb0 := below_alloc w (.cells #[.int .i64 x, .int .i64 y, .int .i64 z, .int .u32 m] 25)
  obtain ⟨k0, k1, k2, k3⟩ := cell_four w (.int .i64 x) (.int .i64 y) (.int .i64 z) (.int .u32 m) 25 rfl
  have hlt : w.heap.size < (w.alloc (.cells #[.int .i64 x, .int .i64 y, .int .i64 z, .int .u32 m] 25)).heap.size := by simp
  go_enter Try.func28, Try.ntmps28
  go_wp2_with fail
  generalize w.alloc (.cells #[.int .i64 x, .int .i64 y, .int .i64 z, .int .u32 m] 25) = w0 at *
  have hw0 : w.heap.size ≤ w0.heap.size := hb0.size
  have hrow : Row .u64 (w0.alloc (.cells #[.int .u64 x, .int .u64 y, .int .u64 z] 53)) (some ⟨w0.heap.size, 0, none⟩) 3 [x, y, z] := row_lit .u64 w0 53 _ [x, y, z] 3 rfl rfl (by intro u hu; simp only [List.mem_cons, List.not_mem_nil, or_false] at hu; show u < 18446744073709551616; omega) (by omega)
  obtain ⟨N, hN⟩ : ∃ N, N = w.heap.size := ⟨_, rfl⟩
  rw [← hN] at k0 k1 k2 k3 hlt hb0 hw0 ⊢
  have HN : Hid (N = w.heap.size) := hN
  clear hN
  have hcs : Hid (∀ W, Below w0.heap.size w0 W → W.cell? ⟨N, 0, none⟩ = some (.int .i64 x) ∧ W.cell? ⟨N, 1, none⟩ = some (.int .i64 y) ∧ W.cell? ⟨N, 2, none⟩ = some (.int .i64 z) ∧ W.cell? ⟨N, 3, none⟩ = some (.int .u32 m)) := (fun W h => ⟨(h.cell (p := ⟨N, 0, none⟩) hlt).trans k0, (h.cell (p := ⟨N, 1, none⟩) hlt).trans k1, (h.cell (p := ⟨N, 2, none⟩) hlt).trans k2, (h.cell (p := ⟨N, 3, none⟩) hlt).trans k3⟩ : ∀ W, Below w0.heap.size w0 W → W.cell? ⟨N, 0, none⟩ = some (.int .i64 x) ∧ W.cell? ⟨N, 1, none⟩ = some (.int .i64 y) ∧ W.cell? ⟨N, 2, none⟩ = some (.int .i64 z) ∧ W.cell? ⟨N, 3, none⟩ = some (.int .u32 m))
  have i1 : IntKind.u64.wrap (x : Int) = x := by simp only [IntKind.wrap_u64]; omega
  have i2 : IntKind.u64.wrap (y : Int) = y := by simp only [IntKind.wrap_u64]; omega
  have i3 : IntKind.u64.wrap (z : Int) = z := by simp only [IntKind.wrap_u64]; omega
  go_region_held3 (fun w' => w'.cell? ⟨N, 0, none⟩ = some (.int .i64 x) ∧ w'.cell? ⟨N, 1, none⟩ = some (.int .i64 y) ∧ w'.cell? ⟨N, 2, none⟩ = some (.int .i64 z) ∧ w'.cell? ⟨N, 3, none⟩ = some (.int .u32 m)) (first | go_keep | (refine ⟨?_, ?_, ?_, ?_⟩ <;> assumption))
    (first
      | ((go_at_call 39; refine (hput _ _ ?_).mono ?_; exact hrow.below ((Below.refl _ _).drew) (Nat.le_refl _); rintro e w1 ⟨a1, c1, rfl, hown1, hbel1⟩; have hb1 : Below w0.heap.size w0 w1 := (below_alloc _ _).trans ((below_of_drew hbel1).mono (by simp)); obtain ⟨p0, p1, p2, p3⟩ := hcs.out w1 hb1))
      | ((go_at_call 40; have := hown1; refine (posum_any m _ hm).mono ?_; rintro e w2 ⟨a2, c2, rfl, hown2, hbel2⟩; have hb2 : Below w0.heap.size w0 w2 := hb1.trans (hbel2.mono hb1.size); obtain ⟨p4, p5, p6, p7⟩ := hcs.out w2 hb2; have hown1' := owns_below (hown1.mono (base' := w0.heap.size) (by simp)) hbel2; obtain ⟨g, rfl, _⟩ := own_at hown2 (by rw [Fr.le4_len]; omega); have r2 := (row_of_owns hown2 (Fr.le4_small m) (by rw [Fr.le4_len]; omega)).1))
      | ((have := hown2; refine step_u8 (w0 := w0) (B := w0.heap.size) (by rfl) _ _ (by rfl) _ o.length o (by rfl) hown1' ⟨g, 0, none⟩ _ _ (Fr.le4 m) (by rfl) r2 (by rw [Fr.le4_len]; omega) (by rw [Fr.le4_len]; omega) hb2 hb2.size ?_; intro a3 c3 w3 hown3 hbel3 hsz3 hg3; obtain ⟨p8, p9, p10, p11⟩ := hcs.out w3 hbel3)))
  all_goals
    go_wp2
    go_ret
    refine ⟨a3, c3, ?_, ?_, ?_⟩
    · rw [List.length_append]; rfl
    · rw [List.length_append, ← HN.out]; exact hown3.mono hw0
    · rw [← HN.out]; exact hb0.trans (hbel3.mono hw0)
end Go.Proofs.Ytgmcjalcpgldhaa
