/- What the program's copies of items and its look at lists do. -/
import Derived.Test.YtchiilhdkbpboaaMS
namespace Go.Proofs.Ytchiilhdkbpboaa
open Go.RowKit

theorem eight_set {w : World} {b : Nat} {c0 c1 c2 c3 c4 c5 c6 c7 : Value} {e : TypeId} (h : w.heap[b]? = some (.cells #[c0, c1, c2, c3, c4, c5, c6, c7] e (0, 0))) : (w.setCell ⟨b, 0, none⟩ c0).heap[b]? = some (.cells #[c0, c1, c2, c3, c4, c5, c6, c7] e (0, 0)) := by
  have := Go.Joins.block_setCell (i := 0) h c0
  simpa using this

set_option maxRecDepth 100000 in
set_option maxHeartbeats 1000000 in
/-- an item whose bytes are nobody else's -/
theorem mcopied_any (h : IH) (x : It.I) (w : World) (hx : IsItem w h x) (h2 : x.2.2.2.1.length ≤ 100000) (h1 : h.key.size ≤ 100000) :
    Calls Try.prog 28 #[iv h] w fun e w' => ∃ h', e = .returned (iv h') ∧ OwnIt w' w.heap.size h' x ∧ h'.key = h.key ∧ Below w.heap.size w w' := by
  have hb0 : Below w.heap.size w ((w.alloc (.cells #[.string h.key, .bool h.dead, .bool h.far, .slice h.a h.n h.c, .int .i64 h.p.1, .int .i64 h.p.2.1, .int .i64 h.p.2.2.1, .int .u32 (h.p.2.2.2 : Nat)] 37)).alloc (.cells #[.string ⟨#[]⟩, .bool false, .bool false, .slice none 0 0, .int .i64 0, .int .i64 0, .int .i64 0, .int .u32 0] 37)) := (below_alloc _ _).alloc (by simp) _
  have hsc := sclone_any h.key ((w.alloc (.cells #[.string h.key, .bool h.dead, .bool h.far, .slice h.a h.n h.c, .int .i64 h.p.1, .int .i64 h.p.2.1, .int .i64 h.p.2.2.1, .int .u32 (h.p.2.2.2 : Nat)] 37)).alloc (.cells #[.string ⟨#[]⟩, .bool false, .bool false, .slice none 0 0, .int .i64 0, .int .i64 0, .int .i64 0, .int .u32 0] 37)) h1
  have hcl := fun W (hW : Below w.heap.size w W) => bclone_any h.a h.n h.c _ W (hx.row.below hW (Nat.le_refl _)) hx.nil (by rw [← hx.row.1]; omega)
  have Hx : Hid (IsItem w h x) := hx
  clear hx
  obtain ⟨key, dead, far, qa, qn, qc, ⟨p1, p2, p3, p4⟩⟩ := h
  simp only at hcl hb0 hsc
  have hsz : ((w.alloc (.cells #[.string key, .bool dead, .bool far, .slice qa qn qc, .int .i64 p1, .int .i64 p2, .int .i64 p3, .int .u32 (p4 : Nat)] 37)).alloc (.cells #[.string ⟨#[]⟩, .bool false, .bool false, .slice none 0 0, .int .i64 0, .int .i64 0, .int .i64 0, .int .u32 0] 37)).heap.size = w.heap.size + 2 := by simp
  have HZ : Hid (((w.alloc (.cells #[.string key, .bool dead, .bool far, .slice qa qn qc, .int .i64 p1, .int .i64 p2, .int .i64 p3, .int .u32 (p4 : Nat)] 37)).alloc (.cells #[.string ⟨#[]⟩, .bool false, .bool false, .slice none 0 0, .int .i64 0, .int .i64 0, .int .i64 0, .int .u32 0] 37)).heap.size = w.heap.size + 2) := hsz
  clear hsz
  have HB : Hid (∀ W, Below ((w.alloc (.cells #[.string key, .bool dead, .bool far, .slice qa qn qc, .int .i64 p1, .int .i64 p2, .int .i64 p3, .int .u32 (p4 : Nat)] 37)).alloc (.cells #[.string ⟨#[]⟩, .bool false, .bool false, .slice none 0 0, .int .i64 0, .int .i64 0, .int .i64 0, .int .u32 0] 37)).heap.size ((w.alloc (.cells #[.string key, .bool dead, .bool far, .slice qa qn qc, .int .i64 p1, .int .i64 p2, .int .i64 p3, .int .u32 (p4 : Nat)] 37)).alloc (.cells #[.string ⟨#[]⟩, .bool false, .bool false, .slice none 0 0, .int .i64 0, .int .i64 0, .int .i64 0, .int .u32 0] 37)) W → W.heap[w.heap.size]? = some (.cells #[.string key, .bool dead, .bool far, .slice qa qn qc, .int .i64 p1, .int .i64 p2, .int .i64 p3, .int .u32 (p4 : Nat)] 37 (0, 0)) ∧ W.heap[w.heap.size + 1]? = some (.cells #[.string ⟨#[]⟩, .bool false, .bool false, .slice none 0 0, .int .i64 0, .int .i64 0, .int .i64 0, .int .u32 0] 37 (0, 0))) := (fun W hW => ⟨(hW.block _ (by simp; omega)).trans ((heap_alloc_old _ _ (by simp)).trans (heap_alloc_new w _)), (hW.block _ (by simp)).trans (by rw [show w.heap.size + 1 = (w.alloc (.cells #[.string key, .bool dead, .bool far, .slice qa qn qc, .int .i64 p1, .int .i64 p2, .int .i64 p3, .int .u32 (p4 : Nat)] 37)).heap.size by simp]; exact heap_alloc_new _ _)⟩ : _)
  go_enter Try.func28, Try.ntmps28
  go_wp2_with (first
    | (go_at_call 38; go_must (refine hsc.mono ?_; rintro e w1 ⟨rfl, hb1⟩; have G1 : Hid (_) := HB.out w1 hb1; obtain ⟨x0, x1, x2, x3, x4, x5, x6, x7, xf⟩ := eight_of G1.out.1; have xf0 := xf 0; clear xf; have hw1 : Below w.heap.size w (w1.setCell ⟨w.heap.size, 0, none⟩ (.string key)) := (hb0.trans (hb1.mono hb0.size)).setCell (Nat.le_refl _) _))
    | (go_at_call 39; go_must (refine (hcl _ hw1).mono ?_; rintro e w2 ⟨a1, c1, rfl, ho1, hb2⟩; have hl2 : w.heap.size + 1 < (w1.setCell ⟨w.heap.size, 0, none⟩ (.string key)).heap.size := (by have h := hb1.size; rw [HZ.out] at h; simp; omega); obtain ⟨y0, y1, y2, y3, y4, y5, y6, y7, yf⟩ := eight_of ((hb2.block w.heap.size (by omega)).trans (eight_set G1.out.1)); obtain ⟨z0, z1, z2, z3, z4, z5, z6, z7, zf⟩ := eight_of ((hb2.block (w.heap.size + 1) hl2).trans ((Below.heap_setCell _ _ _ _ (by show w.heap.size + 1 ≠ w.heap.size; omega)).trans G1.out.2)); have yf3 := yf 3; have zf0 := zf 0; have zf1 := zf 1; have zf2 := zf 2; have zf3 := zf 3; have zf4 := zf 4; have zf5 := zf 5; have zf6 := zf 6; have zf7 := zf 7; clear yf zf)))
  have hx := Hx.out
  have hqn : qn ≤ 100000 := by have h := hx.row.1; simp only at h; omega
  have ho2 := owns_same (w' := set8 (w2.setCell ⟨w.heap.size, 3, none⟩ (.slice a1 qn c1)) (w.heap.size + 1) ⟨key, dead, far, a1, qn, c1, (p1, p2, p3, p4)⟩) ho1 (fun k hk _ => by rw [set8_other _ _ _ k (by omega), Below.heap_setCell _ _ _ k (by show k ≠ w.heap.size; omega)])
  have ho3 := owns_base ho2 (show w.heap.size ≤ _ by omega)
  obtain ⟨r1, r2, r3⟩ := row_of_owns ho3 hx.row.2.2.1 (by omega)
  have hb3 : Below w.heap.size w w2 := hw1.trans (hb2.mono hw1.size)
  have hP : OwnIt (set8 (w2.setCell ⟨w.heap.size, 3, none⟩ (.slice a1 qn c1)) (w.heap.size + 1) ⟨key, dead, far, a1, qn, c1, (p1, p2, p3, p4)⟩) w.heap.size ⟨key, dead, far, a1, qn, c1, (p1, p2, p3, p4)⟩ x := ⟨⟨hx.key, hx.dead, hx.far, hx.pt, r1, r2, r3, hx.fits, hx.ksz⟩, ho3⟩
  have hQ : Below w.heap.size w (set8 (w2.setCell ⟨w.heap.size, 3, none⟩ (.slice a1 qn c1)) (w.heap.size + 1) ⟨key, dead, far, a1, qn, c1, (p1, p2, p3, p4)⟩) := set8_below (hb3.setCell (Nat.le_refl _) _) _ _ (by omega)
  unfold set8 at hP hQ
  simp only at hP hQ
  clear ho1 ho2 ho3 r1 r2 r3 hb0 hb1 hb2 hcl HB hx hb3 hw1 hsc
  refine bodyPost_ret (v := iv ⟨key, dead, far, a1, qn, c1, (p1, p2, p3, p4)⟩) ?_ rfl ?_
  · simp [results, Try.results28, go_sem, z0, z1, z2, z3, z4, z5, z6, z7]
  · exact ⟨_, rfl, hP, rfl, hQ⟩
end Go.Proofs.Ytchiilhdkbpboaa
