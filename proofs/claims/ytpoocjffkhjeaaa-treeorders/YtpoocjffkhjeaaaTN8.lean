/- The program's trees: what lies there; New, Len, Weight, Clone, Get. -/
import Derived.Test.YtpoocjffkhjeaaaTN7
namespace Go.Proofs.Ytpoocjffkhjeaaa
open Go.RowKit

/-- the head of a tree -/
def HeadAt (w : World) (b : Nat) (v : Option Addr) (n z : Nat) : Prop := w.heap[b]? = some (.cells #[.bool true, .pointer v, .int .i64 (n : Nat), .int .i64 (z : Nat)] 58 (0, 0))
theorem HeadAt.cells {w : World} {b : Nat} {v : Option Addr} {n z : Nat} (h : HeadAt w b v n z) : w.cell? ⟨b, 0, none⟩ = some (.bool true) ∧ w.cell? ⟨b, 1, none⟩ = some (.pointer v) ∧ w.cell? ⟨b, 2, none⟩ = some (.int .i64 (n : Nat)) ∧ w.cell? ⟨b, 3, none⟩ = some (.int .i64 (z : Nat)) ∧ ∀ i, w.frozen? ⟨b, i, none⟩ = false :=
  ⟨(Go.Joins.cell_of_block h _).trans rfl, (Go.Joins.cell_of_block h _).trans rfl, (Go.Joins.cell_of_block h _).trans rfl, (Go.Joins.cell_of_block h _).trans rfl, fun i => Go.Joins.unfrozen_of_block h i⟩
theorem HeadAt.lt {w : World} {b : Nat} {v : Option Addr} {n z : Nat} (h : HeadAt w b v n z) : b < w.heap.size := (Array.getElem?_eq_some_iff.1 h).1
/-- a tree of the program's -/
structure TTat (w : World) (b : Nat) (v : Option Addr) (t : Tn.T) (N S : Nat → Prop) : Prop where
  head : HeadAt w b v t.list.length (It.weight t.list)
  lies : Lies N w v t
  up : It.Up t.list
  may : ∀ x ∈ t.list, It.may x = true
  self : S b
  sub : ∀ k, N k → S k ∧ k ≠ b
  lt : ∀ k, S k → k < w.heap.size
def TT (w : World) (p : Addr) (L : List It.I) (S : Nat → Prop) : Prop :=
  ∃ (b : Nat) (v : Option Addr) (t : Tn.T) (N : Nat → Prop), p = ⟨b, 0, none⟩ ∧ t.list = L ∧ TTat w b v t N S
theorem TTat.keep {w w' : World} {b : Nat} {v : Option Addr} {t : Tn.T} {N S : Nat → Prop} (h : TTat w b v t N S) (hk : ∀ k, S k → w'.heap[k]? = w.heap[k]?) (hs : w.heap.size ≤ w'.heap.size) : TTat w' b v t N S :=
  ⟨(hk b h.self).trans h.head, h.lies.keep (fun k hN => hk k (h.sub k hN).1), h.up, h.may, h.self, h.sub, fun k hS => Nat.lt_of_lt_of_le (h.lt k hS) hs⟩
theorem TT.keep {w w' : World} {p : Addr} {L : List It.I} {S : Nat → Prop} (h : TT w p L S) (hk : ∀ k, S k → w'.heap[k]? = w.heap[k]?) (hs : w.heap.size ≤ w'.heap.size) : TT w' p L S := by
  obtain ⟨b, v, t, N, e, hl, ht⟩ := h
  exact ⟨b, v, t, N, e, hl, ht.keep hk hs⟩
theorem TTat.on {w w' : World} {b : Nat} {v : Option Addr} {t : Tn.T} {N S : Nat → Prop} (h : TTat w b v t N S) (hb : Below w.heap.size w w') : TTat w' b v t N S := h.keep (fun k hk => hb.block k (h.lt k hk)) hb.size

set_option maxRecDepth 100000 in
theorem ismade_any (b : Nat) (v : Option Addr) (n z : Nat) (w : World) (h : HeadAt w b v n z) :
    Calls Try.prog 31 #[.pointer (some ⟨b, 0, none⟩)] w fun e w' => e = .returned (.bool true) ∧ w' = w := by
  obtain ⟨c0, _⟩ := h.cells
  clear h
  go_enter Try.func31, Try.ntmps31
  go_wp2
  go_ret
  exact ⟨rfl, rfl⟩

set_option maxRecDepth 100000 in
theorem tnew_any (w : World) : Calls Try.prog 22 #[] w fun e w' => ∃ p S, e = .returned (.pointer (some p)) ∧ TT w' p [] S ∧ (∀ k, S k → w.heap.size ≤ k) ∧ Below w.heap.size w w' := by
  have hh : HeadAt (w.alloc (.cells #[.bool true, .pointer none, .int .i64 0, .int .i64 0] 58)) w.heap.size none 0 0 := heap_alloc_new w _
  have hb := below_alloc w (.cells #[.bool true, .pointer none, .int .i64 0, .int .i64 0] 58)
  go_enter Try.func22, Try.ntmps22
  go_wp2
  go_ret
  exact ⟨_, fun k => k = w.heap.size, rfl, ⟨w.heap.size, none, .e, fun _ => False, rfl, rfl, ⟨hh, rfl, List.Pairwise.nil, (fun x hx => by cases hx), rfl, (fun k hk => hk.elim), fun k hk => by rw [hk]; simp⟩⟩, (fun k hk => by rw [hk]; exact Nat.le_refl _), hb⟩

set_option maxRecDepth 100000 in
theorem tlen_any (p : Addr) (L : List It.I) (S : Nat → Prop) (w : World) (h : TT w p L S) :
    Calls Try.prog 14 #[.pointer (some p)] w fun e w' => e = .returned (.int .i64 (L.length : Nat)) ∧ Below w.heap.size w w' := by
  obtain ⟨b, v, t, N, rfl, rfl, hT⟩ := h
  obtain ⟨c0, c1, c2, c3, _⟩ := hT.head.cells
  have hm := ismade_any _ _ _ _ w hT.head
  generalize t.list.length = n at *
  clear hT
  go_enter Try.func14, Try.ntmps14
  go_wp2_with (go_at_call 31; go_must (refine hm.mono ?_; rintro e w1 ⟨rfl, hw⟩; rw [hw]; clear hw w1))
  go_ret
  exact ⟨rfl, Below.refl _ _⟩

set_option maxRecDepth 100000 in
theorem tweight_any (p : Addr) (L : List It.I) (S : Nat → Prop) (w : World) (h : TT w p L S) :
    Calls Try.prog 15 #[.pointer (some p)] w fun e w' => e = .returned (.int .i64 (It.weight L : Nat)) ∧ Below w.heap.size w w' := by
  obtain ⟨b, v, t, N, rfl, rfl, hT⟩ := h
  obtain ⟨c0, c1, c2, c3, _⟩ := hT.head.cells
  have hm := ismade_any _ _ _ _ w hT.head
  generalize It.weight t.list = n at *
  clear hT
  go_enter Try.func15, Try.ntmps15
  go_wp2_with (go_at_call 31; go_must (refine hm.mono ?_; rintro e w1 ⟨rfl, hw⟩; rw [hw]; clear hw w1))
  go_ret
  exact ⟨rfl, Below.refl _ _⟩

set_option maxRecDepth 100000 in
set_option maxHeartbeats 1000000 in
theorem tclone_any (p : Addr) (L : List It.I) (S : Nat → Prop) (w : World) (h : TT w p L S) :
    Calls Try.prog 29 #[.pointer (some p)] w fun e w' => ∃ q S', e = .returned (.pointer (some q)) ∧ TT w' q L S' ∧ (∀ k, S' k → (S k ∧ k ≠ p.block) ∨ w.heap.size ≤ k) ∧ Below w.heap.size w w' := by
  obtain ⟨b, v, t, N, rfl, rfl, hT⟩ := h
  obtain ⟨c0, c1, c2, c3, _⟩ := hT.head.cells
  have hm := ismade_any _ _ _ _ w hT.head
  have HT : Hid (TTat w b v t N S) := hT
  obtain ⟨n, hn⟩ : ∃ n, n = t.list.length := ⟨_, rfl⟩
  obtain ⟨z, hz⟩ : ∃ z, z = It.weight t.list := ⟨_, rfl⟩
  have hh : HeadAt (w.alloc (.cells #[.bool true, .pointer v, .int .i64 (n : Nat), .int .i64 (z : Nat)] 58)) w.heap.size v n z := heap_alloc_new w _
  have hb := below_alloc w (.cells #[.bool true, .pointer v, .int .i64 (n : Nat), .int .i64 (z : Nat)] 58)
  rw [← hn] at c2
  rw [← hz] at c3
  have Hn : Hid (n = t.list.length ∧ z = It.weight t.list) := (⟨hn, hz⟩ : n = t.list.length ∧ z = It.weight t.list)
  clear hT hn hz
  go_enter Try.func29, Try.ntmps29
  go_wp2_with (go_at_call 31; go_must (refine hm.mono ?_; rintro e w1 ⟨rfl, hw⟩; rw [hw]; clear hw w1))
  go_ret
  have hT := HT.out
  refine ⟨_, fun k => k = w.heap.size ∨ N k, rfl, ⟨w.heap.size, v, t, N, rfl, rfl, ⟨by rw [← Hn.out.1, ← Hn.out.2]; exact hh, hT.lies.below hb, hT.up, hT.may, .inl rfl, (fun k hk => ⟨.inr hk, fun e => by have := hT.lt k (hT.sub k hk).1; omega⟩), ?_⟩⟩, ?_, hb⟩
  · rintro k (rfl | hk)
    · simp
    · exact Nat.lt_of_lt_of_le (hT.lt k (hT.sub k hk).1) hb.size
  · rintro k (rfl | hk)
    · exact .inr (Nat.le_refl _)
    · exact .inl (hT.sub k hk)

set_option maxRecDepth 100000 in
set_option maxHeartbeats 1000000 in
theorem tget_any (p : Addr) (L : List It.I) (S : Nat → Prop) (s : ByteArray) (w : World) (h : TT w p L S) :
    Calls Try.prog 17 #[.pointer (some p), .string s] w fun e w' => ∃ h, e = .returned (.tuple #[iv h, .bool (decide ((It.get L (kb s)).1 ≠ []))]) ∧ IsItem w' h (It.get L (kb s)) ∧ Below w.heap.size w w' := by
  obtain ⟨b, v, t, N, rfl, rfl, hT⟩ := h
  have hb0 := below_alloc w (.cells #[.string ⟨#[]⟩, .bool false, .bool false, .slice none 0 0, .int .i64 0, .int .i64 0, .int .i64 0, .int .u32 0] 40)
  have hT1 := hT.on hb0
  obtain ⟨c0, c1, c2, c3, _⟩ := hT1.head.cells
  have hm := ismade_any _ _ _ _ _ hT1.head
  have HM : Hid (∀ x ∈ t.list, It.may x = true) := hT.may
  rw [Tn.get_find]
  have HB : Hid (∀ W, Below (w.alloc (.cells #[.string ⟨#[]⟩, .bool false, .bool false, .slice none 0 0, .int .i64 0, .int .i64 0, .int .i64 0, .int .u32 0] 40)).heap.size (w.alloc (.cells #[.string ⟨#[]⟩, .bool false, .bool false, .slice none 0 0, .int .i64 0, .int .i64 0, .int .i64 0, .int .u32 0] 40)) W → Eight W w.heap.size (.string ⟨#[]⟩) (.bool false) (.bool false) (.slice none 0 0) (.int .i64 0) (.int .i64 0) (.int .i64 0) (.int .u32 0)) := (fun W hW => eight_of ((hW.block _ (by simp)).trans (heap_alloc_new w _)) : _)
  cases hO : It.find t.list (kb s) with
  | none =>
    have hf := find_no _ _ _ _ hT1.lies hT.up hO
    clear hT hT1 hO HM
    obtain ⟨z0, z1, z2, z3, z4, z5, z6, z7, zf⟩ := HB.out _ (Below.refl _ _)
    have zf0 := zf 0; have zf1 := zf 1; have zf2 := zf 2; have zf3 := zf 3; have zf4 := zf 4; have zf5 := zf 5; have zf6 := zf 6; have zf7 := zf 7
    clear zf HB
    go_enter Try.func17, Try.ntmps17
    go_wp2_with (first
      | (go_at_call 31; go_must (refine hm.mono ?_; rintro e w1 ⟨rfl, hw⟩; rw [hw]; clear hw w1))
      | (go_at_call 32; go_must (refine hf.mono ?_; rintro e w1 ⟨rfl, hw⟩; rw [hw]; clear hw w1)))
    refine bodyPost_ret (v := .tuple #[iv ihz, .bool false]) ?_ rfl ?_
    · simp [results, Try.results17, go_sem, z0, z1, z2, z3, z4, z5, z6, z7, ihz, Po.zero]
    · exact ⟨ihz, by simp [It.zero], item_zero _, hb0⟩
  | some x =>
    obtain ⟨d, g, vl, vr, gz, hNd, hcd, hid, hf⟩ := find_yes _ _ _ _ hT1.lies hT.up hO
    obtain ⟨⟨y0, y1, y2, y3, y4, y5, y6, y7⟩, y8, y9, y10⟩ := hcd
    simp only [Nat.zero_add] at y0 y1 y2 y3 y4 y5 y6 y7
    obtain ⟨hmem, _⟩ := It.find_mem hO
    obtain ⟨hne, m1, m2⟩ := Tn.may_small (HM.out x hmem)
    have hcp := fun (h : IH) (W : World) (hi : IsItem W h x) => copied_any h x W hi (by omega)
    clear hT hT1 hO HM hmem
    go_enter Try.func17, Try.ntmps17
    go_wp2_with (first
      | (go_at_call 31; go_must (refine hm.mono ?_; rintro e w1 ⟨rfl, hw⟩; rw [hw]; clear hw w1))
      | (go_at_call 32; go_must (refine hf.mono ?_; rintro e w1 ⟨rfl, hw⟩; rw [hw]; clear hw w1))
      | (go_at_call 33; go_must (refine (hcp g _ hid.item).mono ?_; rintro e w2 ⟨h2, rfl, hown2, hkk, hb2⟩; clear hkk; obtain ⟨z0, z1, z2, z3, z4, z5, z6, z7, zf⟩ := HB.out _ hb2; have zf0 := zf 0; have zf1 := zf 1; have zf2 := zf 2; have zf3 := zf 3; have zf4 := zf 4; have zf5 := zf 5; have zf6 := zf 6; have zf7 := zf 7; clear zf; obtain ⟨gk, gd, gf, ga, gn, gc, ⟨g1, g2, g3, g4⟩⟩ := h2)))
    have hx := hown2.1
    have hb3 : Below w.heap.size w w2 := hb0.trans (hb2.mono hb0.size)
    have ho3 := owns_same (w' := set8 w2 w.heap.size ⟨gk, gd, gf, ga, gn, gc, (g1, g2, g3, g4)⟩) hown2.2 (fun k hk _ => set8_other _ _ _ k (by simp at hk; omega))
    have hgn : gn ≤ 100000 := by have h := hx.row.1; simp only at h; omega
    obtain ⟨r1, r2, r3⟩ := row_of_owns ho3 hx.row.2.2.1 (by show gn ≤ _; omega)
    have hP : IsItem (set8 w2 w.heap.size ⟨gk, gd, gf, ga, gn, gc, (g1, g2, g3, g4)⟩) ⟨gk, gd, gf, ga, gn, gc, (g1, g2, g3, g4)⟩ x := ⟨hx.key, hx.dead, hx.far, hx.pt, r1, r2, r3, hx.fits, hx.ksz⟩
    have hQ := set8_below hb3 w.heap.size ⟨gk, gd, gf, ga, gn, gc, (g1, g2, g3, g4)⟩ (Nat.le_refl _)
    unfold set8 at hP hQ
    simp only at hP hQ
    clear hown2 ho3 r1 r2 r3 hb0 hb2 hb3 hcp HB hx hf hm
    refine bodyPost_ret (v := .tuple #[iv ⟨gk, gd, gf, ga, gn, gc, (g1, g2, g3, g4)⟩, .bool true]) ?_ rfl ?_
    · simp [results, Try.results17, go_sem, z0, z1, z2, z3, z4, z5, z6, z7]
    · exact ⟨_, by simp [hne], hP, hQ⟩
end Go.Proofs.Ytpoocjffkhjeaaa
