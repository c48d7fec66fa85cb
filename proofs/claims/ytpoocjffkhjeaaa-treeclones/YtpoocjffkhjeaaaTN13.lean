/- Nobody's trees. -/
import Derived.Test.YtpoocjffkhjeaaaTN12
import Derived.Test.YtpoocjffkhjeaaaTR13
namespace Go.Proofs.Ytpoocjffkhjeaaa
open Go.RowKit

/-- no tree at all, or a zero one -/
def NoTree (w : World) (p : Option Addr) : Prop := p = none ∨ ∃ b, p = some ⟨b, 0, none⟩ ∧ w.cell? ⟨b, 0, none⟩ = some (.bool false)
theorem NoTree.on {w w' : World} {p : Option Addr} (h : NoTree w p) (hb : Below w.heap.size w w') : NoTree w' p :=
  h.imp id fun ⟨b, e, hc⟩ => ⟨b, e, (hb.cell (p := ⟨b, 0, none⟩) (cell_lt hc)).trans hc⟩

set_option maxRecDepth 100000 in
theorem nomade_any (p : Option Addr) (w : World) (h : NoTree w p) :
    Calls Try.prog 31 #[.pointer p] w fun e w' => e = .returned (.bool false) ∧ w' = w := by
  rcases h with rfl | ⟨b, rfl, hc⟩
  · go_enter Try.func31, Try.ntmps31
    go_wp2
    go_ret
    exact ⟨rfl, rfl⟩
  · go_enter Try.func31, Try.ntmps31
    go_wp2
    go_ret
    exact ⟨rfl, rfl⟩

set_option maxRecDepth 100000 in
theorem nolen_any (p : Option Addr) (w : World) (h : NoTree w p) :
    Calls Try.prog 14 #[.pointer p] w fun e w' => e = .returned (.int .i64 0) ∧ Below w.heap.size w w' := by
  have hm := nomade_any p w h
  clear h
  go_enter Try.func14, Try.ntmps14
  go_wp2_with (go_at_call 31; go_must (refine hm.mono ?_; rintro e w1 ⟨rfl, hw⟩; rw [hw]; clear hw w1))
  go_ret
  exact ⟨rfl, Below.refl _ _⟩

set_option maxRecDepth 100000 in
theorem noweight_any (p : Option Addr) (w : World) (h : NoTree w p) :
    Calls Try.prog 15 #[.pointer p] w fun e w' => e = .returned (.int .i64 0) ∧ Below w.heap.size w w' := by
  have hm := nomade_any p w h
  clear h
  go_enter Try.func15, Try.ntmps15
  go_wp2_with (go_at_call 31; go_must (refine hm.mono ?_; rintro e w1 ⟨rfl, hw⟩; rw [hw]; clear hw w1))
  go_ret
  exact ⟨rfl, Below.refl _ _⟩

set_option maxRecDepth 100000 in
theorem noclone_any (p : Option Addr) (w : World) (h : NoTree w p) :
    Calls Try.prog 29 #[.pointer p] w fun e w' => e = .returned (.pointer none) ∧ Below w.heap.size w w' := by
  have hm := nomade_any p w h
  clear h
  go_enter Try.func29, Try.ntmps29
  go_wp2_with (go_at_call 31; go_must (refine hm.mono ?_; rintro e w1 ⟨rfl, hw⟩; rw [hw]; clear hw w1))
  go_ret
  exact ⟨rfl, Below.refl _ _⟩

set_option maxRecDepth 100000 in
theorem noscan_any (p : Option Addr) (lo hi : ByteArray) (most : Int) (w : World) (h : NoTree w p) :
    Calls Try.prog 20 #[.pointer p, .string lo, .string hi, .int .i64 most] w fun e w' => e = .returned (.slice none 0 0) ∧ Below w.heap.size w w' := by
  have hb0 := below_alloc w (.cells #[.int .i64 most] 3)
  have hm := nomade_any p _ (h.on hb0)
  clear h
  go_enter Try.func20, Try.ntmps20
  go_wp2_with (go_at_call 31; go_must (refine hm.mono ?_; rintro e w1 ⟨rfl, hw⟩; rw [hw]; clear hw w1))
  go_ret
  exact ⟨rfl, hb0⟩

set_option maxRecDepth 100000 in
theorem noall_any (p : Option Addr) (w : World) (h : NoTree w p) :
    Calls Try.prog 13 #[.pointer p] w fun e w' => e = .returned (.slice none 0 0) ∧ Below w.heap.size w w' := by
  have hl := nolen_any p w h
  have hs := fun W (hW : Below w.heap.size w W) => noscan_any p ⟨#[]⟩ ⟨#[]⟩ 0 W (h.on hW)
  clear h
  go_enter Try.func13, Try.ntmps13
  go_wp2_with (first
    | (go_at_call 14; go_must (refine hl.mono ?_; rintro e w1 ⟨rfl, hb1⟩))
    | (go_at_call 20; go_must (refine (hs _ hb1).mono ?_; rintro e w2 ⟨rfl, hb2⟩)))
  go_ret
  exact ⟨rfl, hb1.trans (hb2.mono hb1.size)⟩

set_option maxRecDepth 100000 in
set_option maxHeartbeats 1000000 in
theorem noget_any (p : Option Addr) (s : ByteArray) (w : World) (h : NoTree w p) :
    Calls Try.prog 17 #[.pointer p, .string s] w fun e w' => ∃ h : IH, e = .returned (.tuple #[iv h, .bool false]) ∧ Below w.heap.size w w' := by
  have hb0 := below_alloc w (.cells #[.string ⟨#[]⟩, .bool false, .bool false, .slice none 0 0, .int .i64 0, .int .i64 0, .int .i64 0, .int .u32 0] 40)
  have hm := nomade_any p _ (h.on hb0)
  obtain ⟨z0, z1, z2, z3, z4, z5, z6, z7, zf⟩ := eight_of (heap_alloc_new w (.cells #[.string ⟨#[]⟩, .bool false, .bool false, .slice none 0 0, .int .i64 0, .int .i64 0, .int .i64 0, .int .u32 0] 40))
  clear h zf
  go_enter Try.func17, Try.ntmps17
  go_wp2_with (go_at_call 31; go_must (refine hm.mono ?_; rintro e w1 ⟨rfl, hw⟩; rw [hw]; clear hw w1))
  refine bodyPost_ret (v := .tuple #[iv ihz, .bool false]) ?_ rfl ?_
  · simp [results, Try.results17, go_sem, z0, z1, z2, z3, z4, z5, z6, z7, ihz, Po.zero]
  · exact ⟨ihz, rfl, hb0⟩

set_option maxRecDepth 100000 in
theorem noput_any (p : Option Addr) (h : IH) (w : World) (hp : NoTree w p) :
    Calls Try.prog 23 #[.pointer p, iv h] w fun e w' => e = .returned (.int .i64 1) ∧ Below w.heap.size w w' := by
  have hb0 := below_alloc w (.cells #[.string h.key, .bool h.dead, .bool h.far, .slice h.a h.n h.c, .int .i64 h.p.1, .int .i64 h.p.2.1, .int .i64 h.p.2.2.1, .int .u32 (h.p.2.2.2 : Nat)] 40)
  have hm := nomade_any p _ (hp.on hb0)
  clear hp
  obtain ⟨key, dead, far, qa, qn, qc, ⟨p1, p2, p3, p4⟩⟩ := h
  simp only at hm hb0
  go_enter Try.func23, Try.ntmps23
  go_wp2_with (go_at_call 31; go_must (refine hm.mono ?_; rintro e w1 ⟨rfl, hw⟩; rw [hw]; clear hw w1))
  go_ret
  exact ⟨rfl, hb0⟩

theorem nobodyC : NobodyC NoTree where
  nil := fun _ => .inl rfl
  zero := fun w => .inr ⟨w.heap.size, rfl, cell_new w _ _ 0⟩
  keep := fun h hb => h.on hb
  get := fun p w h => noget_any p _ w h
  put := fun p w h => noput_any p ⟨⟨#[97]⟩, false, false, none, 0, 0, (0, 0, 0, 0)⟩ w h
  all := fun p w h => (noall_any p w h).mono fun _ _ ⟨h1, h2⟩ => ⟨none, 0, h1, h2⟩
  scan := fun p w h => (noscan_any p _ _ _ w h).mono fun _ _ ⟨h1, h2⟩ => ⟨none, 0, h1, h2⟩
  len := nolen_any
  weight := noweight_any
  clone := fun p w h => (noclone_any p w h).mono fun _ _ ⟨h1, h2⟩ => ⟨none, h1, (fun W _ => nolen_any none W (.inl rfl)), h2⟩
end Go.Proofs.Ytpoocjffkhjeaaa
