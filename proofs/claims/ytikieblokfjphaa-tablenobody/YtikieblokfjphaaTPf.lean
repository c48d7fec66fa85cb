/- Nobody's tables; the law TableNobody. -/
import Derived.Test.YtikieblokfjphaaTQg
namespace Go.Proofs.Ytikieblokfjphaa
open Go.RowKit Go.Shelf

/-- no table at all, or a zero one -/
def NoTb (w : World) (p : Option Addr) : Prop := p = none ∨ ∃ b, p = some ⟨b, 0, none⟩ ∧ w.cell? ⟨b, 0, none⟩ = some (.slice none 0 0)
theorem NoTb.on {w w' : World} {p : Option Addr} (h : NoTb w p) (hb : Below w.heap.size w w') : NoTb w' p :=
  h.imp id fun ⟨b, e, hc⟩ => ⟨b, e, (hb.cell (p := ⟨b, 0, none⟩) (cell_lt hc)).trans hc⟩
theorem notb_nil (w : World) : NoTb w none := .inl rfl
theorem noopen_any (p : Option Addr) (w : World) (h : NoTb w p) :
    Calls Try.prog 45 #[.pointer p] w fun e w' => e = .returned (.bool false) ∧ w' = w := by
  rcases h with rfl | ⟨b, rfl, hc⟩
  · exact tisopen_nil w
  · exact tisopen_any b none 0 0 w hc

set_option maxRecDepth 100000 in
theorem notlen_any (p : Option Addr) (w : World) (h : NoTb w p) :
    Calls Try.prog 24 #[.pointer p] w fun e w' => e = .returned (.int .i64 0) ∧ Below w.heap.size w w' := by
  have hm := noopen_any p w h
  clear h
  go_enter Try.func24, Try.ntmps24
  go_wp2_with (go_at_call 45; go_must (refine hm.mono ?_; rintro e w1 ⟨rfl, hw⟩; rw [hw]; clear hw w1))
  go_ret
  exact ⟨rfl, Below.refl _ _⟩

set_option maxRecDepth 100000 in
theorem noends_any (p : Option Addr) (w : World) (h : NoTb w p) :
    Calls Try.prog 25 #[.pointer p] w fun e w' => e = .returned (.tuple #[.string ⟨#[]⟩, .string ⟨#[]⟩]) ∧ Below w.heap.size w w' := by
  have hm := noopen_any p w h
  clear h
  go_enter Try.func25, Try.ntmps25
  go_wp2_with (go_at_call 45; go_must (refine hm.mono ?_; rintro e w1 ⟨rfl, hw⟩; rw [hw]; clear hw w1))
  go_ret2
  exact ⟨rfl, Below.refl _ _⟩

set_option maxRecDepth 100000 in
theorem nomay_any (p : Option Addr) (s : ByteArray) (w : World) (h : NoTb w p) :
    Calls Try.prog 18 #[.pointer p, .string s] w fun e w' => e = .returned (.bool false) ∧ Below w.heap.size w w' := by
  have hm := noopen_any p w h
  clear h
  go_enter Try.func18, Try.ntmps18
  go_wp2_with (go_at_call 45; go_must (refine hm.mono ?_; rintro e w1 ⟨rfl, hw⟩; rw [hw]; clear hw w1))
  go_ret
  exact ⟨rfl, Below.refl _ _⟩

set_option maxRecDepth 100000 in
theorem notscan_any (p : Option Addr) (lo hi : ByteArray) (most : Int) (w : World) (h : NoTb w p) :
    Calls Try.prog 21 #[.pointer p, .string lo, .string hi, .int .i64 most] w fun e w' => e = .returned (.slice none 0 0) ∧ Below w.heap.size w w' := by
  have hm := noopen_any p w h
  clear h
  go_enter Try.func21, Try.ntmps21
  go_wp2_with fail
  go_step3
  go_wp2_with (go_at_call 45; go_must (refine hm.mono ?_; rintro e w1 ⟨rfl, hw⟩; rw [hw]; clear hw w1))
  try rw [Exit.noGoto_ret]
  go_ret
  exact ⟨rfl, Below.refl _ _⟩

set_option maxRecDepth 100000 in
theorem notall_any (p : Option Addr) (w : World) (h : NoTb w p) :
    Calls Try.prog 23 #[.pointer p] w fun e w' => e = .returned (.slice none 0 0) ∧ Below w.heap.size w w' := by
  have hl := notlen_any p w h
  have hs := fun W (hW : Below w.heap.size w W) => notscan_any p ⟨#[]⟩ ⟨#[]⟩ 0 W (h.on hW)
  clear h
  go_enter Try.func23, Try.ntmps23
  go_wp2_with (first
    | (go_at_call 24; go_must (refine hl.mono ?_; rintro e w1 ⟨rfl, b1⟩))
    | (go_at_call 21; go_must (refine (hs _ b1).mono ?_; rintro e w2 ⟨rfl, b2⟩)))
  go_ret
  exact ⟨rfl, b1.trans (b2.mono b1.size)⟩

set_option maxRecDepth 100000 in
set_option maxHeartbeats 1000000 in
theorem nofind_any (p : Option Addr) (s : ByteArray) (w : World) (h : NoTb w p) :
    Calls Try.prog 16 #[.pointer p, .string s] w fun e w' => e = .returned (.tuple #[iv ihz, .bool false]) ∧ Below w.heap.size w w' := by
  have hb0 := below_alloc w (.cells #[.string ⟨#[]⟩, .bool false, .bool false, .slice none 0 0, .int .i64 0, .int .i64 0, .int .i64 0, .int .u32 0] 47)
  have hm := noopen_any p _ (h.on hb0)
  obtain ⟨z0, z1, z2, z3, z4, z5, z6, z7, zf⟩ := eight_of (heap_alloc_new w (.cells #[.string ⟨#[]⟩, .bool false, .bool false, .slice none 0 0, .int .i64 0, .int .i64 0, .int .i64 0, .int .u32 0] 47))
  clear h zf
  go_enter Try.func16, Try.ntmps16
  go_wp2_with (go_at_call 45; go_must (refine hm.mono ?_; rintro e w1 ⟨rfl, hw⟩; rw [hw]; clear hw w1))
  refine bodyPost_ret (v := .tuple #[iv ihz, .bool false]) ?_ rfl ?_
  · simp [results, Try.results16, go_sem, z0, z1, z2, z3, z4, z5, z6, z7, ihz, Po.zero]
  · exact ⟨rfl, hb0⟩

set_option maxRecDepth 100000 in
set_option maxHeartbeats 2000000 in
theorem tbnobody_any (s : ByteArray) (w : World) :
    Calls Try.prog 6 #[.string s] w fun e w' => e = .returned (.bool true) ∧ Below w.heap.size w w' := by
  have hA := fun W => tbawake tableC W
  have hz : (iv ihz) = .agg #[.string ⟨#[]⟩, .bool false, .bool false, .slice none 0 0, .int .i64 0, .int .i64 0, .int .i64 0, .int .u32 0] := rfl
  have i0 : IntKind.i64.wrap 1 = 1 := by decide
  have i1 : IntKind.i64.wrap 2 = 2 := by decide
  have nof := fun p W h => nofind_any p s W h
  rw [hz] at nof
  go_enter Try.func6, Try.ntmps6
  go_wp2_with fail
  go_loopg [3] 2 (fun g s3 wx => ∃ k : Nat, k + g = 2 ∧ s3 = .int .i64 k ∧ Below w.heap.size w wx)
  case atStart => exact ⟨0, by omega, rfl, Below.refl _ _⟩
  case round =>
    obtain ⟨k, hkg, rfl, hbel⟩ := hrel
    cases gk with
    | zero =>
      obtain rfl : k = 2 := by omega
      go_wp2_with (go_at_call 8; go_must (refine (hA _).mono ?_; rintro e w1 ⟨rfl, b1⟩))
      go_ret
      exact ⟨rfl, hbel.trans (b1.mono hbel.size)⟩
    | succ g =>
      rcases Nat.lt_or_ge k 1 with h | h
      · obtain rfl : k = 0 := by omega
        go_wp2_with (first
          | (go_at_call 16; go_must (refine (nof none _ (notb_nil _)).mono ?_; rintro e w1 ⟨rfl, b1⟩; have c1 := hbel.trans (b1.mono hbel.size); have c1' := c1.alloc c1.size (.cells #[.string ⟨#[]⟩, .bool false, .bool false, .slice none 0 0, .int .i64 0, .int .i64 0, .int .i64 0, .int .u32 0] 47)))
          | (go_at_call 25; go_must (refine (noends_any none _ (notb_nil _)).mono ?_; rintro e w2 ⟨rfl, b2⟩; have c2 := c1'.trans (b2.mono c1'.size)))
          | (go_at_call 18; go_must (refine (nomay_any none s _ (notb_nil _)).mono ?_; rintro e w3 ⟨rfl, b3⟩; have c3 := c2.trans (b3.mono c2.size)))
          | (go_at_call 21; go_must (refine (notscan_any none _ _ _ _ (notb_nil _)).mono ?_; rintro e w4 ⟨rfl, b4⟩; have c4 := c3.trans (b4.mono c3.size)))
          | (go_at_call 23; go_must (refine (notall_any none _ (notb_nil _)).mono ?_; rintro e w5 ⟨rfl, b5⟩; have c5 := c4.trans (b5.mono c4.size)))
          | (go_at_call 24; go_must (refine (notlen_any none _ (notb_nil _)).mono ?_; rintro e w6 ⟨rfl, b6⟩; have c6 := c5.trans (b6.mono c5.size))))
        go_roundg g
        case measure => omega
        case rel => exact ⟨1, by omega, by go_num, c6⟩
      · obtain rfl : k = 1 := by omega
        have c0 := hbel.alloc hbel.size (.cells #[.slice none 0 0, .int .i64 0, .slice none 0 0] 63)
        have N1 : NoTb (wr.alloc (.cells #[.slice none 0 0, .int .i64 0, .slice none 0 0] 63)) (some ⟨wr.heap.size, 0, none⟩) := .inr ⟨_, rfl, (cell_new _ _ _ 0).trans rfl⟩
        go_wp2_with (first
          | (go_at_call 16; go_must (refine (nof _ _ N1).mono ?_; rintro e w1 ⟨rfl, b1⟩; have c1 := c0.trans (b1.mono c0.size); have c1' := c1.alloc c1.size (.cells #[.string ⟨#[]⟩, .bool false, .bool false, .slice none 0 0, .int .i64 0, .int .i64 0, .int .i64 0, .int .u32 0] 47); have N2 := (N1.on b1).on (below_alloc w1 (.cells #[.string ⟨#[]⟩, .bool false, .bool false, .slice none 0 0, .int .i64 0, .int .i64 0, .int .i64 0, .int .u32 0] 47))))
          | (go_at_call 25; go_must (refine (noends_any _ _ N2).mono ?_; rintro e w2 ⟨rfl, b2⟩; have c2 := c1'.trans (b2.mono c1'.size); have N3 := N2.on b2))
          | (go_at_call 18; go_must (refine (nomay_any _ s _ N3).mono ?_; rintro e w3 ⟨rfl, b3⟩; have c3 := c2.trans (b3.mono c2.size); have N4 := N3.on b3))
          | (go_at_call 21; go_must (refine (notscan_any _ _ _ _ _ N4).mono ?_; rintro e w4 ⟨rfl, b4⟩; have c4 := c3.trans (b4.mono c3.size); have N5 := N4.on b4))
          | (go_at_call 23; go_must (refine (notall_any _ _ N5).mono ?_; rintro e w5 ⟨rfl, b5⟩; have c5 := c4.trans (b5.mono c4.size); have N6 := N5.on b5))
          | (go_at_call 24; go_must (refine (notlen_any _ _ N6).mono ?_; rintro e w6 ⟨rfl, b6⟩; have c6 := c5.trans (b6.mono c5.size))))
        go_roundg g
        case measure => omega
        case rel => exact ⟨2, by omega, by go_num, c6⟩
end Go.Proofs.Ytikieblokfjphaa
