/- Trees of items in memory; how high, and joining. -/
import Derived.Test.YtpoocjffkhjeaaaTnMath
import Derived.Test.YtpoocjffkhjeaaaTR5
import Derived.Test.YtpoocjffkhjeaaaIT1
import Derived.StillTailTactics
namespace Go.Proofs.Ytpoocjffkhjeaaa
open Go.RowKit

/-- a node as it lies -/
structure NCells (w : World) (b : Nat) (h : IH) (vl vr : Option Addr) (z : Nat) : Prop where
  item : ICells w b 0 h
  left : w.cell? ⟨b, 8, none⟩ = some (.pointer vl)
  right : w.cell? ⟨b, 9, none⟩ = some (.pointer vr)
  height : w.cell? ⟨b, 10, none⟩ = some (.int .i64 (z : Nat))
theorem NCells.same {w w' : World} {b : Nat} {h : IH} {vl vr : Option Addr} {z : Nat} (hc : NCells w b h vl vr z) (hb : w'.heap[b]? = w.heap[b]?) : NCells w' b h vl vr z := by
  have k : ∀ o, w'.cell? ⟨b, o, none⟩ = w.cell? ⟨b, o, none⟩ := fun o => World.cell?_of_block (w := w) (a := ⟨b, o, none⟩) hb
  obtain ⟨⟨h0, h1, h2, h3, h4, h5, h6, h7⟩, h8, h9, h10⟩ := hc
  exact ⟨⟨(k _).trans h0, (k _).trans h1, (k _).trans h2, (k _).trans h3, (k _).trans h4, (k _).trans h5, (k _).trans h6, (k _).trans h7⟩, (k _).trans h8, (k _).trans h9, (k _).trans h10⟩
theorem NCells.lt {w : World} {b : Nat} {h : IH} {vl vr : Option Addr} {z : Nat} (hc : NCells w b h vl vr z) : b < w.heap.size := cell_lt hc.left
/-- an item whose bytes lie in blocks of a set -/
structure ItIn (N : Nat → Prop) (w : World) (h : IH) (x : It.I) : Prop where
  item : IsItem w h x
  foot : h.n = 0 ∨ ∃ q, h.a = some q ∧ N q.block
theorem row_same {k : IntKind} {w w' : World} {a : Option Addr} {l : Nat} {bs : List Nat} (h : Row k w a l bs) (hb : l = 0 ∨ ∃ q, a = some q ∧ w'.heap[q.block]? = w.heap[q.block]?) : Row k w' a l bs := by
  obtain ⟨h1, h2, h3, h4⟩ := h
  refine ⟨h1, h2, h3, ?_⟩
  rcases hb with hb | ⟨q, rfl, hb⟩
  · exact .inl hb
  rcases h4 with h0 | ⟨b, off, e, hc⟩
  · exact .inl h0
  · cases e
    refine .inr ⟨b, off, rfl, fun i hi => ?_⟩
    exact (World.cell?_of_block (w := w) (a := ⟨b, off + i, none⟩) hb).trans (hc i hi)
theorem ItIn.keep {N : Nat → Prop} {w w' : World} {h : IH} {x : It.I} (hx : ItIn N w h x) (hk : ∀ k, N k → w'.heap[k]? = w.heap[k]?) : ItIn N w' h x :=
  ⟨⟨hx.item.key, hx.item.dead, hx.item.far, hx.item.pt, row_same hx.item.row (hx.foot.imp id fun ⟨q, e, hq⟩ => ⟨q, e, hk _ hq⟩), hx.item.nil, hx.item.le, hx.item.fits, hx.item.ksz⟩, hx.foot⟩
theorem ItIn.mono {N N' : Nat → Prop} {w : World} {h : IH} {x : It.I} (hx : ItIn N w h x) (hn : ∀ k, N k → N' k) : ItIn N' w h x := ⟨hx.item, hx.foot.imp id fun ⟨q, e, hq⟩ => ⟨q, e, hn _ hq⟩⟩
theorem ItIn.below {N : Nat → Prop} {w w' : World} {h : IH} {x : It.I} (hx : ItIn N w h x) (hb : Below w.heap.size w w') : ItIn N w' h x := ⟨hx.item.below hb (Nat.le_refl _), hx.foot⟩

/-- a tree as it lies, in blocks of a set -/
def Lies (N : Nat → Prop) (w : World) : Option Addr → Tn.T → Prop
  | v, .e => v = none
  | v, .n l x r => ∃ (b : Nat) (h : IH) (vl vr : Option Addr), v = some ⟨b, 0, none⟩ ∧ N b ∧ NCells w b h vl vr (Tn.T.hgt (.n l x r)) ∧ ItIn N w h x ∧ Lies N w vl l ∧ Lies N w vr r
theorem Lies.keep {N : Nat → Prop} {w w' : World} (hk : ∀ k, N k → w'.heap[k]? = w.heap[k]?) : ∀ {v : Option Addr} {t : Tn.T}, Lies N w v t → Lies N w' v t
  | _, .e, h => h
  | _, .n _ _ _, ⟨b, h, vl, vr, e, hb, hc, hi, hl, hr⟩ => ⟨b, h, vl, vr, e, hb, hc.same (hk b hb), hi.keep hk, Lies.keep hk hl, Lies.keep hk hr⟩
theorem Lies.mono {N N' : Nat → Prop} {w : World} (hn : ∀ k, N k → N' k) : ∀ {v : Option Addr} {t : Tn.T}, Lies N w v t → Lies N' w v t
  | _, .e, h => h
  | _, .n _ _ _, ⟨b, h, vl, vr, e, hb, hc, hi, hl, hr⟩ => ⟨b, h, vl, vr, e, hn b hb, hc, hi.mono hn, Lies.mono hn hl, Lies.mono hn hr⟩
theorem Lies.below {N : Nat → Prop} {w w' : World} (hb : Below w.heap.size w w') : ∀ {v : Option Addr} {t : Tn.T}, Lies N w v t → Lies N w' v t
  | _, .e, h => h
  | _, .n _ _ _, ⟨b, h, vl, vr, e, hN, hc, hi, hl, hr⟩ => ⟨b, h, vl, vr, e, hN, hc.same (hb.block b hc.lt), hi.below hb, Lies.below hb hl, Lies.below hb hr⟩

set_option maxRecDepth 100000 in
set_option maxHeartbeats 400000 in
/-- how high a tree is -/
theorem tall_any {N : Nat → Prop} (v : Option Addr) (t : Tn.T) (w : World) (h : Lies N w v t) :
    Calls Try.prog 52 #[.pointer v] w fun e w' => e = .returned (.int .i64 (t.hgt : Nat)) ∧ w' = w := by
  cases t with
  | e =>
    obtain rfl : v = none := h
    go_enter Try.func52, Try.ntmps52
    go_wp2
    go_ret
    exact ⟨rfl, rfl⟩
  | n l x r =>
    obtain ⟨b, h, vl, vr, rfl, hb, ⟨_, _, _, hz⟩, _⟩ := h
    generalize Tn.T.hgt (.n l x r) = z at *
    go_enter Try.func52, Try.ntmps52
    go_wp2
    go_ret
    exact ⟨rfl, rfl⟩
end Go.Proofs.Ytpoocjffkhjeaaa
