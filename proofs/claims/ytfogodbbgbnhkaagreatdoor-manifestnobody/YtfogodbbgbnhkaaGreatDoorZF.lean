/- Which edits a manifest's bytes have: of no bytes, and of one frame. -/
import Derived.Test.YtfogodbbgbnhkaaGreatDoorZC
import Derived.Test.YtfogodbbgbnhkaaGreatDoorEN
import Derived.Test.YtfogodbbgbnhkaaGreatDoorPB
import Derived.Test.YtfogodbbgbnhkaaGreatDoorRTa
namespace Go.Proofs.YtfogodbbgbnhkaaGreatDoor
open Go.RowKit

/-- a slice, as an element -/
structure SV where
  a : Option Addr
  n : Nat
  c : Nat
instance : Inhabited SV := ⟨⟨none, 0, 0⟩⟩
def sve (x : SV) : List Value := [.slice x.a x.n x.c]
theorem sveE : Enc 1 sve := ⟨fun _ => rfl, fun x u hu => by rw [List.mem_singleton.mp hu]; rfl⟩
theorem edsE : Elem 101 22 1 24 (.slice none 0 0) := ⟨Tryz.underlying101, by kernel_rfl, rfl, by decide, by decide⟩
theorem lit_sv (w : World) (x : SV) {g : Nat} (hg : w.heap.size = g) : TRow 1 sve default (w.alloc (.cells #[.slice x.a x.n x.c] 22)) (some ⟨g, 0, none⟩) 1 [x] :=
  trow_lit w _ _ _ hg (fun j u hj => by
    match j, hj with
    | 0, hj => exact hj
    | j + 1, hj => simp [sve] at hj)
theorem lit_zi (w : World) (x : Int) {g : Nat} (hg : w.heap.size = g) : TRow 1 ze 0 (w.alloc (.cells #[.int .i64 x] 3)) (some ⟨g, 0, none⟩) 1 [x] :=
  trow_lit w _ _ _ hg (fun j u hj => by
    match j, hj with
    | 0, hj => exact hj
    | j + 1, hj => simp [ze] at hj)
/-- a row of one, where it lies -/
theorem own_one {w : World} {B e c : Nat} {a : Option Addr} {v : Value} (h : w.ownsRow B e 1 (.slice a 1 c) 1 [v]) : ∃ g, a = some ⟨g, 0, none⟩ ∧ w.cell? ⟨g, 0, none⟩ = some v ∧ B ≤ g ∧ g < w.heap.size ∧ 1 ≤ c := by
  rcases h.2 with ⟨e, h0⟩ | ⟨g, cap, cur, e, hg0, _, hc, _⟩
  · cases h0
  · cases e
    exact ⟨g, rfl, (own_cells h (j := 0) rfl).1, hg0, (own_lt h).1, hc⟩

set_option maxRecDepth 100000 in
set_option maxHeartbeats 1000000 in
theorem zparts_none (w : World) : Calls Tryz.prog 47 #[.slice none 0 0] w fun e w' => e = .returned (.tuple #[.slice none 0 0, .slice none 0 0]) ∧ Below w.heap.size w w' := by
  have hsc := scan_any none 0 0 [] w (by omega) (.inl ⟨rfl, rfl⟩) ⟨rfl, by omega, fun _ h => absurd h (by simp), .inl rfl⟩
  rw [show Fr.scan [] = ([], [], 0) by decide] at hsc
  unfold ScanRes at hsc
  go_enter Tryz.func47, Tryz.ntmps47
  go_wp2_with (go_at_call 97; go_must (refine hsc.mono ?_; rintro e w1 ⟨a1, c1, a2, c2, cs, rfl, _, _, _, _, hb1⟩))
  go_loopw [4, 5, 21] (fun x y i wr => x = .slice none 0 0 ∧ y = .slice none 0 0 ∧ i = .int .i64 0 ∧ wr = w1) (fun _ _ _ _ => 0)
  case atStart => exact ⟨rfl, rfl, rfl, rfl⟩
  case round =>
    obtain ⟨rfl, rfl, rfl, rfl⟩ := hrel
    go_wp2
    go_ret2
    exact ⟨rfl, hb1⟩

/-- the edits of one frame, and how many bytes it has -/
def PartRes (w : World) (E : List Ed.E) (N n : Nat) (e : Ending) (w' : World) : Prop :=
  ∃ g1 c1 g2 c2 g, e = .returned (.tuple #[.slice (some ⟨g1, 0, none⟩) 1 c1, .slice (some ⟨g2, 0, none⟩) 1 c2]) ∧ (w'.cell? ⟨g1, 0, none⟩ = some (.slice (some ⟨g, 0, none⟩) N N) ∧ ERow w' (some ⟨g, 0, none⟩) N E ∧ w'.cell? ⟨g2, 0, none⟩ = some (.int .i64 (n : Int)) ∧ 1 ≤ c1 ∧ 1 ≤ c2) ∧ Below w.heap.size w w'

set_option maxRecDepth 100000 in
set_option maxHeartbeats 2000000 in
theorem zparts_one (a : Option Addr) (len cap : Nat) (bs body : List Nat) (ps : List Nat) (m : Nat) (w : World) (hbig : len ≤ 100000) (hshape : Shape a len cap) (hr : Row .u8 w a len bs) (hsc1 : Fr.scan bs = ([(1, body)], ps, m)) (E : List Ed.E) (hE : Ed.get body = E) (hE0 : E ≠ []) (hnb : body.length ≤ 100000) (hE1 : E.length ≤ 1000) :
    Calls Tryz.prog 47 #[.slice a len cap] w (PartRes w E E.length (Fr.size body.length)) := by
  have hsc := scan_any a len cap bs w hbig hshape hr
  rw [hsc1] at hsc
  unfold ScanRes at hsc
  obtain ⟨n, hn⟩ : ∃ n, body.length = n := ⟨_, rfl⟩
  obtain ⟨N, hN⟩ : ∃ N, E.length = N := ⟨_, rfl⟩
  have hsz := fun W => size_in n W (by omega)
  rw [hn, hN]
  rw [hn] at hnb
  rw [hN] at hE1
  obtain ⟨Z, hZ⟩ : ∃ Z, Fr.size n = Z := ⟨_, rfl⟩
  rw [hZ] at hsz ⊢
  clear hr hshape hsc1 hZ
  have HN : Hid (E.length = N ∧ E ≠ []) := (⟨hN, hE0⟩ : _ ∧ _)
  have HNn : Hid (body.length = n) := hn
  have hN0 : 0 < N := by have := List.length_pos_iff.mpr hE0; omega
  have HGE : Hid (Ed.get body = E) := hE
  clear hN hE0 hn hE
  go_enter Tryz.func47, Tryz.ntmps47
  go_wp2_with (go_at_call 97; go_must (refine hsc.mono ?_; rintro e w1 ⟨a1, c1, a2, c2, cs, rfl, hs1, hs2, hs3, hs4, hb1⟩))
  obtain ⟨A, C, rest, rfl, hbody, hsmall, hb1e9, _, hrest⟩ := hs2
  have hr0 : rest = [] := hrest
  subst hr0
  simp only [List.length_singleton] at hs1 hs3 hs4 ⊢
  rw [HNn.out] at *
  obtain ⟨g0, rfl⟩ : ∃ g, a1 = some ⟨g, 0, none⟩ := by
    rcases hs1.2 with ⟨e, h0⟩ | ⟨g, cap, cur, e, _⟩
    · cases h0
    · cases e; exact ⟨g, rfl⟩
  have x0 := (own_cells hs1 (j := 0) rfl).1
  have x1 := (own_cells hs1 (j := 1) rfl).1
  have hg0 := (own_lt hs1).1
  obtain ⟨hrow, hnil, hnc⟩ := row_of_owns hbody (fun x hx => hsmall x hx) (by omega)
  have hshp : Shape A n C := by
    rcases hbody.2 with ⟨e, h0⟩ | ⟨g, cap, cur, e, _⟩
    · cases e; exact .inl ⟨h0, rfl⟩
    · cases e; exact .inr ⟨g, 0, rfl, hnc⟩
  have hget := fun W (hb : Below w1.heap.size w1 W) => epget_any A n C body W hnb hshp (hrow.below hb (Nat.le_refl _))
  rw [HGE.out] at hget
  unfold EGRes at hget
  simp only [HN.out.1] at hget
  clear hsc hs1 hs3 hs4 hbody hsmall hrow hshp hnil
  go_loopw [4, 5, 21] (fun x y i wr => (x = .slice none 0 0 ∧ y = .slice none 0 0 ∧ i = .int .i64 0 ∧ wr = w1) ∨ (∃ g1 c1 g2 c2 g, x = .slice (some ⟨g1, 0, none⟩) 1 c1 ∧ y = .slice (some ⟨g2, 0, none⟩) 1 c2 ∧ i = .int .i64 1 ∧ (wr.cell? ⟨g1, 0, none⟩ = some (.slice (some ⟨g, 0, none⟩) N N) ∧ ERow wr (some ⟨g, 0, none⟩) N E ∧ wr.cell? ⟨g2, 0, none⟩ = some (.int .i64 (Z : Int)) ∧ 1 ≤ c1 ∧ 1 ≤ c2) ∧ Below w.heap.size w wr)) (fun _ _ i _ => 1 - (intOf i).toNat)
  case atStart => exact .inl ⟨rfl, rfl, rfl, rfl⟩
  case round =>
    rcases hrel with ⟨rfl, rfl, rfl, rfl⟩ | ⟨g1, c1, g2, c2, g, rfl, rfl, rfl, hR, hbw⟩
    · have i0 : (0 : Int) < 1 := by omega
      have t1 : Hid (0 = 0) := (rfl : 0 = 0)
      have hA1 := below_alloc wr (.cells #[.int .i64 1, .slice A n C] 150)
      have hF : ∀ W, Below (wr.heap.size + 1) (wr.alloc (.cells #[.int .i64 1, .slice A n C] 150)) W → W.cell? ⟨wr.heap.size, 0, none⟩ = some (.int .i64 1) ∧ W.cell? ⟨wr.heap.size, 1, none⟩ = some (.slice A n C) := fun W hb => by
        have h := (hb.block wr.heap.size (Nat.lt_succ_self _)).trans (heap_alloc_new wr _)
        exact ⟨(Go.Joins.cell_of_block h _).trans rfl, (Go.Joins.cell_of_block h _).trans rfl⟩
      have hbw0 : Below w.heap.size w (wr.alloc (.cells #[.int .i64 1, .slice A n C] 150)) := hb1.alloc hb1.size _
      go_wp2_with (first
        | (go_at_call 98; go_must (refine (hget _ hA1).mono ?_; rintro e w2 hres; rcases hres with ⟨h0, _⟩ | ⟨_, g, rfl, hown, hb2⟩; exact absurd h0 HN.out.2; rw [World.size_alloc] at hb2 hown; obtain ⟨f0, f1⟩ := hF _ hb2; have hbw2 := hbw0.trans (hb2.mono (by have := hb1.size; omega))))
        | (at_builtin; have tok := t1; have := hb2; go_must (clear tok t1; refine append_t edsE sveE (w0 := w2) (B := w2.heap.size) rfl (.tmp 38) (.tmp 40) rfl (.slice none 0 0) 0 [] rfl (World.ownsRow_nil _ _ _ _) (some ⟨w2.heap.size, 0, none⟩) 1 1 [⟨some ⟨g, 0, none⟩, N, N⟩] rfl (lit_sv w2 ⟨some ⟨g, 0, none⟩, N, N⟩ rfl) (fun h => by cases h) (by omega) (below_alloc _ _) (by simp) ?_; intro a3 c3 w3 _ _ _ how3 hb3 hs3; obtain ⟨f2, f3⟩ := hF _ (hb2.trans (hb3.mono (by have := hb2.size; rw [World.size_alloc] at this; exact this)))))
        | (go_at_call 99; go_must (refine (hsz _).mono ?_; rintro e w4 ⟨rfl, hw4⟩; rw [hw4]; clear hw4 w4))
        | (at_builtin; have := hb3; go_must (refine append_t intZ zeE (w0 := w3) (B := w3.heap.size) rfl (.tmp 42) (.tmp 47) rfl (.slice none 0 0) 0 [] rfl (World.ownsRow_nil _ _ _ _) (some ⟨w3.heap.size, 0, none⟩) 1 1 [(Z : Int)] rfl (lit_zi w3 (Z : Int) rfl) (fun h => by cases h) (by omega) (below_alloc _ _) (by simp) ?_; intro a5 c5 w5 _ _ _ how5 hb5 hs5)))
      obtain ⟨g1, rfl, z1, _, lt1, hc1⟩ := own_one how3
      obtain ⟨g2, rfl, z2, _, lt2, hc2⟩ := own_one how5
      have he : ERow w2 (some ⟨g, 0, none⟩) N E := trow_of_owns eeE hown (by omega) (by omega)
      have hb25 : Below w2.heap.size w2 w5 := hb3.trans (hb5.mono hb3.size)
      exact ⟨.inr ⟨g1, c3, g2, c5, g, rfl, rfl, rfl, ⟨(hb5.cell (p := ⟨g1, 0, none⟩) lt1).trans z1, he.below hb25 (Nat.le_refl _), z2, hc1, hc2⟩, hbw2.trans (hb25.mono hbw2.size)⟩, by simp [intOf]⟩
    · go_wp2
      go_ret2
      exact ⟨g1, c1, g2, c2, g, rfl, hR, hbw⟩
end Go.Proofs.YtfogodbbgbnhkaaGreatDoor

/- What a manifest's bytes tell: of no bytes, and of one frame. -/
namespace Go.Proofs.YtfogodbbgbnhkaaGreatDoor
open Go.RowKit

theorem setCells_blk (b : Nat) : ∀ (vs : List Value) (o : Nat) (w : World) (C : Array Value) (e : TypeId) (r : Nat × Nat), w.heap[b]? = some (.cells C e r) → (w.setCells b o vs).heap[b]? = some (.cells (setL C.toList o vs).toArray e r)
  | [], _, _, C, _, _, h => by simpa [World.setCells, setL] using h
  | v :: r, o, w, C, e, fr, h => by
    have h1 := Go.Joins.block_setCell h v (i := o)
    have h2 := setCells_blk b r (o + 1) _ _ e fr h1
    rw [World.setCells, h2, setL]
    simp
/-- all cells of a block are written -/
theorem blk_all {b : Nat} {w : World} {C : Array Value} {e : TypeId} (h : w.heap[b]? = some (.cells C e (0, 0))) (vs : List Value) (hl : vs.length = C.size) : (w.setCells b 0 vs).heap[b]? = some (.cells vs.toArray e (0, 0)) := by
  rw [setCells_blk b vs 0 w C e (0, 0) h, setL_eq _ _ _ (by simp [hl])]
  simp [hl]
theorem setCells_other {b k : Nat} (hk : k ≠ b) : ∀ (vs : List Value) (o : Nat) (w : World), (w.setCells b o vs).heap[k]? = w.heap[k]?
  | [], _, _ => rfl
  | v :: r, o, w => (setCells_other hk r (o + 1) _).trans (Below.heap_setCell w ⟨b, o, none⟩ v k hk)
theorem below_cells {B b : Nat} {w W : World} (h : Below B w W) (hb : B ≤ b) (vs : List Value) : Below B w (W.setCells b 0 vs) := below_setL hb vs 0 h
theorem rown_base {B B' : Nat} {w : World} {a1 : Option Addr} {n1 c1 : Nat} {a2 : Option Addr} {n2 c2 : Nat} {a3 : Option Addr} {n3 c3 : Nat} {a4 : Option Addr} {n4 c4 : Nat} {X : Ro.R} (h : ROwn B w a1 n1 c1 a2 n2 c2 a3 n3 c3 a4 n4 c4 X) (hB : B' ≤ B) : ROwn B' w a1 n1 c1 a2 n2 c2 a3 n3 c3 a4 n4 c4 X := by
  have low : ∀ {e s n : Nat} {v : Value} {xs : List Value}, w.ownsRow B e s v n xs → w.ownsRow B' e s v n xs := fun {e s n v xs} h => by
    refine ⟨h.1, ?_⟩
    rcases h.2 with h0 | ⟨g, cap, cur, e1, hg, h2⟩
    · exact .inl h0
    · exact .inr ⟨g, cap, cur, e1, Nat.le_trans hB hg, h2⟩
  exact ⟨low h.o1, low h.o2, low h.o3, low h.o4⟩
theorem ROwn.other2 {B p : Nat} {w w' : World} {a1 : Option Addr} {n1 c1 : Nat} {a2 : Option Addr} {n2 c2 : Nat} {a3 : Option Addr} {n3 c3 : Nat} {a4 : Option Addr} {n4 c4 : Nat} {r : Ro.R} {cs : Array Value} {fz : Nat × Nat} (h : ROwn B w a1 n1 c1 a2 n2 c2 a3 n3 c3 a4 n4 c4 r) (hp : w.heap[p]? = some (.cells cs 71 fz)) (hg : w.grownBy w' (some p)) : ROwn B w' a1 n1 c1 a2 n2 c2 a3 n3 c3 a4 n4 c4 r :=
  ⟨h.o1.kept hg (.inr (obr_apart hp h.o1 (by decide)).symm), h.o2.kept hg (.inr (obr_apart hp h.o2 (by decide)).symm), h.o3.kept hg (.inr (obr_apart hp h.o3 (by decide)).symm), h.o4.kept hg (.inr (obr_apart hp h.o4 (by decide)).symm)⟩
theorem rown_first (B : Nat) (w : World) : ROwn B w none 0 0 none 0 0 none 0 0 none 0 0 Ro.first := ⟨World.ownsRow_nil _ _ _ _, World.ownsRow_nil _ _ _ _, World.ownsRow_nil _ _ _ _, World.ownsRow_nil _ _ _ _⟩

set_option maxRecDepth 100000 in
set_option maxHeartbeats 1000000 in
theorem zbegin_few (a : Option Addr) (n c : Nat) (hn : n < 2) (w : World) : Calls Tryz.prog 48 #[.slice a n c] w fun e w' => e = .returned (.tuple #[.agg #[.slice none 0 0, .slice none 0 0, .slice none 0 0, .slice none 0 0, .int .i64 1, .int .i64 0, .int .i64 0, .int .i64 0, .int .i64 0, .int .i64 0, .int .i64 0], .int .i64 0]) ∧ Below w.heap.size w w' := by
  have hn' : (n : Int) < 2 := by omega
  go_enter Tryz.func48, Tryz.ntmps48
  go_wp2_with (go_at_call 100; go_must (refine (rfirst_any _).mono ?_; rintro e w1 ⟨rfl, hb1⟩; have hQ := (hb1.block _ (by simp)).trans (heap_alloc_new w _); have hbw := (below_alloc w _).trans (hb1.mono (by simp)); have y0 := (blkc hQ).1 0; have y1 := (blkc hQ).1 1; have y2 := (blkc hQ).1 2; have y3 := (blkc hQ).1 3; have y4 := (blkc hQ).1 4; have y5 := (blkc hQ).1 5; have y6 := (blkc hQ).1 6; have y7 := (blkc hQ).1 7; have y8 := (blkc hQ).1 8; have y9 := (blkc hQ).1 9; have y10 := (blkc hQ).1 10; have f0 := (blkc hQ).2 0; have f1 := (blkc hQ).2 1; have f2 := (blkc hQ).2 2; have f3 := (blkc hQ).2 3; have f4 := (blkc hQ).2 4; have f5 := (blkc hQ).2 5; have f6 := (blkc hQ).2 6; have f7 := (blkc hQ).2 7; have f8 := (blkc hQ).2 8; have f9 := (blkc hQ).2 9; have f10 := (blkc hQ).2 10))
  have hB : (((((((((((w1.setCell ⟨w.heap.size, 0, none⟩ (.slice none 0 0)).setCell ⟨w.heap.size, 1, none⟩ (.slice none 0 0)).setCell ⟨w.heap.size, 2, none⟩ (.slice none 0 0)).setCell ⟨w.heap.size, 3, none⟩ (.slice none 0 0)).setCell ⟨w.heap.size, 4, none⟩ (.int .i64 1)).setCell ⟨w.heap.size, 5, none⟩ (.int .i64 0)).setCell ⟨w.heap.size, 6, none⟩ (.int .i64 0)).setCell ⟨w.heap.size, 7, none⟩ (.int .i64 0)).setCell ⟨w.heap.size, 8, none⟩ (.int .i64 0)).setCell ⟨w.heap.size, 9, none⟩ (.int .i64 0)).setCell ⟨w.heap.size, 10, none⟩ (.int .i64 0)).heap[w.heap.size]? = some (.cells #[.slice none 0 0, .slice none 0 0, .slice none 0 0, .slice none 0 0, .int .i64 1, .int .i64 0, .int .i64 0, .int .i64 0, .int .i64 0, .int .i64 0, .int .i64 0] 34 (0, 0)) := blk_all hQ [.slice none 0 0, .slice none 0 0, .slice none 0 0, .slice none 0 0, .int .i64 1, .int .i64 0, .int .i64 0, .int .i64 0, .int .i64 0, .int .i64 0, .int .i64 0] rfl
  have hbF : Below w.heap.size w (((((((((((w1.setCell ⟨w.heap.size, 0, none⟩ (.slice none 0 0)).setCell ⟨w.heap.size, 1, none⟩ (.slice none 0 0)).setCell ⟨w.heap.size, 2, none⟩ (.slice none 0 0)).setCell ⟨w.heap.size, 3, none⟩ (.slice none 0 0)).setCell ⟨w.heap.size, 4, none⟩ (.int .i64 1)).setCell ⟨w.heap.size, 5, none⟩ (.int .i64 0)).setCell ⟨w.heap.size, 6, none⟩ (.int .i64 0)).setCell ⟨w.heap.size, 7, none⟩ (.int .i64 0)).setCell ⟨w.heap.size, 8, none⟩ (.int .i64 0)).setCell ⟨w.heap.size, 9, none⟩ (.int .i64 0)).setCell ⟨w.heap.size, 10, none⟩ (.int .i64 0)) := below_cells hbw (Nat.le_refl _) [.slice none 0 0, .slice none 0 0, .slice none 0 0, .slice none 0 0, .int .i64 1, .int .i64 0, .int .i64 0, .int .i64 0, .int .i64 0, .int .i64 0, .int .i64 0]
  have d0 := (blkc hB).1 0
  have d1 := (blkc hB).1 1
  have d2 := (blkc hB).1 2
  have d3 := (blkc hB).1 3
  have d4 := (blkc hB).1 4
  have d5 := (blkc hB).1 5
  have d6 := (blkc hB).1 6
  have d7 := (blkc hB).1 7
  have d8 := (blkc hB).1 8
  have d9 := (blkc hB).1 9
  have d10 := (blkc hB).1 10
  refine bodyPost_ret (v := .tuple #[.agg #[.slice none 0 0, .slice none 0 0, .slice none 0 0, .slice none 0 0, .int .i64 1, .int .i64 0, .int .i64 0, .int .i64 0, .int .i64 0, .int .i64 0, .int .i64 0], .int .i64 0]) (by simp [results, Tryz.results48, go_sem, d0, d1, d2, d3, d4, d5, d6, d7, d8, d9, d10]) rfl ⟨rfl, hbF⟩

/-- a roster, how many frames and how many bytes tell it -/
def TellRes (w : World) (X : Ro.R) (fr sz : Nat) (e : Ending) (w' : World) : Prop :=
  ∃ a1 n1 c1 a2 n2 c2 a3 n3 c3 a4 n4 c4, e = .returned (.agg #[.slice a1 n1 c1, .slice a2 n2 c2, .slice a3 n3 c3, .slice a4 n4 c4, .int .i64 X.log, .int .i64 X.index, .int .i64 X.term, .int .i64 X.ht, .int .i64 X.hv, .int .i64 X.hc, .int .i64 X.mark, .int .i64 (fr : Int), .int .i64 (sz : Int)]) ∧ ROwn w.heap.size w' a1 n1 c1 a2 n2 c2 a3 n3 c3 a4 n4 c4 X ∧ Below w.heap.size w w'

set_option maxRecDepth 100000 in
set_option maxHeartbeats 2000000 in
theorem ztell_none (w : World) : Calls Tryz.prog 21 #[.slice none 0 0] w (TellRes w Ro.first 0 0) := by
  have hp := fun W => zparts_none W
  have hbg := fun W => zbegin_few none 0 0 (by omega) W
  go_enter Tryz.func21, Tryz.ntmps21
  go_wp2_with (first
    | (go_at_call 48; have := hb1; go_must (refine (hbg _).mono ?_; rintro e w2 ⟨rfl, hb2⟩; have hQ2 := (hb2.block _ (heap_lt hQ)).trans hQ; have hbw2 := hbw.trans (hb2.mono hbw.size)))
    | (go_at_call 47; go_must (refine (hp _).mono ?_; rintro e w1 ⟨rfl, hb1⟩; have hQ := (hb1.block _ (by simp)).trans (heap_alloc_new w _); have hbw := (below_alloc w _).trans (hb1.mono (by simp)))))
  have hbw3 := hbw2.alloc hbw2.size (.cells #[.slice none 0 0, .slice none 0 0, .slice none 0 0, .slice none 0 0, .int .i64 1, .int .i64 0, .int .i64 0, .int .i64 0, .int .i64 0, .int .i64 0, .int .i64 0] 34)
  have hQ3 : (w2.alloc (.cells #[.slice none 0 0, .slice none 0 0, .slice none 0 0, .slice none 0 0, .int .i64 1, .int .i64 0, .int .i64 0, .int .i64 0, .int .i64 0, .int .i64 0, .int .i64 0] 34)).heap[w.heap.size]? = some (.cells #[.slice none 0 0, .slice none 0 0, .slice none 0 0, .slice none 0 0, .int .i64 0, .int .i64 0, .int .i64 0, .int .i64 0, .int .i64 0, .int .i64 0, .int .i64 0, .int .i64 0, .int .i64 0] 71 (0, 0)) := (Below.heap_alloc _ _ _ (heap_lt hQ2)).trans hQ2
  have hB5 := heap_alloc_new w2 (.cells #[.slice none 0 0, .slice none 0 0, .slice none 0 0, .slice none 0 0, .int .i64 1, .int .i64 0, .int .i64 0, .int .i64 0, .int .i64 0, .int .i64 0, .int .i64 0] 34)
  clear hb1 hb2 hQ hQ2 hbw hbw2 hp hbg this
  generalize w2.alloc (.cells #[.slice none 0 0, .slice none 0 0, .slice none 0 0, .slice none 0 0, .int .i64 1, .int .i64 0, .int .i64 0, .int .i64 0, .int .i64 0, .int .i64 0, .int .i64 0] 34) = W3 at *
  generalize w2.heap.size = b5 at *
  go_loopw [6, 28] (fun f i wr => f = .int .i64 0 ∧ i = .int .i64 0 ∧ wr = W3) (fun _ _ _ => 0)
  case atStart => exact ⟨rfl, rfl, rfl⟩
  case round =>
    obtain ⟨rfl, rfl, rfl⟩ := hrel
    go_wp2
    go_loopw [11, 48] (fun f i wr2 => f = .int .i64 0 ∧ i = .int .i64 0 ∧ wr2 = wr) (fun _ _ _ => 0)
    case atStart => exact ⟨rfl, rfl, rfl⟩
    case round =>
      obtain ⟨rfl, rfl, rfl⟩ := hrel
      have x0 := (blkc hB5).1 0
      have x1 := (blkc hB5).1 1
      have x2 := (blkc hB5).1 2
      have x3 := (blkc hB5).1 3
      have x4 := (blkc hB5).1 4
      have x5 := (blkc hB5).1 5
      have x6 := (blkc hB5).1 6
      have x7 := (blkc hB5).1 7
      have x8 := (blkc hB5).1 8
      have x9 := (blkc hB5).1 9
      have x10 := (blkc hB5).1 10
      have y0 := (blkc hQ3).1 0
      have y1 := (blkc hQ3).1 1
      have y2 := (blkc hQ3).1 2
      have y3 := (blkc hQ3).1 3
      have y4 := (blkc hQ3).1 4
      have y5 := (blkc hQ3).1 5
      have y6 := (blkc hQ3).1 6
      have y7 := (blkc hQ3).1 7
      have y8 := (blkc hQ3).1 8
      have y9 := (blkc hQ3).1 9
      have y10 := (blkc hQ3).1 10
      have y11 := (blkc hQ3).1 11
      have y12 := (blkc hQ3).1 12
      have f0 := (blkc hQ3).2 0
      have f1 := (blkc hQ3).2 1
      have f2 := (blkc hQ3).2 2
      have f3 := (blkc hQ3).2 3
      have f4 := (blkc hQ3).2 4
      have f5 := (blkc hQ3).2 5
      have f6 := (blkc hQ3).2 6
      have f7 := (blkc hQ3).2 7
      have f8 := (blkc hQ3).2 8
      have f9 := (blkc hQ3).2 9
      have f10 := (blkc hQ3).2 10
      have f11 := (blkc hQ3).2 11
      have f12 := (blkc hQ3).2 12
      go_wp2
      have hF : (((((((((((((wr.setCell ⟨w.heap.size, 0, none⟩ (.slice none 0 0)).setCell ⟨w.heap.size, 1, none⟩ (.slice none 0 0)).setCell ⟨w.heap.size, 2, none⟩ (.slice none 0 0)).setCell ⟨w.heap.size, 3, none⟩ (.slice none 0 0)).setCell ⟨w.heap.size, 4, none⟩ (.int .i64 1)).setCell ⟨w.heap.size, 5, none⟩ (.int .i64 0)).setCell ⟨w.heap.size, 6, none⟩ (.int .i64 0)).setCell ⟨w.heap.size, 7, none⟩ (.int .i64 0)).setCell ⟨w.heap.size, 8, none⟩ (.int .i64 0)).setCell ⟨w.heap.size, 9, none⟩ (.int .i64 0)).setCell ⟨w.heap.size, 10, none⟩ (.int .i64 0)).setCell ⟨w.heap.size, 11, none⟩ (.int .i64 0)).setCell ⟨w.heap.size, 12, none⟩ (.int .i64 0)).heap[w.heap.size]? = some (.cells #[.slice none 0 0, .slice none 0 0, .slice none 0 0, .slice none 0 0, .int .i64 1, .int .i64 0, .int .i64 0, .int .i64 0, .int .i64 0, .int .i64 0, .int .i64 0, .int .i64 0, .int .i64 0] 71 (0, 0)) := blk_all hQ3 [.slice none 0 0, .slice none 0 0, .slice none 0 0, .slice none 0 0, .int .i64 1, .int .i64 0, .int .i64 0, .int .i64 0, .int .i64 0, .int .i64 0, .int .i64 0, .int .i64 0, .int .i64 0] rfl
      have hbF : Below w.heap.size w (((((((((((((wr.setCell ⟨w.heap.size, 0, none⟩ (.slice none 0 0)).setCell ⟨w.heap.size, 1, none⟩ (.slice none 0 0)).setCell ⟨w.heap.size, 2, none⟩ (.slice none 0 0)).setCell ⟨w.heap.size, 3, none⟩ (.slice none 0 0)).setCell ⟨w.heap.size, 4, none⟩ (.int .i64 1)).setCell ⟨w.heap.size, 5, none⟩ (.int .i64 0)).setCell ⟨w.heap.size, 6, none⟩ (.int .i64 0)).setCell ⟨w.heap.size, 7, none⟩ (.int .i64 0)).setCell ⟨w.heap.size, 8, none⟩ (.int .i64 0)).setCell ⟨w.heap.size, 9, none⟩ (.int .i64 0)).setCell ⟨w.heap.size, 10, none⟩ (.int .i64 0)).setCell ⟨w.heap.size, 11, none⟩ (.int .i64 0)).setCell ⟨w.heap.size, 12, none⟩ (.int .i64 0)) := below_cells hbw3 (Nat.le_refl _) [.slice none 0 0, .slice none 0 0, .slice none 0 0, .slice none 0 0, .int .i64 1, .int .i64 0, .int .i64 0, .int .i64 0, .int .i64 0, .int .i64 0, .int .i64 0, .int .i64 0, .int .i64 0]
      have d0 := (blkc hF).1 0
      have d1 := (blkc hF).1 1
      have d2 := (blkc hF).1 2
      have d3 := (blkc hF).1 3
      have d4 := (blkc hF).1 4
      have d5 := (blkc hF).1 5
      have d6 := (blkc hF).1 6
      have d7 := (blkc hF).1 7
      have d8 := (blkc hF).1 8
      have d9 := (blkc hF).1 9
      have d10 := (blkc hF).1 10
      have d11 := (blkc hF).1 11
      have d12 := (blkc hF).1 12
      refine bodyPost_ret (v := .agg #[.slice none 0 0, .slice none 0 0, .slice none 0 0, .slice none 0 0, .int .i64 1, .int .i64 0, .int .i64 0, .int .i64 0, .int .i64 0, .int .i64 0, .int .i64 0, .int .i64 0, .int .i64 0]) (by simp [results, Tryz.results21, go_sem, d0, d1, d2, d3, d4, d5, d6, d7, d8, d9, d10, d11, d12]) rfl ⟨none, 0, 0, none, 0, 0, none, 0, 0, none, 0, 0, rfl, rown_first _ _, hbF⟩

set_option maxRecDepth 100000 in
set_option maxHeartbeats 4000000 in
theorem ztell_one (a : Option Addr) (len cap : Nat) (bs body : List Nat) (ps : List Nat) (m N Z : Nat) (w : World) (hbig : len ≤ 100000) (hshape : Shape a len cap) (hr : Row .u8 w a len bs) (hsc : Fr.scan bs = ([(1, body)], ps, m)) (E : List Ed.E) (hE : Ed.get body = E) (hE0 : E ≠ []) (hb1 : body.length ≤ 100000) (hN : E.length = N) (hN1 : N ≤ 1000) (hZ : Fr.size body.length = Z) (hZ1 : Z ≤ 10000000) (X : Ro.R) (hX : Ro.apply Ro.first E = (X, 0)) :
    Calls Tryz.prog 21 #[.slice a len cap] w (TellRes w X 1 Z) := by
  have hp := fun W (hb : Below w.heap.size w W) => zparts_one a len cap bs body ps m W hbig hshape (hr.below hb (Nat.le_refl _)) hsc E hE hE0 hb1 (by omega)
  rw [hN, hZ] at hp
  unfold PartRes at hp
  have hbg := fun a c W => zbegin_few a 1 c (by omega) W
  have hap := fun W g (h : ERow W (some ⟨g, 0, none⟩) N E) => rapply_any [] [] [] [] none 0 0 none 0 0 none 0 0 none 0 0 1 0 0 0 0 0 0 (some ⟨g, 0, none⟩) N N E W (rin_first W) h hN1
  have hX1 : (Ro.apply ⟨[], [], [], [], 1, 0, 0, 0, 0, 0, 0⟩ E) = (X, 0) := hX
  simp only [hX1] at hap
  unfold ApRes at hap
  have hbw0 := below_alloc w (.cells #[.slice none 0 0, .slice none 0 0, .slice none 0 0, .slice none 0 0, .int .i64 0, .int .i64 0, .int .i64 0, .int .i64 0, .int .i64 0, .int .i64 0, .int .i64 0, .int .i64 0, .int .i64 0] 71)
  clear hX hX1 hr hshape hsc hE hE0 hb1 hN hZ
  go_enter Tryz.func21, Tryz.ntmps21
  go_wp2_with (first
    | (go_at_call 48; have := hb1; go_must (refine (hbg _ _ _).mono ?_; rintro e w2 ⟨rfl, hb2⟩; have hQ2 := (hb2.block _ (heap_lt hQ)).trans hQ; have hbw2 := hbw.trans (hb2.mono hbw.size); have zz1 := (hb2.cell (p := ⟨g1, 0, none⟩) (cell_lt z1)).trans z1; have zz2 := (hb2.cell (p := ⟨g2, 0, none⟩) (cell_lt z2)).trans z2; have her2 := her.below hb2 (Nat.le_refl _)))
    | (go_at_call 47; go_must (refine (hp _ hbw0).mono ?_; rintro e w1 ⟨g1, k1, g2, k2, g, rfl, ⟨z1, her, z2, hk1, hk2⟩, hb1⟩; have hQ := (hb1.block _ (by simp)).trans (heap_alloc_new w _); have hbw := (below_alloc w _).trans (hb1.mono (by simp)))))
  have hbw3 := hbw2.alloc hbw2.size (.cells #[.slice none 0 0, .slice none 0 0, .slice none 0 0, .slice none 0 0, .int .i64 1, .int .i64 0, .int .i64 0, .int .i64 0, .int .i64 0, .int .i64 0, .int .i64 0] 34)
  have hbs3 := below_alloc w2 (.cells #[.slice none 0 0, .slice none 0 0, .slice none 0 0, .slice none 0 0, .int .i64 1, .int .i64 0, .int .i64 0, .int .i64 0, .int .i64 0, .int .i64 0, .int .i64 0] 34)
  have hQ3 : (w2.alloc (.cells #[.slice none 0 0, .slice none 0 0, .slice none 0 0, .slice none 0 0, .int .i64 1, .int .i64 0, .int .i64 0, .int .i64 0, .int .i64 0, .int .i64 0, .int .i64 0] 34)).heap[w.heap.size]? = some (.cells #[.slice none 0 0, .slice none 0 0, .slice none 0 0, .slice none 0 0, .int .i64 0, .int .i64 0, .int .i64 0, .int .i64 0, .int .i64 0, .int .i64 0, .int .i64 0, .int .i64 0, .int .i64 0] 71 (0, 0)) := (Below.heap_alloc _ _ _ (heap_lt hQ2)).trans hQ2
  have hB5 := heap_alloc_new w2 (.cells #[.slice none 0 0, .slice none 0 0, .slice none 0 0, .slice none 0 0, .int .i64 1, .int .i64 0, .int .i64 0, .int .i64 0, .int .i64 0, .int .i64 0, .int .i64 0] 34)
  have z31 := (hbs3.cell (p := ⟨g1, 0, none⟩) (cell_lt zz1)).trans zz1
  have z32 := (hbs3.cell (p := ⟨g2, 0, none⟩) (cell_lt zz2)).trans zz2
  have her3 := her2.below hbs3 (Nat.le_refl _)
  have hw5 : w.heap.size < w2.heap.size := heap_lt hQ2
  have hg2 : g2 < w2.heap.size := cell_lt zz2
  clear hb1 hb2 hQ hQ2 hbw hbw2 hp hbg this zz1 zz2 her2 her z1 z2 hbs3 hbw0
  generalize w2.alloc (.cells #[.slice none 0 0, .slice none 0 0, .slice none 0 0, .slice none 0 0, .int .i64 1, .int .i64 0, .int .i64 0, .int .i64 0, .int .i64 0, .int .i64 0, .int .i64 0] 34) = W3 at *
  generalize w2.heap.size = b5 at *
  have hwz : IntKind.i64.wrap (Z : Int) = (Z : Int) := by rw [IntKind.wrap_i64]; omega
  have i0 : (0 : Int) < 1 := by omega
  go_loopw [6, 28] (fun f i wr => (f = .int .i64 0 ∧ i = .int .i64 0 ∧ wr = W3) ∨ (f = .int .i64 1 ∧ i = .int .i64 1 ∧ ∃ a1 n1 c1 a2 n2 c2 a3 n3 c3 a4 n4 c4, wr.heap[b5]? = some (.cells #[.slice a1 n1 c1, .slice a2 n2 c2, .slice a3 n3 c3, .slice a4 n4 c4, .int .i64 X.log, .int .i64 X.index, .int .i64 X.term, .int .i64 X.ht, .int .i64 X.hv, .int .i64 X.hc, .int .i64 X.mark] 34 (0, 0)) ∧ ROwn w.heap.size wr a1 n1 c1 a2 n2 c2 a3 n3 c3 a4 n4 c4 X ∧ wr.heap[w.heap.size]? = some (.cells #[.slice none 0 0, .slice none 0 0, .slice none 0 0, .slice none 0 0, .int .i64 0, .int .i64 0, .int .i64 0, .int .i64 0, .int .i64 0, .int .i64 0, .int .i64 0, .int .i64 0, .int .i64 0] 71 (0, 0)) ∧ wr.cell? ⟨g2, 0, none⟩ = some (.int .i64 (Z : Int)) ∧ Below w.heap.size w wr)) (fun _ i _ => 1 - (intOf i).toNat)
  case atStart => exact .inl ⟨rfl, rfl, rfl⟩
  case round =>
    rcases hrel with ⟨rfl, rfl, rfl⟩ | ⟨rfl, rfl, a1, n1, c1, a2, n2, c2, a3, n3, c3, a4, n4, c4, hB6, hro, hQ6, z62, hbw6⟩
    · have hap1 := hap wr g her3
      have x0 := (blkc hB5).1 0
      have x1 := (blkc hB5).1 1
      have x2 := (blkc hB5).1 2
      have x3 := (blkc hB5).1 3
      have x4 := (blkc hB5).1 4
      have x5 := (blkc hB5).1 5
      have x6 := (blkc hB5).1 6
      have x7 := (blkc hB5).1 7
      have x8 := (blkc hB5).1 8
      have x9 := (blkc hB5).1 9
      have x10 := (blkc hB5).1 10
      go_wp2_with (go_at_call 14; go_must (refine hap1.mono ?_; rintro e w5 ⟨a1, n1, c1, a2, n2, c2, a3, n3, c3, a4, n4, c4, rfl, hro, hb5⟩; have hB6 := (hb5.block _ (heap_lt hB5)).trans hB5; have hne : ¬ (b5 = w5.heap.size) := Nat.ne_of_lt (heap_lt hB6); have y0 := (blkc hB6).1 0; have y1 := (blkc hB6).1 1; have y2 := (blkc hB6).1 2; have y3 := (blkc hB6).1 3; have y4 := (blkc hB6).1 4; have y5 := (blkc hB6).1 5; have y6 := (blkc hB6).1 6; have y7 := (blkc hB6).1 7; have y8 := (blkc hB6).1 8; have y9 := (blkc hB6).1 9; have y10 := (blkc hB6).1 10; have f0 := (blkc hB6).2 0; have f1 := (blkc hB6).2 1; have f2 := (blkc hB6).2 2; have f3 := (blkc hB6).2 3; have f4 := (blkc hB6).2 4; have f5 := (blkc hB6).2 5; have f6 := (blkc hB6).2 6; have f7 := (blkc hB6).2 7; have f8 := (blkc hB6).2 8; have f9 := (blkc hB6).2 9; have f10 := (blkc hB6).2 10; have hB7 := (Below.heap_alloc w5 (.cells #[.slice a1 n1 c1, .slice a2 n2 c2, .slice a3 n3 c3, .slice a4 n4 c4, .int .i64 X.log, .int .i64 X.index, .int .i64 X.term, .int .i64 X.ht, .int .i64 X.hv, .int .i64 X.hc, .int .i64 X.mark] 34) _ (heap_lt hB6)).trans hB6; have p0 := (blkc hB7).1 0; have p1 := (blkc hB7).1 1; have p2 := (blkc hB7).1 2; have p3 := (blkc hB7).1 3; have p4 := (blkc hB7).1 4; have p5 := (blkc hB7).1 5; have p6 := (blkc hB7).1 6; have p7 := (blkc hB7).1 7; have p8 := (blkc hB7).1 8; have p9 := (blkc hB7).1 9; have p10 := (blkc hB7).1 10; have q0 := (blkc hB7).2 0; have q1 := (blkc hB7).2 1; have q2 := (blkc hB7).2 2; have q3 := (blkc hB7).2 3; have q4 := (blkc hB7).2 4; have q5 := (blkc hB7).2 5; have q6 := (blkc hB7).2 6; have q7 := (blkc hB7).2 7; have q8 := (blkc hB7).2 8; have q9 := (blkc hB7).2 9; have q10 := (blkc hB7).2 10))
      have hb6 := below_alloc w5 (.cells #[.slice a1 n1 c1, .slice a2 n2 c2, .slice a3 n3 c3, .slice a4 n4 c4, .int .i64 X.log, .int .i64 X.index, .int .i64 X.term, .int .i64 X.ht, .int .i64 X.hv, .int .i64 X.hc, .int .i64 X.mark] 34)
      have hbw5 := hbw3.trans (hb5.mono hbw3.size)
      have hbw6 := hbw5.trans (hb6.mono hbw5.size)
      have hro6 := hro.kept hb6
      have hQ5 := (hb5.block _ (heap_lt hQ3)).trans hQ3
      have hQ6 := (hb6.block _ (heap_lt hQ5)).trans hQ5
      have z52 := (hb5.cell (p := ⟨g2, 0, none⟩) (cell_lt z32)).trans z32
      have z62 := (hb6.cell (p := ⟨g2, 0, none⟩) (cell_lt z52)).trans z52
      have hB8 : ((((((((((((w5.alloc (.cells #[.slice a1 n1 c1, .slice a2 n2 c2, .slice a3 n3 c3, .slice a4 n4 c4, .int .i64 X.log, .int .i64 X.index, .int .i64 X.term, .int .i64 X.ht, .int .i64 X.hv, .int .i64 X.hc, .int .i64 X.mark] 34)).setCell ⟨b5, 0, none⟩ (.slice a1 n1 c1)).setCell ⟨b5, 1, none⟩ (.slice a2 n2 c2)).setCell ⟨b5, 2, none⟩ (.slice a3 n3 c3)).setCell ⟨b5, 3, none⟩ (.slice a4 n4 c4)).setCell ⟨b5, 4, none⟩ (.int .i64 X.log)).setCell ⟨b5, 5, none⟩ (.int .i64 X.index)).setCell ⟨b5, 6, none⟩ (.int .i64 X.term)).setCell ⟨b5, 7, none⟩ (.int .i64 X.ht)).setCell ⟨b5, 8, none⟩ (.int .i64 X.hv)).setCell ⟨b5, 9, none⟩ (.int .i64 X.hc)).setCell ⟨b5, 10, none⟩ (.int .i64 X.mark)).heap[b5]? = some (.cells #[.slice a1 n1 c1, .slice a2 n2 c2, .slice a3 n3 c3, .slice a4 n4 c4, .int .i64 X.log, .int .i64 X.index, .int .i64 X.term, .int .i64 X.ht, .int .i64 X.hv, .int .i64 X.hc, .int .i64 X.mark] 34 (0, 0)) := blk_all hB7 [.slice a1 n1 c1, .slice a2 n2 c2, .slice a3 n3 c3, .slice a4 n4 c4, .int .i64 X.log, .int .i64 X.index, .int .i64 X.term, .int .i64 X.ht, .int .i64 X.hv, .int .i64 X.hc, .int .i64 X.mark] rfl
      have hgr := turned_setL b5 [.slice a1 n1 c1, .slice a2 n2 c2, .slice a3 n3 c3, .slice a4 n4 c4, .int .i64 X.log, .int .i64 X.index, .int .i64 X.term, .int .i64 X.ht, .int .i64 X.hv, .int .i64 X.hc, .int .i64 X.mark] 0 (w5.alloc (.cells #[.slice a1 n1 c1, .slice a2 n2 c2, .slice a3 n3 c3, .slice a4 n4 c4, .int .i64 X.log, .int .i64 X.index, .int .i64 X.term, .int .i64 X.ht, .int .i64 X.hv, .int .i64 X.hc, .int .i64 X.mark] 34))
      have hro7 := rown_base (hro6.other hB7 hgr) hbw3.size
      have hQ7 := (setCells_other (b := b5) (k := w.heap.size) (Nat.ne_of_lt hw5) [.slice a1 n1 c1, .slice a2 n2 c2, .slice a3 n3 c3, .slice a4 n4 c4, .int .i64 X.log, .int .i64 X.index, .int .i64 X.term, .int .i64 X.ht, .int .i64 X.hv, .int .i64 X.hc, .int .i64 X.mark] 0 _).trans hQ6
      have z72 := (World.cell?_setCells_out b5 [.slice a1 n1 c1, .slice a2 n2 c2, .slice a3 n3 c3, .slice a4 n4 c4, .int .i64 X.log, .int .i64 X.index, .int .i64 X.term, .int .i64 X.ht, .int .i64 X.hv, .int .i64 X.hc, .int .i64 X.mark] 0 (w5.alloc (.cells #[.slice a1 n1 c1, .slice a2 n2 c2, .slice a3 n3 c3, .slice a4 n4 c4, .int .i64 X.log, .int .i64 X.index, .int .i64 X.term, .int .i64 X.ht, .int .i64 X.hv, .int .i64 X.hc, .int .i64 X.mark] 34)) ⟨g2, 0, none⟩ (fun e _ => absurd e (Nat.ne_of_lt hg2))).trans z62
      have hbw7 := below_cells hbw6 (Nat.le_of_lt hw5) [.slice a1 n1 c1, .slice a2 n2 c2, .slice a3 n3 c3, .slice a4 n4 c4, .int .i64 X.log, .int .i64 X.index, .int .i64 X.term, .int .i64 X.ht, .int .i64 X.hv, .int .i64 X.hc, .int .i64 X.mark]
      exact ⟨.inr ⟨rfl, rfl, a1, n1, c1, a2, n2, c2, a3, n3, c3, a4, n4, c4, hB8, hro7, hQ7, z72, hbw7⟩, by simp [intOf]⟩
    · clear hap her3 hQ3 hB5 z31 z32 hbw3
      go_wp2
      go_loopw [11, 48] (fun f i wr2 => (f = .int .i64 0 ∧ i = .int .i64 0 ∧ wr2 = wr) ∨ (f = .int .i64 (Z : Int) ∧ i = .int .i64 1 ∧ wr2 = wr)) (fun _ i _ => 1 - (intOf i).toNat)
      case atStart => exact .inl ⟨rfl, rfl, rfl⟩
      case round =>
        rcases hrel with ⟨rfl, rfl, rfl⟩ | ⟨rfl, rfl, rfl⟩
        · go_wp2
          exact ⟨.inr (by simp), by simp [intOf]⟩
        · skip
          have x0 := (blkc hB6).1 0
          have x1 := (blkc hB6).1 1
          have x2 := (blkc hB6).1 2
          have x3 := (blkc hB6).1 3
          have x4 := (blkc hB6).1 4
          have x5 := (blkc hB6).1 5
          have x6 := (blkc hB6).1 6
          have x7 := (blkc hB6).1 7
          have x8 := (blkc hB6).1 8
          have x9 := (blkc hB6).1 9
          have x10 := (blkc hB6).1 10
          have y0 := (blkc hQ6).1 0
          have y1 := (blkc hQ6).1 1
          have y2 := (blkc hQ6).1 2
          have y3 := (blkc hQ6).1 3
          have y4 := (blkc hQ6).1 4
          have y5 := (blkc hQ6).1 5
          have y6 := (blkc hQ6).1 6
          have y7 := (blkc hQ6).1 7
          have y8 := (blkc hQ6).1 8
          have y9 := (blkc hQ6).1 9
          have y10 := (blkc hQ6).1 10
          have y11 := (blkc hQ6).1 11
          have y12 := (blkc hQ6).1 12
          have f0 := (blkc hQ6).2 0
          have f1 := (blkc hQ6).2 1
          have f2 := (blkc hQ6).2 2
          have f3 := (blkc hQ6).2 3
          have f4 := (blkc hQ6).2 4
          have f5 := (blkc hQ6).2 5
          have f6 := (blkc hQ6).2 6
          have f7 := (blkc hQ6).2 7
          have f8 := (blkc hQ6).2 8
          have f9 := (blkc hQ6).2 9
          have f10 := (blkc hQ6).2 10
          have f11 := (blkc hQ6).2 11
          have f12 := (blkc hQ6).2 12
          go_wp2
          have hROF := hro.other2 hQ6 (turned_setL w.heap.size [.slice a1 n1 c1, .slice a2 n2 c2, .slice a3 n3 c3, .slice a4 n4 c4, .int .i64 X.log, .int .i64 X.index, .int .i64 X.term, .int .i64 X.ht, .int .i64 X.hv, .int .i64 X.hc, .int .i64 X.mark, .int .i64 1, .int .i64 (Z : Int)] 0 wr)
          have hF : (((((((((((((wr.setCell ⟨w.heap.size, 0, none⟩ (.slice a1 n1 c1)).setCell ⟨w.heap.size, 1, none⟩ (.slice a2 n2 c2)).setCell ⟨w.heap.size, 2, none⟩ (.slice a3 n3 c3)).setCell ⟨w.heap.size, 3, none⟩ (.slice a4 n4 c4)).setCell ⟨w.heap.size, 4, none⟩ (.int .i64 X.log)).setCell ⟨w.heap.size, 5, none⟩ (.int .i64 X.index)).setCell ⟨w.heap.size, 6, none⟩ (.int .i64 X.term)).setCell ⟨w.heap.size, 7, none⟩ (.int .i64 X.ht)).setCell ⟨w.heap.size, 8, none⟩ (.int .i64 X.hv)).setCell ⟨w.heap.size, 9, none⟩ (.int .i64 X.hc)).setCell ⟨w.heap.size, 10, none⟩ (.int .i64 X.mark)).setCell ⟨w.heap.size, 11, none⟩ (.int .i64 1)).setCell ⟨w.heap.size, 12, none⟩ (.int .i64 (Z : Int))).heap[w.heap.size]? = some (.cells #[.slice a1 n1 c1, .slice a2 n2 c2, .slice a3 n3 c3, .slice a4 n4 c4, .int .i64 X.log, .int .i64 X.index, .int .i64 X.term, .int .i64 X.ht, .int .i64 X.hv, .int .i64 X.hc, .int .i64 X.mark, .int .i64 1, .int .i64 (Z : Int)] 71 (0, 0)) := blk_all hQ6 [.slice a1 n1 c1, .slice a2 n2 c2, .slice a3 n3 c3, .slice a4 n4 c4, .int .i64 X.log, .int .i64 X.index, .int .i64 X.term, .int .i64 X.ht, .int .i64 X.hv, .int .i64 X.hc, .int .i64 X.mark, .int .i64 1, .int .i64 (Z : Int)] rfl
          have hbF : Below w.heap.size w (((((((((((((wr.setCell ⟨w.heap.size, 0, none⟩ (.slice a1 n1 c1)).setCell ⟨w.heap.size, 1, none⟩ (.slice a2 n2 c2)).setCell ⟨w.heap.size, 2, none⟩ (.slice a3 n3 c3)).setCell ⟨w.heap.size, 3, none⟩ (.slice a4 n4 c4)).setCell ⟨w.heap.size, 4, none⟩ (.int .i64 X.log)).setCell ⟨w.heap.size, 5, none⟩ (.int .i64 X.index)).setCell ⟨w.heap.size, 6, none⟩ (.int .i64 X.term)).setCell ⟨w.heap.size, 7, none⟩ (.int .i64 X.ht)).setCell ⟨w.heap.size, 8, none⟩ (.int .i64 X.hv)).setCell ⟨w.heap.size, 9, none⟩ (.int .i64 X.hc)).setCell ⟨w.heap.size, 10, none⟩ (.int .i64 X.mark)).setCell ⟨w.heap.size, 11, none⟩ (.int .i64 1)).setCell ⟨w.heap.size, 12, none⟩ (.int .i64 (Z : Int))) := below_cells hbw6 (Nat.le_refl _) [.slice a1 n1 c1, .slice a2 n2 c2, .slice a3 n3 c3, .slice a4 n4 c4, .int .i64 X.log, .int .i64 X.index, .int .i64 X.term, .int .i64 X.ht, .int .i64 X.hv, .int .i64 X.hc, .int .i64 X.mark, .int .i64 1, .int .i64 (Z : Int)]
          have d0 := (blkc hF).1 0
          have d1 := (blkc hF).1 1
          have d2 := (blkc hF).1 2
          have d3 := (blkc hF).1 3
          have d4 := (blkc hF).1 4
          have d5 := (blkc hF).1 5
          have d6 := (blkc hF).1 6
          have d7 := (blkc hF).1 7
          have d8 := (blkc hF).1 8
          have d9 := (blkc hF).1 9
          have d10 := (blkc hF).1 10
          have d11 := (blkc hF).1 11
          have d12 := (blkc hF).1 12
          refine bodyPost_ret (v := .agg #[.slice a1 n1 c1, .slice a2 n2 c2, .slice a3 n3 c3, .slice a4 n4 c4, .int .i64 X.log, .int .i64 X.index, .int .i64 X.term, .int .i64 X.ht, .int .i64 X.hv, .int .i64 X.hc, .int .i64 X.mark, .int .i64 1, .int .i64 (Z : Int)]) (by simp [results, Tryz.results21, go_sem, d0, d1, d2, d3, d4, d5, d6, d7, d8, d9, d10, d11, d12]) rfl ⟨a1, n1, c1, a2, n2, c2, a3, n3, c3, a4, n4, c4, rfl, hROF, hbF⟩
end Go.Proofs.YtfogodbbgbnhkaaGreatDoor
