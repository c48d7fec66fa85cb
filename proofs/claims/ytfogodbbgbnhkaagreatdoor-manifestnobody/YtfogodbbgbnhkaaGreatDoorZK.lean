/- A frame of edits; the end of a manifest's turn. -/
import Derived.Test.YtfogodbbgbnhkaaGreatDoorZH
import Derived.Test.YtfogodbbgbnhkaaGreatDoorDKP
namespace Go.Proofs.YtfogodbbgbnhkaaGreatDoor
open Go.RowKit

theorem zfrow {w : World} {B n c : Nat} {a : Option Addr} {body : List Nat} (how : w.ownsRow B 5 1 (.slice a n c) n (kcells .u8 body)) (hn : body.length = n) (hs : ∀ x ∈ body, x < 256) (hn1 : n ≤ 1000) : FRow (w.alloc (.cells #[.int .i64 1, .slice a n c] 150)) (some ⟨w.heap.size, 0, none⟩) 1 [(1, body)] := by
  obtain ⟨hrow, hnil, hnc⟩ := row_of_owns how (fun x hx => hs x hx) (by omega)
  have hshp : Shape a n c := by
    rcases how.2 with ⟨e, h0⟩ | ⟨g, cap, cur, e, _⟩
    · cases e; exact .inl ⟨h0, rfl⟩
    · cases e; exact .inr ⟨g, 0, rfl, hnc⟩
  refine ⟨rfl, by omega, .inr ⟨w.heap.size, 0, rfl, fun i hi => ?_⟩⟩
  obtain rfl : i = 0 := by omega
  exact ⟨a, n, c, cell_new w _ _ 0, cell_new w _ _ 1, hrow.below (below_alloc _ _) (Nat.le_refl _), hshp, hnil, (by show (-9223372036854775808 : Int) ≤ 1; decide), (by show (1 : Int) ≤ 9223372036854775807; decide)⟩
theorem zput_yes {ad : Option Addr} {len cap : Nat} {l : List Ed.E} {w : World} (hr : ERow w ad len l) (hg : Good l) : Calls Tryz.prog 95 #[.slice ad len cap] w fun e w' => ∃ a c, e = .returned (.tuple #[.slice a (Ed.put l).length c, .int .i64 0]) ∧ w'.ownsRow w.heap.size 5 1 (.slice a (Ed.put l).length c) (Ed.put l).length (kcells .u8 (Ed.put l)) ∧ Below w.heap.size w w' :=
  (eput_any ad len cap l w hr).mono fun _ _ h => h.elim (fun h => h.2) (fun h => absurd hg h.1)

set_option maxRecDepth 100000 in
set_option maxHeartbeats 1000000 in
/-- the bytes of a frame of edits -/
theorem zframe {ad : Option Addr} {N cap n L : Nat} {E : List Ed.E} {w : World} (hr : ERow w ad N E) (hg : Good E) (body : List Nat) (hb : Ed.put E = body) (hn : body.length = n) (hn1 : n ≤ 1000) (hsm : ∀ x ∈ body, x < 256) (bs : List Nat) (hbs : Fr.all [(1, body)] = bs) (hL : bs.length = L) (hL0 : 0 < L) (hL1 : L ≤ 10000) (hbsm : ∀ x ∈ bs, x < 256) :
    Calls Tryz.prog 44 #[.slice ad N cap] w fun e w' => ∃ g c, e = .returned (.tuple #[.slice (some ⟨g, 0, none⟩) L c, .int .i64 0]) ∧ (Row .u8 w' (some ⟨g, 0, none⟩) L bs ∧ w.heap.size ≤ g ∧ g < w'.heap.size) ∧ Below w.heap.size w w' := by
  have hp := zput_yes (cap := cap) hr hg
  rw [hb, hn] at hp
  have hfp := fun W a (h : FRow W a 1 [((1 : Int), body)]) => putC a 1 1 [(1, body)] W h (by omega) (by simp [tot]; omega)
  unfold FPutRes at hfp
  rw [hbs, hL] at hfp
  have hmay : ([((1 : Int), body)] : List Fr.F).all Fr.may = true := by simp [Fr.may]; omega
  rw [hmay] at hfp
  have HS : Hid (∀ x ∈ body, x < 256) := hsm
  have HN : Hid (body.length = n) := hn
  have HBS : Hid (∀ x ∈ bs, x < 256) := hbsm
  clear hmay hb hbs hL hn hr hg hsm hbsm
  go_enter Tryz.func44, Tryz.ntmps44
  go_wp2_with (first
    | (go_at_call 96; have := hb1; go_must (refine (hfp _ (some ⟨w1.heap.size, 0, none⟩) (zfrow how HN.out HS.out hn1)).mono ?_; rintro e w2 hres; obtain ⟨_, a2, c2, rfl, how2, hb2⟩ := hres.resolve_right (fun h => absurd h.1 (by simp))))
    | (go_at_call 95; go_must (refine hp.mono ?_; rintro e w1 ⟨a, c, rfl, how, hb1⟩)))
  obtain ⟨g, rfl⟩ : ∃ g, a2 = some ⟨g, 0, none⟩ := by
    rcases how2.2 with ⟨e, h0⟩ | ⟨g, cap, cur, e, _⟩
    · omega
    · cases e; exact ⟨g, rfl⟩
  have hbb := (hb1.alloc hb1.size (.cells #[.int .i64 1, .slice a n c] 150))
  have hr2 := row_of_owns how2 (fun x hx => HBS.out x hx) (by omega)
  go_ret2
  exact ⟨g, c2, rfl, ⟨hr2.1, own_ge how2 hbb.size, (own_lt how2).1⟩, hbb.trans (hb2.mono hbb.size)⟩

set_option maxRecDepth 100000 in
set_option maxHeartbeats 2000000 in
/-- the acts are done, and the manifest has the roster -/
theorem zturn {w : World} {S : Nat → Prop} {p m g c : Nat} {D3 : Dk.D} {b1 : Option Addr} {m1 d1 : Nat} {b2 : Option Addr} {m2 d2 : Nat} {b3 : Option Addr} {m3 d3 : Nat} {b4 : Option Addr} {m4 d4 : Nat} {j1 j2 j3 j4 j5 j6 j7 : Int} {a1 : Option Addr} {n1 c1 : Nat} {a2 : Option Addr} {n2 c2 : Nat} {a3 : Option Addr} {n3 c3 : Nat} {a4 : Option Addr} {n4 c4 : Nat} {i1 i2 i3 i4 i5 i6 i7 : Int} (k : Nat)
    (hm : w.heap[m]? = some (.cells #[.pointer (some ⟨p, 0, none⟩), .slice b1 m1 d1, .slice b2 m2 d2, .slice b3 m3 d3, .slice b4 m4 d4, .int .i64 j1, .int .i64 j2, .int .i64 j3, .int .i64 j4, .int .i64 j5, .int .i64 j6, .int .i64 j7, .int .i64 0, .bool false] 36 (0, 0))) (hSm : ¬ S m) (hS : ∀ k, S k → k < w.heap.size)
    (hdo : Calls Tryz.prog 22 #[.slice (some ⟨g, 0, none⟩) 3 c] (w.alloc (.cells #[.slice a1 n1 c1, .slice a2 n2 c2, .slice a3 n3 c3, .slice a4 n4 c4, .int .i64 i1, .int .i64 i2, .int .i64 i3, .int .i64 i4, .int .i64 i5, .int .i64 i6, .int .i64 i7] 34)) fun e w' => e = .returned (.tuple #[.int .i64 3, .int .i64 0]) ∧ StD (w.alloc (.cells #[.slice a1 n1 c1, .slice a2 n2 c2, .slice a3 n3 c3, .slice a4 n4 c4, .int .i64 i1, .int .i64 i2, .int .i64 i3, .int .i64 i4, .int .i64 i5, .int .i64 i6, .int .i64 i7] 34)) S p D3 w') :
    Calls Tryz.prog 34 #[.pointer (some ⟨m, 0, none⟩), .agg #[.slice a1 n1 c1, .slice a2 n2 c2, .slice a3 n3 c3, .slice a4 n4 c4, .int .i64 i1, .int .i64 i2, .int .i64 i3, .int .i64 i4, .int .i64 i5, .int .i64 i6, .int .i64 i7], .int .i64 k, .slice (some ⟨g, 0, none⟩) 3 c] w fun e w' => e = .returned (.int .i64 0) ∧ DK w' p D3 (grow1 S w) ∧ OnlyIn (fun x => S x ∨ x = m) w w' := by
  have hmw : m < w.heap.size := heap_lt hm
  have hm1 := (Below.heap_alloc w (.cells #[.slice a1 n1 c1, .slice a2 n2 c2, .slice a3 n3 c3, .slice a4 n4 c4, .int .i64 i1, .int .i64 i2, .int .i64 i3, .int .i64 i4, .int .i64 i5, .int .i64 i6, .int .i64 i7] 34) _ hmw).trans hm
  have hx1 := heap_alloc_new w (.cells #[.slice a1 n1 c1, .slice a2 n2 c2, .slice a3 n3 c3, .slice a4 n4 c4, .int .i64 i1, .int .i64 i2, .int .i64 i3, .int .i64 i4, .int .i64 i5, .int .i64 i6, .int .i64 i7] 34)
  have hSx : ¬ S w.heap.size := fun h => Nat.lt_irrefl _ (hS _ h)
  have hsz : (w.alloc (.cells #[.slice a1 n1 c1, .slice a2 n2 c2, .slice a3 n3 c3, .slice a4 n4 c4, .int .i64 i1, .int .i64 i2, .int .i64 i3, .int .i64 i4, .int .i64 i5, .int .i64 i6, .int .i64 i7] 34)).heap.size = w.heap.size + 1 := World.size_alloc _ _
  have hbw := below_alloc w (.cells #[.slice a1 n1 c1, .slice a2 n2 c2, .slice a3 n3 c3, .slice a4 n4 c4, .int .i64 i1, .int .i64 i2, .int .i64 i3, .int .i64 i4, .int .i64 i5, .int .i64 i6, .int .i64 i7] 34)
  clear hm
  go_enter Tryz.func34, Tryz.ntmps34
  go_wp2_with (go_at_call 22; go_must (refine hdo.mono ?_; rintro e w2 ⟨rfl, hst⟩; have hm2 := (hst.2.block m (by omega) hSm).trans hm1; have hx2 := (hst.2.block w.heap.size (by omega) hSx).trans hx1; have x0 := (blkc hm2).1 0; have x1 := (blkc hm2).1 1; have x2 := (blkc hm2).1 2; have x3 := (blkc hm2).1 3; have x4 := (blkc hm2).1 4; have x5 := (blkc hm2).1 5; have x6 := (blkc hm2).1 6; have x7 := (blkc hm2).1 7; have x8 := (blkc hm2).1 8; have x9 := (blkc hm2).1 9; have x10 := (blkc hm2).1 10; have x11 := (blkc hm2).1 11; have x12 := (blkc hm2).1 12; have x13 := (blkc hm2).1 13; have f0 := (blkc hm2).2 0; have f1 := (blkc hm2).2 1; have f2 := (blkc hm2).2 2; have f3 := (blkc hm2).2 3; have f4 := (blkc hm2).2 4; have f5 := (blkc hm2).2 5; have f6 := (blkc hm2).2 6; have f7 := (blkc hm2).2 7; have f8 := (blkc hm2).2 8; have f9 := (blkc hm2).2 9; have f10 := (blkc hm2).2 10; have f11 := (blkc hm2).2 11; have f12 := (blkc hm2).2 12; have f13 := (blkc hm2).2 13; have y0 := (blkc hx2).1 0; have y1 := (blkc hx2).1 1; have y2 := (blkc hx2).1 2; have y3 := (blkc hx2).1 3; have y4 := (blkc hx2).1 4; have y5 := (blkc hx2).1 5; have y6 := (blkc hx2).1 6; have y7 := (blkc hx2).1 7; have y8 := (blkc hx2).1 8; have y9 := (blkc hx2).1 9; have y10 := (blkc hx2).1 10))
  go_ret
  refine ⟨rfl, ?_⟩
  show DK (w2.setCells m 1 [.slice a1 n1 c1, .slice a2 n2 c2, .slice a3 n3 c3, .slice a4 n4 c4, .int .i64 i1, .int .i64 i2, .int .i64 i3, .int .i64 i4, .int .i64 i5, .int .i64 i6, .int .i64 i7, .int .i64 (k : Int)]) p D3 (grow1 S w) ∧ OnlyIn (fun x => S x ∨ x = m) w (w2.setCells m 1 [.slice a1 n1 c1, .slice a2 n2 c2, .slice a3 n3 c3, .slice a4 n4 c4, .int .i64 i1, .int .i64 i2, .int .i64 i3, .int .i64 i4, .int .i64 i5, .int .i64 i6, .int .i64 i7, .int .i64 (k : Int)])
  have h1 : OnlyIn S w w2 := (OnlyIn.of_below hbw).trans (hst.2.mono fun _ _ h => .inl h)
  have h2 := below_setL (Nat.le_refl m) [.slice a1 n1 c1, .slice a2 n2 c2, .slice a3 n3 c3, .slice a4 n4 c4, .int .i64 i1, .int .i64 i2, .int .i64 i3, .int .i64 i4, .int .i64 i5, .int .i64 i6, .int .i64 i7, .int .i64 (k : Int)] 1 (Below.refl m w2)
  refine ⟨hst.1.keep (fun x _ hx => setCells_other (fun e => ?_) _ 1 w2) (fun x _ hx => ?_), ⟨h2.os.trans h1.os, h2.tape.trans h1.tape, h2.output.trans h1.output, Nat.le_trans h1.size h2.size, fun x hx hn => (setCells_other (fun e => hn (.inr e)) _ 1 w2).trans (h1.block x hx fun hs => hn (.inl hs))⟩⟩
  · subst e
    rcases hx with hx | hx
    · exact hSm hx
    · omega
  · rcases hx with hx | hx
    · exact .inl hx
    · exact .inr (by omega)
end Go.Proofs.YtfogodbbgbnhkaaGreatDoor

/- A manifest's first turn. -/
namespace Go.Proofs.YtfogodbbgbnhkaaGreatDoor
open Go.RowKit

theorem zworld (W : World) {f : Nat} {args : Array Value} {Q : Ending → World → Prop} (h : Calls Tryz.prog f args W Q) : Calls Tryz.prog f args W Q := h
theorem ztwo_res (F : FuncId) (p : Nat) (s : ByteArray) (a : Option Addr) (n c : Nat) (w : World) :
    Calls Tryz.prog 35 #[.func (.func F) #[.pointer (some ⟨p, 0, none⟩)] #[], .string s, .slice a n c] w fun e w' => ∃ b1 b2 b3, e = .returned (.func (.func 82) #[] #[.pointer (some ⟨b1, 0, none⟩), .pointer (some ⟨b2, 0, none⟩), .pointer (some ⟨b3, 0, none⟩)]) ∧
      (w'.cell? ⟨b1, 0, none⟩ = some (.func (.func F) #[.pointer (some ⟨p, 0, none⟩)] #[]) ∧ w'.cell? ⟨b2, 0, none⟩ = some (.string s) ∧ w'.cell? ⟨b3, 0, none⟩ = some (.slice a n c) ∧ w.heap.size ≤ b1 ∧ w.heap.size ≤ b2 ∧ w.heap.size ≤ b3) ∧ Below w.heap.size w w' := by
  refine (ztwo_any F p s a n c w).mono ?_
  rintro e w' ⟨rfl, rfl⟩
  refine ⟨_, _, _, rfl, ⟨?_, ?_, ?_, Nat.le_refl _, by omega, by omega⟩, ((below_alloc w _).alloc (by simp) _).alloc (by simp; omega) _⟩
  · exact ((Below.heap_alloc _ _ _ (by simp; omega)).trans ((Below.heap_alloc _ _ _ (by simp)).trans (heap_alloc_new w _)) |> cell_of)
  · have h1 := heap_alloc_new (w.alloc (.cells #[.func (.func F) #[.pointer (some ⟨p, 0, none⟩)] #[]] 91)) (.cells #[.string s] 9)
    rw [World.size_alloc] at h1
    exact cell_of ((Below.heap_alloc _ _ _ (by simp)).trans h1)
  · have h1 := heap_alloc_new ((w.alloc (.cells #[.func (.func F) #[.pointer (some ⟨p, 0, none⟩)] #[]] 91)).alloc (.cells #[.string s] 9)) (.cells #[.slice a n c] 67)
    rw [World.size_alloc, World.size_alloc] at h1
    exact cell_of h1

set_option maxRecDepth 100000 in
set_option maxHeartbeats 4000000 in
theorem zadd {w : World} {S : Nat → Prop} {p m N cap n L : Nat} {ad : Option Addr} {D D1 D2 D3 : Dk.D} {E : List Ed.E} {body bs : List Nat} {b1 : Option Addr} {m1 d1 : Nat} {b2 : Option Addr} {m2 d2 : Nat} {b3 : Option Addr} {m3 d3 : Nat} {b4 : Option Addr} {m4 d4 : Nat} {j1 j2 j3 j4 j5 j6 j7 : Int} {a1 : Option Addr} {n1 c1 : Nat} {a2 : Option Addr} {n2 c2 : Nat} {a3 : Option Addr} {n3 c3 : Nat} {a4 : Option Addr} {n4 c4 : Nat} {i1 i2 i3 i4 i5 i6 i7 : Int}
    (h : DK w p D S) (hm : w.heap[m]? = some (.cells #[.pointer (some ⟨p, 0, none⟩), .slice b1 m1 d1, .slice b2 m2 d2, .slice b3 m3 d3, .slice b4 m4 d4, .int .i64 j1, .int .i64 j2, .int .i64 j3, .int .i64 j4, .int .i64 j5, .int .i64 j6, .int .i64 j7, .int .i64 0, .bool false] 36 (0, 0))) (hSm : ¬ S m) (hS : ∀ k, S k → k < w.heap.size) (hz : Dk.find D sRoster = none)
    (hr : ERow w ad N E) (hg : Good E) (hb : Ed.put E = body) (hn : body.length = n) (hn1 : n ≤ 1000) (hsm : ∀ x ∈ body, x < 256) (hbs : Fr.all [(1, body)] = bs) (hL : bs.length = L) (hL0 : 0 < L) (hL1 : L ≤ 10000) (hbsm : ∀ x ∈ bs, x < 256)
    (e1 : Dk.append D sRoster bs = (D1, 0)) (e2 : Dk.sync D1 sRoster = (D2, 0)) (e3 : Dk.syncNames D2 = (D3, 0)) (q1 : D.turns.length ≤ 1000000) (q2 : D.last ≤ 1000000) (q3 : D.names.length ≤ 1000000) (q4 : D2.turns.length ≤ 1000000) :
    Calls Tryz.prog 16 #[.pointer (some ⟨m, 0, none⟩), .agg #[.slice a1 n1 c1, .slice a2 n2 c2, .slice a3 n3 c3, .slice a4 n4 c4, .int .i64 i1, .int .i64 i2, .int .i64 i3, .int .i64 i4, .int .i64 i5, .int .i64 i6, .int .i64 i7], .slice ad N cap] w fun e w' => e = .returned (.int .i64 0) ∧ DK w' p D3 (grow1 S w) ∧ OnlyIn (fun x => S x ∨ x = m) w w' := by
  have hb0 := below_alloc w (.cells #[.slice a1 n1 c1, .slice a2 n2 c2, .slice a3 n3 c3, .slice a4 n4 c4, .int .i64 i1, .int .i64 i2, .int .i64 i3, .int .i64 i4, .int .i64 i5, .int .i64 i6, .int .i64 i7] 34)
  have hfr := zframe (cap := cap) (hr.below hb0 (Nat.le_refl _)) hg body hb hn hn1 hsm bs hbs hL hL0 hL1 hbsm
  have hM : Hid (∀ W, Below w.heap.size w W → W.heap[m]? = some (.cells #[.pointer (some ⟨p, 0, none⟩), .slice b1 m1 d1, .slice b2 m2 d2, .slice b3 m3 d3, .slice b4 m4 d4, .int .i64 j1, .int .i64 j2, .int .i64 j3, .int .i64 j4, .int .i64 j5, .int .i64 j6, .int .i64 j7, .int .i64 0, .bool false] 36 (0, 0))) := (fun W hb => (hb.block m (heap_lt hm)).trans hm : ∀ W, _ → _)
  have hX : Hid (∀ W, Below (w.alloc (.cells #[.slice a1 n1 c1, .slice a2 n2 c2, .slice a3 n3 c3, .slice a4 n4 c4, .int .i64 i1, .int .i64 i2, .int .i64 i3, .int .i64 i4, .int .i64 i5, .int .i64 i6, .int .i64 i7] 34)).heap.size (w.alloc (.cells #[.slice a1 n1 c1, .slice a2 n2 c2, .slice a3 n3 c3, .slice a4 n4 c4, .int .i64 i1, .int .i64 i2, .int .i64 i3, .int .i64 i4, .int .i64 i5, .int .i64 i6, .int .i64 i7] 34)) W → W.heap[w.heap.size]? = some (.cells #[.slice a1 n1 c1, .slice a2 n2 c2, .slice a3 n3 c3, .slice a4 n4 c4, .int .i64 i1, .int .i64 i2, .int .i64 i3, .int .i64 i4, .int .i64 i5, .int .i64 i6, .int .i64 i7] 34 (0, 0))) := (fun W hb => (hb.block _ (by simp)).trans (heap_alloc_new w _) : ∀ W, _ → _)
  have hro := fun W => zroster_any W
  have htw := fun g c W => ztwo_res 36 p sRoster (some ⟨g, 0, none⟩) L c W
  have hon := fun W => zone_res 39 p sRoster W
  have hsi := fun W (hb : Below w.heap.size w W) => dsize_no (h.on hb) sRoster hz
  clear hr hg hb hn hsm hbs hL hbsm hm
  go_enter Tryz.func16, Tryz.ntmps16
  go_wp2_with (first
    | (go_at_call 44; go_must (refine hfr.mono ?_; rintro e w1 ⟨g, c, rfl, ⟨hrow, hg0, hg1⟩, hb1⟩; have hbw1 := hb0.trans (hb1.mono hb0.size); have hM1 := hM.out _ hbw1; have x0 := (blkc hM1).1 0; have x1 := (blkc hM1).1 1; have x2 := (blkc hM1).1 2; have x3 := (blkc hM1).1 3; have x4 := (blkc hM1).1 4; have x5 := (blkc hM1).1 5; have x6 := (blkc hM1).1 6; have x7 := (blkc hM1).1 7; have x8 := (blkc hM1).1 8; have x9 := (blkc hM1).1 9; have x10 := (blkc hM1).1 10; have x11 := (blkc hM1).1 11; have x12 := (blkc hM1).1 12; have x13 := (blkc hM1).1 13; have f0 := (blkc hM1).2 0; have f1 := (blkc hM1).2 1; have f2 := (blkc hM1).2 2; have f3 := (blkc hM1).2 3; have f4 := (blkc hM1).2 4; have f5 := (blkc hM1).2 5; have f6 := (blkc hM1).2 6; have f7 := (blkc hM1).2 7; have f8 := (blkc hM1).2 8; have f9 := (blkc hM1).2 9; have f10 := (blkc hM1).2 10; have f11 := (blkc hM1).2 11; have f12 := (blkc hM1).2 12; have f13 := (blkc hM1).2 13)))
  have k1 : w1.cell? ⟨m, 0, none⟩ = some (.pointer (some ⟨p, 0, none⟩)) := x0
  go_region_held3 (fun W => W.cell? ⟨m, 0, none⟩ = some (.pointer (some ⟨p, 0, none⟩))) (first | go_keep | assumption)
    (first
      | (go_at_call 42; (with_reducible refine zworld w1.drew ?_); refine (hro _).mono ?_; rintro e w2 ⟨rfl, hb2'⟩; have hb2 := below_of_drew hb2'; have k2 := (hb2.cell (p := ⟨m, 0, none⟩) (cell_lt k1)).trans k1)
      | (go_at_call 35; (with_reducible refine zworld w2 ?_); refine (htw g c _).mono ?_; rintro e w3 ⟨v1, v2, v3, rfl, hV, hb3⟩; have k3 := (hb3.cell (p := ⟨m, 0, none⟩) (cell_lt k2)).trans k2)
      | (go_at_call 42; (with_reducible refine zworld w3 ?_); refine (hro _).mono ?_; rintro e w4 ⟨rfl, hb4⟩; have k4 := (hb4.cell (p := ⟨m, 0, none⟩) (cell_lt k3)).trans k3)
      | (go_at_call 38; (with_reducible refine zworld w4 ?_); refine (hon _).mono ?_; rintro e w5 ⟨v4, v5, rfl, hU, hb5⟩; have k5 := (hb5.cell (p := ⟨m, 0, none⟩) (cell_lt k4)).trans k4))
  all_goals
    (rename_i hHeld
     clear hHeld
     have hb12 : Below w1.heap.size w1 w2 := hb2
     have hb13 := hb12.trans (hb3.mono hb12.size)
     have hb14 := hb13.trans (hb4.mono hb13.size)
     have hb15 := hb14.trans (hb5.mono hb14.size)
     have hbw5 := hbw1.trans (hb15.mono hbw1.size)
     have hlit : (w5.alloc (.cells #[.func (.func 82) #[] #[.pointer (some ⟨v1, 0, none⟩), .pointer (some ⟨v2, 0, none⟩), .pointer (some ⟨v3, 0, none⟩)], .func (.func 89) #[] #[.pointer (some ⟨v4, 0, none⟩), .pointer (some ⟨v5, 0, none⟩)]] 89)).ownsRow w5.heap.size 89 1 (.slice (some ⟨w5.heap.size, 0, none⟩) 2 2) 2 (tcells av [⟨82, #[], #[.pointer (some ⟨v1, 0, none⟩), .pointer (some ⟨v2, 0, none⟩), .pointer (some ⟨v3, 0, none⟩)]⟩, ⟨89, #[], #[.pointer (some ⟨v4, 0, none⟩), .pointer (some ⟨v5, 0, none⟩)]⟩]) := ⟨rfl, .inr ⟨_, 2, _, rfl, Nat.le_refl _, heap_alloc_new w5 _, Nat.le_refl _, by decide, rfl, rfl⟩⟩
     have hb56 := below_alloc w5 (.cells #[.func (.func 82) #[] #[.pointer (some ⟨v1, 0, none⟩), .pointer (some ⟨v2, 0, none⟩), .pointer (some ⟨v3, 0, none⟩)], .func (.func 89) #[] #[.pointer (some ⟨v4, 0, none⟩), .pointer (some ⟨v5, 0, none⟩)]] 89)
     generalize w5.alloc (.cells #[.func (.func 82) #[] #[.pointer (some ⟨v1, 0, none⟩), .pointer (some ⟨v2, 0, none⟩), .pointer (some ⟨v3, 0, none⟩)], .func (.func 89) #[] #[.pointer (some ⟨v4, 0, none⟩), .pointer (some ⟨v5, 0, none⟩)]] 89) = W6 at *
     have hbw6 := hbw5.trans (hb56.mono hbw5.size)
     have k6 : W6.cell? ⟨m, 0, none⟩ = some (.pointer (some ⟨p, 0, none⟩)) := (blkc (hM.out _ hbw6)).1 0
     simp only [Exit.then]
     go_wp2_with fail
     go_region_held3 (fun W => W.cell? ⟨m, 0, none⟩ = some (.pointer (some ⟨p, 0, none⟩))) (first | go_keep | assumption)
       (first
         | (go_at_call 42; (with_reducible refine zworld W6.drew ?_); refine (hro _).mono ?_; rintro e w7 ⟨rfl, hb7'⟩; have hb7 := below_of_drew hb7'; have k7 := (hb7.cell (p := ⟨m, 0, none⟩) (cell_lt k6)).trans k6; have hbw7 : Below w.heap.size w w7 := hbw6.trans (hb7.mono hbw6.size))
         | (go_at_call 45; (with_reducible refine zworld w7 ?_); refine (hsi _ hbw7).mono ?_; rintro e w8 ⟨rfl, hb8⟩; have k8 := (hb8.cell (p := ⟨m, 0, none⟩) (cell_lt k7)).trans k7))
     all_goals
       (rename_i hHeld
        clear hHeld
        have hb67 : Below W6.heap.size W6 w7 := hb7
        have hb68 := hb67.trans (hb8.mono hb67.size)
        have hbw8 := hbw6.trans (hb68.mono hbw6.size)
        have hlit8 := owns_below hlit hb68
        have h58 : w5.heap.size ≤ w8.heap.size := Nat.le_trans hb56.size hb68.size
        simp only [Exit.then]
        go_wp2_with (at_builtin; go_must (refine append_t actE avE (w0 := w8) (B := w5.heap.size) rfl (.tmp 47) (.tmp 53) rfl (.slice (some ⟨w5.heap.size, 0, none⟩) 2 2) 2 [⟨82, #[], #[.pointer (some ⟨v1, 0, none⟩), .pointer (some ⟨v2, 0, none⟩), .pointer (some ⟨v3, 0, none⟩)]⟩, ⟨89, #[], #[.pointer (some ⟨v4, 0, none⟩), .pointer (some ⟨v5, 0, none⟩)]⟩] rfl (owns_below hlit8 (below_alloc _ _)) (some ⟨w8.heap.size, 0, none⟩) 1 1 [⟨43, #[.pointer (some ⟨p, 0, none⟩)], #[]⟩] rfl (lit_av w8 _ _ rfl rfl) (fun h => by cases h) (by omega) ((below_alloc w8 _).mono h58) (by simp; omega) ?_; intro a9 k9 w9 _ _ _ how9 hb9 hs9))
        obtain ⟨g9, rfl⟩ : ∃ g, a9 = some ⟨g, 0, none⟩ := by
          rcases how9.2 with ⟨e, h0⟩ | ⟨g, cap, cur, e, _⟩
          · cases h0
          · cases e; exact ⟨g, rfl⟩
        have hb16 : Below w1.heap.size w1 W6 := hb15.trans (hb56.mono hb15.size)
        have hb18 := hb16.trans (hb68.mono hb16.size)
        have hb19 := hb18.trans (hb9.mono hb15.size)
        have hbx9 := hb1.trans (hb19.mono hb1.size)
        have hbw9 := hb0.trans (hbx9.mono hb0.size)
        have hM9 := hM.out _ hbw9
        have hX9 := hX.out _ hbx9
        have z0 := (blkc hX9).1 0
        have z1 := (blkc hX9).1 1
        have z2 := (blkc hX9).1 2
        have z3 := (blkc hX9).1 3
        have z4 := (blkc hX9).1 4
        have z5 := (blkc hX9).1 5
        have z6 := (blkc hX9).1 6
        have z7 := (blkc hX9).1 7
        have z8 := (blkc hX9).1 8
        have z9 := (blkc hX9).1 9
        have z10 := (blkc hX9).1 10
        have fr9 := (blkc hM9).1 12
        have wr1 : IntKind.i64.wrap (0 + 1) = 1 := by decide
        have hmo : Tryz.prog.follows .mixedOrders = true := by kernel_rfl
        have bt : Below w9.heap.size w9 (w9.drew.alloc (.cells #[.slice a1 n1 c1, .slice a2 n2 c2, .slice a3 n3 c3, .slice a4 n4 c4, .int .i64 i1, .int .i64 i2, .int .i64 i3, .int .i64 i4, .int .i64 i5, .int .i64 i6, .int .i64 i7] 34)) := (Below.refl _ w9).drew.alloc (Nat.le_refl _) _
        have b1t := hb19.trans (bt.mono hb19.size)
        have hb59 : Below w5.heap.size w5 w9 := (hb56.trans (hb68.mono hb56.size)).trans hb9
        have b5t := hb59.trans (bt.mono hb59.size)
        have hb35 : Below w3.heap.size w3 w5 := hb4.trans (hb5.mono hb4.size)
        have b3t := hb35.trans (b5t.mono hb35.size)
        have hw15 : w.heap.size ≤ w5.heap.size := hbw5.size
        have hwd : Below w.heap.size w w9.drew := hbw9.drew
        have hSg : ∀ k, w.heap.size ≤ k → ¬ S k := fun k hk hs => by have := hS k hs; omega
        have hw4 : w.heap.size ≤ w4.heap.size := Nat.le_trans hbw1.size hb14.size
        have hg9 := own_ge how9 hw15
        have hdo := zturned (g := g9) (c := k9) (b1 := v1) (b2 := v2) (b3 := v3) (b4 := v4) (b5 := v5) (gr := g) (n := L) (cr := c) (bs := bs) (h.on (hwd.alloc hwd.size (.cells #[.slice a1 n1 c1, .slice a2 n2 c2, .slice a3 n3 c3, .slice a4 n4 c4, .int .i64 i1, .int .i64 i2, .int .i64 i3, .int .i64 i4, .int .i64 i5, .int .i64 i6, .int .i64 i7] 34)))
          ((bt.cell (p := ⟨g9, 0, none⟩) (own_lt how9).1).trans (own_cells how9 (j := 0) rfl).1) ((bt.cell (p := ⟨g9, 1, none⟩) (own_lt how9).1).trans (own_cells how9 (j := 1) rfl).1) ((bt.cell (p := ⟨g9, 2, none⟩) (own_lt how9).1).trans (own_cells how9 (j := 2) rfl).1)
          ((b3t.cell (p := ⟨v1, 0, none⟩) (cell_lt hV.1)).trans hV.1) ((b3t.cell (p := ⟨v2, 0, none⟩) (cell_lt hV.2.1)).trans hV.2.1) ((b3t.cell (p := ⟨v3, 0, none⟩) (cell_lt hV.2.2.1)).trans hV.2.2.1)
          (cell_of ((b5t.block v4 (heap_lt hU.1)).trans hU.1)) (cell_of ((b5t.block v5 (heap_lt hU.2.1)).trans hU.2.1))
          (hrow.below b1t (Nat.le_refl _)) (Nat.lt_of_lt_of_le hg1 b1t.size) (hSg g (Nat.le_trans hb0.size hg0)) (hSg g9 hg9) (hSg v4 (Nat.le_trans hw4 hU.2.2.1)) (hSg v5 (Nat.le_trans hw4 hU.2.2.2)) e1 e2 e3 q1 q2 q3 q4
        have hT := zturn (w := w9.drew) (S := S) (p := p) (m := m) (g := g9) (c := k9) (D3 := D3) 1 hM9 hSm (fun k hk => Nat.lt_of_lt_of_le (hS k hk) hbw9.size) hdo
        go_still_tail 8, hmo
        go_wp2_with (go_at_call 34; go_must (refine hT.mono ?_; rintro e wz ⟨rfl, hd1, ho1⟩))
        go_ret
        exact ⟨rfl, hd1.keep (fun _ _ _ => rfl) (fun k _ hk => hk.imp id fun h => Nat.le_trans hbw9.size h), (OnlyIn.of_below hwd).trans (ho1.mono fun _ _ h => .inl h)⟩))
end Go.Proofs.YtfogodbbgbnhkaaGreatDoor

/- The chapter's example of a manifest, as mathematics. -/
namespace Go.Proofs.YtfogodbbgbnhkaaGreatDoor
open Go.RowKit

/-- the edit of the example: a segment more -/
def zE : Ed.E := ⟨1, 1, 0, 0, 0, 0, 0, ⟨0, 0, 0, ⟨#[]⟩, ⟨#[]⟩⟩⟩
def zX : Ro.R := ⟨[1], [], [], [], 1, 0, 0, 0, 0, 0, 0⟩
def zbs : List Nat := [3, 1, 1, 1, 1, 117, 104, 170, 209]
def zD0 : Dk.D := Dk.new 1000
def zD1 : Dk.D := ⟨1000, [(1, ⟨zbs, 0⟩)], 1, [(sRoster, 1)], [], [⟨⟨#[]⟩, sRoster, 1⟩], 0, 0, false⟩
def zD2 : Dk.D := ⟨1000, [(1, ⟨zbs, 9⟩)], 1, [(sRoster, 1)], [], [⟨⟨#[]⟩, sRoster, 1⟩], 0, 0, false⟩
def zD3 : Dk.D := ⟨1000, [(1, ⟨zbs, 9⟩)], 1, [(sRoster, 1)], [(sRoster, 1)], [], 0, 0, false⟩
theorem zgood : Good [zE] := ⟨by decide, by decide, fun e he => by rw [List.mem_singleton.mp he]; decide⟩
theorem zput : Ed.put [zE] = [1, 1, 1] := by
  have h1 : Va.one 1 = [1] := Va.one_lo (by omega)
  simp [zE, Ed.put, Ed.one, Ed.nums, Ed.parts, Ed.letter, Ed.texts, Va.put, h1]
theorem zgoodF : Fr.Good [((1 : Int), [1, 1, 1])] := by
  intro f hf
  rw [List.mem_singleton.mp hf]
  exact ⟨by decide, by simp⟩
theorem zall : Fr.all [((1 : Int), [1, 1, 1])] = zbs := by decide +kernel
theorem zscan : ∃ ps m, Fr.scan zbs = ([((1 : Int), [1, 1, 1])], ps, m) := ⟨_, _, by rw [← zall]; exact Fr.scan_all zgoodF⟩
theorem zgetE : Ed.get [1, 1, 1] = [zE] := by rw [← zput]; exact Ed.get_put (by decide) (fun e he => by rw [List.mem_singleton.mp he]; decide)
theorem zsize : Fr.size 3 = 9 := by decide +kernel
theorem zapply : Ro.apply Ro.first [zE] = (zX, 0) := by
  have hz : Ed.tz ⟨0, 0, 0, ⟨#[]⟩, ⟨#[]⟩⟩ = true := (Ed.tz_iff _).mpr rfl
  have hm : ([zE] : List Ed.E).all Ed.may = true := by simp [zE, Ed.may, Ed.counts, Ed.hz, hz]
  have hL : Lv.may [] = true := by decide
  rw [Ro.apply_fin (by rw [Ro.check_first, hm]; rfl), Ro.fin]
  have ht : Ro.turns Ro.first [zE] = some zX := by
    simp [zE, zX, Ro.turns, Ro.turn, Ro.first, Ro.lastOf]
  rw [ht]
  have hc : Ro.check zX = true := by
    simp [zX, Ro.check, Ro.segsMay, Ro.rise, Ro.riseGo, Ro.movesMay, Ro.stillsMay, Ro.restMay, Ro.placeMay, Ro.differ, Ro.sorted, Ro.cnt, Ro.cz, Ro.lastOf, hL]
  simp [hc]
theorem zcheck : Ro.check zX = true := by
  have hL : Lv.may [] = true := by decide
  simp [zX, Ro.check, Ro.segsMay, Ro.rise, Ro.riseGo, Ro.movesMay, Ro.stillsMay, Ro.restMay, Ro.placeMay, Ro.differ, Ro.sorted, Ro.cnt, Ro.cz, Ro.lastOf, hL]
theorem zapply0 : Ro.apply zX [] = (zX, 0) := by
  rw [Ro.apply_fin (by rw [zcheck]; rfl), Ro.fin]
  simp [Ro.turns, zcheck]
theorem zf0 : Dk.find zD0 sRoster = none := by rfl
theorem zn0 : Dk.find zD0 sFresh = none := by rfl
theorem zs1 : Dk.append zD0 sRoster zbs = (zD1, 0) := by rfl
theorem zs2 : Dk.sync zD1 sRoster = (zD2, 0) := by rfl
theorem zs3 : Dk.syncNames zD2 = (zD3, 0) := by rfl
theorem zs4 : Dk.crash zD3 0 [] = zD3 := by
  have h1 : Dk.settle zD3 (min (max (0 : Int) 0) ((([] : List Dk.T).length : Nat) : Int)).toNat = zD3 := by rfl
  have h2 : Dk.order zD3 = [sRoster] := by
    unfold Dk.order
    simp [List.mergeSort_singleton, zD3]
  unfold Dk.crash
  show ({ (Dk.tails (Dk.settle zD3 (min (max (0 : Int) 0) ((([] : List Dk.T).length : Nat) : Int)).toNat) [] (Dk.order (Dk.settle zD3 (min (max (0 : Int) 0) ((([] : List Dk.T).length : Nat) : Int)).toNat))).1 with stop := 0, fault := 0, dead := false } : Dk.D) = _
  rw [h1, h2]
  rfl
theorem zf3 : Dk.find zD3 sRoster = some (1, ⟨zbs, 9⟩) := by rfl
theorem zn3 : Dk.find zD3 sFresh = none := by rfl
theorem zs5 : Dk.sync zD3 sRoster = (zD3, 0) := by rfl
theorem zs6 : Dk.syncNames zD3 = (zD3, 0) := by rfl
end Go.Proofs.YtfogodbbgbnhkaaGreatDoor
