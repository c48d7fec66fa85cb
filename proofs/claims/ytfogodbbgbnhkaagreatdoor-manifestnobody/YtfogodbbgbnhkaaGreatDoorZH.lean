/- Acts of a manifest, one behind the other. -/
import Derived.Test.YtfogodbbgbnhkaaGreatDoorZF
import Derived.Test.YtfogodbbgbnhkaaGreatDoorDKP
namespace Go.Proofs.YtfogodbbgbnhkaaGreatDoor
open Go.RowKit

/-- since w3 nothing has turned but the blocks of S; a disk lies there, in these and in later ones -/
def StD (w3 : World) (S : Nat → Prop) (p : Nat) (D : Dk.D) (W : World) : Prop := DK W p D (grow1 S w3) ∧ OnlyIn S w3 W
theorem StD.init {w3 : World} {S : Nat → Prop} {p : Nat} {D : Dk.D} (h : DK w3 p D S) : StD w3 S p D w3 := ⟨h.keep (fun _ _ _ => rfl) (fun _ _ h => .inl h), OnlyIn.refl _ _⟩
theorem StD.next {w3 W W' : World} {S T : Nat → Prop} {p : Nat} {D D' : Dk.D} (h : StD w3 S p D W) (hT : ∀ k, T k → grow1 S w3 k) (h1 : DK W' p D' (grow1 T W)) (h2 : OnlyIn T W W') : StD w3 S p D' W' :=
  ⟨h1.keep (fun _ _ _ => rfl) (fun k _ hk => by rcases hk with hk | hk; exact hT k hk; exact .inr (Nat.le_trans h.2.size hk)), h.2.trans (h2.mono fun k _ hk => hT k hk)⟩
theorem StD.sync {w3 W : World} {S : Nat → Prop} {p : Nat} {D : Dk.D} (h : StD w3 S p D W) (s : ByteArray) (he : (Dk.sync D s).2 = 0) :
    Calls Tryz.prog 39 #[.pointer (some ⟨p, 0, none⟩), .string s] W fun e W' => e = .returned (.int .i64 0) ∧ StD w3 S p (Dk.sync D s).1 W' := by
  refine (syncD_any h.1 s).mono ?_
  rintro e W' ⟨rfl, h1, h2⟩
  rw [he]
  exact ⟨rfl, h.next (fun _ h => h) h1 h2⟩
theorem StD.names {w3 W : World} {S : Nat → Prop} {p : Nat} {D : Dk.D} (h : StD w3 S p D W) (htl : D.turns.length ≤ 1000000) (he : (Dk.syncNames D).2 = 0) :
    Calls Tryz.prog 43 #[.pointer (some ⟨p, 0, none⟩)] W fun e W' => e = .returned (.int .i64 0) ∧ StD w3 S p (Dk.syncNames D).1 W' := by
  refine (syncNamesD_any h.1 htl).mono ?_
  rintro e W' ⟨rfl, h1, h2⟩
  rw [he]
  exact ⟨rfl, h.next (fun _ h => h) h1 h2⟩
theorem StD.append {w3 W : World} {S : Nat → Prop} {p : Nat} {D : Dk.D} (h : StD w3 S p D W) (s : ByteArray) (g n c : Nat) (bs : List Nat) (hn : D.turns.length ≤ 1000000) (hlast : D.last ≤ 1000000) (hnames : D.names.length ≤ 1000000) (hrow : Row .u8 W (some ⟨g, 0, none⟩) n bs) (hg : g < w3.heap.size) (hgS : ¬ S g) (he : (Dk.append D s bs).2 = 0) :
    Calls Tryz.prog 36 #[.pointer (some ⟨p, 0, none⟩), .string s, .slice (some ⟨g, 0, none⟩) n c] W fun e W' => e = .returned (.int .i64 0) ∧ StD w3 S p (Dk.append D s bs).1 W' := by
  refine (appendD_any h.1.tight (fun k hk => hk.2) s (some ⟨g, 0, none⟩) n c bs hn hlast hnames hrow (fun e => by cases e) (fun b o e => by
    cases e
    refine ⟨fun hs => ?_, Nat.lt_of_lt_of_le hg h.2.size⟩
    rcases hs.1 with h1 | h1
    · exact hgS h1
    · omega)).mono ?_
  rintro e W' ⟨rfl, h1, h2⟩
  rw [he]
  exact ⟨rfl, h.next (fun _ h => h.1) h1 h2⟩
/-- what does not lie in S is as it was -/
theorem StD.cell {w3 W : World} {S : Nat → Prop} {p : Nat} {D : Dk.D} (h : StD w3 S p D W) {g o : Nat} {v : Value} (hc : w3.cell? ⟨g, o, none⟩ = some v) (hg : ¬ S g) : W.cell? ⟨g, o, none⟩ = some v := by
  have h1 := h.2.block g (cell_lt hc) hg
  rw [← hc]
  simp only [World.cell?, h1]
theorem StD.row {w3 W : World} {S : Nat → Prop} {p : Nat} {D : Dk.D} (h : StD w3 S p D W) {g n : Nat} {bs : List Nat} (hr : Row .u8 w3 (some ⟨g, 0, none⟩) n bs) (hg : ¬ S g) : Row .u8 W (some ⟨g, 0, none⟩) n bs := by
  obtain ⟨h1, h2, h3, h4⟩ := hr
  refine ⟨h1, h2, h3, ?_⟩
  rcases h4 with h0 | ⟨b, off, e, hc⟩
  · exact .inl h0
  · cases e
    exact .inr ⟨g, 0, rfl, fun i hi => h.cell (hc i hi) hg⟩

set_option maxRecDepth 100000 in
/-- the two acts that mend a file with nothing wrong -/
theorem zmended {w3 : World} {S : Nat → Prop} {p g c b1 b2 : Nat} {D : Dk.D} (h : DK w3 p D S)
    (hg0 : w3.cell? ⟨g, 0, none⟩ = some (.func (.func 89) #[] #[.pointer (some ⟨b1, 0, none⟩), .pointer (some ⟨b2, 0, none⟩)]))
    (hg1 : w3.cell? ⟨g, 1, none⟩ = some (.func (.func 43) #[.pointer (some ⟨p, 0, none⟩)] #[]))
    (hb1 : w3.cell? ⟨b1, 0, none⟩ = some (.func (.func 39) #[.pointer (some ⟨p, 0, none⟩)] #[])) (hb2 : w3.cell? ⟨b2, 0, none⟩ = some (.string sRoster))
    (hS : ¬ S g) (hdead : (Dk.sync D sRoster).2 = 0) (hn : (Dk.syncNames (Dk.sync D sRoster).1).2 = 0) (htl : (Dk.sync D sRoster).1.turns.length ≤ 1000000) :
    Calls Tryz.prog 22 #[.slice (some ⟨g, 0, none⟩) 2 c] w3 fun e w' => e = .returned (.tuple #[.int .i64 2, .int .i64 0]) ∧ StD w3 S p (Dk.syncNames (Dk.sync D sRoster).1).1 w' := by
  refine (zdoall_any 2 g c w3 (by omega) (fun j W => match j with | 0 => W = w3 | 1 => StD w3 S p (Dk.sync D sRoster).1 W | _ => StD w3 S p (Dk.syncNames (Dk.sync D sRoster).1).1 W) rfl ?_).mono ?_
  · intro j W hj hI
    match j, hj, hI with
    | 0, _, hI =>
      obtain rfl : W = w3 := hI
      exact ⟨_, #[], #[.pointer (some ⟨b1, 0, none⟩), .pointer (some ⟨b2, 0, none⟩)], enters_of Tryz.func89 (by kernel_rfl) rfl, hg0, by
        simpa using zone_do 39 p b1 b2 sRoster W (fun W' => StD W S p (Dk.sync D sRoster).1 W') (enters_of Tryz.func39 (by kernel_rfl) rfl) hb1 hb2 ((StD.init h).sync sRoster hdead)⟩
    | 1, _, hI =>
      have hI : StD w3 S p (Dk.sync D sRoster).1 W := hI
      exact ⟨_, #[.pointer (some ⟨p, 0, none⟩)], #[], enters_of Tryz.func43 (by kernel_rfl) rfl, hI.cell hg1 hS, by
        simpa using hI.names htl hn⟩
  · rintro e w' ⟨rfl, hI⟩
    exact ⟨rfl, hI⟩

set_option maxRecDepth 100000 in
/-- the three acts of the first turn -/
theorem zturned {w3 : World} {S : Nat → Prop} {p g c b1 b2 b3 b4 b5 gr n cr : Nat} {bs : List Nat} {D : Dk.D} (h : DK w3 p D S)
    (hg0 : w3.cell? ⟨g, 0, none⟩ = some (.func (.func 82) #[] #[.pointer (some ⟨b1, 0, none⟩), .pointer (some ⟨b2, 0, none⟩), .pointer (some ⟨b3, 0, none⟩)]))
    (hg1 : w3.cell? ⟨g, 1, none⟩ = some (.func (.func 89) #[] #[.pointer (some ⟨b4, 0, none⟩), .pointer (some ⟨b5, 0, none⟩)]))
    (hg2 : w3.cell? ⟨g, 2, none⟩ = some (.func (.func 43) #[.pointer (some ⟨p, 0, none⟩)] #[]))
    (hb1 : w3.cell? ⟨b1, 0, none⟩ = some (.func (.func 36) #[.pointer (some ⟨p, 0, none⟩)] #[])) (hb2 : w3.cell? ⟨b2, 0, none⟩ = some (.string sRoster)) (hb3 : w3.cell? ⟨b3, 0, none⟩ = some (.slice (some ⟨gr, 0, none⟩) n cr))
    (hb4 : w3.cell? ⟨b4, 0, none⟩ = some (.func (.func 39) #[.pointer (some ⟨p, 0, none⟩)] #[])) (hb5 : w3.cell? ⟨b5, 0, none⟩ = some (.string sRoster))
    (hrow : Row .u8 w3 (some ⟨gr, 0, none⟩) n bs) (hgr : gr < w3.heap.size) (hSr : ¬ S gr)
    (hS : ¬ S g) (hS4 : ¬ S b4) (hS5 : ¬ S b5) {D1 D2 D3 : Dk.D} (e1 : Dk.append D sRoster bs = (D1, 0)) (e2 : Dk.sync D1 sRoster = (D2, 0)) (e3 : Dk.syncNames D2 = (D3, 0))
    (hn : D.turns.length ≤ 1000000) (hlast : D.last ≤ 1000000) (hnames : D.names.length ≤ 1000000) (htl : D2.turns.length ≤ 1000000) :
    Calls Tryz.prog 22 #[.slice (some ⟨g, 0, none⟩) 3 c] w3 fun e w' => e = .returned (.tuple #[.int .i64 3, .int .i64 0]) ∧ StD w3 S p D3 w' := by
  refine (zdoall_any 3 g c w3 (by omega) (fun j W => match j with | 0 => W = w3 | 1 => StD w3 S p D1 W | 2 => StD w3 S p D2 W | _ => StD w3 S p D3 W) rfl ?_).mono ?_
  · intro j W hj hI
    match j, hj, hI with
    | 0, _, hI =>
      obtain rfl : W = w3 := hI
      have ha := (StD.init h).append sRoster gr n cr bs hn hlast hnames hrow hgr hSr (by rw [e1])
      rw [e1] at ha
      exact ⟨_, #[], #[.pointer (some ⟨b1, 0, none⟩), .pointer (some ⟨b2, 0, none⟩), .pointer (some ⟨b3, 0, none⟩)], enters_of Tryz.func82 (by kernel_rfl) rfl, hg0, by
        simpa using ztwo_do 36 p b1 b2 b3 sRoster (some ⟨gr, 0, none⟩) n cr W (fun W' => StD W S p D1 W') (enters_of Tryz.func36 (by kernel_rfl) rfl) hb1 hb2 hb3 ha⟩
    | 1, _, hI =>
      have hI : StD w3 S p D1 W := hI
      have ha := hI.sync sRoster (by rw [e2])
      rw [e2] at ha
      exact ⟨_, #[], #[.pointer (some ⟨b4, 0, none⟩), .pointer (some ⟨b5, 0, none⟩)], enters_of Tryz.func89 (by kernel_rfl) rfl, hI.cell hg1 hS, by
        simpa using zone_do 39 p b4 b5 sRoster W (fun W' => StD w3 S p D2 W') (enters_of Tryz.func39 (by kernel_rfl) rfl) (hI.cell hb4 hS4) (hI.cell hb5 hS5) ha⟩
    | 2, _, hI =>
      have hI : StD w3 S p D2 W := hI
      have ha := hI.names htl (by rw [e3])
      rw [e3] at ha
      exact ⟨_, #[.pointer (some ⟨p, 0, none⟩)], #[], enters_of Tryz.func43 (by kernel_rfl) rfl, hI.cell hg2 hS, by
        simpa using ha⟩
  · rintro e w' ⟨rfl, hI⟩
    exact ⟨rfl, hI⟩
end Go.Proofs.YtfogodbbgbnhkaaGreatDoor

/- Open of a manifest. -/
namespace Go.Proofs.YtfogodbbgbnhkaaGreatDoor
open Go.RowKit

/-- a manifest lies at m, of the disk at p -/
def MaAt (w : World) (B m p : Nat) (X : Ro.R) (fr : Nat) : Prop :=
  ∃ a1 n1 c1 a2 n2 c2 a3 n3 c3 a4 n4 c4, w.heap[m]? = some (.cells #[.pointer (some ⟨p, 0, none⟩), .slice a1 n1 c1, .slice a2 n2 c2, .slice a3 n3 c3, .slice a4 n4 c4, .int .i64 X.log, .int .i64 X.index, .int .i64 X.term, .int .i64 X.ht, .int .i64 X.hv, .int .i64 X.hc, .int .i64 X.mark, .int .i64 (fr : Int), .bool false] 36 (0, 0)) ∧ ROwn B w a1 n1 c1 a2 n2 c2 a3 n3 c3 a4 n4 c4 X ∧ B ≤ m
theorem MaAt.keep {w w' : World} {B m p : Nat} {X : Ro.R} {fr : Nat} (h : MaAt w B m p X fr) (hb : Below w.heap.size w w') : MaAt w' B m p X fr := by
  obtain ⟨a1, n1, c1, a2, n2, c2, a3, n3, c3, a4, n4, c4, h1, h2, h3⟩ := h
  exact ⟨a1, n1, c1, a2, n2, c2, a3, n3, c3, a4, n4, c4, (hb.block _ (heap_lt h1)).trans h1, h2.kept hb, h3⟩

theorem ddead_any {w : World} {p : Nat} {D : Dk.D} {S : Nat → Prop} (h : DK w p D S) :
    Calls Tryz.prog 19 #[.pointer (some ⟨p, 0, none⟩)] w fun e w' => e = .returned (.bool D.dead) ∧ w' = w := by
  obtain ⟨hO, fm, nm, sm, tv, J, hP, hS⟩ := h
  exact dead_any hP

theorem own_ge {w : World} {B B' e s g n c : Nat} {xs : List Value} (h : w.ownsRow B e s (.slice (some ⟨g, 0, none⟩) n c) n xs) (hB : B' ≤ B) : B' ≤ g := by
  rcases h.2 with ⟨e1, _⟩ | ⟨g', cap, cur, e1, h1, _⟩
  · cases e1
  · cases e1; omega
theorem cell_of {w : World} {b : Nat} {v : Value} {e : TypeId} (h : w.heap[b]? = some (.cells #[v] e (0, 0))) : w.cell? ⟨b, 0, none⟩ = some v := (blkc h).1 0
theorem zopen_nil (w : World) : Calls Tryz.prog 11 #[.pointer none] w fun e w' => e = .returned (.tuple #[.pointer none, .int .i64 1]) ∧ w' = w := by
  go_enter Tryz.func11, Tryz.ntmps11
  go_wp2
  go_ret2
  exact ⟨rfl, rfl⟩
theorem run_equalIn_map_none {P : Program} (w : World) (d : Nat) (t k e : TypeId) (h : P.underlying t = some (.map k e)) : (Op.equalIn (d + 1) t (.map none) (.map none)).run P w = .ok true w := by
  simp [Op.equalIn, run_underlying h]
theorem run_neq_map_none {P : Program} (w : World) (t k e : TypeId) (h : P.underlying t = some (.map k e)) : (binOp .neq t (.map none) (.map none)).run P w = .ok (.bool false) w := by
  simp only [binOp]
  simp [show Op.equal t (.map none) (.map none) = Op.equalIn (9999 + 1) t (.map none) (.map none) from rfl, run_equalIn_map_none w 9999 t k e h]
set_option maxRecDepth 100000 in
theorem zmade_zero {w : World} {q : Nat} (h : w.heap[q]? = some (.cells #[.int .i64 0, .map none, .int .i64 0, .int .i64 0, .map none, .map none, .slice none 0 0, .int .i64 0, .int .i64 0, .bool false] 48 (0, 0))) :
    Calls Tryz.prog 19 #[.pointer (some ⟨q, 0, none⟩)] w fun e w' => e = .returned (.bool true) ∧ w' = w := by
  have c1 := (blkc h).1 1
  have hq := fun w => run_neq_map_none (P := Tryz.prog) w 44 _ _ Tryz.underlying44
  have hmade : Calls Tryz.prog 24 #[.pointer (some ⟨q, 0, none⟩)] w fun e w' => e = .returned (.bool false) ∧ w' = w := by
    go_enter Tryz.func24, Tryz.ntmps24
    go_wp2
    all_goals go_ret
    all_goals exact ⟨rfl, rfl⟩
  go_enter Tryz.func19, Tryz.ntmps19
  go_wp2_with (go_at_call 24; go_must (refine hmade.mono ?_; rintro e w1 ⟨rfl, hw⟩; subst hw))
  all_goals go_ret
  all_goals exact ⟨rfl, rfl⟩
theorem zopen_zero {w : World} {q : Nat} (h : w.heap[q]? = some (.cells #[.int .i64 0, .map none, .int .i64 0, .int .i64 0, .map none, .map none, .slice none 0 0, .int .i64 0, .int .i64 0, .bool false] 48 (0, 0))) :
    Calls Tryz.prog 11 #[.pointer (some ⟨q, 0, none⟩)] w fun e w' => e = .returned (.tuple #[.pointer none, .int .i64 9]) ∧ w' = w := by
  have hd := zmade_zero h
  go_enter Tryz.func11, Tryz.ntmps11
  go_wp2_with (go_at_call 19; go_must (refine hd.mono ?_; rintro e w1 ⟨rfl, hw⟩; subst hw))
  go_ret2
  exact ⟨rfl, rfl⟩

set_option maxRecDepth 100000 in
set_option maxHeartbeats 2000000 in
/-- Open of a disk without files -/
theorem zopen_none {w : World} {p : Nat} {D : Dk.D} {S : Nat → Prop} (h : DK w p D S) (hz : Dk.find D sFresh = none) (hf : Dk.find D sRoster = none) (hd : D.dead = false) :
    Calls Tryz.prog 11 #[.pointer (some ⟨p, 0, none⟩)] w fun e w' => ∃ m, e = .returned (.tuple #[.pointer (some ⟨m, 0, none⟩), .int .i64 0]) ∧ MaAt w' w.heap.size m p Ro.first 0 ∧ Below w.heap.size w w' := by
  have hdd := ddead_any h
  rw [hd] at hdd
  have hrd := zread_none h hf
  have htl := fun W => ztell_none W
  unfold TellRes at htl
  have hme := fun W (hb : Below w.heap.size w W) (k : Int) hk => zmend_none (k := k) (h.on hb) hz hf hk
  have hdo := fun W => zdoall_none W
  clear h
  go_enter Tryz.func11, Tryz.ntmps11
  go_wp2_with (first
    | (go_at_call 19; go_must (refine hdd.mono ?_; rintro e w1 ⟨rfl, hw⟩; rw [hw]; clear hw w1))
    | (go_at_call 22; have := hb3; go_must (refine (hdo _).mono ?_; rintro e w4 ⟨rfl, hw⟩; rw [hw]; clear hw w4))
    | (go_at_call 23; have := hb2; go_must (refine (hme _ (hbw2.alloc hbw2.size _) _ rfl).mono ?_; rintro e w3 ⟨rfl, hb3⟩; have hT := (hb3.block _ (by simp)).trans (heap_alloc_new w2 _); have x0 := (blkc hT).1 0; have x1 := (blkc hT).1 1; have x2 := (blkc hT).1 2; have x3 := (blkc hT).1 3; have x4 := (blkc hT).1 4; have x5 := (blkc hT).1 5; have x6 := (blkc hT).1 6; have x7 := (blkc hT).1 7; have x8 := (blkc hT).1 8; have x9 := (blkc hT).1 9; have x10 := (blkc hT).1 10; have x11 := (blkc hT).1 11; have x12 := (blkc hT).1 12; have f0 := (blkc hT).2 0; have f1 := (blkc hT).2 1; have f2 := (blkc hT).2 2; have f3 := (blkc hT).2 3; have f4 := (blkc hT).2 4; have f5 := (blkc hT).2 5; have f6 := (blkc hT).2 6; have f7 := (blkc hT).2 7; have f8 := (blkc hT).2 8; have f9 := (blkc hT).2 9; have f10 := (blkc hT).2 10; have f11 := (blkc hT).2 11; have f12 := (blkc hT).2 12; have hbw3 := (hbw2.alloc hbw2.size _).trans (hb3.mono (hbw2.alloc hbw2.size _).size); have hro3 := (hro.kept (below_alloc w2 _)).kept hb3))
    | (go_at_call 21; have := hb1; go_must (refine (htl _).mono ?_; rintro e w2 ⟨a1, n1, c1, a2, n2, c2, a3, n3, c3, a4, n4, c4, rfl, hro, hb2⟩; have hbw2 := hb1.trans (hb2.mono hb1.size)))
    | (go_at_call 20; go_must (refine hrd.mono ?_; rintro e w1 ⟨rfl, hb1⟩)))
  go_ret2
  exact ⟨w3.heap.size, rfl, ⟨a1, n1, c1, a2, n2, c2, a3, n3, c3, a4, n4, c4, heap_alloc_new w3 _, rown_base (hro3.kept (below_alloc w3 _)) hb1.size, hbw3.size⟩, hbw3.alloc hbw3.size _⟩

theorem StD.rown {w3 W : World} {S : Nat → Prop} {p B : Nat} {D : Dk.D} (h : StD w3 S p D W) (hS : ∀ k, S k → k < B) {a1 : Option Addr} {n1 c1 : Nat} {a2 : Option Addr} {n2 c2 : Nat} {a3 : Option Addr} {n3 c3 : Nat} {a4 : Option Addr} {n4 c4 : Nat} {X : Ro.R} (hr : ROwn B w3 a1 n1 c1 a2 n2 c2 a3 n3 c3 a4 n4 c4 X) : ROwn B W a1 n1 c1 a2 n2 c2 a3 n3 c3 a4 n4 c4 X := by
  have kp : ∀ {e s n : Nat} {v : Value} {xs : List Value}, w3.ownsRow B e s v n xs → W.ownsRow B e s v n xs := fun {e s n v xs} ho => own_keep ho fun g hg => by
    rcases ho.2 with ⟨e1, _⟩ | ⟨g', cap, cur, e1, hB, hc, _⟩
    · rw [e1] at hg; cases hg
    · rw [e1] at hg
      cases hg
      exact h.2.block _ (heap_lt hc) fun hs => by have h9 : g' < B := hS _ hs; omega
  exact ⟨kp hr.o1, kp hr.o2, kp hr.o3, kp hr.o4⟩

set_option maxRecDepth 100000 in
set_option maxHeartbeats 4000000 in
/-- Open of a disk with a file of one frame -/
theorem zopen_one {w : World} {p n k m0 N : Nat} {f : Dk.F} {D : Dk.D} {S : Nat → Prop} (h : DK w p D S) (hS : ∀ k, S k → k < w.heap.size) (hz : Dk.find D sFresh = none) (hf : Dk.find D sRoster = some (k, f)) (hd : D.dead = false) (hn : f.bs.length = n) (hn0 : 0 < n) (hn1 : n ≤ 100000) (body ps : List Nat) (hsc : Fr.scan f.bs = ([(1, body)], ps, m0)) (E : List Ed.E) (hE : Ed.get body = E) (hE0 : E ≠ []) (hb1 : body.length ≤ 100000) (hN : E.length = N) (hN1 : N ≤ 1000) (hZ : Fr.size body.length = n) (X : Ro.R) (hX : Ro.apply Ro.first E = (X, 0)) (D1 D2 : Dk.D) (q1 : Dk.sync D sRoster = (D1, 0)) (q2 : Dk.syncNames D1 = (D2, 0)) (htu : D1.turns.length ≤ 1000000) :
    Calls Tryz.prog 11 #[.pointer (some ⟨p, 0, none⟩)] w fun e w' => ∃ m, e = .returned (.tuple #[.pointer (some ⟨m, 0, none⟩), .int .i64 0]) ∧ MaAt w' w.heap.size m p X 1 ∧ OnlyIn S w w' := by
  have hdd := ddead_any h
  rw [hd] at hdd
  have hrd := zread_some h hf hn hn0 hn1 hd
  have htl := fun W g (hr : Row .u8 W (some ⟨g, 0, none⟩) n f.bs) => ztell_one (some ⟨g, 0, none⟩) n n f.bs body ps m0 N n W hn1 (.inr ⟨g, 0, rfl, Nat.le_refl _⟩) hr hsc E hE hE0 hb1 hN hN1 hZ (by omega) X hX
  unfold TellRes at htl
  have hme := fun W (hb : Below w.heap.size w W) => zmend_some (h.on hb) hz hf hn
  unfold MendRes at hme
  have hdo := fun W (hb : Below w.heap.size w W) g c b1 b2 y0 y1 y2 y3 hg => zmended (g := g) (c := c) (b1 := b1) (b2 := b2) (h.on hb) y0 y1 y2 y3 hg (by rw [q1]) (by rw [q1, q2]) (by rw [q1]; exact htu)
  rw [q1] at hdo
  simp only [q2] at hdo
  have hSg : Hid (∀ g, w.heap.size ≤ g → ¬ S g) := (fun g hg hs => by have := hS g hs; omega : ∀ g, _ → _)
  clear hsc hE hE0 hb1 hN hN1 hZ hX q1 q2 htu h hf hz hn
  go_enter Tryz.func11, Tryz.ntmps11
  go_wp2_with (first
    | (go_at_call 19; go_must (refine hdd.mono ?_; rintro e w1 ⟨rfl, hw⟩; rw [hw]; clear hw w1))
    | (go_at_call 22; have := hbw3; go_must (refine (hdo w3 hbw3 g c b1 b2 ga gb (cell_of hb1') (cell_of hb2') hgS).mono ?_; rintro e w4 ⟨rfl, hst⟩; have z0 := hst.cell x0 hT6; have z1 := hst.cell x1 hT6; have z2 := hst.cell x2 hT6; have z3 := hst.cell x3 hT6; have z4 := hst.cell x4 hT6; have z5 := hst.cell x5 hT6; have z6 := hst.cell x6 hT6; have z7 := hst.cell x7 hT6; have z8 := hst.cell x8 hT6; have z9 := hst.cell x9 hT6; have z10 := hst.cell x10 hT6; have z11 := hst.cell x11 hT6; have z12 := hst.cell x12 hT6; have hro4 := hst.rown hS hro3))
    | (go_at_call 23; have := hb2; go_must (refine (hme _ (hbw2.alloc hbw2.size _)).mono ?_; rintro e w3 ⟨g, c, b1, b2, rfl, how, hb1', hb2', hl1, hl2, hb3⟩; have hT := (hb3.block _ (by simp)).trans (heap_alloc_new w2 _); have x0 := (blkc hT).1 0; have x1 := (blkc hT).1 1; have x2 := (blkc hT).1 2; have x3 := (blkc hT).1 3; have x4 := (blkc hT).1 4; have x5 := (blkc hT).1 5; have x6 := (blkc hT).1 6; have x7 := (blkc hT).1 7; have x8 := (blkc hT).1 8; have x9 := (blkc hT).1 9; have x10 := (blkc hT).1 10; have x11 := (blkc hT).1 11; have x12 := (blkc hT).1 12; have f0 := (blkc hT).2 0; have f1 := (blkc hT).2 1; have f2 := (blkc hT).2 2; have f3 := (blkc hT).2 3; have f4 := (blkc hT).2 4; have f5 := (blkc hT).2 5; have f6 := (blkc hT).2 6; have f7 := (blkc hT).2 7; have f8 := (blkc hT).2 8; have f9 := (blkc hT).2 9; have f10 := (blkc hT).2 10; have f11 := (blkc hT).2 11; have f12 := (blkc hT).2 12; have hbw3 := (hbw2.alloc hbw2.size _).trans (hb3.mono (hbw2.alloc hbw2.size _).size); have hro3 := rown_base ((hro.kept (below_alloc w2 _)).kept hb3) hb1.size; have ga := (own_cells how (j := 0) rfl).1; have gb := (own_cells how (j := 1) rfl).1; have hgS := hSg.out g (own_ge how (hbw2.alloc hbw2.size _).size); have hT6 := hSg.out w2.heap.size hbw2.size))
    | (go_at_call 21; have := hb1; go_must (refine (htl _ g0 hrow).mono ?_; rintro e w2 ⟨a1, n1, c1, a2, n2, c2, a3, n3, c3, a4, n4, c4, rfl, hro, hb2⟩; have hbw2 := hb1.trans (hb2.mono hb1.size)))
    | (go_at_call 20; go_must (refine hrd.mono ?_; rintro e w1 ⟨g0, rfl, hrow, hb1⟩)))
  go_ret2
  refine ⟨w4.heap.size, rfl, ⟨a1, n1, c1, a2, n2, c2, a3, n3, c3, a4, n4, c4, heap_alloc_new w4 _, hro4.kept (below_alloc w4 _), Nat.le_trans hbw3.size hst.2.size⟩, ?_⟩
  exact ((OnlyIn.of_below hbw3).trans (hst.2.mono fun _ _ h => .inl h)).trans (OnlyIn.of_below (below_alloc w4 _))
end Go.Proofs.YtfogodbbgbnhkaaGreatDoor
