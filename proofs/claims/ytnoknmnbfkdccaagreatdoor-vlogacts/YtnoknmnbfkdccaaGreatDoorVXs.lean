/- The law's world: the log, the reference's beside it, the points told; Get in it. -/
import Derived.Test.YtnoknmnbfkdccaaGreatDoorVXg
import Derived.Test.YtnoknmnbfkdccaaGreatDoorVXq
import Derived.Test.YtnoknmnbfkdccaaGreatDoorIG
import Derived.Test.YtnoknmnbfkdccaaGreatDoorSGf
namespace Go.Proofs.YtnoknmnbfkdccaaGreatDoor
open Go.RowKit Go.Shelf

/-- where the law's world lies, and what it is -/
structure WS where
  p : Nat
  m : Nat
  a : Option Addr
  n : Nat
  c : Nat
  sa : Option Addr
  sc : Nat
  va : Option Addr
  vc : Nat
  ta : Option Addr
  tn : Nat
  tc : Nat
  segs : List Int
  vals : List (List (List Nat))
  told : List Po.P
  D : Dk.D
structure WI (B : Nat) (w : World) (x : Nat) (S : WS) (b z : Nat) : Prop where
  blk : w.heap[x]? = some (.cells #[.pointer (some ⟨S.p, 0, none⟩), .pointer (some ⟨S.m, 0, none⟩), .slice S.sa S.n S.sc, .slice S.va S.n S.vc, .slice S.ta S.tn S.tc] 37 (0, 0))
  le : B ≤ x
  lg : LgAt B w S.m S.p S.a S.n S.c S.segs
  vd : VD B w S.p S.D
  rl : RL B w S.sa S.n S.sc S.va S.vc S.segs S.vals
  told : w.ownsRow B 42 4 (.slice S.ta S.tn S.tc) S.tn (tcells pve S.told)
  fits : ∀ q ∈ S.told, Po.Fits q
  apart : ∀ k o, S.sa = some ⟨k, o, none⟩ → 0 < S.n → (Value.slice S.a S.n S.c).ownBlock ≠ some k
  ac : Vl.Ac S.D S.segs S.vals b z
  bb : b ≤ 40 ∧ z ≤ 21000
  cnt : S.tn ≤ b
section
variable {B : Nat} {w : World} {x b z : Nat} {S : WS}
theorem WI.B' (h : WI B w x S b z) : B ≤ w.heap.size := h.vd.le
theorem WI.n' (h : WI B w x S b z) : S.segs.length = S.n ∧ S.n ≤ 64 := h.lg.len
theorem WI.some (h : WI B w x S b z) : Vl.Some' S.vals := ⟨h.ac.small, fun vs hv => by have := h.ac.cnt vs hv; have := h.bb; omega, fun vs hv => by have := h.ac.tot vs hv; have := h.bb; omega⟩
theorem WI.keep {w' : World} (h : WI B w x S b z) (hb : Below w.heap.size w w') : WI B w' x S b z :=
  ⟨(hb.block _ (heap_lt h.blk)).trans h.blk, h.le, h.lg.keep hb, h.vd.keep hb, h.rl.keep h.B' hb, owns_below h.told hb, h.fits, h.apart, h.ac, h.bb, h.cnt⟩
theorem WI.more {b' z' : Nat} (h : WI B w x S b z) (hb : b ≤ b') (hz : z ≤ z') (hb2 : b' ≤ 40 ∧ z' ≤ 21000) : WI B w x S b' z' :=
  ⟨h.blk, h.le, h.lg, h.vd, h.rl, h.told, h.fits, h.apart, h.ac.mono hb hz, hb2, Nat.le_trans h.cnt hb⟩
/-- the bytes of a segment are those of its file -/
theorem WI.by' (h : WI B w x S b z) (s : Int) (hs : S.segs.contains s = true) (R : List Nat) (hR : Vl.RefB S.segs S.vals s R) : R = Vl.by' S.D (vname s) := by
  have hm : s ∈ S.segs := by simpa using hs
  rcases hR with ⟨_, h2⟩ | ⟨i, h1, rfl, h3, _⟩
  · obtain ⟨j, hj, e⟩ := List.getElem_of_mem hm
    exact absurd (by simp [hj, e]) (h2 j hj)
  · rw [← h.ac.by' i h1, h3]
theorem Vl.by_le {D : Dk.D} (hO : Dk.Ok D) (s : ByteArray) : (Vl.by' D s).length ≤ Dk.sum D.files := by
  unfold Vl.by'
  rcases Vl.find_cases hO s with ⟨_, e2⟩ | ⟨n, f, _, e2, e3⟩
  · rw [Vl.bs_none e2]; exact Nat.zero_le _
  · rw [Vl.bs_some e2 e3]; exact Dk.le_sum e3
theorem WI.bylen (h : WI B w x S b z) (s : Int) : (Vl.by' S.D (vname s)).length ≤ 100000 := by
  have h1 := h.ac.sum
  have h2 := h.bb
  have := Vl.by_le h.vd.ok (vname s)
  omega
theorem Vl.getR_sub (segs : List Int) (bs : List Nat) (q : Po.P) : (Vl.getR segs bs q).1.length ≤ bs.length ∧ ∀ y ∈ (Vl.getR segs bs q).1, y ∈ bs := by
  have h0 : ∀ c : Nat, (([], c) : List Nat × Nat).1.length ≤ bs.length ∧ ∀ y ∈ (([], c) : List Nat × Nat).1, y ∈ bs := fun c => ⟨Nat.zero_le _, fun y hy => by cases hy⟩
  unfold Vl.getR
  split
  · rename_i h1
    split
    · unfold Sg.value
      rw [if_pos h1]
      split
      · exact h0 3
      · split
        · exact ⟨by rw [List.length_take, List.length_drop]; omega, fun y hy => List.mem_of_mem_drop (List.mem_of_mem_take hy)⟩
        · exact h0 3
    · exact h0 3
  · exact h0 1
theorem WI.get' (h : WI B w x S b z) (q : Po.P) (R : List Nat) (hR : Vl.RefB S.segs S.vals q.1 R) : Vl.get S.D S.segs q = Vl.getR S.segs R q := by
  unfold Vl.get Vl.getR
  by_cases h1 : Po.may q = true
  · rw [if_pos h1, if_pos h1]
    by_cases h2 : S.segs.contains q.1 = true
    · rw [if_pos h2, if_pos h2, h.by' q.1 h2 R hR]
    · rw [if_neg h2, if_neg h2]
  · rw [if_neg h1, if_neg h1]
theorem world_cells {W : World} {g : Nat} {c0 c1 c2 c3 c4 : Value} (h : W.heap[g]? = some (.cells #[c0, c1, c2, c3, c4] 37 (0, 0))) : W.cell? ⟨g, 0, none⟩ = some c0 ∧ W.cell? ⟨g, 1, none⟩ = some c1 ∧ W.cell? ⟨g, 2, none⟩ = some c2 ∧ W.cell? ⟨g, 3, none⟩ = some c3 ∧ W.cell? ⟨g, 4, none⟩ = some c4 ∧ ∀ i, W.frozen? ⟨g, i, none⟩ = false :=
  ⟨(Go.Joins.cell_of_block h 0).trans rfl, (Go.Joins.cell_of_block h 1).trans rfl, (Go.Joins.cell_of_block h 2).trans rfl, (Go.Joins.cell_of_block h 3).trans rfl, (Go.Joins.cell_of_block h 4).trans rfl, fun i => Go.Joins.unfrozen_of_block h i⟩
set_option maxRecDepth 100000 in
set_option maxHeartbeats 1000000 in
theorem wget_any (h : WI B w x S b z) (q : Po.P) (hq : Po.Fits q) :
    Calls Tryz.prog 29 #[.pointer (some ⟨x, 0, none⟩), pv q] w fun e w' => e = .returned (.bool true) ∧ Below w.heap.size w w' := by
  obtain ⟨bs, hbs⟩ := Vl.RefB.ex S.segs S.vals q.1
  have hge := h.get' q bs hbs
  have hn := h.n'
  have hg := fun W (hb : Below w.heap.size w W) => vget_any (h.keep hb).lg (h.keep hb).vd q hq h.ac.live.dead (h.bylen q.1)
  have hr := fun W (hb : Below w.heap.size w W) => vrefget_any (h.keep hb).rl (h.keep hb).B' (by omega) h.some q hq bs hbs _ rfl
  rw [hge] at hg
  have hs0 := Vl.getR_sub S.segs bs q
  have hlen := hbs.len h.rl.len h.some
  have hsm := hbs.small h.rl.len h.some
  have hblk : ∀ W, Below w.heap.size w W → W.heap[x]? = some (.cells #[.pointer (some ⟨S.p, 0, none⟩), .pointer (some ⟨S.m, 0, none⟩), .slice S.sa S.n S.sc, .slice S.va S.n S.vc, .slice S.ta S.tn S.tc] 37 (0, 0)) := fun W hW => (h.keep hW).blk
  clear h hge hbs hn
  obtain ⟨p, m, a, n, c, sa, sc, va, vc, ta, tn, tc, segs, vals, told, D⟩ := S
  simp only at hg hr hblk hs0
  generalize Vl.getR segs bs q = R at *
  obtain ⟨V, E⟩ := R
  simp only at hs0
  have hV8 : ∀ y ∈ V, y < 256 := fun y hy => hsm y (hs0.2 y hy)
  have hVl : V.length ≤ 100000 := Nat.le_trans hs0.1 hlen
  clear hs0 hsm hlen
  obtain ⟨q0, q1, q2, q3⟩ := q
  have b0 := below_alloc w (.cells #[.int .i64 q0, .int .i64 q1, .int .i64 q2, .int .u32 (q3 : Nat)] 42)
  have g0 := heap_alloc_new w (.cells #[.int .i64 q0, .int .i64 q1, .int .i64 q2, .int .u32 (q3 : Nat)] 42)
  have hqc : ∀ W, Below (w.heap.size + 1) (w.alloc (.cells #[.int .i64 q0, .int .i64 q1, .int .i64 q2, .int .u32 (q3 : Nat)] 42)) W → W.cell? ⟨w.heap.size, 0, none⟩ = some (.int .i64 q0) ∧ W.cell? ⟨w.heap.size, 1, none⟩ = some (.int .i64 q1) ∧ W.cell? ⟨w.heap.size, 2, none⟩ = some (.int .i64 q2) ∧ W.cell? ⟨w.heap.size, 3, none⟩ = some (.int .u32 (q3 : Nat)) := fun W hW => by
    have := (hW.block w.heap.size (by omega)).trans g0
    exact ⟨(Go.Joins.cell_of_block this 0).trans rfl, (Go.Joins.cell_of_block this 1).trans rfl, (Go.Joins.cell_of_block this 2).trans rfl, (Go.Joins.cell_of_block this 3).trans rfl⟩
  obtain ⟨p0, p1, p2, p3⟩ := hqc _ (Below.refl _ _)
  obtain ⟨x0, x1, x2, x3, x4, _⟩ := world_cells (hblk _ b0)
  have HB : Hid (∀ W, Below w.heap.size w W → W.heap[x]? = some (.cells #[.pointer (some ⟨p, 0, none⟩), .pointer (some ⟨m, 0, none⟩), .slice sa n sc, .slice va n vc, .slice ta tn tc] 37 (0, 0))) := hblk
  have HC : Hid (∀ W, Below (w.heap.size + 1) (w.alloc (.cells #[.int .i64 q0, .int .i64 q1, .int .i64 q2, .int .u32 (q3 : Nat)] 42)) W → W.cell? ⟨w.heap.size, 0, none⟩ = some (.int .i64 q0) ∧ W.cell? ⟨w.heap.size, 1, none⟩ = some (.int .i64 q1) ∧ W.cell? ⟨w.heap.size, 2, none⟩ = some (.int .i64 q2) ∧ W.cell? ⟨w.heap.size, 3, none⟩ = some (.int .u32 (q3 : Nat))) := hqc
  have hby := fun W a1 c1 a2 c2 (h1 : Row .u8 W a1 V.length V) (h2 : Row .u8 W a2 V.length V) => bytes_any a1 V.length c1 V a2 V.length c2 V W h1 h2
  have hE : ((E : Int) == (E : Int)) = true := by simp
  clear hblk hqc g0
  simp only [pv] at hg hr ⊢
  obtain ⟨W0, hW0⟩ : ∃ W0, W0 = w.alloc (.cells #[.int .i64 q0, .int .i64 q1, .int .i64 q2, .int .u32 (q3 : Nat)] 42) := ⟨_, rfl⟩
  have bW0 : Below w.heap.size w W0 := hW0 ▸ b0
  have st : Hid (∀ W, Below W0.heap.size W0 W → Below (w.heap.size + 1) (w.alloc (.cells #[.int .i64 q0, .int .i64 q1, .int .i64 q2, .int .u32 (q3 : Nat)] 42)) W) := (fun W hW => by rw [hW0] at hW; exact hW.mono (by simp) : ∀ W, Below W0.heap.size W0 W → _)
  go_enter Tryz.func29, Tryz.ntmps29
  go_wp2_with fail
  rw [← hW0]
  rw [← hW0] at p0 p1 p2 p3 x0 x1 x2 x3 x4
  have bW1 : ∀ W, Below W0.heap.size W0 W → Below w.heap.size w W := fun W hW => bW0.trans (hW.mono bW0.size)
  clear b0 hW0
  go_region_held3 (fun W => W.cell? ⟨x, 1, none⟩ = some (.pointer (some ⟨m, 0, none⟩)) ∧ W.cell? ⟨w.heap.size, 0, none⟩ = some (.int .i64 q0) ∧ W.cell? ⟨w.heap.size, 1, none⟩ = some (.int .i64 q1) ∧ W.cell? ⟨w.heap.size, 2, none⟩ = some (.int .i64 q2) ∧ W.cell? ⟨w.heap.size, 3, none⟩ = some (.int .u32 (q3 : Nat))) (first | go_keep | (refine ⟨?_, ?_, ?_, ?_, ?_⟩ <;> assumption))
    (first
      | (go_at_call 20; (with_reducible refine vworld W0.drew ?_); refine (hg _ (bd1 bW0)).mono ?_; rintro e w1 ⟨a1, c1, rfl, ho1, hb1'⟩; have hb1 : Below W0.heap.size W0 w1 := below_of_drew hb1'; obtain ⟨r0, r1, r2, r3⟩ := HC.out w1 (st.out w1 hb1); obtain ⟨y0, y1, y2, y3, y4, _⟩ := world_cells (HB.out w1 (bW1 w1 hb1))))
  go_wp2_with fail
  go_region_held3 (fun W => W.cell? ⟨x, 2, none⟩ = some (.slice sa n sc) ∧ W.cell? ⟨x, 3, none⟩ = some (.slice va n vc) ∧ W.cell? ⟨w.heap.size, 0, none⟩ = some (.int .i64 q0) ∧ W.cell? ⟨w.heap.size, 1, none⟩ = some (.int .i64 q1) ∧ W.cell? ⟨w.heap.size, 2, none⟩ = some (.int .i64 q2) ∧ W.cell? ⟨w.heap.size, 3, none⟩ = some (.int .u32 (q3 : Nat))) (first | go_keep | (refine ⟨?_, ?_, ?_, ?_, ?_, ?_⟩ <;> assumption))
    (first
      | (go_at_call 63; (with_reducible refine vworld w1.drew ?_); refine (hr _ (bd1 (bW1 w1 hb1))).mono ?_; rintro e w2 ⟨a2, c2, rfl, ho2, hb2'⟩; have hb2 : Below w1.heap.size w1 w2 := below_of_drew hb2'; have hb02 := hb1.trans (hb2.mono hb1.size); obtain ⟨s0, s1, s2, s3⟩ := HC.out w2 (st.out w2 hb02); obtain ⟨z0, z1, z2, z3, z4, _⟩ := world_cells (HB.out w2 (bW1 w2 hb02))))
  have hro1 := row_of_owns (owns_below ho1 hb2) hV8 (by omega)
  have hro2 := row_of_owns ho2 hV8 (by omega)
  have hbb := hby w2 a1 c1 a2 c2 hro1.1 hro2.1
  simp only [decide_true] at hbb
  have hlast := bW1 w2 hb02
  clear hg hr HB HC st hby hro1 hro2
  go_wp2_with (go_at_call 21; go_must (refine hbb.mono ?_; rintro e w3 ⟨rfl, nn, hw3⟩))
  go_ret
  exact ⟨rfl, bdr hlast nn⟩
end
end Go.Proofs.YtnoknmnbfkdccaaGreatDoor

/- Walk in the law's world. -/
namespace Go.Proofs.YtnoknmnbfkdccaaGreatDoor
open Go.RowKit Go.Shelf

theorem Sg.pts_fits (s : Int) (hs : -9223372036854775808 ≤ s ∧ s ≤ 9223372036854775807) : ∀ (vs : List (List Nat)) (at' : Nat), (∀ v ∈ vs, ∀ x ∈ v, x < 256) → at' + (Sg.put vs).length ≤ 1000000000 → ∀ p ∈ Sg.pts s at' vs, Po.Fits p
  | [], _, _, _, p, hp => by simp [Sg.pts] at hp
  | v :: vs, at', hx, hl, p, hp => by
    rw [Sg.put_cons, List.length_append, Fr.put1_len] at hl
    have hsz : Fr.size v.length = (Va.one v.length).length + 1 + v.length + 4 := rfl
    rcases List.mem_cons.mp hp with rfl | hp
    · refine ⟨hs, ?_, ?_, Crc.more_lt _ (by omega) (hx v (by simp))⟩
      · show _ ≤ ((at' + Sg.head v.length : Nat) : Int) ∧ ((at' + Sg.head v.length : Nat) : Int) ≤ _
        unfold Sg.head; omega
      · show _ ≤ ((v.length : Nat) : Int) ∧ ((v.length : Nat) : Int) ≤ _
        omega
    · exact Sg.pts_fits s hs vs _ (fun u hu => hx u (by simp [hu])) (by omega) p hp
theorem Sg.put_mem {v : List Nat} {vs : List (List Nat)} (h : v ∈ vs) : ∀ x ∈ v, x ∈ Sg.put vs := by
  have h1 : ((2 : Int), v) ∈ Sg.fr vs := by simp only [Sg.fr, List.mem_map]; exact ⟨v, h, rfl⟩
  exact (Fr.one_le_all h1).2
theorem Sg.walk_small {bs : List Nat} (h : ∀ x ∈ bs, x < 256) : ∀ v ∈ (Sg.walk bs).1, ∀ x ∈ v, x < 256 := fun _ hv x hx =>
  h x ((Sg.take_all bs).subset (Sg.put_mem hv x hx))
theorem Sg.walk_fits (s : Int) (hs : -9223372036854775808 ≤ s ∧ s ≤ 9223372036854775807) {bs : List Nat} (h : ∀ x ∈ bs, x < 256) (hb : bs.length ≤ 100000) : ∀ p ∈ Sg.pts s 0 (Sg.walk bs).1, Po.Fits p :=
  Sg.pts_fits s hs _ 0 (Sg.walk_small h) (by have := Sg.walk_le bs; rw [Sg.walk_end] at this; omega)
theorem Vl.RefB.wlen {segs : List Int} {vals : List (List (List Nat))} {s : Int} {R : List Nat} (h : Vl.RefB segs vals s R) (hL : vals.length = segs.length) (hS : Vl.Some' vals) : (Sg.walk R).1.length ≤ 1000 := by
  rcases h with ⟨rfl, _⟩ | ⟨i, h1, rfl, _⟩
  · have : Sg.walk (Sg.put []) = ([], (Sg.put []).length) := Sg.walk_all (fun y hy => by cases hy)
    rw [show ([] : List Nat) = Sg.put [] from rfl, this]; simp
  · rw [Sg.walk_all (hS.small _ (Vl.getD_mem' [] (by omega)))]
    exact hS.cnt _ (Vl.getD_mem' [] (by omega))
section
variable {B : Nat} {w : World} {x b z : Nat} {S : WS}
set_option maxRecDepth 100000 in
set_option maxHeartbeats 2000000 in
theorem wwalk_any (h : WI B w x S b z) (s : Int) (hs : -9223372036854775808 ≤ s ∧ s ≤ 9223372036854775807) :
    Calls Tryz.prog 30 #[.pointer (some ⟨x, 0, none⟩), .int .i64 s] w fun e w' => e = .returned (.bool true) ∧ Below w.heap.size w w' := by
  obtain ⟨BS, hbs⟩ := Vl.RefB.ex S.segs S.vals s
  have hn := h.n'
  have hlen := hbs.len h.rl.len h.some
  have hsm := hbs.small h.rl.len h.some
  have hwl := hbs.wlen h.rl.len h.some
  have hgw := fun W (hb : Below w.heap.size w W) => vwalk_any (h.keep hb).lg (h.keep hb).vd s hs (h.bylen s) h.ac.live.dead
  have hby := fun W (hb : Below w.heap.size w W) => vrefbytes_any (h.keep hb).rl (h.keep hb).B' (by omega) h.some s BS hbs
  have hblk : Hid (∀ W, Below w.heap.size w W → W.heap[x]? = some (.cells #[.pointer (some ⟨S.p, 0, none⟩), .pointer (some ⟨S.m, 0, none⟩), .slice S.sa S.n S.sc, .slice S.va S.n S.vc, .slice S.ta S.tn S.tc] 37 (0, 0))) := (fun W hW => (h.keep hW).blk : ∀ W, Below w.heap.size w W → _)
  have hsr : ∀ W, Below w.heap.size w W → ZRow W S.sa S.n S.segs := fun W hW => (h.keep hW).rl.sr
  have hwk := fun W A C (ho : W.ownsRow w.heap.size 5 1 (.slice A BS.length C) BS.length (kcells .u8 BS)) => refwalk19_any s A BS.length C BS W hlen (by
    rcases ho.2 with ⟨e, h0⟩ | ⟨g, cap, cur, e, _, _, hle, _⟩
    · exact .inl ⟨h0, by simp only [Value.slice.injEq] at e; exact e.2.2⟩
    · simp only [Value.slice.injEq] at e
      obtain ⟨rfl, _, rfl⟩ := e
      exact .inr ⟨g, 0, rfl, hle⟩) (row_of_owns ho hsm (by omega)).1
  cases hc : S.segs.contains s with
  | true =>
    have hb' := h.by' s hc BS hbs
    have hsz := fun W (hb : Below w.heap.size w W) => vsize_any (h.keep hb).lg (h.keep hb).vd s hs BS.length (by rw [hc, if_pos rfl, hb'])
    obtain ⟨i, hi, hne⟩ : ∃ i, i < S.segs.length ∧ S.segs.getD i 0 = s := by
      obtain ⟨j, hj, e⟩ := List.getElem_of_mem (show s ∈ S.segs by simpa using hc)
      exact ⟨j, hj, by simp [hj, e]⟩
    unfold Vl.pts at hgw
    rw [hc, if_pos rfl, ← hb'] at hgw
    clear h hb' hbs hc
    obtain ⟨p, m, a, n, c, sa, sc, va, vc, ta, tn, tc, segs, vals, told, D⟩ := S
    simp only at hgw hby hblk hsr hsz hn hi hne
    have hsl : Hid (segs.length = n) := hn.1
    obtain ⟨L, hL⟩ : ∃ L, L = Sg.pts s 0 (Sg.walk BS).1 := ⟨_, rfl⟩
    have hgw2 : ∀ W, Below w.heap.size w W → Calls Tryz.prog 22 #[.pointer (some ⟨m, 0, none⟩), .int .i64 s] W (PtsRes W (L, 0)) := by rw [hL]; exact hgw
    have hwk2 : ∀ W A C, W.ownsRow w.heap.size 5 1 (.slice A BS.length C) BS.length (kcells .u8 BS) → Calls Tryz.prog 61 #[.int .i64 s, .slice A BS.length C] W (SWalkRes W (L, (Sg.walk BS).2)) := by rw [hL]; exact hwk
    have hLl : L.length ≤ 1000 := by rw [hL, Sg.pts_length]; exact hwl
    have hfit : ∀ q ∈ L, Po.Fits q := by rw [hL]; exact Sg.walk_fits s hs hsm hlen
    have hsame := fun W a1 c1 a2 c2 h1 h2 => psame_any a1 L.length c1 L a2 L.length c2 L W h1 h2 rfl
    clear hgw hwk hL hwl
    obtain ⟨x0, x1, x2, x3, x4, _⟩ := world_cells (hblk.out w (Below.refl _ _))
    go_enter Tryz.func30, Tryz.ntmps30
    go_wp2_with (first
      | (go_at_call 22; go_must (refine (hgw2 _ (Below.refl _ _)).mono ?_; rintro e w1 ⟨a1, c1, rfl, ho1, hb1⟩; obtain ⟨y0, y1, y2, y3, y4, _⟩ := world_cells (hblk.out w1 hb1)))
      | (go_at_call 62; go_must (refine (hby _ hb1).mono ?_; rintro e w2 ⟨A2, C2, rfl, ho2, hb2⟩; have hb02 := hb1.trans (hb2.mono hb1.size); obtain ⟨z0, z1, z2, z3, z4, _⟩ := world_cells (hblk.out w2 hb02)))
      | (go_at_call 25; go_must (refine (hsz _ hb02).mono ?_; rintro e w3 ⟨rfl, hb3⟩; have hb03 := hb02.trans (hb3.mono hb02.size); obtain ⟨v0, v1, v2, v3, v4, _⟩ := world_cells (hblk.out w3 hb03))))
    have hne2 : Hid (segs.getD i 0 = s) := hne
    have hsr3 := hsr w3 hb03
    have hin : i < n := by have := hsl.out; omega
    go_loop [8] (fun v8 => ∃ k : Nat, k ≤ i ∧ v8 = .int .i64 k) (fun v8 => n - (RowKit.intOf v8).toNat)
    case atStart => exact ⟨0, by omega, rfl⟩
    case round =>
      obtain ⟨k, hk, rfl⟩ := hrel
      obtain ⟨b', off, y, rfl, hy, q0⟩ := zget hsr3 (Below.refl _ _) (show k < n by omega)
      have i0 : (0 : Int) ≤ (k : Int) := by omega
      have i1 : (k : Int) < (n : Int) := by omega
      have i2 : k < n := by omega
      by_cases hxy : y = s
      · have d : (y == s) = true := by simpa using hxy
        clear hy hxy
        go_wp2_with (first
          | (go_at_call 61; go_must (refine (hwk2 _ A2 C2 (owns_below (ho2.mono hb1.size) hb3)).mono ?_; rintro e w4 ⟨a4, c4, rfl, ho4, hb4⟩))
          | (have := ho4; go_at_call 64; go_must (refine (hsame _ a1 c1 a4 c4 (prow_of_owns (owns_below (owns_below (owns_below ho1 hb2) hb3) hb4) hfit (by omega)).1 (prow_of_owns ho4 hfit (by omega)).1).mono ?_; rintro e w5 ⟨rfl, nn, hw5⟩)))
        go_ret
        exact ⟨rfl, bdr (hb03.trans (hb4.mono hb03.size)) nn⟩
      · have d : (y == s) = false := by simpa using hxy
        have hki : k < i := by
          rcases Nat.lt_or_ge k i with h' | h'
          · exact h'
          · have : k = i := by omega
            subst this; exact absurd (hy.out.symm.trans hne2.out) hxy
        clear hy hxy
        go_wp2
        go_round
        case rel => exact ⟨k + 1, by omega, by go_num⟩
        case measure => simp [RowKit.intOf]; omega
  | false =>
    have hsz := fun W (hb : Below w.heap.size w W) => vsize_any (h.keep hb).lg (h.keep hb).vd s hs 0 (by rw [hc, if_neg (by simp)])
    have hne : ∀ j, j < S.segs.length → S.segs.getD j 0 ≠ s := fun j hj e => by
      have : s ∈ S.segs := by rw [← e]; exact Vl.getD_mem' 0 hj
      have h2 : S.segs.contains s = true := by simpa using this
      rw [hc] at h2; cases h2
    have hB0 : BS = [] := by
      rcases hbs with ⟨h', _⟩ | ⟨i, h1, _, h3, _⟩
      · exact h'
      · exact absurd h3 (hne i h1)
    unfold Vl.pts at hgw
    rw [hc, if_neg (by simp)] at hgw
    subst hB0
    clear h hbs hc hwk hwl
    obtain ⟨p, m, a, n, c, sa, sc, va, vc, ta, tn, tc, segs, vals, told, D⟩ := S
    simp only at hgw hby hblk hsr hsz hn hne
    have hsl : Hid (segs.length = n) := hn.1
    have HNE : Hid (∀ j, j < segs.length → segs.getD j 0 ≠ s) := hne
    have hgw2 : ∀ W, Below w.heap.size w W → Calls Tryz.prog 22 #[.pointer (some ⟨m, 0, none⟩), .int .i64 s] W fun e w' => ∃ a' c', e = .returned (.tuple #[.slice a' 0 c', .int .i64 3]) ∧ Below W.heap.size W w' := fun W hW => (hgw W hW).mono fun e w' ⟨a', c', he, _, hb⟩ => ⟨a', c', he, hb⟩
    have hby2 : ∀ W, Below w.heap.size w W → Calls Tryz.prog 62 #[.agg #[.slice sa n sc, .slice va n vc], .int .i64 s] W fun e w' => ∃ A C, e = .returned (.slice A 0 C) ∧ Below W.heap.size W w' := fun W hW => (hby W hW).mono fun e w' ⟨a', c', he, _, hb⟩ => ⟨a', c', he, hb⟩
    obtain ⟨x0, x1, x2, x3, x4, _⟩ := world_cells (hblk.out w (Below.refl _ _))
    clear hgw hby hne
    go_enter Tryz.func30, Tryz.ntmps30
    go_wp2_with (first
      | (go_at_call 22; go_must (refine (hgw2 _ (Below.refl _ _)).mono ?_; rintro e w1 ⟨a1, c1, rfl, hb1⟩; obtain ⟨y0, y1, y2, y3, y4, _⟩ := world_cells (hblk.out w1 hb1)))
      | (go_at_call 62; go_must (refine (hby2 _ hb1).mono ?_; rintro e w2 ⟨A2, C2, rfl, hb2⟩; have hb02 := hb1.trans (hb2.mono hb1.size); obtain ⟨z0, z1, z2, z3, z4, _⟩ := world_cells (hblk.out w2 hb02)))
      | (go_at_call 25; go_must (refine (hsz _ hb02).mono ?_; rintro e w3 ⟨rfl, hb3⟩; have hb03 := hb02.trans (hb3.mono hb02.size); obtain ⟨v0, v1, v2, v3, v4, _⟩ := world_cells (hblk.out w3 hb03))))
    have hsr3 := hsr w3 hb03
    go_loop [8] (fun v8 => ∃ k : Nat, k ≤ n ∧ v8 = .int .i64 k) (fun v8 => n - (RowKit.intOf v8).toNat)
    case atStart => exact ⟨0, by omega, rfl⟩
    case round =>
      obtain ⟨k, hk, rfl⟩ := hrel
      by_cases hlt : k < n
      · obtain ⟨b', off, y, rfl, hy, q0⟩ := zget hsr3 (Below.refl _ _) hlt
        have i0 : (0 : Int) ≤ (k : Int) := by omega
        have i1 : (k : Int) < (n : Int) := by omega
        have hxy : y ≠ s := fun e => HNE.out k (by rw [hsl.out]; exact hlt) (hy.out.trans e)
        have d : (y == s) = false := by simpa using hxy
        clear hy hxy
        go_wp2
        go_round
        case rel => exact ⟨k + 1, by omega, by go_num⟩
        case measure => simp [RowKit.intOf]; omega
      · obtain rfl : k = n := by omega
        go_wp2
        go_ret
        exact ⟨rfl, hb03⟩
end
end Go.Proofs.YtnoknmnbfkdccaaGreatDoor
