/- The program's tables: Open; all that is asked of tables. -/
import Derived.Test.YtikieblokfjphaaGreatTPa
import Derived.Test.YtikieblokfjphaaGreatTQf
import Derived.Test.YtikieblokfjphaaGreatTP5
namespace Go.Proofs.YtikieblokfjphaaGreat
open Go.RowKit Go.Shelf

theorem Tb.ixp_small : ∀ (ps : List (List It.I)) (pl : List Nat), (∀ p ∈ ps, ∀ b ∈ Tb.firstKey p, b < 256) → ∀ b ∈ Tb.ixp pl ps, b < 256
  | [], _, _, b, hb => by simp [Tb.ixp] at hb
  | p :: ps, pl, h, b, hb => by
    simp only [Tb.ixp, List.mem_append] at hb
    rcases hb with hb | hb | hb | hb
    · exact Va.one_small _ b hb
    · exact h p List.mem_cons_self b hb
    · exact Va.one_small _ b hb
    · exact Tb.ixp_small ps _ (fun q hq => h q (List.mem_cons_of_mem _ hq)) b hb
theorem Tb.ixp_len : ∀ (ps : List (List It.I)) (pl : List Nat), (∀ p ∈ ps, (Tb.firstKey p).length ≤ 64) → (∀ x ∈ pl, x ≤ 1000000000000) → (Tb.ixp pl ps).length ≤ 84 * ps.length
  | [], _, _, _ => by simp [Tb.ixp]
  | p :: ps, pl, h, hp => by
    have i1 := Tb.ixp_len ps (pl.drop 1) (fun q hq => h q (List.mem_cons_of_mem _ hq)) (fun x hx => hp x (List.mem_of_mem_drop hx))
    have i2 := h p List.mem_cons_self
    have i3 : pl.getD 0 0 ≤ 1000000000000 := by
      cases pl with
      | nil => simp
      | cons x pl => exact hp x (by simp)
    have l1 := Va.one_len10 (u := (Tb.firstKey p).length) (by omega)
    have l2 := Va.one_len10 (u := pl.getD 0 0) (by omega)
    simp only [Tb.ixp, List.length_append, List.length_cons]
    omega
theorem fat_own {w : World} {b o B : Nat} {f : Fr.F} {A : Option Addr} {C : Nat} (h0 : w.cell? ⟨b, o, none⟩ = some (.int .i64 f.1)) (h1 : w.cell? ⟨b, o + 1, none⟩ = some (.slice A f.2.length C)) (ho : w.ownsRow B 5 1 (.slice A f.2.length C) f.2.length (kcells .u8 f.2)) (hs : ∀ x ∈ f.2, x < 256) (hl : f.2.length ≤ 1000000000) (hf : -9223372036854775808 ≤ f.1 ∧ f.1 ≤ 9223372036854775807) : FAt w b o f := by
  obtain ⟨r1, r2, _⟩ := row_of_owns ho hs (by omega)
  exact ⟨A, f.2.length, C, h0, h1, r1, (own_shape2 ho).1, r2, hf.1, hf.2⟩
theorem tail_frow {w w' : World} {g : Nat} {f1 f2 f3 : List Nat} {a1 a2 a3 : Option Addr} {c1 c2 c3 : Nat} (h : Tail3 w w' g f1 f2 f3 a1 a2 a3 c1 c2 c3) (s1 : ∀ x ∈ f1, x < 256) (s2 : ∀ x ∈ f2, x < 256) (s3 : ∀ x ∈ f3, x < 256) (l1 : f1.length ≤ 1000000000) (l2 : f2.length ≤ 1000000000) (l3 : f3.length ≤ 1000000000) : FRow w' (some ⟨g, 0, none⟩) 3 [(2, f1), (3, f2), (4, f3)] := by
  have hc : ∀ i, w'.cell? ⟨g, i, none⟩ = _ := fun i => Go.Joins.cell_of_block h.box i
  refine ⟨rfl, by omega, .inr ⟨g, 0, rfl, fun i hi => ?_⟩⟩
  match i, hi with
  | 0, _ => exact fat_own (f := ((2 : Int), f1)) ((hc 0).trans rfl) ((hc 1).trans rfl) h.o1 s1 l1 (by simp)
  | 1, _ => exact fat_own (f := ((3 : Int), f2)) ((hc 2).trans rfl) ((hc 3).trans rfl) h.o2 s2 l2 (by simp)
  | 2, _ => exact fat_own (f := ((4 : Int), f3)) ((hc 4).trans rfl) ((hc 5).trans rfl) h.o3 s3 l3 (by simp)
/-- a table, or none, is told -/
def OpRes (w : World) (o : Option (List (List It.I))) (e : Ending) (w' : World) : Prop :=
  (o = none ∧ e = .returned (.tuple #[.pointer none, .int .i64 2]) ∧ Below w.heap.size w w') ∨ ∃ R p, o = some R ∧ e = .returned (.tuple #[.pointer (some p), .int .i64 0]) ∧ TbT w' p (Tb.joined R) ∧ Below w.heap.size w w'
theorem Tb.pget_few {bs : List Nat} (h : (Fr.scan bs).2.2 < bs.length ∨ (Fr.scan bs).1.length < 4) : Tb.pget bs = none := by unfold Tb.pget; rw [if_pos h]
theorem Tb.pget_parts {bs : List Nat} (h : ¬ ((Fr.scan bs).2.2 < bs.length ∨ (Fr.scan bs).1.length < 4)) (hp : Tb.pparts ((Fr.scan bs).1.take ((Fr.scan bs).1.length - 3)) [] [] = none) : Tb.pget bs = none := by unfold Tb.pget; rw [if_neg h, hp]
theorem Tb.pget_at {bs : List Nat} {R : List (List It.I)} (h : ¬ ((Fr.scan bs).2.2 < bs.length ∨ (Fr.scan bs).1.length < 4)) (hp : Tb.pparts ((Fr.scan bs).1.take ((Fr.scan bs).1.length - 3)) [] [] = some R) : Tb.pget bs = if Tb.tailp ((Fr.scan bs).2.1.take ((Fr.scan bs).1.length - 3)) R = (Fr.scan bs).1.drop ((Fr.scan bs).1.length - 3) then some R else none := by unfold Tb.pget; rw [if_neg h, hp]
/-- a table that was just laid -/
theorem tb_laid {w w3 w4 w5 : World} {b lc m g : Nat} {lla : Option Addr} {ps : List PH} {gss : List (List IH)} {R : List (List It.I)} {f1 f3 : List Nat} {a1 a2 a3 : Option Addr} {c1 c2 c3 : Nat} (hP : PsAt w3 b lla m lc ps gss R) (h3 : Tail3 w3 w4 g f1 (Sv.of ((Tb.joined R).map (fun x => x.1))) f3 a1 a2 a3 c1 c2 c3) (hb : Below w4.heap.size w4 w5) (hw : Tb.Whole R) (hne : R ≠ []) (hbw : Below w.heap.size w w5) :
    TbT (w5.alloc (.cells #[.slice lla m lc, .int .i64 ((Tb.joined R).length : Nat), .slice a2 (Sv.of ((Tb.joined R).map (fun x => x.1))).length c2] 57)) ⟨w5.heap.size, 0, none⟩ (Tb.joined R) ∧ Below w.heap.size w (w5.alloc (.cells #[.slice lla m lc, .int .i64 ((Tb.joined R).length : Nat), .slice a2 (Sv.of ((Tb.joined R).map (fun x => x.1))).length c2] 57)) := by
  have hfew := hw.few
  have h5 := (hP.below h3.below (Nat.le_refl _)).below hb (Nat.le_refl _)
  have o2 := (owns_below h3.o2 hb).alloc (.cells #[.slice lla m lc, .int .i64 ((Tb.joined R).length : Nat), .slice a2 (Sv.of ((Tb.joined R).map (fun x => x.1))).length c2] 57)
  obtain ⟨r1, r2, r3⟩ := row_of_owns o2 (fun x hx => by
    obtain ⟨i, _, rfl⟩ := List.mem_map.mp hx
    exact Sv.byte_lt _ _ _) (by rw [Sv.of_length, List.length_map]; unfold Sv.size; omega)
  refine ⟨⟨w5.heap.size, lla, m, lc, ps, gss, R, a2, _, c2, rfl, rfl, ⟨⟨(cell_new _ _ _ 0).trans rfl, (cell_new _ _ _ 1).trans rfl, h5.inp.below (below_alloc _ _) (Nat.le_refl _), h5.le⟩, hw, hne, (cell_new _ _ _ 2).trans rfl, r1, r2, r3⟩⟩, hbw.alloc hbw.size _⟩

set_option maxRecDepth 100000 in
set_option maxHeartbeats 1000000 in
theorem topen_few (a : Option Addr) (n c : Nat) (bs : List Nat) (w : World) (hn : n ≤ 100000) (hsh : Shape a n c) (hr : Row .u8 w a n bs) (h : (Fr.scan bs).2.2 < bs.length ∨ (Fr.scan bs).1.length < 4) :
    Calls Tryz.prog 5 #[.slice a n c] w (OpRes w (Tb.pget bs)) := by
  have hlen := hr.1
  have hsc := scan_any a n c bs w hn hsh hr
  rw [Tb.pget_few h]
  obtain ⟨i1, i2, -⟩ := Fr.scan_inv bs
  have hcount := Fr.all_count (Fr.scan bs).1
  rw [i2, List.length_take] at hcount
  rw [hlen] at h i1
  generalize Fr.scan bs = S at *
  obtain ⟨fs, pl, sz⟩ := S
  simp only at h i1 hcount
  unfold ScanRes at hsc
  simp only at hsc
  generalize fs.length = NF at *
  have j1 : IntKind.i64.wrap ((NF : Int) - 3) = (NF : Int) - 3 := by rw [IntKind.wrap_i64]; omega
  clear i2 hcount
  by_cases hA : sz < n
  · have d1 : decide ((sz : Int) < (n : Int)) = true := by simp; omega
    go_enter Tryz.func5, Tryz.ntmps5
    go_wp2_with (go_at_call 11; go_must (refine hsc.mono ?_; rintro e w1 ⟨a1, c1, a2, c2, cs, rfl, o1, h1, p1, -, b1⟩))
    go_ret2
    exact .inl ⟨rfl, rfl, b1⟩
  · have hB : NF < 4 := by omega
    have d1 : decide ((sz : Int) < (n : Int)) = false := by simp; omega
    have d2 : decide ((NF : Int) - 3 < 1) = true := by simp; omega
    clear h
    go_enter Tryz.func5, Tryz.ntmps5
    go_wp2_with (go_at_call 11; go_must (refine hsc.mono ?_; rintro e w1 ⟨a1, c1, a2, c2, cs, rfl, o1, h1, p1, -, b1⟩))
    go_ret2
    exact .inl ⟨rfl, rfl, b1⟩
/-- what is known of frames that were scanned, at whatever world they lie -/
theorem scan_known (bs : List Nat) (n : Nat) (hn : n ≤ 100000) (hlen : bs.length = n) (hsmall : ∀ x ∈ bs, x < 256) : (∀ f ∈ (Fr.scan bs).1, f.2.length ≤ 100000 ∧ ∀ x ∈ f.2, x < 256) ∧ (∀ x ∈ (Fr.scan bs).2.1, x ≤ 1000000000000) ∧ (Fr.scan bs).1.length ≤ 16667 ∧ (Fr.scan bs).2.2 ≤ n := by
  obtain ⟨i1, i2, i3⟩ := Fr.scan_inv bs
  have hall : (Fr.all (Fr.scan bs).1).length ≤ 100000 := by rw [i2, List.length_take]; omega
  have hcount := Fr.all_count (Fr.scan bs).1
  refine ⟨fun f hf => ?_, fun x hx => ?_, by omega, by omega⟩
  · obtain ⟨g1, g2⟩ := Fr.one_le_all hf
    rw [i2] at g1 g2
    rw [List.length_take] at g1
    exact ⟨by omega, fun x hx => hsmall x (List.mem_of_mem_take (g2 x hx))⟩
  · rw [i3] at hx
    have := Fr.places_le _ _ x hx
    omega
theorem scan_frows {w W : World} {NF N c1 : Nat} {a1 : Option Addr} {fs : List Fr.F} {cs : List Value} (hNF : NF ≤ 16667) (h3 : NF - N = 3) (ho : W.ownsRow w.heap.size 54 2 (.slice a1 NF c1) NF cs) (hh : Held W w.heap.size fs cs) : ∃ b off, a1 = some ⟨b, off, none⟩ ∧ NF ≤ c1 ∧ FRow W (some ⟨b, off, none⟩) N (fs.take N) ∧ FRow W (some ⟨b, off + N * 2, none⟩) 3 (fs.drop N) := by
  obtain ⟨r1, r2, r3⟩ := frow_of_owns ho hh (by omega)
  obtain ⟨_, _, e, g1, g2⟩ := t_shape ho
  simp only [Value.slice.injEq, true_and] at e
  obtain ⟨rfl, rfl⟩ := e
  obtain ⟨b, off, rfl, -⟩ := r1.at (by omega)
  have r4 := r1.drop' N (by omega)
  rw [h3] at r4
  exact ⟨b, off, rfl, g2, r1.take' N (by omega), r4⟩
theorem scan_prow {w W : World} {NF N c2 : Nat} {a2 : Option Addr} {pl : List Nat} (hNF : NF ≤ 16667) (h3 : NF - N = 3) (hp : ∀ x ∈ pl, x ≤ 1000000000000) (ho : W.ownsRow w.heap.size 3 1 (.slice a2 NF c2) NF (kcells .i64 pl)) : ∃ b off, a2 = some ⟨b, off, none⟩ ∧ NF ≤ c2 ∧ Row .i64 W (some ⟨b, off, none⟩) N (pl.take N) := by
  obtain ⟨r1, r2, r3⟩ := row_of_owns ho (fun x hx => by have := hp x hx; show x < 18446744073709551616; omega) (by omega)
  obtain ⟨b, off, rfl, -⟩ := r1.at (by omega)
  exact ⟨b, off, rfl, r3, r1.take N (by omega)⟩

set_option maxRecDepth 100000 in
set_option maxHeartbeats 1000000 in
theorem topen_none (a : Option Addr) (n c : Nat) (bs : List Nat) (w : World) (hn : n ≤ 100000) (hsh : Shape a n c) (hr : Row .u8 w a n bs) (h : ¬ ((Fr.scan bs).2.2 < bs.length ∨ (Fr.scan bs).1.length < 4)) (hq : Tb.pparts ((Fr.scan bs).1.take ((Fr.scan bs).1.length - 3)) [] [] = none) :
    Calls Tryz.prog 5 #[.slice a n c] w (OpRes w (Tb.pget bs)) := by
  have hlen := hr.1
  have hsc := scan_any a n c bs w hn hsh hr
  rw [Tb.pget_parts h hq]
  obtain ⟨k1, k2, k3, k4⟩ := scan_known bs n hn hlen hr.2.2.1
  rw [hlen] at h
  generalize Fr.scan bs = S at *
  obtain ⟨fs, pl, sz⟩ := S
  simp only at h hq k1 k2 k3 k4
  unfold ScanRes at hsc
  simp only at hsc
  generalize fs.length = NF at *
  obtain ⟨N, hN⟩ : ∃ N, N = NF - 3 := ⟨_, rfl⟩
  rw [← hN] at hq
  have hA : ¬ (sz < n) := by omega
  have hN1 : ¬ (N < 1) := by omega
  have h3 : NF - N = 3 := by omega
  have d1 : decide ((sz : Int) < (n : Int)) = false := by simp; omega
  have j1 : IntKind.i64.wrap ((NF : Int) - 3) = (N : Int) := by rw [IntKind.wrap_i64]; omega
  have d2 : decide ((N : Int) < 1) = false := by simp; omega
  have e0 : (0 : Int) ≤ (N : Int) := by omega
  have e1 : (N : Int) ≤ (NF : Int) := by omega
  have hgp : ∀ (W : World) (a' : Option Addr) (c' : Nat), FRow W a' N (fs.take N) → Calls Tryz.prog 12 #[.slice a' N c'] W fun e w' => e = .returned (.tuple #[.agg #[.slice none 0 0, .int .i64 0], .int .i64 2]) ∧ Below W.heap.size W w' := fun W a' c' h => (tgetparts_any a' N c' (fs.take N) W h (by omega) (fun f hf => k1 f (List.mem_of_mem_take hf))).mono (fun e w' hres => by
    rcases hres with ⟨_, h1⟩ | ⟨R', h1, _⟩
    · exact h1
    · rw [hq] at h1; cases h1)
  clear h hq k1 k2 hN
  go_enter Tryz.func5, Tryz.ntmps5
  go_wp2_with (first
    | (go_at_call 11; go_must (refine hsc.mono ?_; rintro e w1 ⟨a1, c1, a2, c2, cs, rfl, o1, h1, p1, -, b1⟩; obtain ⟨fb, fo, rfl, hle1, fr1, fd1⟩ := scan_frows (N := N) k3 h3 o1 h1; have k5 : (N : Int) ≤ (c1 : Int) := (by omega)))
    | (go_at_call 12; go_must (refine (hgp _ _ _ fr1).mono ?_; rintro e w2 ⟨rfl, b2⟩; have hb2 := b1.trans (b2.mono b1.size))))
  go_ret2
  exact .inl ⟨rfl, rfl, hb2.alloc hb2.size _⟩
end Go.Proofs.YtikieblokfjphaaGreat

/- The program's tables: Open, parts being there; all that is asked of tables. -/
namespace Go.Proofs.YtikieblokfjphaaGreat
open Go.RowKit Go.Shelf

/-- what is known where parts are there -/
structure OpK (fs : List Fr.F) (pl : List Nat) (NF N : Nat) (R : List (List It.I)) : Prop where
  nf : NF ≤ 16667
  three : NF - N = 3
  pos : 1 ≤ N
  pls : ∀ x ∈ pl, x ≤ 1000000000000
  frs : ∀ f ∈ fs, f.2.length ≤ 100000 ∧ ∀ x ∈ f.2, x < 256
  whole : Tb.Whole R
  ne : R ≠ []
  len : R.length = N
  here : Tb.pparts (fs.take N) [] [] = some R
theorem OpK.get {fs : List Fr.F} {pl : List Nat} {NF N : Nat} {R : List (List It.I)} (h : OpK fs pl NF N R) (W : World) (a' : Option Addr) (c' : Nat) (hr : FRow W a' N (fs.take N)) : Calls Tryz.prog 12 #[.slice a' N c'] W fun e w' => ∃ la lc ps gss, e = .returned (.tuple #[.agg #[.slice la N lc, .int .i64 ((Tb.joined R).length : Nat)], .int .i64 0]) ∧ InP w' la N ps gss R ∧ N ≤ lc ∧ Below W.heap.size W w' :=
  (tgetparts_any a' N c' (fs.take N) W hr (by have := h.nf; have := h.three; omega) (fun f hf => h.frs f (List.mem_of_mem_take hf))).mono (fun e w' hres => by
    rcases hres with ⟨h0, _⟩ | ⟨R', h1, la, lc, ps, gss, e1, h2, h3, h4⟩
    · rw [h.here] at h0; cases h0
    · rw [h.here] at h1
      simp only [Option.some.injEq] at h1
      subst h1
      rw [h.len] at e1 h2 h3
      exact ⟨la, lc, ps, gss, e1, h2, h3, h4⟩)
theorem OpK.keys {fs : List Fr.F} {pl : List Nat} {NF N : Nat} {R : List (List It.I)} (h : OpK fs pl NF N R) : ∀ p ∈ R, p ≠ [] ∧ ∀ x ∈ p, x.1.length ≤ 64 := fun p hp => ⟨(h.whole.part p hp).1, fun x hx => (Bl.it_parts (((It.sorted_iff _).mp h.whole.up).1 x ((Tb.part_sub hp).mem hx))).2.1⟩
theorem OpK.tail {fs : List Fr.F} {pl : List Nat} {NF N : Nat} {R : List (List It.I)} (h : OpK fs pl NF N R) (W : World) (b' : Nat) (la : Option Addr) (lc : Nat) (ps : List PH) (gss : List (List IH)) (pa : Option Addr) (pc : Nat) (hP : PsAt W b' la N lc ps gss R) (hr : Row .i64 W pa N (pl.take N)) :
    Calls Tryz.prog 13 #[.pointer (some ⟨b', 0, none⟩), .slice pa N pc] W (TailRes W (Tb.ixp (pl.take N) R) (Sv.of ((Tb.joined R).map (fun x => x.1))) (Va.one (Tb.joined R).length)) :=
  ttail_any b' la N lc ps gss R pa pc (pl.take N) W hP h.keys h.whole.few (by have := h.nf; have := h.three; omega) hr (fun x hx => h.pls x (List.mem_of_mem_take hx))
theorem OpK.frow {fs : List Fr.F} {pl : List Nat} {NF N : Nat} {R : List (List It.I)} (h : OpK fs pl NF N R) {w w' : World} {g : Nat} {a1 a2 a3 : Option Addr} {c1 c2 c3 : Nat} (h3 : Tail3 w w' g (Tb.ixp (pl.take N) R) (Sv.of ((Tb.joined R).map (fun x => x.1))) (Va.one (Tb.joined R).length) a1 a2 a3 c1 c2 c3) : FRow w' (some ⟨g, 0, none⟩) 3 (Tb.tailp (pl.take N) R) := by
  have hfew := h.whole.few
  have hnf := h.nf
  have h3n := h.three
  have l1 := Tb.ixp_len R (pl.take N) (fun p hp => (h.keys p hp).2 _ (Tb.first_mem (h.whole.part p hp).1)) (fun x hx => h.pls x (List.mem_of_mem_take hx))
  rw [h.len] at l1
  have l3 := Va.one_len10 (u := (Tb.joined R).length) (by omega)
  exact tail_frow h3 (Tb.ixp_small R (pl.take N) (fun p hp b hb => ((h.whole.part p hp).2.2.1 _ (Tb.first_mem (h.whole.part p hp).1)).1 b hb)) (fun x hx => by
    obtain ⟨i, _, rfl⟩ := List.mem_map.mp hx
    exact Sv.byte_lt _ _ _) (Va.one_small _) (by omega) (by rw [Sv.of_length, List.length_map]; unfold Sv.size; omega) (by omega)
theorem ps_laid {W : World} {la : Option Addr} {N lc JL : Nat} {ps : List PH} {gss : List (List IH)} {R : List (List It.I)} (hJ : JL = (Tb.joined R).length) (hI : InP W la N ps gss R) (hle : N ≤ lc) : PsAt (W.alloc (.cells #[.slice la N lc, .int .i64 (JL : Nat)] 48)) W.heap.size la N lc ps gss R := by
  subst hJ
  exact ⟨(cell_new W _ _ 0).trans rfl, (cell_new W _ _ 1).trans rfl, hI.below (below_alloc _ _) (Nat.le_refl _), hle⟩

set_option maxRecDepth 100000 in
set_option maxHeartbeats 1000000 in
theorem topen_unlike (a : Option Addr) (n c sz : Nat) (fs : List Fr.F) (pl : List Nat) (NF N : Nat) (R : List (List It.I)) (w : World) (hsc : Calls Tryz.prog 11 #[.slice a n c] w (ScanRes w (fs, pl, sz))) (hNF : fs.length = NF) (h : OpK fs pl NF N R) (hA : ¬ (sz < n)) (hne : Tb.tailp (pl.take N) R ≠ fs.drop N) :
    Calls Tryz.prog 5 #[.slice a n c] w (OpRes w none) := by
  unfold ScanRes at hsc
  simp only [hNF] at hsc
  have k3 := h.nf
  have h3 := h.three
  have hpos := h.pos
  have hgp := h.get
  have hta := h.tail
  have HK : Hid (OpK fs pl NF N R) := h
  have hN1 : ¬ (N < 1) := by omega
  have d1 : decide ((sz : Int) < (n : Int)) = false := by simp; omega
  have j1 : IntKind.i64.wrap ((NF : Int) - 3) = (N : Int) := by rw [IntKind.wrap_i64]; omega
  have d2 : decide ((N : Int) < 1) = false := by simp; omega
  have e0 : (0 : Int) ≤ (N : Int) := by omega
  have e1 : (N : Int) ≤ (NF : Int) := by omega
  have heq := fun (W : World) (g' fb fo c' : Nat) (r1 : FRow W (some ⟨g', 0, none⟩) 3 (Tb.tailp (pl.take N) R)) (r2 : FRow W (some ⟨fb, fo, none⟩) 3 (fs.drop N)) => tequalf_any (some ⟨g', 0, none⟩) 3 3 _ (some ⟨fb, fo, none⟩) 3 c' _ W r1 r2 (by omega)
  simp only [decide_eq_false hne] at heq
  obtain ⟨JL, hJL⟩ : ∃ JL, JL = (Tb.joined R).length := ⟨_, rfl⟩
  have HJL : Hid (JL = (Tb.joined R).length) := hJL
  simp only [← hJL] at hgp
  clear h hne hNF hJL
  unfold TailRes at hta
  go_enter Tryz.func5, Tryz.ntmps5
  go_wp2_with (first
    | (go_at_call 11; go_must (refine hsc.mono ?_; rintro e w1 ⟨a1, c1, a2, c2, cs, rfl, o1, h1, p1, -, b1⟩; obtain ⟨fb, fo, rfl, hle1, fr1, fd1⟩ := scan_frows (N := N) k3 h3 o1 h1; obtain ⟨pb, po, rfl, hle2, pr1⟩ := scan_prow (N := N) k3 h3 HK.out.pls p1; have k5 : (N : Int) ≤ (c1 : Int) := (by omega); have k6 : (N : Int) ≤ (c2 : Int) := (by omega); have k7 : ¬ (c1 = N) := (by omega); have k8 : (NF : Int) ≤ (c1 : Int) := (by omega)))
    | (go_at_call 12; go_must (refine (hgp _ _ _ fr1).mono ?_; rintro e w2 ⟨la, lc, ps, gss, rfl, hI2, hlc2, b2⟩; have hb2 := b1.trans (b2.mono b1.size); have hps := ps_laid HJL.out hI2 hlc2; have bA := b2.alloc b2.size (.cells #[.slice la N lc, .int .i64 (JL : Nat)] 48); have hbA := hb2.alloc hb2.size (.cells #[.slice la N lc, .int .i64 (JL : Nat)] 48); have pr3 := pr1.below bA (Nat.le_refl _)))
    | (go_at_call 13; go_must (refine (hta _ _ _ _ _ _ _ _ hps pr3).mono ?_; rintro e w4 ⟨g4, x1, x2, x3, y1, y2, y3, rfl, t4⟩; have hb4 := hbA.trans (t4.below.mono hbA.size); have f4 := HK.out.frow t4; have b14 := bA.trans (t4.below.mono bA.size); have fd4 := fd1.below b14 (Nat.le_refl _)))
    | (go_at_call 14; go_must (refine (heq _ _ _ _ _ f4 fd4).mono ?_; rintro e w5 ⟨rfl, b5⟩; have hb5 := hb4.trans (b5.mono hb4.size))))
  go_ret2
  exact .inl ⟨rfl, rfl, hb5⟩

theorem open_ret {w w3 w4 w5 : World} {b lc m g JL : Nat} {lla : Option Addr} {ps : List PH} {gss : List (List IH)} {R : List (List It.I)} {f1 B2 f3 : List Nat} {a1 a2 a3 : Option Addr} {c1 c2 c3 : Nat} (hJ : JL = (Tb.joined R).length) (hB : B2 = Sv.of ((Tb.joined R).map (fun x => x.1))) (hP : PsAt w3 b lla m lc ps gss R) (h3 : Tail3 w3 w4 g f1 B2 f3 a1 a2 a3 c1 c2 c3) (hb : Below w4.heap.size w4 w5) (hw : Tb.Whole R) (hne : R ≠ []) (hbw : Below w.heap.size w w5) :
    OpRes w (some R) (.returned (.tuple #[.pointer (some ⟨w5.heap.size, 0, none⟩), .int .i64 0])) (w5.alloc (.cells #[.slice lla m lc, .int .i64 (JL : Nat), .slice a2 B2.length c2] 57)).drew := by
  subst hJ; subst hB
  obtain ⟨h1, h2⟩ := tb_laid (w := w) hP h3 hb hw hne hbw
  exact .inr ⟨R, _, rfl, rfl, TbT.keep _ _ _ _ h1 (Below.refl _ _).drew, h2.drew⟩

set_option maxRecDepth 100000 in
set_option maxHeartbeats 1000000 in
theorem topen_like (a : Option Addr) (n c sz : Nat) (fs : List Fr.F) (pl : List Nat) (NF N : Nat) (R : List (List It.I)) (w : World) (hsc : Calls Tryz.prog 11 #[.slice a n c] w (ScanRes w (fs, pl, sz))) (hNF : fs.length = NF) (h : OpK fs pl NF N R) (hA : ¬ (sz < n)) (hne : Tb.tailp (pl.take N) R = fs.drop N) :
    Calls Tryz.prog 5 #[.slice a n c] w (OpRes w (some R)) := by
  unfold ScanRes at hsc
  simp only [hNF] at hsc
  have k3 := h.nf
  have h3 := h.three
  have hpos := h.pos
  have hgp := h.get
  have hta := h.tail
  have HK : Hid (OpK fs pl NF N R) := h
  have hN1 : ¬ (N < 1) := by omega
  have d1 : decide ((sz : Int) < (n : Int)) = false := by simp; omega
  have j1 : IntKind.i64.wrap ((NF : Int) - 3) = (N : Int) := by rw [IntKind.wrap_i64]; omega
  have d2 : decide ((N : Int) < 1) = false := by simp; omega
  have e0 : (0 : Int) ≤ (N : Int) := by omega
  have e1 : (N : Int) ≤ (NF : Int) := by omega
  have heq := fun (W : World) (g' fb fo c' : Nat) (r1 : FRow W (some ⟨g', 0, none⟩) 3 (Tb.tailp (pl.take N) R)) (r2 : FRow W (some ⟨fb, fo, none⟩) 3 (fs.drop N)) => tequalf_any (some ⟨g', 0, none⟩) 3 3 _ (some ⟨fb, fo, none⟩) 3 c' _ W r1 r2 (by omega)
  simp only [decide_eq_true hne] at heq
  obtain ⟨JL, hJL⟩ : ∃ JL, JL = (Tb.joined R).length := ⟨_, rfl⟩
  have HJL : Hid (JL = (Tb.joined R).length) := hJL
  simp only [← hJL] at hgp
  unfold TailRes at hta
  obtain ⟨B2, hB2⟩ : ∃ B2, B2 = Sv.of ((Tb.joined R).map (fun x => x.1)) := ⟨_, rfl⟩
  have HB2 : Hid (B2 = Sv.of ((Tb.joined R).map (fun x => x.1))) := hB2
  have HFR : Hid (∀ (w w' : World) (g : Nat) (a1 a2 a3 : Option Addr) (c1 c2 c3 : Nat), Tail3 w w' g (Tb.ixp (pl.take N) R) B2 (Va.one (Tb.joined R).length) a1 a2 a3 c1 c2 c3 → FRow w' (some ⟨g, 0, none⟩) 3 (Tb.tailp (pl.take N) R)) := (fun w w' g a1 a2 a3 c1 c2 c3 h3 => by rw [hB2] at h3; exact HK.out.frow h3 : ∀ (w w' : World) (g : Nat) (a1 a2 a3 : Option Addr) (c1 c2 c3 : Nat), Tail3 w w' g (Tb.ixp (pl.take N) R) B2 (Va.one (Tb.joined R).length) a1 a2 a3 c1 c2 c3 → FRow w' (some ⟨g, 0, none⟩) 3 (Tb.tailp (pl.take N) R))
  simp only [← hB2] at hta
  clear h hne hNF hJL hB2
  go_enter Tryz.func5, Tryz.ntmps5
  go_wp2_with (first
    | (go_at_call 11; go_must (refine hsc.mono ?_; rintro e w1 ⟨a1, c1, a2, c2, cs, rfl, o1, h1, p1, -, b1⟩; obtain ⟨fb, fo, rfl, hle1, fr1, fd1⟩ := scan_frows (N := N) k3 h3 o1 h1; obtain ⟨pb, po, rfl, hle2, pr1⟩ := scan_prow (N := N) k3 h3 HK.out.pls p1; have k5 : (N : Int) ≤ (c1 : Int) := (by omega); have k6 : (N : Int) ≤ (c2 : Int) := (by omega); have k7 : ¬ (c1 = N) := (by omega); have k8 : (NF : Int) ≤ (c1 : Int) := (by omega)))
    | (go_at_call 12; go_must (refine (hgp _ _ _ fr1).mono ?_; rintro e w2 ⟨la, lc, ps, gss, rfl, hI2, hlc2, b2⟩; have hb2 := b1.trans (b2.mono b1.size); have hps := ps_laid HJL.out hI2 hlc2; have bA := b2.alloc b2.size (.cells #[.slice la N lc, .int .i64 (JL : Nat)] 48); have hbA := hb2.alloc hb2.size (.cells #[.slice la N lc, .int .i64 (JL : Nat)] 48); have pr3 := pr1.below bA (Nat.le_refl _)))
    | (go_at_call 13; go_must (refine (hta _ _ _ _ _ _ _ _ hps pr3).mono ?_; rintro e w4 ⟨g4, x1, x2, x3, y1, y2, y3, rfl, t4⟩; have hb4 := hbA.trans (t4.below.mono hbA.size); have f4 := HFR.out _ _ _ _ _ _ _ _ _ t4; have b14 := bA.trans (t4.below.mono bA.size); have fd4 := fd1.below b14 (Nat.le_refl _)))
    | (go_at_call 14; go_must (refine (heq _ _ _ _ _ f4 fd4).mono ?_; rintro e w5 ⟨rfl, b5⟩; have hb5 := hb4.trans (b5.mono hb4.size); have hps5 := (hps.below t4.below (Nat.le_refl _)).below b5 (Nat.le_refl _); have z0 := hps5.list; have z1 := hps5.count; rw [← HJL.out] at z1; have bx5 := (b5.block g4 (Array.getElem?_eq_some_iff.1 t4.box).1).trans t4.box; have z2 : w5.cell? ⟨g4, 3, none⟩ = some (.slice x2 B2.length y2) := (Go.Joins.cell_of_block bx5 3).trans rfl)))
  go_region
  go_wp2
  go_ret2
  exact open_ret HJL.out HB2.out hps t4 b5 HK.out.whole HK.out.ne hb5
theorem topen_any (a : Option Addr) (n c : Nat) (bs : List Nat) (w : World) (hn : n ≤ 100000) (hsh : Shape a n c) (hr : Row .u8 w a n bs) :
    Calls Tryz.prog 5 #[.slice a n c] w (OpRes w (Tb.pget bs)) := by
  by_cases h : (Fr.scan bs).2.2 < bs.length ∨ (Fr.scan bs).1.length < 4
  · exact topen_few a n c bs w hn hsh hr h
  · have hlen := hr.1
    have hsc := scan_any a n c bs w hn hsh hr
    obtain ⟨k1, k2, k3, k4⟩ := scan_known bs n hn hlen hr.2.2.1
    cases hq : Tb.pparts ((Fr.scan bs).1.take ((Fr.scan bs).1.length - 3)) [] [] with
    | none => exact topen_none a n c bs w hn hsh hr h hq
    | some R =>
      rw [Tb.pget_at h hq]
      rw [hlen] at h
      generalize Fr.scan bs = S at *
      obtain ⟨fs, pl, sz⟩ := S
      simp only at h hq k1 k2 k3 k4 ⊢
      obtain ⟨qs, e1, e2, hw⟩ := Tb.pparts_ok (fs.take (fs.length - 3)) [] [] R (fun f hf => (k1 f (List.mem_of_mem_take hf)).2) ⟨(fun p hp => by cases hp), rfl, by simp [Tb.joined]⟩ (fun x hx => by simp [Tb.joined] at hx) hq
      rw [List.nil_append] at e1
      subst e1
      have hRN : R.length = fs.length - 3 := by
        have := congrArg List.length e2
        rw [List.length_take, List.length_map] at this
        omega
      have hK : OpK fs pl fs.length (fs.length - 3) R := ⟨k3, by omega, by omega, k2, k1, hw, (by intro e; subst e; simp at hRN; omega), hRN, hq⟩
      by_cases ht : Tb.tailp (pl.take (fs.length - 3)) R = fs.drop (fs.length - 3)
      · rw [if_pos ht]
        exact topen_like a n c sz fs pl fs.length (fs.length - 3) R w hsc rfl hK (by omega) ht
      · rw [if_neg ht]
        exact topen_unlike a n c sz fs pl fs.length (fs.length - 3) R w hsc rfl hK (by omega) ht

/-- the program keeps what is asked of tables -/
theorem tableO : TableO TbT where
  keep := TbT.keep
  make := fun a n c gs xs z w hf hi _ _ => tmake_any a n c gs xs z w hf hi
  no := fun a n c bs w hn _ _ hsh hr hg => (topen_any a n c bs w hn hsh hr).mono (fun e w' h => by
    have hlen := hr.1
    rcases h with ⟨_, h1, h2⟩ | ⟨R, p, h0, _⟩
    · exact ⟨h1, h2⟩
    · obtain ⟨hw, hne, hge⟩ := Tb.pget_some hr.2.2.1 (by omega) h0
      rw [hg] at hge
      have := Tb.joined_pos hw hne
      rw [← hge] at this
      simp at this)
  yes := fun a n c bs w hn _ _ hsh hr hg => (topen_any a n c bs w hn hsh hr).mono (fun e w' h => by
    have hlen := hr.1
    rcases h with ⟨h0, _⟩ | ⟨R, p, h0, h1, h2, h3⟩
    · exact absurd (Tb.pget_none hr.2.2.1 (by omega) h0) hg
    · obtain ⟨hw, hne, hge⟩ := Tb.pget_some hr.2.2.1 (by omega) h0
      rw [hge]
      exact ⟨p, h1, h2, h3⟩)
  all := fun p L w hT => tall_any p L w hT
  len := fun p L w hT => tlen_any p L w hT
  ends := fun p L w hT _ => tends_any p L w hT

end Go.Proofs.YtikieblokfjphaaGreat
