/- The program's tables: Make. -/
import Derived.Test.YtikieblokfjphaaGreatTQc
import Derived.Test.YtikieblokfjphaaGreatTQd
import Derived.Test.YtikieblokfjphaaGreatTS
import Derived.Test.YtikieblokfjphaaGreatTQa
namespace Go.Proofs.YtikieblokfjphaaGreat
open Go.RowKit Go.Shelf

theorem frameE : Elem 41 54 2 32 (.agg #[.int .i64 0, .slice none 0 0]) := ⟨Tryz.underlying41, by kernel_rfl, rfl, by decide, by decide⟩
theorem append_raw {s : Nat} {T E : TypeId} {bytes : Nat} {z : Value} (he : Elem T E s bytes z) {w0 w : World} {B : Nat} {ops : Array Oper} {rest : List Oper} {o : Oper} {a : Act} {Q : Exit → Act → World → Prop} (hgd : o.guard = none) (sl x : Operand)
    (ho : o.op = .call { callee := .builtin .append, args := #[sl, x], argTypes := #[T, T] })
    (v : Value) (n : Nat) (cs : List Value) (hs : a.eval sl = v) (hown : w.ownsRow B E s v n cs)
    (ad : Addr) (m c : Nat) (news : List Value) (hx : a.eval x = .slice (some ad) m c) (hlen : news.length = m * s) (hcell : ∀ (j : Nat) (u : Value), news[j]? = some u → w.cell? (ad.add j) = some u) (h1 : ∀ u ∈ news, u.oneCell' = true)
    (hnm : n + m ≤ 1000000000) (hbel : Below B w0 w) (hB : B ≤ w.heap.size)
    (h : ∀ a' c' w', w.grownBy w' v.ownBlock → w'.ownsRow B E s (.slice a' (n + m) c') (n + m) (cs ++ news) → Below B w0 w' → wpList Tryz.prog ops Q rest (a.put o.dst (.slice a' (n + m) c')) w') : wpList Tryz.prog ops Q (o :: rest) a w := by
  obtain ⟨i0, hi, hz0, hz1, hz2⟩ := info_parts he.info
  refine wpList_plain hgd fun _ hK => ?_
  refine wp_append_own w sl x T ho B E i0 _ s bytes he.und hi hz0 hz1 hz2 he.zero he.pos v n cs hs hown ad m c news hx hlen hcell h1 (by unfold maxLen; omega) ?_ hB ?_
  · have h1 := he.small
    have h2 : (n + m) * bytes ≤ 1000000000 * 1000 := Nat.mul_le_mul hnm h1
    omega
  · intro v' w' hown' hg hn
    obtain ⟨a', c', rfl, h1, h2⟩ := t_shape hown'
    exact hK _ _ (h a' c' w' hg hown' (hbel.grown hg hB (fun k hk => (hown.lt k hk).1)))
theorem Held.base {w : World} {B B' : Nat} (hB : B' ≤ B) : ∀ {fs : List Fr.F} {cs : List Value}, Held w B fs cs → Held w B' fs cs := by
  intro fs
  induction fs with
  | nil => intro cs h; exact h
  | cons f fs ih =>
    rintro cs ⟨A, C, rest, h1, h2, h3, h4, h5, h6⟩
    exact ⟨A, C, rest, h1, owns_base h2 hB, h3, h4, h5, ih h6⟩
/-- what is made, as frames -/
theorem made_frames {w w1 w2 w3 : World} {B g n c : Nat} {a : Option Addr} {cs : List Value} {fs : List Fr.F} {f1 f2 f3 : List Nat} {a1 a2 a3 : Option Addr} {c1 c2 c3 : Nat} (hB : B ≤ w1.heap.size) {v : Value} (hv : w2.ownsRow B 54 2 v n cs) (hH : Held w2 B fs cs) (h3 : Tail3 w1 w2 g f1 f2 f3 a1 a2 a3 c1 c2 c3) (hg : w2.grownBy w3 v.ownBlock)
    (ho : w3.ownsRow B 54 2 (.slice a (n + 3) c) (n + 3) (cs ++ [.int .i64 2, .slice a1 f1.length c1, .int .i64 3, .slice a2 f2.length c2, .int .i64 4, .slice a3 f3.length c3])) (s1 : ∀ x ∈ f1, x < 256) (s2 : ∀ x ∈ f2, x < 256) (s3 : ∀ x ∈ f3, x < 256) (l1 : f1.length ≤ 1000000000) (l2 : f2.length ≤ 1000000000) (l3 : f3.length ≤ 1000000000) (hn : n + 3 ≤ 1000000000) (_ : Below w.heap.size w w1) :
    FRow w3 a (n + 3) (fs ++ [(2, f1), (3, f2), (4, f3)]) := by
  have k1 := (owns_base h3.o1 hB).kept hg (own_apart h3.o1 hv (by decide))
  have k2 := (owns_base h3.o2 hB).kept hg (own_apart h3.o2 hv (by decide))
  have k3 := (owns_base h3.o3 hB).kept hg (own_apart h3.o3 hv (by decide))
  have H1 := Held.snoc (f := ((2 : Int), f1)) k1 s1 l1 (by simp) (hH.grown hv (by decide) hg)
  have H2 := Held.snoc (f := ((3 : Int), f2)) k2 s2 l2 (by simp) H1
  have H3 := Held.snoc (f := ((4 : Int), f3)) k3 s3 l3 (by simp) H2
  simp only [List.append_assoc, List.cons_append, List.nil_append] at H3
  exact (frow_of_owns ho H3 hn).1
theorem tot_all : ∀ (l : List Fr.F), tot l ≤ (Fr.all l).length
  | [] => Nat.zero_le _
  | f :: l => by
    have := tot_all l
    rw [Fr.all_len_cons]
    simp only [tot, List.map_cons, List.sum_cons] at this ⊢
    unfold Fr.size
    omega
theorem tail_cells {w w' : World} {g : Nat} {f1 f2 f3 : List Nat} {a1 a2 a3 : Option Addr} {c1 c2 c3 : Nat} (h : Tail3 w w' g f1 f2 f3 a1 a2 a3 c1 c2 c3) : ∀ (j : Nat) (u : Value), ([.int .i64 2, .slice a1 f1.length c1, .int .i64 3, .slice a2 f2.length c2, .int .i64 4, .slice a3 f3.length c3] : List Value)[j]? = some u → w'.cell? ((⟨g, 0, none⟩ : Addr).add j) = some u := by
  intro j u hj
  rw [add_at, Nat.zero_add, Go.Joins.cell_of_block h.box]
  simpa using hj
theorem tail_one {f1 f2 f3 : List Nat} {a1 a2 a3 : Option Addr} {c1 c2 c3 : Nat} : ∀ u ∈ ([.int .i64 2, .slice a1 f1.length c1, .int .i64 3, .slice a2 f2.length c2, .int .i64 4, .slice a3 f3.length c3] : List Value), u.oneCell' = true := by
  intro u hu
  simp only [List.mem_cons, List.not_mem_nil, or_false] at hu
  rcases hu with rfl | rfl | rfl | rfl | rfl | rfl <;> rfl

theorem Fr.places_le : ∀ (l : List Fr.F) (at' : Nat), ∀ x ∈ Fr.places l at', x ≤ at' + (Fr.all l).length
  | [], _, x, hx => by simp [Fr.places] at hx
  | f :: l, at', x, hx => by
    rw [Fr.all_len_cons]
    simp only [Fr.places, List.mem_cons] at hx
    rcases hx with rfl | hx
    · unfold Fr.size; omega
    · have := Fr.places_le l _ x hx
      omega
theorem tm_no {w W : World} (hb : Below w.heap.size w W) : TMRes w (1, []) (.returned (.tuple #[.slice none 0 0, .int .i64 1])) W :=
  ⟨none, 0, rfl, ⟨rfl, by decide, (fun x hx => by cases hx), .inl rfl⟩, (fun _ => ⟨rfl, rfl⟩), Nat.le_refl _, .inl ⟨rfl, rfl⟩, hb⟩
theorem tm_yes {w V W : World} {bs : List Nat} {a : Option Addr} {c : Nat} (ho : W.ownsRow V.heap.size 5 1 (.slice a bs.length c) bs.length (kcells .u8 bs)) (hs : ∀ x ∈ bs, x < 256) (hl : bs.length ≤ 1000000) (hb : Below w.heap.size w W) : TMRes w (0, bs) (.returned (.tuple #[.slice a bs.length c, .int .i64 0])) W := by
  obtain ⟨r1, r2, r3⟩ := row_of_owns ho hs (by omega)
  exact ⟨a, c, rfl, r1, r2, r3, (own_shape2 ho).1, hb⟩

set_option maxRecDepth 100000 in
set_option maxHeartbeats 4000000 in
theorem tmake_yes (a : Option Addr) (n c : Nat) (gs : List IH) (xs : List It.I) (z : Int) (w : World) (hf : Fine gs n) (hi : InI w a n c gs xs) (h1 : 1 ≤ n) (hz1 : 1 ≤ z) (hz2 : z ≤ 65536) (hs : It.sorted xs = true) :
    Calls Tryz.prog 8 #[.slice a n c, .int .i64 z] w (TMRes w (0, Tb.put (Tb.parted xs z))) := by
  have hlen := hi.1.len
  have hn := hf.1
  have hmay := ((It.sorted_iff _).mp hs).1
  have hsmall : ∀ x ∈ xs, Bl.Small x := fun x hx => by
    obtain ⟨k, hk, rfl⟩ := Tb.mem_at hx
    exact it_small (hi.1.item (by omega))
  obtain ⟨F1, F2, F3, F4⟩ := tb_few (z := z) hs hsmall (by omega) (by omega)
  have hj := Tb.parted_join xs z
  have hcnt := Tb.pgo_count z xs []
  have hpt := fun q hq => Tb.parted_part (l := xs) (size := z) q hq
  have hsub : ∀ q ∈ Tb.parted xs z, q.Sublist xs := fun q hq => by have := Tb.part_sub hq; rw [hj] at this; exact this
  have hso := tsorted_any a n c gs xs w (by omega) hi
  rw [hs] at hso
  have hpa := fun W (hW : Below w.heap.size w W) => tparts_any a n c gs xs z W (by omega) h1 (hi.below hW (Nat.le_refl _)) (fun x hx => ⟨by have := (Bl.it_parts (hmay x hx)).2.1; omega, Nat.le_trans (may_bytes (hmay x hx)) (by decide)⟩)
  have hpl0 : (Tb.parted xs z).length ≤ 100 := by unfold Tb.parted; omega
  unfold PBRes at hpa
  obtain ⟨XS, hXS⟩ : ∃ XS, XS = Tb.parted xs z := ⟨_, rfl⟩
  rw [← hXS] at hj hpt hsub hpa hpl0 F3 F4 ⊢
  have HW1 : Hid (∀ p ∈ XS, p ≠ [] ∧ p.length ≤ 256 ∧ It.sorted p = true ∧ ∀ x ∈ p, Bl.Small x) := (fun p hp => ⟨(hpt p hp).1, by have := (hpt p hp).2; omega, It.sorted_sub hs (hsub p hp), fun x hx => hsmall x ((hsub p hp).mem hx)⟩ : ∀ p ∈ XS, p ≠ [] ∧ p.length ≤ 256 ∧ It.sorted p = true ∧ ∀ x ∈ p, Bl.Small x)
  have HW2 : Hid (∀ p ∈ XS, p ≠ [] ∧ ∀ x ∈ p, x.1.length ≤ 64) := (fun p hp => ⟨(hpt p hp).1, fun x hx => (Bl.it_parts (hmay x ((hsub p hp).mem hx))).2.1⟩ : ∀ p ∈ XS, p ≠ [] ∧ ∀ x ∈ p, x.1.length ≤ 64)
  have hjn : (Tb.joined XS).length = n := by rw [hj]; exact hlen
  obtain ⟨m, hm⟩ : ∃ m, m = XS.length := ⟨_, rfl⟩
  rw [← hm] at hpa hpl0
  have hfr := fun (W : World) (b' : Nat) la lc ps gss (hP : PsAt W b' la m lc ps gss XS) => tframes_any b' la m lc ps gss XS W hP HW1.out (by omega)
  have hta := fun (W : World) (b' : Nat) la lc ps gss pa pc pl (hP : PsAt W b' la m lc ps gss XS) (hr : Row .i64 W pa m pl) (hpl : ∀ x ∈ pl, x ≤ 1000000000000) => ttail_any b' la m lc ps gss XS pa pc pl W hP HW2.out (by omega) (by omega) hr hpl
  have hall : (Fr.all (XS.map Tb.frame)).length ≤ 100000 := by
    have : Tb.put XS = Fr.all (XS.map Tb.frame) ++ Fr.all (Tb.tail XS) := by unfold Tb.put Tb.frames; rw [Fr.all_append]
    rw [this, List.length_append] at F3
    omega
  have hplb : ∀ x ∈ Fr.places (XS.map Tb.frame) 0, x ≤ 1000000000000 := fun x hx => by have := Fr.places_le _ _ x hx; omega
  have hmf : (XS.map Tb.frame).length = m := by rw [List.length_map, hm]
  have hgood : Fr.Good (Tb.frames XS) := Tb.good_of (by omega) F4
  have HFS : Hid (XS.map Tb.frame ++ [((2 : Int), Tb.ixp (Fr.places (XS.map Tb.frame) 0) XS), (3, Sv.of ((Tb.joined XS).map (fun x => x.1))), (4, Va.one (Tb.joined XS).length)] = Tb.frames XS) := (by
    unfold Tb.frames
    rw [← Tb.tailp_tail]
    rfl : XS.map Tb.frame ++ [((2 : Int), Tb.ixp (Fr.places (XS.map Tb.frame) 0) XS), (3, Sv.of ((Tb.joined XS).map (fun x => x.1))), (4, Va.one (Tb.joined XS).length)] = Tb.frames XS)
  have hg1 := fun f (hf : f ∈ Tb.frames XS) => hgood f hf
  rw [← HFS.out] at hg1
  have s1 := (hg1 ((2 : Int), Tb.ixp (Fr.places (XS.map Tb.frame) 0) XS) (by simp)).2
  have s2 := (hg1 ((3 : Int), Sv.of ((Tb.joined XS).map (fun x => x.1))) (by simp)).2
  have s3 := (hg1 ((4 : Int), Va.one (Tb.joined XS).length) (by simp)).2
  have l1 := ((Fr.may_iff _).mp (hg1 ((2 : Int), Tb.ixp (Fr.places (XS.map Tb.frame) 0) XS) (by simp)).1).2.2
  have l2 := ((Fr.may_iff _).mp (hg1 ((3 : Int), Sv.of ((Tb.joined XS).map (fun x => x.1))) (by simp)).1).2.2
  have l3 := ((Fr.may_iff _).mp (hg1 ((4 : Int), Va.one (Tb.joined XS).length) (by simp)).1).2.2
  simp only at s1 s2 s3 l1 l2 l3
  have hpp := fun (W : World) a' cap (hr : FRow W a' (m + 3) (Tb.frames XS)) => put_prog a' (m + 3) cap (Tb.frames XS) W hr (by omega) (Nat.le_trans (tot_all _) F3)
  have hallm : (Tb.frames XS).all Fr.may = true := by rw [List.all_eq_true]; intro f hf; exact (hgood f hf).1
  unfold FPutRes at hpp
  rw [hallm] at hpp
  simp only [true_and, Bool.true_eq_false, false_and, or_false] at hpp
  have hput : Fr.all (Tb.frames XS) = Tb.put XS := rfl
  rw [hput] at hpp
  have HPS : Hid (∀ (W : World) la lc ps gss, InP W la m ps gss XS → m ≤ lc → PsAt (W.alloc (.cells #[.slice la m lc, .int .i64 (n : Nat)] 48)) W.heap.size la m lc ps gss XS) := (fun W la lc ps gss hI hle => ⟨(cell_new W _ _ 0).trans rfl, (cell_new W _ _ 1).trans (by rw [hjn]; rfl), hI.below (below_alloc _ _) (Nat.le_refl _), hle⟩ : ∀ (W : World) la lc ps gss, InP W la m ps gss XS → m ≤ lc → PsAt (W.alloc (.cells #[.slice la m lc, .int .i64 (n : Nat)] 48)) W.heap.size la m lc ps gss XS)
  unfold FrmRes at hfr
  rw [hmf] at hfr
  generalize hPL : Fr.places (XS.map Tb.frame) 0 = PL at *
  generalize hF1 : Tb.ixp PL XS = B1 at *
  generalize hF2 : Sv.of ((Tb.joined XS).map (fun x => x.1)) = B2 at *
  generalize hF3 : Va.one (Tb.joined XS).length = B3 at *
  have hta' := fun (W : World) (b' : Nat) la lc ps gss pa pc (hP : PsAt W b' la m lc ps gss XS) (hr : Row .i64 W pa m PL) => hta W b' la lc ps gss pa pc PL hP hr hplb
  rw [hF1] at hta'
  generalize XS.map Tb.frame = FS at *
  have d1 : decide ((n : Int) < 1) = false := by simp; omega
  have d2 : decide ((16384 : Int) < (n : Int)) = false := by simp; omega
  have d3 : decide (z < 1) = false := decide_eq_false (by omega)
  have d4 : decide ((65536 : Int) < z) = false := decide_eq_false (by omega)
  have HPLB : Hid (∀ x ∈ PL, x < lim .i64) := (fun x hx => by have := hplb x hx; show x < 18446744073709551616; omega : ∀ x ∈ PL, x < lim .i64)
  have HF3 : Hid ((Tb.put XS).length ≤ 100000) := F3
  clear hf hi hs hmay hsmall F1 F2 hcnt hpt hsub hj hta hg1 hallm hgood hall hplb hmf hput hm hlen hPL hF1 hF2 hF3 F3 hXS hjn
  generalize hTP : Tb.put XS = TP at *
  generalize hTF : Tb.frames XS = TF at *
  clear hTP hTF
  go_enter Tryz.func8, Tryz.ntmps8
  go_wp2_with (first
    | (go_at_call 24; go_must (refine hso.mono ?_; rintro e w1 ⟨rfl, b1⟩))
    | (go_at_call 25; go_must (refine (hpa _ b1).mono ?_; rintro e w2 ⟨la, lc, ps, gss, rfl, hI2, hle2, b2⟩; have hb2 := b1.trans (b2.mono b1.size); have hps2 := HPS.out w2 la lc ps gss hI2 hle2; have hb3 := hb2.alloc hb2.size (.cells #[.slice la m lc, .int .i64 (n : Nat)] 48)))
    | (go_at_call 26; go_must (refine (hfr _ _ _ _ _ _ hps2).mono ?_; rintro e w4 ⟨a4, c4, cs4, pa4, pc4, rfl, o4, h4, p4, b4⟩; have hb4 := hb3.trans (b4.mono hb3.size); have hps4 := hps2.below b4 (Nat.le_refl _); have r4 := (row_of_owns p4 HPLB.out (by omega)).1))
    | (go_at_call 13; go_must (refine (hta' _ _ _ _ _ _ _ _ hps4 r4).mono ?_; rintro e w5 ⟨g5, x1, x2, x3, y1, y2, y3, rfl, t5⟩; have hb5 := hb4.trans (t5.below.mono hb4.size); have o5 := owns_below o4 t5.below; have h5 := h4.below t5.below; have hB5 : (w2.alloc (.cells #[.slice la m lc, .int .i64 (n : Nat)] 48)).heap.size ≤ w5.heap.size := Nat.le_trans b4.size t5.below.size; have hb35 := b4.trans (t5.below.mono b4.size)))
    | (at_builtin; go_must (refine append_raw frameE (w0 := w2.alloc (.cells #[.slice la m lc, .int .i64 (n : Nat)] 48)) (B := (w2.alloc (.cells #[.slice la m lc, .int .i64 (n : Nat)] 48)).heap.size) rfl (.tmp 37) (.tmp 39) rfl _ m cs4 rfl o5 ⟨g5, 0, none⟩ 3 3 _ rfl rfl (tail_cells t5) tail_one (by omega) hb35 hB5 ?_; intro a6 c6 w6 hg6 ho6 b6; have hb6 := hb3.trans (b6.mono hb3.size); have hfr6 := made_frames (w := w) b4.size o5 h5 t5 hg6 ho6 s1 s2 s3 (by omega) (by omega) (by omega) (by omega) hb4))
    | (go_at_call 27; go_must (rw [HFS.out] at hfr6; refine (hpp _ _ _ hfr6).mono ?_; rintro e w7 ⟨a7, c7, rfl, o7, b7⟩; have hb7 := hb6.trans (b7.mono hb6.size))))
  go_ret2
  exact tm_yes o7 F4 (by have := HF3.out; omega) hb7

set_option maxRecDepth 100000 in
set_option maxHeartbeats 1000000 in
theorem tmake_no (a : Option Addr) (n c : Nat) (gs : List IH) (xs : List It.I) (z : Int) (w : World) (hf : Fine gs n) (hi : InI w a n c gs xs) (h : n = 0 ∨ z < 1 ∨ 65536 < z ∨ It.sorted xs = false) :
    Calls Tryz.prog 8 #[.slice a n c, .int .i64 z] w (TMRes w (1, [])) := by
  have hn := hf.1
  have hso := tsorted_any a n c gs xs w (by omega) hi
  have d2 : decide ((16384 : Int) < (n : Int)) = false := by simp; omega
  have hcs : (n = 0) ∨ (1 ≤ n ∧ z < 1) ∨ (1 ≤ n ∧ 1 ≤ z ∧ 65536 < z) ∨ (1 ≤ n ∧ 1 ≤ z ∧ z ≤ 65536 ∧ It.sorted xs = false) := by
    rcases h with h | h | h | h
    · exact .inl h
    · by_cases h0 : n = 0
      · exact .inl h0
      · exact .inr (.inl ⟨by omega, h⟩)
    · by_cases h0 : n = 0
      · exact .inl h0
      · exact .inr (.inr (.inl ⟨by omega, by omega, h⟩))
    · by_cases h0 : n = 0
      · exact .inl h0
      · by_cases h1 : z < 1
        · exact .inr (.inl ⟨by omega, h1⟩)
        · by_cases h2 : 65536 < z
          · exact .inr (.inr (.inl ⟨by omega, by omega, h2⟩))
          · exact .inr (.inr (.inr ⟨by omega, by omega, by omega, h⟩))
  clear h hf hi
  rcases hcs with h0 | ⟨h0, h1⟩ | ⟨h0, h1, h2⟩ | ⟨h0, h1, h2, h3⟩
  · have d1 : decide ((n : Int) < 1) = true := by simp; omega
    have d1' : (n : Int) < 1 := by omega
    clear h0
    go_enter Tryz.func8, Tryz.ntmps8
    go_wp2
    go_ret2
    exact tm_no (Below.refl _ _)
  · have d1 : decide ((n : Int) < 1) = false := by simp; omega
    have d3 : decide (z < 1) = true := decide_eq_true h1
    go_enter Tryz.func8, Tryz.ntmps8
    go_wp2
    go_ret2
    exact tm_no (Below.refl _ _)
  · have d1 : decide ((n : Int) < 1) = false := by simp; omega
    have d3 : decide (z < 1) = false := decide_eq_false (by omega)
    have d4 : decide ((65536 : Int) < z) = true := decide_eq_true h2
    go_enter Tryz.func8, Tryz.ntmps8
    go_wp2
    go_ret2
    exact tm_no (Below.refl _ _)
  · have d1 : decide ((n : Int) < 1) = false := by simp; omega
    have d3 : decide (z < 1) = false := decide_eq_false (by omega)
    have d4 : decide ((65536 : Int) < z) = false := decide_eq_false (by omega)
    rw [h3] at hso
    go_enter Tryz.func8, Tryz.ntmps8
    go_wp2_with (go_at_call 24; go_must (refine hso.mono ?_; rintro e w1 ⟨rfl, b1⟩))
    go_ret2
    exact tm_no b1
theorem tmake_any (a : Option Addr) (n c : Nat) (gs : List IH) (xs : List It.I) (z : Int) (w : World) (hf : Fine gs n) (hi : InI w a n c gs xs) :
    Calls Tryz.prog 8 #[.slice a n c, .int .i64 z] w (TMRes w (Tb.makeR xs z)) := by
  have hlen := hi.1.len
  unfold Tb.makeR
  by_cases h : xs.length = 0 ∨ z < 1 ∨ 65536 < z ∨ It.sorted xs = false
  · rw [if_pos h]
    rw [hlen] at h
    exact tmake_no a n c gs xs z w hf hi h
  · rw [if_neg h]
    refine tmake_yes a n c gs xs z w hf hi ?_ ?_ ?_ ?_
    · rcases Nat.eq_zero_or_pos n with h0 | h0
      · exact absurd (.inl (by omega)) h
      · exact h0
    · exact Int.not_lt.mp fun h1 => h (.inr (.inl h1))
    · exact Int.not_lt.mp fun h1 => h (.inr (.inr (.inl h1)))
    · cases e : It.sorted xs with
      | true => rfl
      | false => exact absurd (.inr (.inr (.inr e))) h
end Go.Proofs.YtikieblokfjphaaGreat
