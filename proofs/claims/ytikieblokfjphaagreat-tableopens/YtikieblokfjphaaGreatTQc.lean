/- The program's tables: keys, index. -/
import Derived.Test.YtikieblokfjphaaGreatTQa
import Derived.Test.YtikieblokfjphaaGreatSB
import Derived.Test.YtikieblokfjphaaGreatPB
import Derived.Deep.LoopGhost
namespace Go.Proofs.YtikieblokfjphaaGreat
open Go.RowKit Go.Shelf

/-- the keys of items that are told -/
def keysOf (gss : List (List IH)) : List ByteArray := gss.flatten.map (fun h => h.key)
theorem keysOf_kb {w : World} {ps : List PH} {gss : List (List IH)} {xss : List (List It.I)} (h : PartsAt w ps gss xss) : (keysOf gss).map kb = (Tb.joined xss).map (fun x => x.1) :=
  keys_of (parts_all h.2.1 fun i hi => (h.2.2 i hi).1.2)
theorem flat_map_drop {gss : List (List IH)} {k : Nat} (hk : k < gss.length) : (gss.drop k).flatten.map (fun h => h.key) = (gss.getD k []).map (fun h => h.key) ++ (gss.drop (k + 1)).flatten.map (fun h => h.key) := by
  rw [Tb.drop_getD [] hk, List.flatten_cons, List.map_append]
theorem map_drop_key {g : List IH} {j : Nat} (hj : j < g.length) : (g.drop j).map (fun h => h.key) = (g.getD j ihz).key :: (g.drop (j + 1)).map (fun h => h.key) := by
  rw [Tb.drop_getD ihz hj, List.map_cons]
theorem parts_count {w : World} {ps : List PH} {gss : List (List IH)} {xss : List (List It.I)} (h : PartsAt w ps gss xss) : (keysOf gss).length = (Tb.joined xss).length := by
  have := congrArg List.length (keysOf_kb h)
  simpa using this

set_option maxRecDepth 100000 in
set_option maxHeartbeats 2000000 in
theorem tkeys_any (b : Nat) (la : Option Addr) (ln lc : Nat) (ps : List PH) (gss : List (List IH)) (xss : List (List It.I)) (w : World) (hP : PsAt w b la ln lc ps gss xss) (hcnt : (Tb.joined xss).length ≤ 16384) (hln : ln ≤ 100000) :
    Calls Tryz.prog 38 #[.pointer (some ⟨b, 0, none⟩)] w fun e w' => ∃ a c, e = .returned (.slice a (keysOf gss).length c) ∧ InT w' a (keysOf gss).length c (keysOf gss) ∧ Below w.heap.size w w' := by
  obtain ⟨i0, hi0, hz0, hz1, hz2⟩ := info_parts textE.info
  have hKL : Hid ((keysOf gss).length ≤ 16384) := (by rw [parts_count hP.inp.2]; exact hcnt : (keysOf gss).length ≤ 16384)
  have hl := hP.list
  have hc := hP.count
  have HI : Hid (InP w la ln ps gss xss) := hP.inp
  have HS : Hid (keysOf gss = [] ++ (gss.drop 0).flatten.map (fun h => h.key)) := (rfl : keysOf gss = [] ++ (gss.drop 0).flatten.map (fun h => h.key))
  have hgl : Hid (gss.length = ln) := (hP.inp.2.2.1.trans hP.inp.len : gss.length = ln)
  generalize keysOf gss = OUT at *
  generalize (Tb.joined xss).length = M at *
  clear hP
  go_enter Tryz.func38, Tryz.ntmps38
  go_wp2_with (at_make; go_must (refine wpList_make_own _ rfl _ _ 80 rfl w.heap.size 9 i0 (.string ⟨#[]⟩) 1 Tryz.underlying80 hi0 hz0 hz1 .i64 .i64 _ M rfl rfl rfl (by rw [hz2]; omega) (by unfold maxLen; omega) (Nat.le_refl _) ?_; intro w1 hmade hg1; have b1 : Below w.heap.size w w1 := (Below.refl _ _).grown hg1 (Nat.le_refl _) (fun _ h => by cases h); have u1 := (b1.cell (p := ⟨b, 0, none⟩) (cell_lt hl)).trans hl))
  have hown1 : w1.ownsRow w.heap.size 9 1 (.slice (some ⟨w.heap.size, 0, none⟩) 0 M) 0 (tcells ste []) := hmade
  clear hmade hg1 u1 hl hc
  go_loopg [3, 18] ln (fun g s3 s18 wx => ∃ (k m co : Nat) (ao : Option Addr) (ks : List ByteArray), k + g = ln ∧ s18 = .int .i64 k ∧ s3 = .slice ao m co ∧ Hid (OUT = ks ++ (gss.drop k).flatten.map (fun h => h.key)) ∧ wx.ownsRow w.heap.size 9 1 (.slice ao m co) m (tcells ste ks) ∧ Hid (ks.length = m) ∧ Below w.heap.size w wx)
  case atStart => exact ⟨0, 0, M, _, [], by omega, rfl, rfl, HS, hown1, (rfl : ([] : List ByteArray).length = 0), b1⟩
  case round =>
    obtain ⟨k, m, co, ao, ks, hkg, rfl, rfl, HO, hown, hkm, hbel⟩ := hrel
    clear HS hown1 b1
    cases gk with
    | zero =>
      obtain rfl : k = ln := by omega
      have HE : Hid (OUT = ks) := (by rw [HO.out, List.drop_of_length_le (by rw [hgl.out]; omega)]; simp : OUT = ks)
      have hm : m ≤ 16384 := by have h1 := hKL.out; rw [HE.out, hkm.out] at h1; exact h1
      have hfin : ∃ a c, Ending.returned (.slice ao m co) = .returned (.slice a OUT.length c) ∧ InT wr a OUT.length c OUT ∧ Below w.heap.size w wr := by
        obtain ⟨a', c', e, g1, g2⟩ := t_shape hown
        simp only [Value.slice.injEq, true_and] at e
        obtain ⟨rfl, rfl⟩ := e
        have h1 := HE.out
        subst h1
        have h2 := hkm.out
        subst h2
        exact ⟨ao, co, rfl, ⟨trow_of_owns steE hown (by omega) (by omega), g1, g2⟩, hbel⟩
      clear HO HE hown hkm
      go_wp2
      go_ret
      exact hfin
    | succ g =>
      have hkR : k < ln := by omega
      have hkz : (k : Int) < (ln : Int) := by omega
      have hk0 : (0 : Int) ≤ (k : Int) := by omega
      have hx := HI.out.len
      obtain ⟨cb, cof, rfl, hc⟩ := HI.out.1.part (by omega)
      have hcell := (hbel.cell (p := ⟨cb, cof + k, none⟩) (cell_lt (hc k hkR))).trans (hc k hkR)
      have hin : Hid (InI w (ps.getD k phz).a (ps.getD k phz).n (ps.getD k phz).c (gss.getD k []) (xss.getD k [])) := HI.out.2.2.2 k (by omega)
      have HO2 : Hid (OUT = ks ++ (((gss.getD k []).drop 0).map (fun h => h.key) ++ (gss.drop (k + 1)).flatten.map (fun h => h.key))) := (by rw [HO.out, flat_map_drop (by rw [hgl.out]; exact hkR)]; rfl : OUT = ks ++ (((gss.getD k []).drop 0).map (fun h => h.key) ++ (gss.drop (k + 1)).flatten.map (fun h => h.key)))
      generalize ps.getD k phz = q at *
      obtain ⟨qa, qn, qc⟩ := q
      simp only at hcell hin
      have hpl : Hid ((gss.getD k []).length = qn) := hin.out.1.1.1
      have hqn : Hid (qn ≤ 16384) := (by
        have h1 := hKL.out
        rw [HO2.out, List.length_append, List.length_append, List.length_map, List.length_drop, hpl.out] at h1
        omega : qn ≤ 16384)
      have hqn' := hqn.out
      clear HO hc hx
      go_wp2
      clear hcell
      generalize gss.getD k [] = pg at *
      generalize xss.getD k [] = px at *
      go_loopg [3, 24] qn (fun g2 s3 s24 wy => ∃ (j m co : Nat) (ao : Option Addr) (ks : List ByteArray), j + g2 = qn ∧ s24 = .int .i64 j ∧ s3 = .slice ao m co ∧ Hid (OUT = ks ++ ((pg.drop j).map (fun h => h.key) ++ (gss.drop (k + 1)).flatten.map (fun h => h.key))) ∧ wy.ownsRow w.heap.size 9 1 (.slice ao m co) m (tcells ste ks) ∧ Hid (ks.length = m) ∧ Below w.heap.size w wy)
      case atStart => exact ⟨0, m, co, ao, ks, by omega, rfl, rfl, HO2, hown, hkm, hbel⟩
      case round =>
        clear HO2 hown hkm hbel
        obtain ⟨j, m, co, ao, ks, hjg, rfl, rfl, HOj, hown, hkm, hbel⟩ := hrel
        cases gk with
        | zero =>
          obtain rfl : j = qn := by omega
          have hjz : ¬ ((j : Int) < (j : Int)) := by omega
          rw [List.drop_of_length_le (by rw [hpl.out]; omega), List.map_nil, List.nil_append] at HOj
          go_wp2
          go_roundg g
          case measure => omega
          case rel => exact ⟨k + 1, m, co, ao, ks, by omega, by go_num, rfl, HOj, hown, hkm, hbel⟩
        | succ g2 =>
          have hjN : j < qn := by omega
          have hjz : (j : Int) < (qn : Int) := by omega
          have hj0 : (0 : Int) ≤ (j : Int) := by omega
          obtain ⟨cb2, cof2, rfl, hc⟩ := hin.out.1.at (by omega)
          have C := (hc j hjN).below hbel (Nat.le_refl _)
          rw [map_drop_key (by rw [hpl.out]; exact hjN), List.cons_append] at HOj
          generalize pg.getD j ihz = hh at *
          clear hc
          obtain ⟨key, dead, far, xa, xn, xc, ⟨g1, g2', g3, g4⟩⟩ := hh
          obtain ⟨v0, v1, v2, v3, v4, v5, v6, v7⟩ := C
          simp only at v0 v1 v2 v3 v4 v5 v6 v7 HOj
          have hm : m + 1 ≤ 16384 := by
            have h1 := hKL.out
            rw [HOj.out, List.length_append, List.length_cons, hkm.out] at h1
            omega
          have b2 := hbel.alloc hbel.size (.cells #[.string key, .bool dead, .bool far, .slice xa xn xc, .int .i64 g1, .int .i64 g2', .int .i64 g3, .int .u32 (g4 : Nat)] 40)
          have ow2 := hown.alloc (.cells #[.string key, .bool dead, .bool far, .slice xa xn xc, .int .i64 g1, .int .i64 g2', .int .i64 g3, .int .u32 (g4 : Nat)] 40)
          have HE : Hid (OUT = (ks ++ [key]) ++ ((pg.drop (j + 1)).map (fun h => h.key) ++ (gss.drop (k + 1)).flatten.map (fun h => h.key))) := (by rw [HOj.out]; simp : OUT = (ks ++ [key]) ++ ((pg.drop (j + 1)).map (fun h => h.key) ++ (gss.drop (k + 1)).flatten.map (fun h => h.key)))
          have hk2 : Hid ((ks ++ [key]).length = m + 1) := (by rw [List.length_append, hkm.out]; rfl : (ks ++ [key]).length = m + 1)
          clear HOj
          go_wp2_with (at_builtin; go_must (refine append_tg textE steE (w0 := w) (B := w.heap.size) (d := ⟨#[]⟩) rfl (.tmp 28) (.tmp 31) rfl _ m _ rfl (ow2.alloc _) _ 1 1 [key] rfl (lit_text _ key (by simp)) (fun h => by cases h) (by omega) (b2.alloc b2.size _) (by simp; exact Nat.le_trans hbel.size (by omega)) ?_; intro a9 c9 w9 hg9 hc9 hn9 _ ho9 hb9 _))
          go_roundg g2
          case measure => omega
          case rel => exact ⟨j + 1, m + 1, c9, a9, ks ++ [key], by omega, by go_num, rfl, HE, ho9, hk2, hb9⟩

theorem Tb.ixp_step (pl : List Nat) (xss : List (List It.I)) {k : Nat} (hk : k < xss.length) : Tb.ixp (pl.drop k) (xss.drop k) = Va.one (Tb.firstKey (xss.getD k [])).length ++ (Tb.firstKey (xss.getD k []) ++ (Va.one (pl.getD k 0) ++ Tb.ixp (pl.drop (k + 1)) (xss.drop (k + 1)))) := by
  rw [Tb.drop_getD [] hk, Tb.ixp, getD_drop', List.drop_drop]
  rfl
theorem str_size_kb {K : ByteArray} {l : List Nat} (h : kb K = l) : K.size = l.length := by rw [← h, kb_len]

set_option maxRecDepth 100000 in
set_option maxHeartbeats 2000000 in
theorem tindex_any (b : Nat) (la : Option Addr) (ln lc : Nat) (ps : List PH) (gss : List (List IH)) (xss : List (List It.I)) (pa : Option Addr) (pc : Nat) (pl : List Nat) (w : World) (hP : PsAt w b la ln lc ps gss xss) (hne : ∀ p ∈ xss, p ≠ [] ∧ ∀ x ∈ p, x.1.length ≤ 64) (hln : ln ≤ 100000) (hr : Row .i64 w pa ln pl) (hpl : ∀ x ∈ pl, x ≤ 1000000000000) :
    Calls Tryz.prog 36 #[.pointer (some ⟨b, 0, none⟩), .slice pa ln pc] w (Made .u8 5 w (Tb.ixp pl xss)) := by
  have hl := hP.list
  have HI : Hid (InP w la ln ps gss xss) := hP.inp
  have HR : Hid (Row .i64 w pa ln pl) := hr
  have HPL : Hid (∀ x ∈ pl, x ≤ 1000000000000) := hpl
  have HNE : Hid (∀ p ∈ xss, p ≠ [] ∧ ∀ x ∈ p, x.1.length ≤ 64) := hne
  have hone : ∀ (n : Nat) (W : World) (q : Addr), Row .u64 W (some q) 1 [n] → Calls Tryz.prog 39 #[.slice (some q) 1 1] W (Made .u8 5 W (Va.one n)) := fun n W q h => by
    have := put_any (some q) 1 1 [n] W (by omega) h
    rw [put_one] at this
    exact this
  have hx : Hid (xss.length = ln) := hP.inp.len
  obtain ⟨OUT, hO⟩ : ∃ OUT, OUT = Tb.ixp pl xss := ⟨_, rfl⟩
  rw [← hO]
  have HS : Hid (OUT = [] ++ Tb.ixp (pl.drop 0) (xss.drop 0)) := (hO : OUT = [] ++ Tb.ixp (pl.drop 0) (xss.drop 0))
  have hown0 : w.ownsRow w.heap.size 5 1 (.slice none 0 0) 0 (kcells .u8 []) := ⟨rfl, .inl ⟨rfl, rfl⟩⟩
  clear hP hr hpl hne hO
  go_enter Tryz.func36, Tryz.ntmps36
  go_wp2_with fail
  go_loopg [5, 14] ln (fun g s5 s14 wx => ∃ (k m co : Nat) (ao : Option Addr) (bs : List Nat), k + g = ln ∧ s14 = .int .i64 k ∧ s5 = .slice ao m co ∧ m ≤ 84 * k ∧ Hid (OUT = bs ++ Tb.ixp (pl.drop k) (xss.drop k)) ∧ wx.ownsRow w.heap.size 5 1 (.slice ao m co) m (kcells .u8 bs) ∧ Hid (bs.length = m) ∧ Below w.heap.size w wx)
  case atStart => exact ⟨0, 0, 0, none, [], by omega, rfl, rfl, by omega, HS, hown0, (rfl : ([] : List Nat).length = 0), Below.refl _ _⟩
  case round =>
    obtain ⟨k, m, co, ao, bs, hkg, rfl, rfl, hm, HO, hown, hbm, hbel⟩ := hrel
    clear HS hown0 hl
    cases gk with
    | zero =>
      obtain rfl : k = ln := by omega
      have HE : Hid (OUT = bs) := (by
        have e : xss.drop k = [] := List.drop_of_length_le (by rw [hx.out]; omega)
        rw [HO.out, e]; simp [Tb.ixp] : OUT = bs)
      have hfin : Made .u8 5 w OUT (.returned (.slice ao m co)) wr := by
        have h1 := HE.out
        subst h1
        have h2 := hbm.out
        subst h2
        exact ⟨ao, co, rfl, hown, hbel⟩
      clear HO HE hown hbm
      go_wp2
      go_ret
      exact hfin
    | succ g =>
      have hkR : k < ln := by omega
      have hkz : (k : Int) < (ln : Int) := by omega
      have hk0 : (0 : Int) ≤ (k : Int) := by omega
      obtain ⟨cb, cof, rfl, hc⟩ := HI.out.1.part (by omega)
      have hcell := (hbel.cell (p := ⟨cb, cof + k, none⟩) (cell_lt (hc k hkR))).trans (hc k hkR)
      have hin := HI.out.2.2.2 k (by rw [hx.out]; exact hkR)
      obtain ⟨pb, po, rfl, hpc⟩ := HR.out.at (by omega)
      have hpk := hpc k hkR
      have y5 := fun (W : World) (hW : Below w.heap.size w W) => (hW.cell (p := ⟨pb, po + k, none⟩) (cell_lt hpk)).trans hpk
      have hmemk : xss.getD k [] ∈ xss := by rw [List.getD_eq_getElem?_getD, List.getElem?_eq_getElem (by rw [hx.out]; exact hkR)]; exact List.getElem_mem _
      obtain ⟨n1, n2⟩ := HNE.out _ hmemk
      have hpos : 0 < (ps.getD k phz).n := by rw [← hin.1.len]; exact List.length_pos_iff.mpr n1
      have hfk := tfirst_any _ _ _ _ _ wr (hin.below hbel (Nat.le_refl _)) hpos
      have hkey : kb ((gss.getD k []).getD 0 ihz).key = Tb.firstKey (xss.getD k []) := (hin.1.item hpos).key
      have hks : (Tb.firstKey (xss.getD k [])).length ≤ 64 := n2 _ (Tb.first_mem n1)
      have hpx : pl.getD k 0 ≤ 1000000000000 := by
        have hk' : k < pl.length := by rw [HR.out.1]; exact hkR
        rw [List.getD_eq_getElem?_getD, List.getElem?_eq_getElem hk', Option.getD_some]
        exact HPL.out _ (List.getElem_mem _)
      have hst := Tb.ixp_step pl xss (k := k) (by rw [hx.out]; exact hkR)
      rw [← hkey] at hst hks
      generalize ((gss.getD k []).getD 0 ihz).key = K at *
      generalize pl.getD k 0 = PK at *
      have hsz := kb_len K
      rw [hsz] at hst hks
      have o1 := Va.one_len10 (u := K.size) (by omega)
      have o2 := Va.one_len10 (u := PK) (by omega)
      have s1 := Va.one_small K.size
      have s2 := Va.one_small PK
      have q1 := Va.one_pos K.size
      have q2 := Va.one_pos PK
      have hp1 := fun W q h => hone K.size W q h
      have hp2 := fun W q h => hone PK W q h
      obtain ⟨O1, hO1⟩ : ∃ O1, O1 = Va.one K.size := ⟨_, rfl⟩
      obtain ⟨O2, hO2⟩ : ∃ O2, O2 = Va.one PK := ⟨_, rfl⟩
      rw [← hO1] at hst hp1 o1 s1 q1
      rw [← hO2] at hst hp2 o2 s2 q2
      have HE : Hid (OUT = (bs ++ O1 ++ kb K ++ O2) ++ Tb.ixp (pl.drop (k + 1)) (xss.drop (k + 1))) := (by rw [HO.out, hst]; simp : OUT = (bs ++ O1 ++ kb K ++ O2) ++ Tb.ixp (pl.drop (k + 1)) (xss.drop (k + 1)))
      have hb2 : Hid ((bs ++ O1 ++ kb K ++ O2).length = m + O1.length + K.size + O2.length) := (by simp [hbm.out, hsz]; omega : (bs ++ O1 ++ kb K ++ O2).length = m + O1.length + K.size + O2.length)
      obtain ⟨L1, hL1⟩ : ∃ L1, L1 = O1.length := ⟨_, rfl⟩
      obtain ⟨L2, hL2⟩ : ∃ L2, L2 = O2.length := ⟨_, rfl⟩
      have HL1 : Hid (O1.length = L1) := hL1.symm
      have HL2 : Hid (O2.length = L2) := hL2.symm
      unfold Made at hp1 hp2
      rw [HL1.out] at hb2 o1 q1 hp1
      rw [HL2.out] at hb2 o2 q2 hp2
      have i1 : IntKind.u64.wrap (K.size : Int) = (K.size : Int) := by simp only [IntKind.wrap_u64]; omega
      have i2 : IntKind.u64.wrap (PK : Int) = (PK : Int) := by simp only [IntKind.wrap_u64]; omega
      generalize ps.getD k phz = q at *
      obtain ⟨qa, qn, qc⟩ := q
      simp only at hcell hfk
      have bA := fun (W : World) (h : Below w.heap.size w W) (x : Nat) => h.alloc h.size (.cells #[.int .u64 (x : Nat)] 83)
      clear HO hc hin hst n1 n2 hmemk hpos hkey hO1 hO2 hL1 hL2 hpk hpc hone hsz
      go_wp2_with (first
        | (go_at_call 33; go_must (refine hfk.mono ?_; rintro e w1 ⟨rfl, hw⟩; rw [hw]; clear hw w1))
        | (go_at_call 39; have hz := hown4; go_must (refine (hp2 _ _ (row_new .u64 w4 83 PK (by show PK < 18446744073709551616; omega))).mono ?_; rintro e w5 ⟨a5, c5, rfl, ow5, b5⟩; have ow4' := owns_below (hown4.alloc (.cells #[.int .u64 (PK : Nat)] 83)) b5; have hb5 := (bA _ hb4 PK).trans (b5.mono (bA _ hb4 PK).size); obtain ⟨r5, r5n, r5c⟩ := row_of_owns ow5 s2 (by omega)))
        | (go_at_call 39; go_must (refine (hp1 _ _ (row_new .u64 wr 83 K.size (by show K.size < 18446744073709551616; omega))).mono ?_; rintro e w2 ⟨a2, c2, rfl, ow2, b2⟩; have ow' := owns_below (hown.alloc (.cells #[.int .u64 (K.size : Nat)] 83)) b2; have hb2' := (bA _ hbel K.size).trans (b2.mono (bA _ hbel K.size).size); obtain ⟨r2, r2n, r2c⟩ := row_of_owns ow2 s1 (by omega)))
        | (at_builtin; have hz := hb5; go_must (refine append_u8 (w0 := w) (B := w.heap.size) rfl (.tmp 31) (.tmp 38) rfl _ (m + L1 + K.size) _ rfl ow4' a5 L2 c5 O2 rfl r5 r5n (by omega) hb5 hb5.size ?_; intro a6 c6 w6 hown6 hb6 _))
        | (at_builtin; have hz := hown3; go_must (refine append_strat (w0 := w) (B := w.heap.size) rfl (.tmp 28) (.tmp 29) rfl _ (m + L1) _ rfl hown3 K rfl (by omega) hb3 hb3.size ?_; intro a4 c4 w4 hown4 hb4 _ _ _; have v5 := y5 _ hb4))
        | (at_builtin; go_must (refine append_u8 (w0 := w) (B := w.heap.size) rfl (.tmp 21) (.tmp 26) rfl _ m _ rfl ow' a2 L1 c2 O1 rfl r2 r2n (by omega) hb2' hb2'.size ?_; intro a3 c3 w3 hown3 hb3 _)))
      go_roundg g
      case measure => omega
      case rel => exact ⟨k + 1, m + L1 + K.size + L2, c6, a6, _, by omega, by go_num, rfl, by omega, HE, hown6, hb2, hb6⟩
end Go.Proofs.YtikieblokfjphaaGreat

/- The program's tables: the frames behind the parts. -/
namespace Go.Proofs.YtikieblokfjphaaGreat
open Go.RowKit Go.Shelf

/-- three frames as they lie, their bodies rows of the call's own -/
structure Tail3 (w w' : World) (g : Nat) (f1 f2 f3 : List Nat) (a1 a2 a3 : Option Addr) (c1 c2 c3 : Nat) : Prop where
  box : w'.heap[g]? = some (.cells #[.int .i64 2, .slice a1 f1.length c1, .int .i64 3, .slice a2 f2.length c2, .int .i64 4, .slice a3 f3.length c3] 54 (0, 0))
  o1 : w'.ownsRow w.heap.size 5 1 (.slice a1 f1.length c1) f1.length (kcells .u8 f1)
  o2 : w'.ownsRow w.heap.size 5 1 (.slice a2 f2.length c2) f2.length (kcells .u8 f2)
  o3 : w'.ownsRow w.heap.size 5 1 (.slice a3 f3.length c3) f3.length (kcells .u8 f3)
  ge : w.heap.size ≤ g
  below : Below w.heap.size w w'
def TailRes (w : World) (f1 f2 f3 : List Nat) (e : Ending) (w' : World) : Prop := ∃ g a1 a2 a3 c1 c2 c3, e = .returned (.slice (some ⟨g, 0, none⟩) 3 3) ∧ Tail3 w w' g f1 f2 f3 a1 a2 a3 c1 c2 c3

theorem tail_ret {w w4 : World} {f1 f2 f3 : List Nat} {a1 a2 a3 : Option Addr} {c1 c2 c3 : Nat} (o1 : w4.ownsRow w.heap.size 5 1 (.slice a1 f1.length c1) f1.length (kcells .u8 f1)) (o2 : w4.ownsRow w.heap.size 5 1 (.slice a2 f2.length c2) f2.length (kcells .u8 f2)) (o3 : w4.ownsRow w.heap.size 5 1 (.slice a3 f3.length c3) f3.length (kcells .u8 f3)) (hb : Below w.heap.size w w4) :
    TailRes w f1 f2 f3 (.returned (.slice (some ⟨w4.heap.size, 0, none⟩) 3 3)) (w4.alloc (.cells #[.int .i64 2, .slice a1 f1.length c1, .int .i64 3, .slice a2 f2.length c2, .int .i64 4, .slice a3 f3.length c3] 54)) :=
  ⟨_, a1, a2, a3, c1, c2, c3, rfl, ⟨heap_alloc_new _ _, o1.alloc _, o2.alloc _, o3.alloc _, hb.size, hb.alloc hb.size _⟩⟩
theorem world_call (W : World) {f : Nat} {args : Array Value} {Q : Ending → World → Prop} (h : Calls Tryz.prog f args W Q) : Calls Tryz.prog f args W Q := h

set_option maxRecDepth 100000 in
set_option maxHeartbeats 4000000 in
theorem ttail_any (b : Nat) (la : Option Addr) (ln lc : Nat) (ps : List PH) (gss : List (List IH)) (xss : List (List It.I)) (pa : Option Addr) (pc : Nat) (pl : List Nat) (w : World) (hP : PsAt w b la ln lc ps gss xss) (hne : ∀ p ∈ xss, p ≠ [] ∧ ∀ x ∈ p, x.1.length ≤ 64) (hcnt : (Tb.joined xss).length ≤ 16384) (hln : ln ≤ 100000) (hr : Row .i64 w pa ln pl) (hpl : ∀ x ∈ pl, x ≤ 1000000000000) :
    Calls Tryz.prog 13 #[.pointer (some ⟨b, 0, none⟩), .slice pa ln pc] w (TailRes w (Tb.ixp pl xss) (Sv.of ((Tb.joined xss).map (fun x => x.1))) (Va.one (Tb.joined xss).length)) := by
  have hix := fun (W : World) (hW : Below w.heap.size w W) => tindex_any b la ln lc ps gss xss pa pc pl W (hP.below hW (Nat.le_refl _)) hne hln (hr.below hW (Nat.le_refl _)) hpl
  have hks := fun (W : World) (hW : Below w.heap.size w W) => tkeys_any b la ln lc ps gss xss W (hP.below hW (Nat.le_refl _)) hcnt hln
  have hkl : (keysOf gss).length ≤ 16384 := by rw [parts_count hP.inp.2]; exact hcnt
  have hof := fun (W : World) a c (h : InT W a (keysOf gss).length c (keysOf gss)) => vof_own a _ c _ W hkl (fun s hs => by
    have h1 : kb s ∈ (keysOf gss).map kb := List.mem_map_of_mem hs
    rw [keysOf_kb hP.inp.2] at h1
    obtain ⟨x, hx, e⟩ := List.mem_map.mp h1
    obtain ⟨p, hp, hx⟩ := List.mem_flatten.mp hx
    have := (hne p hp).2 x hx
    rw [e, kb_len] at this
    omega) h
  rw [keysOf_kb hP.inp.2] at hof
  have hcc := hP.count
  generalize keysOf gss = ks at *
  generalize Sv.of ((Tb.joined xss).map (fun x => x.1)) = F2 at *
  generalize Tb.ixp pl xss = F1 at *
  generalize (Tb.joined xss).length = M at *
  have hone : ∀ (W : World) (q : Addr), Row .u64 W (some q) 1 [M] → Calls Tryz.prog 39 #[.slice (some q) 1 1] W (Made .u8 5 W (Va.one M)) := fun W q h => by
    have := put_any (some q) 1 1 [M] W (by omega) h
    rw [put_one] at this
    exact this
  generalize Va.one M = F3 at *
  have i1 : IntKind.u64.wrap (M : Int) = (M : Int) := by simp only [IntKind.wrap_u64]; omega
  have cc := fun (W : World) (hW : Below w.heap.size w W) => (hW.cell (p := ⟨b, 1, none⟩) (cell_lt hcc)).trans hcc
  clear hP hr hpl hne
  go_enter Tryz.func13, Tryz.ntmps13
  go_wp2_with fail
  go_region_held3 (fun w' => w'.cell? ⟨b, 1, none⟩ = some (.int .i64 (M : Nat))) (first | go_keep | assumption)
    (first
      | (go_at_call 36; (with_reducible refine world_call w.drew ?_); refine (hix _ (Below.refl _ _).drew).mono ?_; rintro e w1 ⟨a1, c1, rfl, o1, b1⟩; have hb1 : Below w.heap.size w w1 := below_of_drew b1; have k1 := cc _ hb1)
      | (go_at_call 36; (with_reducible refine world_call (w.alloc (.cells #[.int .u64 (M : Nat)] 83)).drew ?_); refine (hix _ (below_alloc _ _).drew).mono ?_; rintro e w1 ⟨a1, c1, rfl, o1', b1⟩; have b1' := below_of_drew b1; have hb1 : Below w.heap.size w w1 := (below_alloc w (.cells #[.int .u64 (M : Nat)] 83)).trans (b1'.mono (below_alloc w (.cells #[.int .u64 (M : Nat)] 83)).size); have o1 := owns_base o1' (show w.heap.size ≤ _ by simp); have lit1 := (row_new .u64 w 83 M (by show M < 18446744073709551616; omega)).below b1' (Nat.le_refl _); have k1 := cc _ hb1)
      | (go_at_call 38; (with_reducible refine world_call w1 ?_); refine (hks _ hb1).mono ?_; rintro e w2 ⟨a2, c2, rfl, t2, b2⟩; have hb2 : Below w.heap.size w w2 := hb1.trans (b2.mono hb1.size); have o12 := owns_below o1 b2; (try have lit2 := lit1.below b2 (Nat.le_refl _)); have k2 := cc _ hb2)
      | (go_at_call 38; (with_reducible refine world_call (w1.alloc (.cells #[.int .u64 (M : Nat)] 83)) ?_); have hbA := hb1.alloc hb1.size (.cells #[.int .u64 (M : Nat)] 83); refine (hks _ hbA).mono ?_; rintro e w2 ⟨a2, c2, rfl, t2, b2⟩; have hb2 : Below w.heap.size w w2 := hbA.trans (b2.mono hbA.size); have o12 := owns_below (o1.alloc (.cells #[.int .u64 (M : Nat)] 83)) b2; have lit2 := (row_new .u64 w1 83 M (by show M < 18446744073709551616; omega)).below b2 (Nat.le_refl _); have k2 := cc _ hb2)
      | (go_at_call 37; (with_reducible refine world_call w2 ?_); refine (hof _ _ _ t2).mono ?_; rintro e w3 ⟨a3, c3, rfl, o3', b3⟩; have hb3 : Below w.heap.size w w3 := hb2.trans (b3.mono hb2.size); have o3 := owns_base o3' hb2.size; have o13 := owns_below o12 b3; (try have lit3 := lit2.below b3 (Nat.le_refl _)); have k3 := cc _ hb3)
      | (go_at_call 37; (with_reducible refine world_call (w2.alloc (.cells #[.int .u64 (M : Nat)] 83)) ?_); have hbA := hb2.alloc hb2.size (.cells #[.int .u64 (M : Nat)] 83); refine (hof _ _ _ (t2.below (below_alloc w2 (.cells #[.int .u64 (M : Nat)] 83)) (Nat.le_refl _))).mono ?_; rintro e w3 ⟨a3, c3, rfl, o3', b3⟩; have hb3 : Below w.heap.size w w3 := hbA.trans (b3.mono hbA.size); have o3 := owns_base o3' hbA.size; have o13 := owns_below (o12.alloc (.cells #[.int .u64 (M : Nat)] 83)) b3; have lit3 := (row_new .u64 w2 83 M (by show M < 18446744073709551616; omega)).below b3 (Nat.le_refl _); have k3 := cc _ hb3)
      | (go_at_call 39; (with_reducible refine world_call w3 ?_); refine (hone _ _ lit3).mono ?_; rintro e w4 ⟨a4, c4, rfl, o4', b4⟩; have hb4 : Below w.heap.size w w4 := hb3.trans (b4.mono hb3.size); have o4 := owns_base o4' hb3.size; have o14 := owns_below o13 b4; have o34 := owns_below o3 b4; have k4 := cc _ hb4)
      | (go_at_call 39; (with_reducible refine world_call (w3.alloc (.cells #[.int .u64 (M : Nat)] 83)) ?_); have hbA := hb3.alloc hb3.size (.cells #[.int .u64 (M : Nat)] 83); refine (hone _ _ (row_new .u64 w3 83 M (by show M < 18446744073709551616; omega))).mono ?_; rintro e w4 ⟨a4, c4, rfl, o4', b4⟩; have hb4 : Below w.heap.size w w4 := hbA.trans (b4.mono hbA.size); have o4 := owns_base o4' hbA.size; have o14 := owns_below (o13.alloc (.cells #[.int .u64 (M : Nat)] 83)) b4; have o34 := owns_below (o3.alloc (.cells #[.int .u64 (M : Nat)] 83)) b4; have k4 := cc _ hb4))
  all_goals
    go_wp2
    go_ret
    exact tail_ret o14 o34 o4 hb4
end Go.Proofs.YtikieblokfjphaaGreat
