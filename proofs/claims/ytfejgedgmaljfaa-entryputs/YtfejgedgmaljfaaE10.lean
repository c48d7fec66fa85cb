/- What the reference's Put of entries does. -/
import Derived.Test.YtfejgedgmaljfaaBEa
import Derived.Lib.AppendStr
import Derived.Lib.AppendZeros
namespace Go.Proofs.Ytfejgedgmaljfaa
open Go.RowKit

theorem str_kcells (s : ByteArray) : Lib.strCells s = kcells .u8 (kb s) := by
  simp [Lib.strCells, kcells, kb]
/-- append of a text's bytes -/
theorem append_str {w0 w : World} {B : Nat} {ops : Array Oper} {rest : List Oper} {o : Oper} {a : Act} {Q : Exit → Act → World → Prop} (hgd : o.guard = none) (s x : Operand)
    (ho : o.op = .call { callee := .builtin .append, args := #[s, x], argTypes := #[27, 9] })
    (v : Value) (n : Nat) (xs : List Nat) (hs : a.eval s = v) (hown : w.ownsRow B 5 1 v n (kcells .u8 xs)) (t : ByteArray) (hx : a.eval x = .string t)
    (hnm : n + t.size ≤ 1000000000000) (hbel : Below B w0 w) (hB : B ≤ w.heap.size)
    (h : ∀ a' c' w', w'.ownsRow B 5 1 (.slice a' (n + t.size) c') (n + t.size) (kcells .u8 (xs ++ kb t)) → Below B w0 w' → B ≤ w'.heap.size → w.grownBy w' v.ownBlock → wpList Try.prog ops Q rest (a.put o.dst (.slice a' (n + t.size) c')) w') : wpList Try.prog ops Q (o :: rest) a w := by
  obtain ⟨i0, hi, hz0, hz1, hz2⟩ := info_parts Try.info5
  obtain ⟨v', w', hrun, hown', hg, _⟩ := Lib.run_append_own_string (P := Try.prog) w B 27 9 o.type 5 i0 Try.underlying27 Try.underlying9 hi hz0 hz1 hz2 v n (kcells .u8 xs) hown t (by unfold maxLen; omega) (by omega) hB
  refine Lib.wpList_append_run w hgd s x _ _ ho _ _ hs hx _ _ hrun ?_
  obtain ⟨a', c', rfl⟩ := slice_of_owns hown'
  rw [str_kcells, ← kcells_append] at hown'
  exact h a' c' w' hown' (hbel.grown hg hB (fun k hk => (hown.lt k hk).1)) (Nat.le_trans hB hg.size) hg
theorem step_str {w0 w : World} {B : Nat} {ops : Array Oper} {o : Oper} {a : Act} {K : Act → World → Prop} {Q : Exit → Act → World → Prop} {E : Prop} (hgd : o.guard = none) (s x : Operand)
    (ho : o.op = .call { callee := .builtin .append, args := #[s, x], argTypes := #[27, 9] })
    (v : Value) (n : Nat) (xs : List Nat) (hs : a.eval s = v) (hown : w.ownsRow B 5 1 v n (kcells .u8 xs)) (t : ByteArray) (hx : a.eval x = .string t)
    (hnm : n + t.size ≤ 1000000000000) (hbel : Below B w0 w) (hB : B ≤ w.heap.size)
    (h : ∀ a' c' w', w'.ownsRow B 5 1 (.slice a' (n + t.size) c') (n + t.size) (kcells .u8 (xs ++ kb t)) → Below B w0 w' → B ≤ w'.heap.size → w.grownBy w' v.ownBlock → K (a.put o.dst (.slice a' (n + t.size) c')) w') :
    if Region.wanted o (yielded ops a.tmps) = true then Oper.wp Try.prog o a w K Q else E := by
  have hw : Region.wanted o (yielded ops a.tmps) = true := by simp [Region.wanted, hgd]
  rw [if_pos hw]
  obtain ⟨i0, hi, hz0, hz1, hz2⟩ := info_parts Try.info5
  obtain ⟨v', w', hrun, hown', hg, _⟩ := Lib.run_append_own_string (P := Try.prog) w B 27 9 o.type 5 i0 Try.underlying27 Try.underlying9 hi hz0 hz1 hz2 v n (kcells .u8 xs) hown t (by unfold maxLen; omega) (by omega) hB
  refine Lib.wp_append_run w s x _ _ ho _ _ hs hx _ _ hrun ?_
  obtain ⟨a', c', rfl⟩ := slice_of_owns hown'
  rw [str_kcells, ← kcells_append] at hown'
  exact h a' c' w' hown' (hbel.grown hg hB (fun k hk => (hown.lt k hk).1)) (Nat.le_trans hB hg.size) hg

/-- the entry's own block, as it was laid -/
theorem ent_cells {W : World} {g : Nat} {c0 c1 c2 c3 c4 c5 c6 c7 c8 c9 : Value} {e : TypeId} (h : W.heap[g]? = some (.cells #[c0, c1, c2, c3, c4, c5, c6, c7, c8, c9] e (0, 0))) : W.cell? ⟨g, 0, none⟩ = some c0 ∧ W.cell? ⟨g, 1, none⟩ = some c1 ∧ W.cell? ⟨g, 2, none⟩ = some c2 ∧ W.cell? ⟨g, 3, none⟩ = some c3 ∧ W.cell? ⟨g, 4, none⟩ = some c4 ∧ W.cell? ⟨g, 5, none⟩ = some c5 ∧ W.cell? ⟨g, 6, none⟩ = some c6 ∧ W.cell? ⟨g, 7, none⟩ = some c7 ∧ W.cell? ⟨g, 8, none⟩ = some c8 ∧ W.cell? ⟨g, 9, none⟩ = some c9 := by
  have k : ∀ i, W.cell? ⟨g, i, none⟩ = #[c0, c1, c2, c3, c4, c5, c6, c7, c8, c9][i]? := fun i => by
    simp only [World.cell?, h]
    rfl
  exact ⟨k 0, k 1, k 2, k 3, k 4, k 5, k 6, k 7, k 8, k 9⟩
theorem ent_alloc {W : World} {g : Nat} {x : Obj} (h : W.heap[g]? = some x) (o : Obj) : (W.alloc o).heap[g]? = some x := by
  rw [Below.heap_alloc W o g (by
    rcases Nat.lt_or_ge g W.heap.size with h1 | h1
    · exact h1
    · rw [Array.getElem?_eq_none h1] at h; cases h)]
  exact h
theorem ent_lt {W : World} {g : Nat} {x : Obj} (h : W.heap[g]? = some x) : g < W.heap.size := by
  rcases Nat.lt_or_ge g W.heap.size with h1 | h1
  · exact h1
  · rw [Array.getElem?_eq_none h1] at h; cases h
theorem ent_below {W W' : World} {g : Nat} {x : Obj} (h : W.heap[g]? = some x) (hb : Below W.heap.size W W') : W'.heap[g]? = some x := (hb.block g (ent_lt h)).trans h
theorem ent_apart {W : World} {g B n : Nat} {v : Value} {cs : Array Value} {xs : List Value} {fz : Nat × Nat} (h : W.heap[g]? = some (.cells cs 34 fz)) (hown : W.ownsRow B 5 1 v n xs) : some g ≠ v.ownBlock := by
  intro e
  rcases hown.2 with ⟨rfl, _⟩ | ⟨k, cap, cur, rfl, _, hk, _⟩
  · cases e
  · have : g = k := by simpa [Value.ownBlock] using e
    subst this
    rw [h] at hk
    simp only [Option.some.injEq, Obj.cells.injEq] at hk
    exact absurd hk.2.1 (by decide)
theorem ent_grown {W W' : World} {g B n : Nat} {v : Value} {cs : Array Value} {xs : List Value} {fz : Nat × Nat} (h : W.heap[g]? = some (.cells cs 34 fz)) (hown : W.ownsRow B 5 1 v n xs) (hg : W.grownBy W' v.ownBlock) : W'.heap[g]? = some (.cells cs 34 fz) := (hg.block g (ent_lt h) (ent_apart h hown)).trans h

theorem step_u8h {w0 w : World} {B : Nat} {ops : Array Oper} {o : Oper} {a : Act} {K : Act → World → Prop} {Q : Exit → Act → World → Prop} {E : Prop} (hgd : o.guard = none) (s x : Operand)
    (ho : o.op = .call { callee := .builtin .append, args := #[s, x], argTypes := #[27, 27] })
    (v : Value) (n : Nat) (xs : List Nat) (hs : a.eval s = v) (hown : w.ownsRow B 5 1 v n (kcells .u8 xs))
    (ad : Addr) (m c : Nat) (bs : List Nat) (hx : a.eval x = .slice (some ad) m c) (hrow : Row .u8 w (some ad) m bs)
    (hnm : n + m ≤ 1000000000000) (hbel : Below B w0 w) (hB : B ≤ w.heap.size)
    (h : ∀ a' c' w', w'.ownsRow B 5 1 (.slice a' (n + m) c') (n + m) (kcells .u8 (xs ++ bs)) → Below B w0 w' → B ≤ w'.heap.size → w.grownBy w' v.ownBlock → K (a.put o.dst (.slice a' (n + m) c')) w') :
    if Region.wanted o (yielded ops a.tmps) = true then Oper.wp Try.prog o a w K Q else E := by
  have hw : Region.wanted o (yielded ops a.tmps) = true := by simp [Region.wanted, hgd]
  rw [if_pos hw]
  obtain ⟨i0, hi, hz0, hz1, hz2⟩ := info_parts Try.info5
  obtain ⟨h1, h2, h3, h4⟩ := hrow
  refine wp_append_own w s x 27 ho B 5 i0 (.int .u8 0) 1 1 Try.underlying27 hi hz0 hz1 hz2 rfl (by decide) v n (kcells .u8 xs) hs hown ad m c (kcells .u8 bs) hx (by rw [kcells_length]; omega) ?_ ?_ (by unfold maxLen; omega) (by omega) hB ?_
  · intro j u hj
    obtain ⟨hlt, rfl⟩ := kcells_get .u8 bs j u hj
    rcases h4 with h0 | ⟨b, off, e, hc⟩
    · omega
    · obtain rfl : ad = ⟨b, off, none⟩ := by simpa using e
      rw [add_at]; exact hc j (by omega)
  · intro u hu
    simp only [kcells, List.mem_map] at hu
    obtain ⟨n, _, rfl⟩ := hu
    rfl
  · intro v' w' hown' hg _
    obtain ⟨a', c', rfl⟩ := slice_of_owns hown'
    exact h a' c' w' (by rw [kcells_append]; exact hown') (hbel.grown hg hB (fun k hk => (hown.lt k hk).1)) (Nat.le_trans hB hg.size) hg
theorem own_some6 {W : World} {B n c : Nat} {a : Option Addr} {e : TypeId} {xs : List Value} (h : W.ownsRow B e 1 (.slice a n c) n xs) (hn : 0 < n) : ∃ q, a = some q := by
  rcases h.2 with ⟨_, h0⟩ | ⟨g, cap, cur, e, _⟩
  · omega
  · simp only [Value.slice.injEq] at e
    exact ⟨_, e.1⟩
theorem cerefput_any (f : Bool) (a : Option Addr) (n c : Nat) (bs : List Nat) (p : Po.P) (w : World) (hr : Row .u8 w a n bs) (hnil : a = none → n = 0 ∧ c = 0) (hf : Po.Fits p) (hmay : Ce.may (f, bs, p) = true) :
    Calls Try.prog 31 #[cv f a n c p] w (Made .u8 5 w (Ce.put (f, bs, p))) := by
  cases f with
  | true =>
    obtain ⟨rfl, hp⟩ := Ce.may_far.mp hmay
    obtain rfl : n = 0 := hr.1.symm
    have := ceput_far a c p w hp hf
    simpa [Ce.put] using this
  | false =>
    obtain ⟨hl, rfl⟩ := Ce.may_near.mp hmay
    obtain rfl : bs.length = n := hr.1
    have := ceput_near a bs.length c bs Po.zero w hl hr hnil
    simpa [Ce.put] using this

set_option maxRecDepth 100000 in
set_option maxHeartbeats 1000000 in
theorem enput_any (a : Option Addr) (l c : Nat) (es : List En.E) (w : World) (hr : ERow w a l es) (hbat : En.batch es = true) :
    Calls Try.prog 14 #[.slice a l c] w (Made .u8 5 w (En.put es)) := by
  obtain ⟨hmay, hchain, hl1, hl16⟩ := En.batch_parts hbat
  have hlen := hr.1
  rw [hlen] at hl1 hl16
  obtain ⟨b, o, rfl, hc⟩ := hr.at (by omega)
  obtain ⟨s0, A0, L0, C0, p0, _⟩ := hc 0 (by omega)
  rw [Nat.zero_mul, Nat.add_zero] at p0
  have hmay0 : ∀ i, i < l → En.may (es.getD i En.zero) = true := fun i hi => by
    have hi' : i < es.length := by rw [hlen]; exact hi
    rw [show es.getD i En.zero = es[i] by simp [hi']]; exact hmay _ (List.getElem_mem hi')
  obtain ⟨hx1, hx2, _⟩ := En.may_parts (hmay0 0 (by omega))
  obtain ⟨ix, hix⟩ : ∃ ix : Nat, (es.getD 0 En.zero).1 = (ix : Int) := ⟨(es.getD 0 En.zero).1.toNat, by omega⟩
  rw [hix] at p0 hx1 hx2
  have H0 : Hid (En.put es = Va.put [l, ix] ++ es.flatMap En.put1) := (by
    unfold En.put
    rw [hlen, show (es.headD En.zero).1.toNat = ix by
      have : es.headD En.zero = es.getD 0 En.zero := by cases es <;> rfl
      rw [this, hix]; rfl] : En.put es = Va.put [l, ix] ++ es.flatMap En.put1)
  have i1 : IntKind.u64.wrap (ix : Int) = (ix : Int) := by simp only [IntKind.wrap_u64]; omega
  have hput : ∀ (W : World) (q : Addr), Row .u64 W (some q) 2 [l, ix] → Calls Try.prog 29 #[.slice (some q) 2 2] W (Made .u8 5 W (Va.put [l, ix])) := fun W q h => refput_any (some q) 2 2 [l, ix] W (by omega) h
  have hrow : ∀ W : World, Row .u64 (W.alloc (.cells #[.int .u64 (l : Nat), .int .u64 (ix : Nat)] 54)) (some ⟨W.heap.size, 0, none⟩) 2 [l, ix] := fun W => row_lit .u64 W 54 _ [l, ix] 2 rfl rfl (by intro u hu; simp only [List.mem_cons, List.not_mem_nil, or_false] at hu; show u < 18446744073709551616; omega) (by omega)
  have hpl : (Va.put [l, ix]).length ≤ 20 := by
    have := Va.put_len [l, ix] (by intro u hu; simp only [List.mem_cons, List.not_mem_nil, or_false] at hu; omega)
    simpa using this
  have hb0 := below_alloc w (.cells #[.int .u64 (l : Nat), .int .u64 (ix : Nat)] 54)
  generalize Va.put [l, ix] = hd at *
  generalize En.put es = out at *
  go_enter Try.func14, Try.ntmps14
  go_wp2_with (go_at_call 29; go_must (refine (hput _ _ (hrow _)).mono ?_; rintro e w2 ⟨a2, c2, rfl, hown2, hbel2⟩))
  have hown2' := hown2.mono (base' := w.heap.size) (by simp)
  have hbel2' := hb0.trans (hbel2.mono hb0.size)
  clear hown2 hbel2
  go_loopw [3, 4] (fun v i wr => ∃ (k : Nat) (a' : Option Addr) (n c' : Nat), k ≤ l ∧ i = .int .i64 k ∧ v = .slice a' n c' ∧ n ≤ 20 + 200 * k ∧ wr.ownsRow w.heap.size 5 1 (.slice a' n c') n (kcells .u8 (hd ++ (es.take k).flatMap En.put1)) ∧ Below w.heap.size w wr) (fun _ i _ => l - (intOf i).toNat)
  case atStart => exact ⟨0, a2, _, c2, by omega, rfl, rfl, by omega, by simpa using hown2', hbel2'⟩
  case round =>
    obtain ⟨k, a', n, c', hk, rfl, rfl, hn, hown, hbel⟩ := hrel
    clear hown2' hbel2' p0
    by_cases hlt : k < l
    · obtain ⟨s1, A1, L1, C1, p0, p1, p2, p3, p4, p5, p6, p7, p8, p9, hk1, hz1, r1, t1, ff1⟩ := hc k hlt
      have hM := hmay0 k hlt
      have i0 : (0 : Int) ≤ (k : Int) := Int.natCast_nonneg _
      have i2 : (k : Int) < (l : Int) := by omega
      have HT : Hid ((es.take (k + 1)).flatMap En.put1 = (es.take k).flatMap En.put1 ++ En.put1 (es.getD k En.zero)) := (by
        have hk' : k < es.length := by rw [hlen]; exact hlt
        rw [List.take_succ_eq_append_getElem hk', List.flatMap_append, show es.getD k En.zero = es[k] by simp [hk']]; simp : (es.take (k + 1)).flatMap En.put1 = (es.take k).flatMap En.put1 ++ En.put1 (es.getD k En.zero))
      obtain ⟨⟨xi, xt, xk, y1, f1, v1, ps, py, pl, pm⟩, hf1⟩ : ∃ f, f = es.getD k En.zero := ⟨_, rfl⟩
      rw [← hf1] at p0 p1 p2 p4 p6 p7 p8 p9 hk1 r1 ff1 hM HT
      obtain ⟨hy1, hy2, hy3, hy4, hcm, hkl, hkind, _⟩ := En.may_parts hM
      simp only at p0 p1 p2 p4 p6 p7 p8 p9 hk1 r1 hy3 hy4 hcm hkl hkind
      subst hk1
      rw [kb_len] at hkl
      obtain ⟨t, rfl⟩ : ∃ t : Nat, xt = (t : Int) := ⟨xt.toNat, by omega⟩
      obtain ⟨kd, rfl⟩ : ∃ t : Nat, xk = (t : Int) := ⟨xk.toNat, by omega⟩
      have hkd : kd ≤ 2 := by omega
      have hfit : Po.Fits (ps, py, pl, pm) := ff1.2.2.2
      have HP : Hid (En.put1 (xi, (t : Int), (kd : Int), kb s1, f1, v1, ps, py, pl, pm) = Va.one t ++ [kd] ++ Va.one s1.size ++ kb s1 ++ (if (kd : Int) = 2 then [] else Ce.put (f1, v1, ps, py, pl, pm))) := (by
        unfold En.put1; simp only [kb_len, Int.toNat_natCast] : En.put1 (xi, (t : Int), (kd : Int), kb s1, f1, v1, ps, py, pl, pm) = Va.one t ++ [kd] ++ Va.one s1.size ++ kb s1 ++ (if (kd : Int) = 2 then [] else Ce.put (f1, v1, ps, py, pl, pm)))
      have hone1 := fun W => one_any t t W (Nat.le_refl _) (by omega)
      have hone2 := fun W => one_any s1.size s1.size W (Nat.le_refl _) (by omega)
      have ho1 : ∀ u ∈ Va.one t, u < lim .u8 := Va.one_small t
      have ho2 : ∀ u ∈ Va.one s1.size, u < lim .u8 := Va.one_small s1.size
      have hl1' := Va.one_len10 (u := t) (by omega)
      have hp2' := Va.one_pos s1.size
      have hl2' := Va.one_len10 (u := s1.size) (by omega)
      have j3 : IntKind.u64.wrap (t : Int) = (t : Int) := by simp only [IntKind.wrap_u64]; omega
      have j4 : IntKind.u8.wrap (kd : Int) = (kd : Int) := by rw [IntKind.wrap_u8]; omega
      have j5 : IntKind.u64.wrap (s1.size : Int) = (s1.size : Int) := by simp only [IntKind.wrap_u64]; omega
      clear hf1 hc hmay0 hmay hM ff1 hy1 hy2 hkind hz1
      generalize (es.take k).flatMap En.put1 = sofar at *
      generalize En.put1 (xi, (t : Int), (kd : Int), kb s1, f1, v1, ps, py, pl, pm) = pe at *
      generalize Va.one t = o1 at *
      generalize Va.one s1.size = o2 at *
      have hec : Hid (ECells w b (o + k * 10) (.int .i64 xi) (.int .i64 (t : Nat)) (.int .i64 (kd : Nat)) (.string s1) (.bool f1) (.slice A1 L1 C1) (.int .i64 ps) (.int .i64 py) (.int .i64 pl) (.int .u32 (pm : Nat))) := (⟨p0, p1, p2, p3, p4, p5, p6, p7, p8, p9⟩ : ECells w b (o + k * 10) (.int .i64 xi) (.int .i64 (t : Nat)) (.int .i64 (kd : Nat)) (.string s1) (.bool f1) (.slice A1 L1 C1) (.int .i64 ps) (.int .i64 py) (.int .i64 pl) (.int .u32 (pm : Nat)))
      clear p0 p1 p2 p3 p4 p5 p6 p7 p8 p9
      obtain ⟨p0, p1, p2, p3, p4, p5, p6, p7, p8, p9⟩ := hec.out.below hbel
      have hbE := hbel.alloc hbel.size (.cells #[.int .i64 xi, .int .i64 (t : Nat), .int .i64 (kd : Nat), .string s1, .bool f1, .slice A1 L1 C1, .int .i64 ps, .int .i64 py, .int .i64 pl, .int .u32 (pm : Nat)] 34)
      have hoE := hown.alloc (.cells #[.int .i64 xi, .int .i64 (t : Nat), .int .i64 (kd : Nat), .string s1, .bool f1, .slice A1 L1 C1, .int .i64 ps, .int .i64 py, .int .i64 pl, .int .u32 (pm : Nat)] 34)
      have hE0 : Hid ((wr.alloc (.cells #[.int .i64 xi, .int .i64 (t : Nat), .int .i64 (kd : Nat), .string s1, .bool f1, .slice A1 L1 C1, .int .i64 ps, .int .i64 py, .int .i64 pl, .int .u32 (pm : Nat)] 34)).heap[wr.heap.size]? = some (.cells #[.int .i64 xi, .int .i64 (t : Nat), .int .i64 (kd : Nat), .string s1, .bool f1, .slice A1 L1 C1, .int .i64 ps, .int .i64 py, .int .i64 pl, .int .u32 (pm : Nat)] 34)) := heap_alloc_new wr _
      go_wp2_with (first
        | (go_at_call 30; go_must (refine (hone1 _).mono ?_; rintro e w3 ⟨a3, c3, rfl, hown3, hbel3⟩; have hE3 := ent_below hE0.out hbel3; have hb3 := hbE.trans (hbel3.mono hbE.size); have hr3 := row_of_owns hown3 ho1 (by omega); have hk3 := owns_below hoE hbel3))
        | (at_builtin; have := hE3; go_must (refine append_u8g (w0 := w) (B := w.heap.size) rfl (.tmp 26) (.tmp 30) rfl _ n (hd ++ sofar) rfl hk3 a3 o1.length c3 o1 rfl hr3.1 hr3.2.1 (by omega) hb3 hb3.size ?_; intro a4 c4 w4 hown4 hb4 hsz4 hg4; have hE4 : Hid (_) := ent_grown hE3 hk3 hg4; obtain ⟨x0, x1, x2, x3, x4, x5, x6, x7, x8, x9⟩ := ent_cells hE4.out)))
      have hownK := (hown4.alloc (.cells #[.int .u8 (kd : Nat)] 5)).drew
      have hrowK : Row .u8 (w4.alloc (.cells #[.int .u8 (kd : Nat)] 5)).drew (some ⟨w4.heap.size, 0, none⟩) 1 [kd] := row_newz .u8 w4 5 _ kd rfl (by show kd < 256; omega)
      have hbK := (hb4.alloc hsz4 (.cells #[.int .u8 (kd : Nat)] 5)).drew
      have hszK := hbK.size
      have hEK : Hid ((w4.alloc (.cells #[.int .u8 (kd : Nat)] 5)).drew.heap[wr.heap.size]? = some (.cells #[.int .i64 xi, .int .i64 (t : Nat), .int .i64 (kd : Nat), .string s1, .bool f1, .slice A1 L1 C1, .int .i64 ps, .int .i64 py, .int .i64 pl, .int .u32 (pm : Nat)] 34)) := ent_alloc hE4.out (.cells #[.int .u8 (kd : Nat)] 5)
      have hne4 := World.new_ne w4 ⟨wr.heap.size, 3, none⟩ x3
      go_region_held3 (fun w' => w'.cell? ⟨wr.heap.size, 2, none⟩ = some (.int .i64 (kd : Nat)) ∧ w'.cell? ⟨wr.heap.size, 3, none⟩ = some (.string s1)) (first | go_keep | (refine ⟨?_, ?_⟩ <;> assumption))
        (first
          | ((go_at_call 30; have := hE5; refine (hone2 _).mono ?_; rintro e w6 ⟨a6, c6, rfl, hown6, hbel6⟩; have hE6 := ent_below hE5.out hbel6; have hb6 := hb5.trans (hbel6.mono hsz5); have hr6 := row_of_owns hown6 ho2 (by omega); have hk6 := owns_below hown5 hbel6; obtain ⟨q6, rfl⟩ := own_some6 hown6 hp2'; obtain ⟨y0, y1, y2, y3, y4, y5, y6, y7, y8, y9⟩ := ent_cells hE6))
          | ((have := hE6; refine step_u8h (w0 := w) (B := w.heap.size) (by rfl) _ _ (by rfl) _ (n + o1.length + 1) (hd ++ sofar ++ o1 ++ [kd]) (by rfl) hk6 q6 o2.length c6 o2 (by rfl) hr6.1 (by omega) hb6 hb6.size ?_; intro a7 c7 w7 hown7 hb7 hsz7 hg7; have hE7 : Hid (_) := ent_grown hE6 hk6 hg7; obtain ⟨z0, z1, z2, z3, z4, z5, z6, z7, z8, z9⟩ := ent_cells hE7.out))
          | ((have := hEK; refine step_u8h (w0 := w) (B := w.heap.size) (by rfl) _ _ (by rfl) _ (n + o1.length) (hd ++ sofar ++ o1) (by rfl) hownK ⟨w4.heap.size, 0, none⟩ 1 1 [kd] (by rfl) hrowK (by omega) hbK hszK ?_; intro a5 c5 w5 hown5 hb5 hsz5 hg5; have hE5 : Hid (_) := ent_grown hEK.out hownK hg5; obtain ⟨m0, m1, m2, m3, m4, m5, m6, m7, m8, m9⟩ := ent_cells hE5.out)))
      have hrc := fun W (h : Below w.heap.size w W) => cerefput_any f1 A1 L1 C1 v1 (ps, py, pl, pm) W (r1.below h (Nat.le_refl _)) t1 hfit hcm
      simp only [cv] at hrc
      have hql := Ce.put_len hcm
      have hqs : ∀ u ∈ Ce.put (f1, v1, ps, py, pl, pm), u < lim .u8 := Ce.put_small r1.2.2.1
      by_cases hk2 : kd = 2
      · have HE : Hid ((es.take (k + 1)).flatMap En.put1 = sofar ++ o1 ++ [kd] ++ o2 ++ kb s1) := (by rw [HT.out, HP.out, if_pos (by omega)]; simp : (es.take (k + 1)).flatMap En.put1 = sofar ++ o1 ++ [kd] ++ o2 ++ kb s1)
        have hd2 : ((kd : Int) != 2) = false := by simp; omega
        clear HT HP hrc hqs hql
        go_wp2_with (first
          | (at_builtin; have := hE7; go_must (refine append_str (w0 := w) (B := w.heap.size) rfl (.tmp 44) (.tmp 46) rfl _ (n + o1.length + 1 + o2.length) (hd ++ sofar ++ o1 ++ [kd] ++ o2) rfl hown7 s1 rfl (by omega) hb7 hsz7 ?_; intro a8 c8 w8 hown8 hb8 hsz8 hg8; have hE8 : Hid (_) := ent_grown hE7.out hown7 hg8; obtain ⟨n0, n1, n2, n3, n4, n5, n6, n7, n8, n9⟩ := ent_cells hE8.out)))
        go_roundw
        case rel => exact ⟨k + 1, a8, _, c8, by omega, by go_num, rfl, by omega, by rw [HE.out]; simpa using hown8, hb8⟩
        case measure => simp [intOf]; omega
      · have HE : Hid ((es.take (k + 1)).flatMap En.put1 = sofar ++ o1 ++ [kd] ++ o2 ++ kb s1 ++ Ce.put (f1, v1, ps, py, pl, pm)) := (by rw [HT.out, HP.out, if_neg (by omega)]; simp : (es.take (k + 1)).flatMap En.put1 = sofar ++ o1 ++ [kd] ++ o2 ++ kb s1 ++ Ce.put (f1, v1, ps, py, pl, pm))
        have hd2 : ((kd : Int) != 2) = true := by simp; omega
        clear HT HP
        generalize Ce.put (f1, v1, ps, py, pl, pm) = pc at *
        go_wp2_with (first
          | (go_at_call 31; go_must (refine (hrc _ hb8).mono ?_; rintro e w9 ⟨a9, c9, rfl, hown9, hbel9⟩; have hb9 := hb8.trans (hbel9.mono hsz8); have hr9 := row_of_owns hown9 hqs (by omega); have hk9 := owns_below hown8 hbel9))
          | (at_builtin; have := hk9; go_must (refine append_u8g (w0 := w) (B := w.heap.size) rfl (.tmp 51) (.tmp 54) rfl _ (n + o1.length + 1 + o2.length + s1.size) (hd ++ sofar ++ o1 ++ [kd] ++ o2 ++ kb s1) rfl hk9 a9 pc.length c9 pc rfl hr9.1 hr9.2.1 (by omega) hb9 hb9.size ?_; intro a10 c10 w10 hown10 hb10 hsz10 hg10))
          | (at_builtin; have := hE7; go_must (refine append_str (w0 := w) (B := w.heap.size) rfl (.tmp 44) (.tmp 46) rfl _ (n + o1.length + 1 + o2.length) (hd ++ sofar ++ o1 ++ [kd] ++ o2) rfl hown7 s1 rfl (by omega) hb7 hsz7 ?_; intro a8 c8 w8 hown8 hb8 hsz8 hg8; have hE8 : Hid (_) := ent_grown hE7.out hown7 hg8; obtain ⟨n0, n1, n2, n3, n4, n5, n6, n7, n8, n9⟩ := ent_cells hE8.out)))
        go_roundw
        case rel => exact ⟨k + 1, a10, _, c10, by omega, by go_num, rfl, by omega, by rw [HE.out]; simpa using hown10, hb10⟩
        case measure => simp [intOf]; omega
    · obtain rfl : k = l := by omega
      rw [List.take_of_length_le (by rw [hlen]; omega)] at hown
      have hn2 : n = out.length := by have := hown.1; rw [H0.out]; rw [kcells_length] at this; omega
      have Hn : Hid (n = out.length) := hn2
      rw [← H0.out] at hown
      clear hn2
      go_wp2
      go_ret
      exact ⟨a', c', by rw [← Hn.out]; rfl, by rw [← Hn.out]; exact hown, hbel⟩
end Go.Proofs.Ytfejgedgmaljfaa
