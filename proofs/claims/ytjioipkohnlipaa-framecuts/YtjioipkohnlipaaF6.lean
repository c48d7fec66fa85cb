/- What the reference's Scan does. -/
import Derived.Test.YtjioipkohnlipaaF5
namespace Go.Proofs.Ytjioipkohnlipaa
open Go.RowKit

theorem append_i64g {w0 w : World} {B : Nat} {ops : Array Oper} {rest : List Oper} {o : Oper} {a : Act} {Q : Exit → Act → World → Prop} (hgd : o.guard = none) (s x : Operand)
    (ho : o.op = .call { callee := .builtin .append, args := #[s, x], argTypes := #[41, 41] })
    (v : Value) (n : Nat) (xs : List Nat) (hs : a.eval s = v) (hown : w.ownsRow B 3 1 v n (kcells .i64 xs))
    (ad : Option Addr) (m c : Nat) (bs : List Nat) (hx : a.eval x = .slice ad m c) (hrow : Row .i64 w ad m bs) (hnil : ad = none → m = 0 ∧ c = 0)
    (hnm : n + m ≤ 1000000000000) (hbel : Below B w0 w) (hB : B ≤ w.heap.size)
    (h : ∀ a' c' w', w'.ownsRow B 3 1 (.slice a' (n + m) c') (n + m) (kcells .i64 (xs ++ bs)) → Below B w0 w' → B ≤ w'.heap.size → w.grownBy w' v.ownBlock → wpList Try.prog ops Q rest (a.put o.dst (.slice a' (n + m) c')) w') : wpList Try.prog ops Q (o :: rest) a w := by
  obtain ⟨i0, hi, hz0, hz1, hz2⟩ := info_parts Try.info3
  obtain ⟨h1, h2, h3, h4⟩ := hrow
  cases ad with
  | none =>
    obtain ⟨rfl, rfl⟩ := hnil rfl
    obtain rfl : bs = [] := List.length_eq_zero_iff.mp h1
    refine wpList_append_own_none hgd s x 41 ho B 3 i0 1 Try.underlying41 hi v n (kcells .i64 xs) hs hown hx ?_
    obtain ⟨a', c', rfl⟩ := slice_of_owns hown
    exact h a' c' w (by simpa using hown) hbel hB ⟨rfl, rfl, rfl, Nat.le_refl _, fun _ _ _ => rfl⟩
  | some ad =>
    refine wpList_append_own w hgd s x 41 ho B 3 i0 (.int .i64 0) 1 8 Try.underlying41 hi hz0 hz1 hz2 rfl (by decide) v n (kcells .i64 xs) hs hown ad m c (kcells .i64 bs) hx (by rw [kcells_length]; omega) ?_ ?_ (by unfold maxLen; omega) (by omega) hB ?_
    · intro j u hj
      obtain ⟨hlt, rfl⟩ := kcells_get .i64 bs j u hj
      rcases h4 with h0 | ⟨b, off, e, hc⟩
      · omega
      · obtain rfl : ad = ⟨b, off, none⟩ := by simpa using e
        rw [add_at]; exact hc j (by omega)
    · intro u hu
      simp only [kcells, List.mem_map] at hu
      obtain ⟨n, _, rfl⟩ := hu
      rfl
    · intro v' w' hown' hg _
      obtain ⟨a', c', rfl⟩ := slice_of_owns hown'
      refine h a' c' w' (by rw [kcells_append]; exact hown') (hbel.grown hg hB (fun k hk => (hown.lt k hk).1)) (Nat.le_trans hB hg.size) hg

/-- append of one frame to a row of frames -/
theorem append_fr {w0 w : World} {B : Nat} {ops : Array Oper} {rest : List Oper} {o : Oper} {a : Act} {Q : Exit → Act → World → Prop} (hgd : o.guard = none) (s x : Operand)
    (ho : o.op = .call { callee := .builtin .append, args := #[s, x], argTypes := #[22, 22] })
    (v : Value) (n : Nat) (cs : List Value) (hs : a.eval s = v) (hown : w.ownsRow B 31 2 v n cs)
    (b c : Nat) (c0 c1 : Value) (hx : a.eval x = .slice (some ⟨b, 0, none⟩) 1 c) (h0 : w.cell? ⟨b, 0, none⟩ = some c0) (h1 : w.cell? ⟨b, 1, none⟩ = some c1) (ho0 : c0.oneCell' = true) (ho1 : c1.oneCell' = true)
    (hn : n ≤ 1000000000) (hbel : Below B w0 w) (hB : B ≤ w.heap.size)
    (h : ∀ a' c' w', w'.ownsRow B 31 2 (.slice a' (n + 1) c') (n + 1) (cs ++ [c0, c1]) → Below B w0 w' → B ≤ w'.heap.size → w.grownBy w' v.ownBlock → wpList Try.prog ops Q rest (a.put o.dst (.slice a' (n + 1) c')) w') : wpList Try.prog ops Q (o :: rest) a w := by
  obtain ⟨i0, hi, hz0, hz1, hz2⟩ := info_parts Try.info31
  refine wpList_append_own w hgd s x 22 ho B 31 i0 (.agg #[.int .i64 0, .slice none 0 0]) 2 32 Try.underlying22 hi hz0 hz1 hz2 rfl (by decide) v n cs hs hown ⟨b, 0, none⟩ 1 c [c0, c1] hx rfl ?_ ?_ (by unfold maxLen; omega) (by omega) hB ?_
  · intro j u hj
    rw [add_at]
    match j, hj with
    | 0, hj => simp at hj; subst hj; exact h0
    | 1, hj => simp at hj; subst hj; exact h1
    | j + 2, hj => simp at hj
  · intro u hu
    simp at hu
    rcases hu with rfl | rfl
    · exact ho0
    · exact ho1
  · intro v' w' hown' hg _
    rcases hown'.2 with ⟨rfl, h0⟩ | ⟨g, cap, cur, rfl, _⟩
    · omega
    · exact h _ _ w' hown' (hbel.grown hg hB (fun k hk => (hown.lt k hk).1)) (Nat.le_trans hB hg.size) hg

/-- what Scan tells -/
def ScanRes (w : World) (R : List Fr.F × List Nat × Nat) (e : Ending) (w' : World) : Prop :=
  ∃ a1 c1 a2 c2 cs, e = .returned (.tuple #[.slice a1 R.1.length c1, .slice a2 R.1.length c2, .int .i64 (R.2.2 : Nat)]) ∧ w'.ownsRow w.heap.size 31 2 (.slice a1 R.1.length c1) R.1.length cs ∧ Held w' w.heap.size R.1 cs ∧ w'.ownsRow w.heap.size 3 1 (.slice a2 R.1.length c2) R.1.length (kcells .i64 R.2.1) ∧ R.2.1.length = R.1.length ∧ Below w.heap.size w w'
theorem cell_newb (w : World) (cs : Array Value) (e : TypeId) (i : Nat) {b : Nat} (hb : w.heap.size = b) : (w.alloc (.cells cs e)).cell? ⟨b, i, none⟩ = cs[i]? := hb ▸ cell_new w cs e i
theorem cell_two (w : World) (c0 c1 : Value) (e : TypeId) {b : Nat} (hb : w.heap.size = b) : (w.alloc (.cells #[c0, c1] e)).cell? ⟨b, 0, none⟩ = some c0 ∧ (w.alloc (.cells #[c0, c1] e)).cell? ⟨b, 1, none⟩ = some c1 := by
  subst hb
  exact ⟨by rw [cell_new]; rfl, by rw [cell_new]; rfl⟩
theorem own_lt_ne {w w1 : World} {B : Nat} {e : TypeId} {s : Nat} {v : Value} {n : Nat} {xs : List Value} (h : w.ownsRow B e s v n xs) (hs : w.heap.size ≤ w1.heap.size) : some w1.heap.size ≠ v.ownBlock := by
  intro e
  have := (h.lt _ e.symm).2
  omega
theorem below_alloc (w : World) (o : Obj) : Below w.heap.size w (w.alloc o) := (Below.refl _ _).alloc (Nat.le_refl _) _
theorem made_b (w : World) (e : TypeId) (size base : Nat) {b : Nat} (hb : w.heap.size = b) (hB : base ≤ b) : (w.alloc (.cells #[] e)).ownsRow base e size (.slice (some ⟨b, 0, none⟩) 0 0) 0 [] := by
  subst hb
  exact World.ownsRow_made (base := base) (e := e) (size := size) w #[] 0 hB (by decide) (by simp)

theorem scan_mid {wr w1 w3 : World} {B : Nat} {vl vp : Value} {k : Nat} {cs cs' xs : List Value} {fs : List Fr.F} {c0 c1 : Value}
    (hl : wr.ownsRow B 31 2 vl k cs) (hs1 : wr.heap.size ≤ w1.heap.size) (hl1 : w1.ownsRow B 31 2 vl k cs) (hp1 : w1.ownsRow B 3 1 vp k xs) (hh1 : Held w1 B fs cs')
    (hg : ((w1.alloc (.cells #[c0, c1] 31)).alloc (.cells #[c0, c1] 31)).grownBy w3 vl.ownBlock) :
    w3.cell? ⟨w1.heap.size, 1, none⟩ = some c1 ∧ w3.ownsRow B 3 1 vp k xs ∧ w1.heap.size < w3.heap.size ∧ Held w3 B fs cs' := by
  have hl2 := (hl1.alloc (.cells #[c0, c1] 31)).alloc (.cells #[c0, c1] 31)
  have hp2 := (hp1.alloc (.cells #[c0, c1] 31)).alloc (.cells #[c0, c1] 31)
  have hs := hg.size
  simp only [World.size_alloc] at hs
  refine ⟨?_, hp2.kept hg (own_apart hp2 hl2 (by decide)), by omega, ((hh1.below (below_alloc _ _)).below (below_alloc _ _)).grown hl2 (by decide) hg⟩
  refine (grown_cell hg (p := ⟨w1.heap.size, 1, none⟩) (by simp; omega) (own_lt_ne hl hs1)).trans ?_
  exact (cell_past _ _ ⟨w1.heap.size, 1, none⟩ (by simp)).trans (cell_two w1 c0 c1 31 rfl).2

theorem scan_end {w3 w4 : World} {o : Obj} {B : Nat} {vl vp : Value} {n k : Nat} {cs xs : List Value} {fs : List Fr.F}
    (hl3 : w3.ownsRow B 31 2 vl n cs) (hp3 : w3.ownsRow B 3 1 vp k xs) (hh3 : Held w3 B fs cs) (hg : (w3.alloc o).grownBy w4 vp.ownBlock) : w4.ownsRow B 31 2 vl n cs ∧ Held w4 B fs cs :=
  ⟨(hl3.alloc o).kept hg (own_apart (hl3.alloc o) (hp3.alloc o) (by decide)), (hh3.below (below_alloc _ o)).grown (hp3.alloc o) (by decide) hg⟩

set_option maxRecDepth 100000 in
set_option maxHeartbeats 2000000 in
theorem refscan_any (a : Option Addr) (len cap : Nat) (bs : List Nat) (w : World) (hbig : len ≤ 100000) (hshape : Shape a len cap) (hr : Row .u8 w a len bs) :
    Calls Try.prog 20 #[.slice a len cap] w (ScanRes w (Fr.scan bs)) := by
  have hlen : Hid (bs.length = len) := hr.1
  obtain ⟨R, hR⟩ : ∃ R, R = Fr.scan bs := ⟨_, rfl⟩
  rw [← hR]
  have HR : Hid (len + 1 ≤ (len + 1) + 0 ∧ R = Fr.sc (len + 1) bs 0 [] []) := (⟨by omega, by rw [hR, Fr.scan, hlen.out]⟩ : len + 1 ≤ (len + 1) + 0 ∧ R = Fr.sc (len + 1) bs 0 [] [])
  clear hR
  have hb1 := below_alloc w (.cells #[] 31)
  have hb2 : Below w.heap.size w ((w.alloc (.cells #[] 31)).alloc (.cells #[] 3)) := hb1.alloc (by simp) _
  have hl0 := (made_b w 31 2 w.heap.size rfl (Nat.le_refl _)).alloc (.cells #[] 3)
  have hp0 := made_b (w.alloc (.cells #[] 31)) 3 1 w.heap.size (b := w.heap.size + 1) (by simp) (by omega)
  go_enter Try.func20, Try.ntmps20
  go_wp2
  go_loopw [5, 6, 7] (fun v u t wr => ∃ (k at' m : Nat) (fs : List Fr.F) (ps : List Nat) (cs : List Value) (a1 : Option Addr) (c1 : Nat) (a2 : Option Addr) (c2 : Nat), k ≤ at' ∧ at' ≤ len ∧ t = .int .i64 at' ∧ v = .slice a1 k c1 ∧ u = .slice a2 k c2 ∧
      wr.ownsRow w.heap.size 31 2 (.slice a1 k c1) k cs ∧ Held wr w.heap.size fs cs ∧ wr.ownsRow w.heap.size 3 1 (.slice a2 k c2) k (kcells .i64 ps) ∧ Below w.heap.size w wr ∧ Hid (fs.length = k) ∧ Hid (ps.length = k) ∧ Hid (len + 1 ≤ m + at' ∧ R = Fr.sc m bs at' fs ps))
    (fun _ _ t _ => len + 1 - (intOf t).toNat)
  case atStart => exact ⟨0, 0, len + 1, [], [], [], _, _, _, _, by omega, by omega, rfl, rfl, rfl, hl0, rfl, hp0, hb2, (rfl : [].length = 0), (rfl : [].length = 0), HR⟩
  case round =>
    obtain ⟨k, at', m, fs, ps, cs, a1, c1, a2, c2, hka, hat, rfl, rfl, rfl, hl, hh, hp, hbel, hfk, hpk, H⟩ := hrel
    clear hl0 hp0 hb1 hb2 HR
    have hsz := hbel.size
    have hr' := hr.below hbel (Nat.le_refl _)
    have H0 := H.out.2
    obtain ⟨m', hm'⟩ : ∃ m', m = m' + 1 := ⟨m - 1, by have := H.out.1; omega⟩
    rw [hm'] at H0
    have hfl := Fr.first_le (bs.drop at')
    rw [List.length_drop, hlen.out] at hfl
    obtain ⟨R1, hR1⟩ : ∃ R1, Fr.first (bs.drop at') = R1 := ⟨_, rfl⟩
    have hok := fun h => Fr.first_ok (bs := bs.drop at') h
    rw [hR1] at hfl hok
    obtain ⟨⟨x, y⟩, rn, rc⟩ := R1
    simp only at hfl hok
    rcases hshape with ⟨rfl, rfl⟩ | ⟨b, off, rfl, hc⟩
    · have hrow := hr'.take 0 (by omega)
      obtain rfl : at' = 0 := by omega
      have hbs0 : bs = [] := List.length_eq_zero_iff.mp hlen.out
      have hcz : ¬ rc = 0 := by
        have : Fr.first (bs.drop 0) = ((0, []), 0, 5) := by rw [hbs0]; exact Fr.first_nil
        rw [hR1] at this
        simp at this; omega
      rw [show bs.take 0 = bs.drop 0 by rw [hbs0]; rfl] at hrow
      have hcall := fun c (_ : 0 ≤ c) => reffirst_any a 0 c (bs.drop 0) wr (by omega) (by omega) hrow
      rw [hR1] at hcall
      clear hr hr' hrow hok
      have H2 : Hid (R = (fs, ps, 0)) := (by rw [H0, Fr.sc_no (by rw [hR1]; exact hcz)] : R = (fs, ps, 0))
      clear H0
      have hR1' : Hid (_ = _) := hR1
      clear hR1
      have hcb : ((rc : Int) != 0) = true := by simp; omega
      go_wp2_with (go_at_call 17; refine (hcall _ (by omega)).mono ?_; rintro e w1 ⟨A, C, rfl, hown1, hbel1⟩; have hs1 := hbel1.size)
      have hB1 := hbel.trans (hbel1.mono hsz)
      go_ret3
      refine ⟨a1, c1, a2, c2, cs, ?_, ?_, ?_, ?_, ?_, ?_⟩
      · rw [H2.out]; simp only []; rw [hfk.out]; rfl
      · rw [H2.out]; simp only []; rw [hfk.out]; exact (owns_below hl hbel1).alloc _
      · rw [H2.out]; exact (hh.below hbel1).below (below_alloc _ _)
      · rw [H2.out]; simp only []; rw [hfk.out]; exact (owns_below hp hbel1).alloc _
      · rw [H2.out]; simp only []; rw [hfk.out, hpk.out]
      · exact hB1.alloc hB1.size _
    · by_cases hcap : cap = at'
      · have hrow : Row .u8 wr (some ⟨b, off, none⟩) (len - at') (bs.drop at') := by
          have h1 := hr'.drop at' hat
          exact ⟨h1.1, h1.2.1, h1.2.2.1, .inl (by omega)⟩
        have hcz : ¬ rc = 0 := by
          have : Fr.first (bs.drop at') = ((0, []), 0, 5) := by rw [List.drop_of_length_le (by rw [hlen.out]; omega)]; exact Fr.first_nil
          rw [hR1] at this
          simp at this; omega
        have hcall := fun c (h : len - at' ≤ c) => reffirst_any (some ⟨b, off, none⟩) (len - at') c (bs.drop at') wr h (by omega) hrow
        rw [hR1] at hcall
        clear hr hr' hrow hok
        have H2 : Hid (R = (fs, ps, at')) := (by rw [H0, Fr.sc_no (by rw [hR1]; exact hcz)] : R = (fs, ps, at'))
        clear H0
        have hR1' : Hid (_ = _) := hR1
        clear hR1
        have hcb : ((rc : Int) != 0) = true := by simp; omega
        go_wp2_with (go_at_call 17; refine (hcall _ (by omega)).mono ?_; rintro e w1 ⟨A, C, rfl, hown1, hbel1⟩; have hs1 := hbel1.size)
        have hB1 := hbel.trans (hbel1.mono hsz)
        go_ret3
        refine ⟨a1, c1, a2, c2, cs, ?_, ?_, ?_, ?_, ?_, ?_⟩
        · rw [H2.out]; simp only []; rw [hfk.out]; rfl
        · rw [H2.out]; simp only []; rw [hfk.out]; exact (owns_below hl hbel1).alloc _
        · rw [H2.out]; exact (hh.below hbel1).below (below_alloc _ _)
        · rw [H2.out]; simp only []; rw [hfk.out]; exact (owns_below hp hbel1).alloc _
        · rw [H2.out]; simp only []; rw [hfk.out, hpk.out]
        · exact hB1.alloc hB1.size _
      · have hrow := hr'.drop at' hat
        have hcall := fun c (h : len - at' ≤ c) => reffirst_any (some ⟨b, off + at', none⟩) (len - at') c (bs.drop at') wr h (by omega) hrow
        rw [hR1] at hcall
        clear hr' hrow
        by_cases hcz : rc = 0
        · subst hcz
          obtain ⟨o1, o2, o3, o4, o5⟩ := hok rfl
          have hys : ∀ z ∈ y, z < 256 := by
            rw [o3]; exact take_small (drop_small (drop_small hr.2.2.1 _) _) _
          clear o3 hok hr
          rw [Fr.sc_ok (by rw [hR1]), hR1] at H0
          simp only at H0
          have H2 : Hid (len + 1 ≤ m' + (at' + rn) ∧ R = Fr.sc m' bs (at' + rn) (fs ++ [(x, y)]) (ps ++ [at' + rn - 4 - y.length])) := (⟨by have := H.out.1; omega, H0⟩ : len + 1 ≤ m' + (at' + rn) ∧ R = Fr.sc m' bs (at' + rn) (fs ++ [(x, y)]) (ps ++ [at' + rn - 4 - y.length]))
          clear H0 H hR1 hm'
          go_wp2_with (first
            | (go_at_call 17; go_must (refine (hcall _ (by omega)).mono ?_; rintro e w1 ⟨A, C, rfl, hown1, hbel1⟩; have hs1 := hbel1.size; have hl1 := owns_below hl hbel1; have hp1 := owns_below hp hbel1; have hB1 := hbel.trans (hbel1.mono hsz); have hh1 := Held.snoc (f := (x, y)) (hown1.mono hsz) hys (show y.length ≤ 1000000000 by omega) ⟨(show -9223372036854775808 ≤ x by omega), (show x ≤ 9223372036854775807 by omega)⟩ (hh.below hbel1); simp only at hh1))
            | (at_builtin; have := hl3; go_must (refine append_i64g (w0 := w) (B := w.heap.size) rfl (.tmp 31) (.tmp 40) rfl _ k ps rfl (hp3.alloc _) _ 1 1 [at' + rn - 4 - y.length] rfl (row_newz .i64 _ 3 _ (at' + rn - 4 - y.length) (by omega) (by show _ < 18446744073709551616; omega)) (fun h => by cases h) (by omega) (hB3.alloc hs3 _) (by simp; omega) ?_; intro a4 c4 w4 hp4 hB4 hs4 hg4))
            | (at_builtin; have := hl1; go_must (refine append_fr (w0 := w) (B := w.heap.size) rfl (.tmp 27) (.tmp 29) rfl _ k cs rfl ((hl1.alloc _).alloc _) (w1.heap.size + 1) 1 (.int .i64 x) (.slice A y.length C) rfl (cell_two _ _ _ _ (by simp)).1 (cell_two _ _ _ _ (by simp)).2 rfl rfl (by omega) ((hB1.alloc hB1.size _).alloc (by simp; have := hB1.size; omega) _) (by simp; have := hB1.size; omega) ?_; intro a3 c3 w3 hl3 hB3 hs3 hg3; obtain ⟨hF, hp3, hlt3, hh3⟩ := scan_mid hl hs1 hl1 hp1 hh1 hg3)))
          obtain ⟨hl4, hh4⟩ := scan_end hl3 hp3 hh3 hg4
          go_roundw
          case rel => exact ⟨k + 1, at' + rn, m', _, _, _, a3, c3, a4, c4, by omega, by omega, val_int (by omega), rfl, rfl, hl4, hh4, hp4, hB4, (by rw [List.length_append, hfk.out]; rfl : (fs ++ [(x, y)]).length = k + 1), (by rw [List.length_append, hpk.out]; rfl : (ps ++ [at' + rn - 4 - y.length]).length = k + 1), H2⟩
          case measure => simp [intOf]; omega
        · clear hr hok
          have H2 : Hid (R = (fs, ps, at')) := (by rw [H0, Fr.sc_no (by rw [hR1]; exact hcz)] : R = (fs, ps, at'))
          clear H0
          have hR1' : Hid (_ = _) := hR1
          clear hR1
          have hcb : ((rc : Int) != 0) = true := by simp; omega
          go_wp2_with (go_at_call 17; refine (hcall _ (by omega)).mono ?_; rintro e w1 ⟨A, C, rfl, hown1, hbel1⟩; have hs1 := hbel1.size)
          have hB1 := hbel.trans (hbel1.mono hsz)
          go_ret3
          refine ⟨a1, c1, a2, c2, cs, ?_, ?_, ?_, ?_, ?_, ?_⟩
          · rw [H2.out]; simp only []; rw [hfk.out]; rfl
          · rw [H2.out]; simp only []; rw [hfk.out]; exact (owns_below hl hbel1).alloc _
          · rw [H2.out]; exact (hh.below hbel1).below (below_alloc _ _)
          · rw [H2.out]; simp only []; rw [hfk.out]; exact (owns_below hp hbel1).alloc _
          · rw [H2.out]; simp only []; rw [hfk.out, hpk.out]
          · exact hB1.alloc hB1.size _
end Go.Proofs.Ytjioipkohnlipaa
