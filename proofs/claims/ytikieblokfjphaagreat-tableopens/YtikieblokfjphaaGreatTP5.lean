/- The program's tables: Scan, All. -/
import Derived.Test.YtikieblokfjphaaGreatTQa
import Derived.Test.YtikieblokfjphaaGreatSB
import Derived.Deep.LoopGhost
namespace Go.Proofs.YtikieblokfjphaaGreat
open Go.RowKit Go.Shelf

theorem own_ini {w : World} {B n c : Nat} {a : Option Addr} {hs : List IH} {xs : List It.I} (h : w.ownsRow B 40 8 (.slice a n c) n (tcells ih hs)) (hh : ItHeld w B hs xs) (hn : n ≤ 1000000000) : InI w a n c hs xs := by
  obtain ⟨a', c', e, g1, g2⟩ := t_shape h
  simp only [Value.slice.injEq, true_and] at e
  obtain ⟨rfl, rfl⟩ := e
  exact ⟨⟨trow_of_owns ihE h (by omega) hn, hh.all⟩, g1, g2⟩
theorem InP.from {w : World} {b off n : Nat} {ps : List PH} {gss : List (List IH)} {xss : List (List It.I)} (h : InP w (some ⟨b, off, none⟩) n ps gss xss) (k : Nat) (hk : k ≤ n) : InP w (some ⟨b, off + k, none⟩) (n - k) (ps.drop k) (gss.drop k) (xss.drop k) := by
  refine ⟨?_, ?_, ?_, fun i hi => ?_⟩
  · have := h.1.drop k hk
    rw [Nat.mul_one] at this
    exact this
  · rw [List.length_drop, List.length_drop, h.2.1]
  · rw [List.length_drop, List.length_drop, h.2.2.1]
  · rw [getD_drop', getD_drop', getD_drop']
    rw [List.length_drop] at hi
    exact h.2.2.2 (k + i) (by omega)
theorem Tb.rest_next (xs : List (List It.I)) (k : Nat) : (xs.getD (k + 1) []).drop 0 ++ Tb.joined (xs.drop (k + 1 + 1)) = Tb.joined (xs.drop (k + 1)) := by
  rcases Nat.lt_or_ge (k + 1) xs.length with h | h
  · rw [Tb.drop_getD [] h]
    simp [Tb.joined]
  · have e1 : xs.drop (k + 1) = [] := List.drop_of_length_le h
    have e2 : xs.drop (k + 1 + 1) = [] := List.drop_of_length_le (by omega)
    have e3 : xs.getD (k + 1) [] = [] := by rw [List.getD_eq_getElem?_getD, List.getElem?_eq_none h]; rfl
    rw [e1, e2, e3]
    rfl

set_option maxRecDepth 100000 in
set_option maxHeartbeats 4000000 in
theorem tscan_in (b : Nat) (lb lo : Nat) (ln lc : Nat) (ps : List PH) (gss : List (List IH)) (xss : List (List It.I)) (sa : Option Addr) (sn sc : Nat) (los hi : ByteArray) (most : Int) (w : World) (ht : TbAt w b (some ⟨lb, lo, none⟩) ln lc ps gss xss sa sn sc) (P A : Nat) (hS : Tb.Seek xss (kb los) P A) (hlt : P < ln) :
    Calls Tryz.prog 52 #[.pointer (some ⟨b, 0, none⟩), .string los, .string hi, .int .i64 most] w (TGetRes w (It.scan (Tb.joined xss) (kb los) (kb hi) most)) := by
  have ho := ht.open
  have hsk := seek_any b _ ln lc ps gss xss los w P A ht.parts ht.whole hS
  have hll := ht.parts.inp.len
  have hlc := ht.parts.le
  have hln := parts_le ht.whole
  have hl := ht.parts.list
  have y2 := fun (W : World) (hW : Below w.heap.size w W) => (hW.cell (p := ⟨b, 0, none⟩) (cell_lt hl)).trans hl
  have k1 : (0 : Int) ≤ (P : Int) := by omega
  have k2 : (P : Int) ≤ (ln : Int) := by omega
  have k2' : (P : Int) < (ln : Int) := by omega
  have k3 : ¬ (lc = P) := by omega
  have k4 : (ln : Int) ≤ (lc : Int) := by omega
  obtain ⟨OUT, hOUT⟩ : ∃ OUT, OUT = It.scan (Tb.joined xss) (kb los) (kb hi) most := ⟨_, rfl⟩
  rw [← hOUT]
  have HI : Hid (InP w (some ⟨lb, lo + P, none⟩) (ln - P) (ps.drop P) (gss.drop P) (xss.drop P)) := (ht.parts.inp.from P (by omega) : InP w (some ⟨lb, lo + P, none⟩) (ln - P) (ps.drop P) (gss.drop P) (xss.drop P))
  have HO : Hid (OUT = Tb.sgo (kb hi) most [] (((xss.drop P).getD 0 []).drop A ++ Tb.joined ((xss.drop P).drop (0 + 1)))) := (by rw [hOUT, hS.scan ht.whole, getD_drop', List.drop_drop]; rfl : OUT = Tb.sgo (kb hi) most [] (((xss.drop P).getD 0 []).drop A ++ Tb.joined ((xss.drop P).drop (0 + 1))))
  have HA : Hid (A < ((xss.drop P).getD 0 []).length) := (by rw [getD_drop']; exact (hS.inn (by omega)).1 : A < ((xss.drop P).getD 0 []).length)
  have HM : Hid (∀ p ∈ xss.drop P, p ≠ [] ∧ p.length ≤ 256 ∧ ∀ x ∈ p, It.may x = true) := (fun p hp => by
    have hp' := List.mem_of_mem_drop hp
    exact ⟨(ht.whole.part p hp').1, (ht.whole.part p hp').2.1, fun x hx => ((It.sorted_iff _).mp ht.whole.up).1 x ((Tb.part_sub hp').mem hx)⟩ : ∀ p ∈ xss.drop P, p ≠ [] ∧ p.length ≤ 256 ∧ ∀ x ∈ p, It.may x = true)
  have HC : Hid (0 + (((xss.drop P).getD 0 []).drop A ++ Tb.joined ((xss.drop P).drop (0 + 1))).length ≤ 16384) := (by
    have h1 := ht.whole.few
    rw [hS.cut, List.length_append] at h1
    rw [getD_drop', List.drop_drop]
    show 0 + ((xss.getD P []).drop A ++ Tb.joined (xss.drop (P + 1))).length ≤ 16384
    omega : 0 + (((xss.drop P).getD 0 []).drop A ++ Tb.joined ((xss.drop P).drop (0 + 1))).length ≤ 16384)
  have hlnP : ln - P ≤ 16384 := by omega
  have hown0 : w.ownsRow w.heap.size 40 8 (.slice none 0 0) 0 (tcells ih []) := ⟨rfl, .inl ⟨rfl, rfl⟩⟩
  clear ht hS hOUT hll hlc hln hl
  go_enter Tryz.func52, Tryz.ntmps52
  go_wp2_with fail
  go_step3
  go_wp2_with (first
    | (go_at_call 29; go_must (refine ho.mono ?_; rintro e w1 ⟨rfl, hw⟩; rw [hw]; clear hw w1))
    | (go_at_call 79; go_must (refine hsk.mono ?_; rintro e w1 ⟨rfl, b1⟩; have u2 := y2 _ b1)))
  go_step3
  go_wp2
  have hown1 := owns_below hown0 b1
  clear ho hsk y2 u2 k1 k2 k2' k3 k4 hown0 hlt
  generalize lo + P = LO at *
  generalize ln - P = R at *
  generalize lc - P = LC at *
  generalize ps.drop P = qs at *
  generalize gss.drop P = qgs at *
  generalize xss.drop P = qxs at *
  go_loopg [9, 11, 35] R (fun g s9 s11 s35 wx => ∃ (k m co at' : Nat) (ao : Option Addr) (hs : List IH) (done : List It.I), k + g = R ∧ s35 = .int .i64 k ∧ s9 = .slice ao m co ∧ s11 = .int .i64 at' ∧ Hid (k < R → at' < (qxs.getD k []).length) ∧ Hid (OUT = Tb.sgo (kb hi) most done ((qxs.getD k []).drop at' ++ Tb.joined (qxs.drop (k + 1)))) ∧ Hid (done.length = m) ∧ Hid (m + ((qxs.getD k []).drop at' ++ Tb.joined (qxs.drop (k + 1))).length ≤ 16384) ∧ wx.ownsRow w.heap.size 40 8 (.slice ao m co) m (tcells ih hs) ∧ Hid (ItHeld wx w.heap.size hs done) ∧ Below w.heap.size w wx)
  case atStart => exact ⟨0, 0, 0, A, none, [], [], by omega, rfl, rfl, rfl, (fun _ => HA.out : 0 < R → A < (qxs.getD 0 []).length), HO, (rfl : ([] : List It.I).length = 0), HC, hown1, (ItHeld.nil _ _ : ItHeld w1 w.heap.size [] []), b1⟩
  case round =>
    obtain ⟨k, m, co, at', ao, hs, done, hkg, rfl, rfl, rfl, hat, HOk, hdm, HCk, hown, hheld, hbel⟩ := hrel
    clear HO HA HC hown1 b1
    have hQ := HI.out.len
    cases gk with
    | zero =>
      obtain rfl : k = R := by omega
      have HE : Hid (OUT = done) := (by
        have e2 : qxs.drop (k + 1) = [] := List.drop_of_length_le (by omega)
        have e3 : qxs.getD k [] = [] := by rw [List.getD_eq_getElem?_getD, List.getElem?_eq_none (by omega)]; rfl
        rw [HOk.out, e2, e3, List.drop_nil]
        exact Tb.sgo_nil : OUT = done)
      have hm : m ≤ 16384 := by have := HCk.out; omega
      clear HOk HCk hat hQ
      go_wp2
      try rw [Exit.noGoto_ret]
      go_ret
      exact tg_some HE.out hdm.out (own_ini hown hheld.out (by omega)) hbel
    | succ g =>
      have hkR : k < R := by omega
      have hkz : (k : Int) < (R : Int) := by omega
      have hk0 : (0 : Int) ≤ (k : Int) := by omega
      obtain ⟨cb, cof, ce, hc⟩ := HI.out.1.part (by omega)
      simp only [Option.some.injEq, Addr.mk.injEq] at ce
      obtain ⟨rfl, rfl, -⟩ := ce
      have hcell := (hbel.cell (p := ⟨lb, LO + k, none⟩) (cell_lt (hc k hkR))).trans (hc k hkR)
      have hin := HI.out.2.2.2 k (by omega)
      have hmemk : qxs.getD k [] ∈ qxs := by rw [List.getD_eq_getElem?_getD, List.getElem?_eq_getElem (by omega)]; exact List.getElem_mem _
      obtain ⟨mk1, mk2, mk3⟩ := HM.out _ hmemk
      have hat1 := hat.out hkR
      have hnl := hin.1.len
      generalize qs.getD k phz = q at *
      obtain ⟨qa, qn, qc⟩ := q
      simp only at hcell hin hnl
      obtain ⟨qb, qo, rfl, hq⟩ := hin.1.at (by omega)
      have hin2 : Hid (InI w (some ⟨qb, qo + at' * 8, none⟩) (qn - at') (qc - at') ((qgs.getD k []).drop at') ((qxs.getD k []).drop at')) := (hin.from at' (by omega) : InI w (some ⟨qb, qo + at' * 8, none⟩) (qn - at') (qc - at') ((qgs.getD k []).drop at') ((qxs.getD k []).drop at'))
      have hpm : Hid (∀ x ∈ (qxs.getD k []).drop at', It.may x = true) := (fun x hx => mk3 x (List.mem_of_mem_drop hx) : ∀ x ∈ (qxs.getD k []).drop at', It.may x = true)
      have hqc := hin.2.2
      have j1 : (0 : Int) ≤ (at' : Int) := by omega
      have j2 : (at' : Int) ≤ (qn : Int) := by omega
      have j3 : ¬ (qc = at') := by omega
      have j4 : (qn : Int) ≤ (qc : Int) := by omega
      have hqn : qn - at' ≤ 256 := by omega
      clear hin hq hc hat hat1 hnl mk1 mk2 mk3 hmemk hQ hqc
      go_wp2
      clear j1 j2 j3 j4 hcell
      generalize qo + at' * 8 = QO at *
      generalize qn - at' = N at *
      generalize qc - at' = QC at *
      generalize (qgs.getD k []).drop at' = pg at *
      generalize (qxs.getD k []).drop at' = px at *
      have hpl : Hid (px.length = N) := hin2.out.1.len
      have HC2 : Hid (m + (px.drop 0 ++ Tb.joined (qxs.drop (k + 1))).length ≤ 16384) := HCk
      have HO2 : Hid (OUT = Tb.sgo (kb hi) most done (px.drop 0 ++ Tb.joined (qxs.drop (k + 1)))) := HOk
      have HN : Hid (∀ h2, h2 = Tb.joined (qxs.drop (k + 1)) → (qxs.getD (k + 1) []).drop 0 ++ Tb.joined (qxs.drop (k + 1 + 1)) = h2) := (fun h2 e => by rw [e]; exact Tb.rest_next qxs k : ∀ h2, h2 = Tb.joined (qxs.drop (k + 1)) → (qxs.getD (k + 1) []).drop 0 ++ Tb.joined (qxs.drop (k + 1 + 1)) = h2)
      have HP : Hid (k + 1 < R → 0 < (qxs.getD (k + 1) []).length) := (fun h => by
        have hQ := HI.out.len
        have hmemk : qxs.getD (k + 1) [] ∈ qxs := by rw [List.getD_eq_getElem?_getD, List.getElem?_eq_getElem (by omega)]; exact List.getElem_mem _
        exact List.length_pos_iff.mpr (HM.out _ hmemk).1 : k + 1 < R → 0 < (qxs.getD (k + 1) []).length)
      generalize hRJ : Tb.joined (qxs.drop (k + 1)) = RJ at *
      have HN2 := HN.out RJ rfl
      clear HN HCk HOk HM
      go_loopg [9, 43] N (fun g2 s9 s43 wy => ∃ (j m co : Nat) (ao : Option Addr) (hs : List IH) (done : List It.I), j + g2 = N ∧ s43 = .int .i64 j ∧ s9 = .slice ao m co ∧ Hid (OUT = Tb.sgo (kb hi) most done (px.drop j ++ RJ)) ∧ Hid (done.length = m) ∧ Hid (m + (px.drop j ++ RJ).length ≤ 16384) ∧ wy.ownsRow w.heap.size 40 8 (.slice ao m co) m (tcells ih hs) ∧ Hid (ItHeld wy w.heap.size hs done) ∧ Below w.heap.size w wy)
      case atStart => exact ⟨0, m, co, ao, hs, done, by omega, rfl, rfl, HO2, hdm, HC2, hown, hheld, hbel⟩
      case round =>
        clear HO2 hdm HC2 hown hheld hbel
        obtain ⟨j, m, co, ao, hs, done, hjg, rfl, rfl, HOj, hdm, HCj, hown, hheld, hbel⟩ := hrel
        cases gk with
        | zero =>
          obtain rfl : j = N := by omega
          have hjz : ¬ ((j : Int) < (j : Int)) := by omega
          have e0 : px.drop j = [] := List.drop_of_length_le (by rw [hpl.out]; omega)
          rw [e0, List.nil_append] at HOj HCj
          rw [← HN2] at HOj HCj
          clear e0
          go_wp2
          go_roundg g
          case measure => omega
          case rel => exact ⟨k + 1, m, co, 0, ao, hs, done, by omega, by go_num, rfl, rfl, HP, HOj, hdm, HCj, hown, hheld, hbel⟩
        | succ g2 =>
          have hjN : j < N := by omega
          have hjz : (j : Int) < (N : Int) := by omega
          have hj0 : (0 : Int) ≤ (j : Int) := by omega
          obtain ⟨cb, cof, ce, hc⟩ := hin2.out.1.at (by omega)
          simp only [Option.some.injEq, Addr.mk.injEq] at ce
          obtain ⟨rfl, rfl, -⟩ := ce
          have C := (hc j hjN).below hbel (Nat.le_refl _)
          have hit := hin2.out.1.item hjN
          have ex := Tb.drop_getD It.zero (l := px) (k := j) (by rw [hpl.out]; exact hjN)
          have hmem : px.getD j It.zero ∈ px := by rw [List.getD_eq_getElem?_getD, List.getElem?_eq_getElem (by rw [hpl.out]; exact hjN)]; exact List.getElem_mem _
          have hmay := hpm.out _ hmem
          rw [ex, List.cons_append] at HOj HCj
          generalize px.getD j It.zero = X at *
          generalize pg.getD j ihz = hh at *
          have hxb := Nat.le_trans (may_bytes hmay) (by decide : 32 ≤ 100000)
          have hcp := fun (W : World) (hW : Below w.heap.size w W) => tcopied_any hh X W (hit.below hW (Nat.le_refl _)) hxb
          have hkey := hit.key
          clear ex hmem hmay hxb hc hit
          obtain ⟨key, dead, far, xa, xn, xc, ⟨g1, g2', g3, g4⟩⟩ := hh
          simp only at hkey hcp
          obtain ⟨v0, v1, v2, v3, v4, v5, v6, v7⟩ := C
          simp only at v0 v1 v2 v3 v4 v5 v6 v7
          have hm : m + 1 ≤ 16384 := by have := HCj.out; simp only [List.length_cons] at this; omega
          have b2 := hbel.alloc hbel.size (.cells #[.string key, .bool dead, .bool far, .slice xa xn xc, .int .i64 g1, .int .i64 g2', .int .i64 g3, .int .u32 (g4 : Nat)] 40)
          have ow2 := hown.alloc (.cells #[.string key, .bool dead, .bool far, .slice xa xn xc, .int .i64 g1, .int .i64 g2', .int .i64 g3, .int .u32 (g4 : Nat)] 40)
          have hh2 : Hid (ItHeld (wr.alloc (.cells #[.string key, .bool dead, .bool far, .slice xa xn xc, .int .i64 g1, .int .i64 g2', .int .i64 g3, .int .u32 (g4 : Nat)] 40)) w.heap.size hs done) := (hheld.out.below (below_alloc _ _) : ItHeld (wr.alloc (.cells #[.string key, .bool dead, .bool far, .slice xa xn xc, .int .i64 g1, .int .i64 g2', .int .i64 g3, .int .u32 (g4 : Nat)] 40)) w.heap.size hs done)
          have i2 : IntKind.i64.wrap ((j : Int) + 1) = (j : Int) + 1 := by rw [IntKind.wrap_i64]; omega
          by_cases hfull : most ≤ (m : Int)
          · have d1 : decide (most ≤ (m : Int)) = true := decide_eq_true hfull
            have HE : Hid (OUT = done) := (by rw [HOj.out]; exact Tb.sgo_full (by rw [hdm.out]; exact hfull) : OUT = done)
            clear HOj HCj hcp
            go_wp2
            try rw [Exit.noGoto_ret]
            go_ret
            exact tg_some HE.out hdm.out (own_ini ow2 hh2.out (by omega)) b2
          · have d1 : decide (most ≤ (m : Int)) = false := decide_eq_false hfull
            have hless : Op.bytesLess key.toList hi.toList = Na.lt X.1 (kb hi) := by rw [less_kb, hkey]
            have hemp : hi.toList.isEmpty = decide (kb hi = []) := by rw [isEmpty_kb]; simp only [kb_nil]
            cases hu : Tb.under (kb hi) X with
            | false =>
              have HE : Hid (OUT = done) := (by rw [HOj.out]; exact Tb.sgo_end hu : OUT = done)
              unfold Tb.under at hu
              rw [Bool.or_eq_false_iff] at hu
              rw [hu.1] at hemp
              rw [hu.2] at hless
              clear HOj HCj hcp hu
              go_wp2
              try rw [Exit.noGoto_ret]
              go_ret
              exact tg_some HE.out hdm.out (own_ini ow2 hh2.out (by omega)) b2
            | true =>
              have HE : Hid (OUT = Tb.sgo (kb hi) most (done ++ [X]) (px.drop (j + 1) ++ RJ)) := (by rw [HOj.out]; exact Tb.sgo_more (by rw [hdm.out]; omega) hu : OUT = Tb.sgo (kb hi) most (done ++ [X]) (px.drop (j + 1) ++ RJ))
              have HC3 : Hid (m + 1 + (px.drop (j + 1) ++ RJ).length ≤ 16384) := (by have := HCj.out; rw [List.length_cons] at this; omega : m + 1 + (px.drop (j + 1) ++ RJ).length ≤ 16384)
              have hd3 : Hid ((done ++ [X]).length = m + 1) := (by rw [List.length_append, hdm.out]; rfl : (done ++ [X]).length = m + 1)
              have hcases : hi.toList.isEmpty = true ∨ (hi.toList.isEmpty = false ∧ Op.bytesLess key.toList hi.toList = true) := by
                unfold Tb.under at hu
                rw [hemp, hless]
                cases h : decide (kb hi = []) with
                | true => exact .inl rfl
                | false => rw [h] at hu; exact .inr ⟨rfl, by simpa using hu⟩
              clear HOj HCj hu hemp hless
              rcases hcases with he1 | ⟨he1, he2⟩
              all_goals
                go_wp2_with (first
                  | (go_at_call 80; go_must (refine (hcp _ b2).mono ?_; rintro e w3 ⟨q, rfl, o3, -, b3⟩; have ow3 := owns_below ow2 b3; have hh3 := hh2.out.below b3; have hb3 := b2.trans (b3.mono b2.size); have o4 : OwnIt w3 w.heap.size q X := (⟨o3.1, owns_base o3.2 (by simp; exact Nat.le_trans hbel.size (Nat.le_succ _))⟩)))
                  | (at_builtin; go_must (refine append_tg itemE ihE (w0 := w) (B := w.heap.size) rfl (.tmp 61) (.tmp 64) rfl _ m _ rfl (ow3.alloc _) _ 1 1 [q] rfl (lit_item w3 q rfl) (fun h => by cases h) (by omega) (hb3.alloc hb3.size _) (by simp; exact Nat.le_trans hb3.size (Nat.le_succ _)) ?_; intro a9 c9 w9 hg9 hc9 hn9 _ ho9 hb9 _)))
                have hh9 : Hid (ItHeld w9 w.heap.size (hs ++ [q]) (done ++ [X])) := (ItHeld.grown (ow3.alloc (.cells #[.string q.key, .bool q.dead, .bool q.far, .slice q.a q.n q.c, .int .i64 q.p.1, .int .i64 q.p.2.1, .int .i64 q.p.2.2.1, .int .u32 (q.p.2.2.2 : Nat)] 40)) (by decide) hg9 (ItHeld.snoc (hh3.below (below_alloc _ _)) (o4.below (below_alloc _ _))) : ItHeld w9 w.heap.size (hs ++ [q]) (done ++ [X]))
                go_roundg g2
                case measure => omega
                case rel => exact ⟨j + 1, m + 1, c9, a9, hs ++ [q], done ++ [X], by omega, by go_num, rfl, HE, hd3, HC3, ho9, hh9, hb9⟩

set_option maxRecDepth 100000 in
set_option maxHeartbeats 1000000 in
theorem tscan_out (b : Nat) (la : Option Addr) (ln lc : Nat) (ps : List PH) (gss : List (List IH)) (xss : List (List It.I)) (sa : Option Addr) (sn sc : Nat) (los hi : ByteArray) (most : Int) (w : World) (ht : TbAt w b la ln lc ps gss xss sa sn sc) (A : Nat) (hS : Tb.Seek xss (kb los) ln A) :
    Calls Tryz.prog 52 #[.pointer (some ⟨b, 0, none⟩), .string los, .string hi, .int .i64 most] w (TGetRes w (It.scan (Tb.joined xss) (kb los) (kb hi) most)) := by
  have ho := ht.open
  have hsk := seek_any b _ ln lc ps gss xss los w ln A ht.parts ht.whole hS
  have hll := ht.parts.inp.len
  have hlc := ht.parts.le
  have hl := ht.parts.list
  have hpos := ht.pos
  have y2 := fun (W : World) (hW : Below w.heap.size w W) => (hW.cell (p := ⟨b, 0, none⟩) (cell_lt hl)).trans hl
  have k1 : (0 : Int) ≤ (ln : Int) := by omega
  have k4 : (ln : Int) ≤ (lc : Int) := by omega
  have HE : Hid (It.scan (Tb.joined xss) (kb los) (kb hi) most = []) := (by
    have e2 : xss.drop (ln + 1) = [] := List.drop_of_length_le (by omega)
    have e3 : xss.getD ln [] = [] := by rw [List.getD_eq_getElem?_getD, List.getElem?_eq_none (by omega)]; rfl
    rw [hS.scan ht.whole, e2, e3, List.drop_nil]
    exact Tb.sgo_nil : It.scan (Tb.joined xss) (kb los) (kb hi) most = [])
  have hfin := fun (W : World) (hW : Below w.heap.size w W) => tg_nil HE.out hW
  generalize It.scan (Tb.joined xss) (kb los) (kb hi) most = OUT at *
  obtain ⟨lb, lo, rfl, -⟩ := ht.parts.inp.1.part hpos
  clear ht hS hl hll HE
  rcases Nat.lt_or_ge ln lc with h | h
  · have k3 : ¬ (lc = ln) := by omega
    have k5 : ln - ln = 0 := by omega
    go_enter Tryz.func52, Tryz.ntmps52
    go_wp2_with fail
    go_step3
    go_wp2_with (first
      | (go_at_call 29; go_must (refine ho.mono ?_; rintro e w1 ⟨rfl, hw⟩; rw [hw]; clear hw w1))
      | (go_at_call 79; go_must (refine hsk.mono ?_; rintro e w1 ⟨rfl, b1⟩; have u2 := y2 _ b1)))
    go_step3
    go_wp2
    go_loopg [9, 35] 0 (fun g s9 s35 wx => g = 0 ∧ s9 = .slice none 0 0 ∧ s35 = .int .i64 0 ∧ wx = w1)
    case atStart => exact ⟨rfl, rfl, rfl, rfl⟩
    case round =>
      obtain ⟨-, rfl, rfl, rfl⟩ := hrel
      go_wp2
      try rw [Exit.noGoto_ret]
      go_ret
      exact hfin _ b1
  · obtain rfl : lc = ln := by omega
    go_enter Tryz.func52, Tryz.ntmps52
    go_wp2_with fail
    go_step3
    go_wp2_with (first
      | (go_at_call 29; go_must (refine ho.mono ?_; rintro e w1 ⟨rfl, hw⟩; rw [hw]; clear hw w1))
      | (go_at_call 79; go_must (refine hsk.mono ?_; rintro e w1 ⟨rfl, b1⟩; have u2 := y2 _ b1)))
    go_step3
    go_wp2
    go_loopg [9, 35] 0 (fun g s9 s35 wx => g = 0 ∧ s9 = .slice none 0 0 ∧ s35 = .int .i64 0 ∧ wx = w1)
    case atStart => exact ⟨rfl, rfl, rfl, rfl⟩
    case round =>
      obtain ⟨-, rfl, rfl, rfl⟩ := hrel
      go_wp2
      try rw [Exit.noGoto_ret]
      go_ret
      exact hfin _ b1

theorem tscan_any (p : Addr) (L : List It.I) (lo hi : ByteArray) (most : Int) (w : World) (h : TbT w p L) :
    Calls Tryz.prog 52 #[.pointer (some p), .string lo, .string hi, .int .i64 most] w (TGetRes w (It.scan L (kb lo) (kb hi) most)) := by
  obtain ⟨b, la, ln, lc, ps, gss, xss, sa, sn, sc, rfl, rfl, ht⟩ := h
  obtain ⟨P, A, hS⟩ := Tb.seek_ex ht.whole (kb lo)
  have hle := hS.le
  rw [ht.parts.inp.len] at hle
  rcases Nat.lt_or_ge P ln with h | h
  · obtain ⟨lb, lo', rfl, -⟩ := ht.parts.inp.1.part ht.pos
    exact tscan_in b lb lo' ln lc ps gss xss sa sn sc lo hi most w ht P A hS h
  · obtain rfl : P = ln := by omega
    exact tscan_out b la P lc ps gss xss sa sn sc lo hi most w ht A hS

set_option maxRecDepth 100000 in
theorem tall_any (p : Addr) (L : List It.I) (w : World) (h : TbT w p L) :
    Calls Tryz.prog 23 #[.pointer (some p)] w (TGetRes w L) := by
  have hln := tlen_any p L w h
  have hsc := fun W (hW : Below w.heap.size w W) => tscan_any p L ⟨#[]⟩ ⟨#[]⟩ (L.length : Int) W (TbT.keep w W p L h hW)
  have e0 : kb ⟨#[]⟩ = [] := rfl
  rw [e0, Tb.scan_whole] at hsc
  unfold TGetRes at hsc
  obtain ⟨n, hn⟩ : ∃ n, n = L.length := ⟨_, rfl⟩
  unfold TGetRes
  rw [← hn] at hln hsc ⊢
  clear h hn e0
  go_enter Tryz.func23, Tryz.ntmps23
  go_wp2_with (first
    | (go_at_call 10; go_must (refine hln.mono ?_; rintro e w1 ⟨rfl, b1⟩))
    | (go_at_call 52; go_must (refine (hsc _ b1).mono ?_; rintro e w2 ⟨a2, c2, hs2, rfl, i2, b2⟩)))
  go_ret
  exact ⟨a2, c2, hs2, rfl, i2, b1.trans (b2.mono b1.size)⟩
end Go.Proofs.YtikieblokfjphaaGreat
