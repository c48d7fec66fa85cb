/- What the reference's Put of items does. -/
import Derived.Test.YtpoocjffkhjeaaaTR1
import Derived.Deep.QuietTactic
import Derived.BigQuiet
namespace Go.Proofs.Ytpoocjffkhjeaaa
open Go.RowKit

def PutRes (w w0 : World) (L : List It.I) (e : Ending) (w' : World) : Prop :=
  ∃ a c hs, e = .returned (.slice a L.length c) ∧ L.length ≤ c ∧ (a = none → L.length = 0 ∧ c = 0) ∧ w'.ownsRow w.heap.size 40 8 (.slice a L.length c) L.length (tcells ih hs) ∧ ItAll w0 hs L ∧ Below w.heap.size w w'

set_option maxRecDepth 100000 in
set_option maxHeartbeats 8000000 in
/-- the items' bytes lie in an elder world w0 -/
theorem iput_any (w0 : World) (a : Option Addr) (len cap : Nat) (gs : List IH) (xs : List It.I) (h : IH) (x : It.I) (w : World) (hlen : len ≤ 100000) (hr : TRow 8 ih ihz w a len gs) (hall : ItAll w0 gs xs) (hx : IsItem w0 h x) :
    Calls Try.prog 30 #[.slice a len cap, iv h] w (PutRes w w0 (It.put xs x)) := by
  have hll : Hid (xs.length = len) := (hall.1.symm.trans hr.1 : xs.length = len)
  have hkx : Hid (kb h.key = x.1) := hx.key
  have Hx : Hid (IsItem w0 h x) := hx
  have Hall : Hid (ItAll w0 gs xs) := hall
  obtain ⟨L, hL⟩ : ∃ L, L = It.put xs x := ⟨_, rfl⟩
  have HL : Hid (L = It.putGo x false xs) := hL
  rw [← hL]
  clear hL hx hall
  obtain ⟨wb, hwb⟩ : ∃ wb, wb = w.alloc (.cells #[.string h.key, .bool h.dead, .bool h.far, .slice h.a h.n h.c, .int .i64 h.p.1, .int .i64 h.p.2.1, .int .i64 h.p.2.2.1, .int .u32 (h.p.2.2.2 : Nat)] 40) := ⟨_, rfl⟩
  have hbox : Hid (∀ W, Below wb.heap.size wb W → ICells W w.heap.size 0 h ∧ Below w.heap.size w W) := (fun W hW => by
    rw [hwb] at hW
    obtain ⟨⟨k0, k1, k2, k3, k4, k5, k6, k7⟩, _, hb⟩ := eight_keep hW
    exact ⟨⟨k0, k1, k2, k3, k4, k5, k6, k7⟩, hb⟩ : ∀ W, Below wb.heap.size wb W → ICells W w.heap.size 0 h ∧ Below w.heap.size w W)
  have hm0 := made_t (s := 8) (enc := ih) wb (B := wb.heap.size) (E := 40) (Nat.le_refl _) rfl
  have hb0 := below_alloc wb (.cells #[] 40)
  have hws : wb.heap.size = w.heap.size + 1 := by rw [hwb]; simp
  have hrow : TRow 8 ih ihz wb a len gs := hr.below (B := w.heap.size) (by rw [hwb]; exact below_alloc _ _) (Nat.le_refl _)
  clear hr
  go_enter Try.func30, Try.ntmps30
  go_wp2
  rw [← hwb, ← hws]
  have Hws : Hid (wb.heap.size = w.heap.size + 1) := hws
  have Hwb := hwb
  clear hws hwb Hwb
  generalize hbx : w.heap.size = bx at *
  go_loopw [5, 6, 7] (fun v t i wr => ∃ (k m c : Nat) (g : Option Addr) (b : Bool) (O : List IH) (P : List It.I), k ≤ len ∧ m ≤ 2 * k ∧ i = .int .i64 k ∧ t = .bool b ∧ v = .slice g m c ∧ m ≤ c ∧ (g = none → m = 0 ∧ c = 0) ∧ Hid (L = P ++ It.putGo x b (xs.drop k)) ∧ Hid (P.length = m) ∧ Hid (ItAll w0 O P) ∧ wr.ownsRow wb.heap.size 40 8 (.slice g m c) m (tcells ih O) ∧ Below wb.heap.size wb wr)
    (fun _ _ i _ => len - (intOf i).toNat)
  case atStart => exact ⟨0, 0, 0, _, false, [], [], by omega, by omega, rfl, rfl, rfl, by omega, (fun h => by cases h), (HL.out : L = [] ++ It.putGo x false (xs.drop 0)), (rfl : ([] : List It.I).length = 0), ItAll.nil _, hm0, hb0⟩
  case round =>
    obtain ⟨k, m, c, g, b, O, P, hk, hmk, rfl, rfl, rfl, hmc, hgn, H, HP, HA, hown, hbel⟩ := hrel
    clear hm0 hb0 HL
    obtain ⟨⟨x0, x1, x2, x3, x4, x5, x6, x7⟩, hw⟩ := hbox.out wr hbel
    by_cases hlt : k < len
    · obtain ⟨bb, off, rfl, hc⟩ : ∃ b off, a = some ⟨b, off, none⟩ ∧ ∀ i, i < len → ICells wb b (off + i * 8) (gs.getD i ihz) := (⟨hrow, Hall.out.below (B := w0.heap.size) (Below.refl _ _) (Nat.le_refl _)⟩ : TRow 8 ih ihz wb a len gs ∧ ItAll w0 gs xs).1.at (by omega) |>.imp (fun b hb => hb.imp (fun off ho => ⟨ho.1, fun i hi => ⟨ho.2 i hi 0 _ rfl, ho.2 i hi 1 _ rfl, ho.2 i hi 2 _ rfl, ho.2 i hi 3 _ rfl, ho.2 i hi 4 _ rfl, ho.2 i hi 5 _ rfl, ho.2 i hi 6 _ rfl, ho.2 i hi 7 _ rfl⟩⟩))
      have hck := hc k hlt
      have C0 : Hid (∀ W, Below wb.heap.size wb W → ICells W bb (off + k * 8) (gs.getD k ihz)) := (fun W hW => hck.below hW (Nat.le_refl _) : ∀ W, Below wb.heap.size wb W → ICells W bb (off + k * 8) (gs.getD k ihz))
      have hst : Hid (L = P ++ ((if b = false ∧ It.ge (xs.getD k It.zero).1 x.1 = true then [x] else []) ++ ((if (xs.getD k It.zero).1 = x.1 then [] else [xs.getD k It.zero]) ++ It.putGo x (b || It.ge (xs.getD k It.zero).1 x.1) (xs.drop (k + 1))))) := (by
        rw [H.out, It.getD_drop (by rw [hll.out]; exact hlt)]; rfl : L = P ++ ((if b = false ∧ It.ge (xs.getD k It.zero).1 x.1 = true then [x] else []) ++ ((if (xs.getD k It.zero).1 = x.1 then [] else [xs.getD k It.zero]) ++ It.putGo x (b || It.ge (xs.getD k It.zero).1 x.1) (xs.drop (k + 1)))))
      have Hy : Hid (IsItem w0 (gs.getD k ihz) (xs.getD k It.zero)) := (Hall.out.2 k (by rw [hll.out]; exact hlt) : IsItem w0 (gs.getD k ihz) (xs.getD k It.zero))
      generalize gs.getD k ihz = q at *
      generalize xs.getD k It.zero = y at *
      have hqk : Hid (kb q.key = y.1) := Hy.out.key
      obtain ⟨y0, y1, y2, y3, y4, y5, y6, y7⟩ := C0.out wr hbel
      have i0 : (0 : Int) ≤ (k : Int) := by omega
      have i1 : (k : Int) < (len : Int) := by omega
      clear H hc hck
      have hless : Op.bytesLess q.key.toList h.key.toList = Na.lt y.1 x.1 := by rw [less_kb, hqk.out, hkx.out]
      have heq : (q.key.toList == h.key.toList) = decide (y.1 = x.1) := str_eq _ (by rw [hqk.out, hkx.out, decide_eq_true_eq])
      have hneq : (q.key.toList != h.key.toList) = !decide (y.1 = x.1) := by rw [bne, heq]
      obtain ⟨B1, hB1⟩ : ∃ B1, B1 = Na.lt y.1 x.1 := ⟨_, rfl⟩
      have hge : It.ge y.1 x.1 = !B1 := by rw [hB1]; rfl
      rw [← hB1] at hless
      rw [hge] at hst
      clear hB1 hge
      by_cases hyx : y.1 = x.1
      · rw [show decide (y.1 = x.1) = true by simp [hyx]] at heq hneq
        rw [if_pos hyx] at hst
        clear hyx
        obtain rfl : B1 = false := by
          have e1 := heq
          rw [beq_iff_eq] at e1
          rw [← hless, e1]
          rw [less_list]
          exact It.lt_irrefl _
        cases b with
        | true =>
          have H2 : Hid (L = P ++ It.putGo x true (xs.drop (k + 1))) := (by rw [hst.out]; simp : L = P ++ It.putGo x true (xs.drop (k + 1)))
          clear hst
          go_wp2_with fail
          go_quiet (fail)
          go_wp2_with fail
          go_quiet (fail)
          go_wp2
          go_roundw
          case rel => exact ⟨k + 1, m, c, g, true, O, P, by omega, by omega, by go_num, rfl, rfl, hmc, hgn, H2, HP, HA, hown, hbel.trans (below_drewN _ _ _)⟩
          case measure => simp [intOf]; omega
        | false =>
          have H2 : Hid (L = (P ++ [x]) ++ It.putGo x true (xs.drop (k + 1))) := (by rw [hst.out]; simp : L = (P ++ [x]) ++ It.putGo x true (xs.drop (k + 1)))
          have HP2 : Hid ((P ++ [x]).length = m + 1) := (by rw [List.length_append, HP.out]; rfl : (P ++ [x]).length = m + 1)
          have HA2 : Hid (ItAll w0 (O ++ [h]) (P ++ [x])) := (HA.out.snoc Hx.out : ItAll w0 (O ++ [h]) (P ++ [x]))
          clear hst
          go_wp2_with fail
          go_quiet (fail)
          have hbq : Below wb.heap.size wb (wr.drewN nq) := hbel.trans (below_drewN _ _ _)
          have hownq := owns_below hown (below_drewN wr.heap.size wr nq)
          obtain ⟨⟨z0, z1, z2, z3, z4, z5, z6, z7⟩, _⟩ := hbox.out _ hbq
          obtain ⟨v0, v1, v2, v3, v4, v5, v6, v7⟩ := C0.out _ hbq
          clear x0 x1 x2 x3 x4 x5 x6 x7 y0 y1 y2 y3 y4 y5 y6 y7
          generalize wr.drewN nq = wq at *
          go_wp2_with (at_builtin; go_must (refine append_t itemE ihE (w0 := wb) (B := wb.heap.size) rfl (.tmp 27) (.tmp 29) rfl _ _ _ rfl (hownq.alloc _) (some ⟨_, 0, none⟩) 1 1 [h] rfl (lit_item wq h rfl) (fun h => by cases h) (by omega) (hbq.alloc hbq.size _) (hbq.alloc hbq.size _).size ?_; intro a2 c2 w2 hc2 hn2 _ hown2 hb2 _))
          have hw2 := hb2
          obtain ⟨⟨r0, r1, r2, r3, r4, r5, r6, r7⟩, _⟩ := hbox.out _ hb2
          obtain ⟨t0, t1, t2, t3, t4, t5, t6, t7⟩ := C0.out _ hb2
          clear z0 z1 z2 z3 z4 z5 z6 z7 v0 v1 v2 v3 v4 v5 v6 v7
          go_quiet (fail)
          have hbq2 : Below wb.heap.size wb (w2.drewN nq) := hb2.trans (below_drewN _ _ _)
          have hownq2 := owns_below hown2 (below_drewN w2.heap.size w2 nq)
          obtain ⟨⟨s0, s1, s2, s3, s4, s5, s6, s7⟩, _⟩ := hbox.out _ hbq2
          obtain ⟨u0, u1, u2, u3, u4, u5, u6, u7⟩ := C0.out _ hbq2
          clear r0 r1 r2 r3 r4 r5 r6 r7 t0 t1 t2 t3 t4 t5 t6 t7
          generalize w2.drewN nq = wp at *
          go_wp2
          go_roundw
          case rel => exact ⟨k + 1, m + 1, c2, a2, true, _, _, by omega, by omega, by go_num, rfl, rfl, hc2, hn2, H2, HP2, HA2, hownq2, hbq2⟩
          case measure => simp [intOf]; omega
      · rw [show decide (y.1 = x.1) = false by simp [hyx]] at heq hneq
        rw [if_neg hyx] at hst
        clear hyx
        cases b with
        | true =>
          have H2 : Hid (L = (P ++ [y]) ++ It.putGo x true (xs.drop (k + 1))) := (by rw [hst.out]; simp : L = (P ++ [y]) ++ It.putGo x true (xs.drop (k + 1)))
          have HP2 : Hid ((P ++ [y]).length = m + 1) := (by rw [List.length_append, HP.out]; rfl : (P ++ [y]).length = m + 1)
          have HA2 : Hid (ItAll w0 (O ++ [q]) (P ++ [y])) := (HA.out.snoc Hy.out : ItAll w0 (O ++ [q]) (P ++ [y]))
          clear hst
          go_wp2_with fail
          go_quiet (fail)
          have hbq : Below wb.heap.size wb (wr.drewN nq) := hbel.trans (below_drewN _ _ _)
          have hownq := owns_below hown (below_drewN wr.heap.size wr nq)
          obtain ⟨⟨z0, z1, z2, z3, z4, z5, z6, z7⟩, _⟩ := hbox.out _ hbq
          obtain ⟨v0, v1, v2, v3, v4, v5, v6, v7⟩ := C0.out _ hbq
          clear x0 x1 x2 x3 x4 x5 x6 x7 y0 y1 y2 y3 y4 y5 y6 y7
          generalize wr.drewN nq = wq at *
          go_wp2_with fail
          go_quiet (fail)
          have hbq2 : Below wb.heap.size wb (wq.drewN nq) := hbq.trans (below_drewN _ _ _)
          have hownq2 := owns_below hownq (below_drewN wq.heap.size wq nq)
          obtain ⟨⟨s0, s1, s2, s3, s4, s5, s6, s7⟩, _⟩ := hbox.out _ hbq2
          obtain ⟨u0, u1, u2, u3, u4, u5, u6, u7⟩ := C0.out _ hbq2
          clear z0 z1 z2 z3 z4 z5 z6 z7 v0 v1 v2 v3 v4 v5 v6 v7
          generalize wq.drewN nq = wp at *
          go_wp2_with (at_builtin; go_must (refine append_t itemE ihE (w0 := wb) (B := wb.heap.size) rfl (.tmp 39) (.tmp 44) rfl _ _ _ rfl (hownq2.alloc _) (some ⟨_, 0, none⟩) 1 1 [q] rfl (lit_item wp q rfl) (fun h => by cases h) (by omega) (hbq2.alloc hbq2.size _) (hbq2.alloc hbq2.size _).size ?_; intro a3 c3 w3 hc3 hn3 _ hown3 hb3 _))
          go_roundw
          case rel => exact ⟨k + 1, m + 1, c3, a3, true, _, _, by omega, by omega, by go_num, rfl, rfl, hc3, hn3, H2, HP2, HA2, hown3, hb3⟩
          case measure => simp [intOf]; omega
        | false =>
          cases B1 with
          | false =>
            have H2 : Hid (L = (P ++ [x] ++ [y]) ++ It.putGo x true (xs.drop (k + 1))) := (by rw [hst.out]; simp : L = (P ++ [x] ++ [y]) ++ It.putGo x true (xs.drop (k + 1)))
            have HP2 : Hid ((P ++ [x] ++ [y]).length = m + 1 + 1) := (by rw [List.length_append, List.length_append, HP.out]; rfl : (P ++ [x] ++ [y]).length = m + 1 + 1)
            have HA2 : Hid (ItAll w0 (O ++ [h] ++ [q]) (P ++ [x] ++ [y])) := ((HA.out.snoc Hx.out).snoc Hy.out : ItAll w0 (O ++ [h] ++ [q]) (P ++ [x] ++ [y]))
            clear hst
            go_wp2_with fail
            go_quiet (fail)
            have hbq : Below wb.heap.size wb (wr.drewN nq) := hbel.trans (below_drewN _ _ _)
            have hownq := owns_below hown (below_drewN wr.heap.size wr nq)
            obtain ⟨⟨z0, z1, z2, z3, z4, z5, z6, z7⟩, _⟩ := hbox.out _ hbq
            obtain ⟨v0, v1, v2, v3, v4, v5, v6, v7⟩ := C0.out _ hbq
            clear x0 x1 x2 x3 x4 x5 x6 x7 y0 y1 y2 y3 y4 y5 y6 y7
            generalize wr.drewN nq = wq at *
            go_wp2_with (at_builtin; go_must (refine append_t itemE ihE (w0 := wb) (B := wb.heap.size) rfl (.tmp 27) (.tmp 29) rfl _ _ _ rfl (hownq.alloc _) (some ⟨_, 0, none⟩) 1 1 [h] rfl (lit_item wq h rfl) (fun h => by cases h) (by omega) (hbq.alloc hbq.size _) (hbq.alloc hbq.size _).size ?_; intro a2 c2 w2 hc2 hn2 _ hown2 hb2 _))
            have hw2 := hb2
            obtain ⟨⟨r0, r1, r2, r3, r4, r5, r6, r7⟩, _⟩ := hbox.out _ hb2
            obtain ⟨t0, t1, t2, t3, t4, t5, t6, t7⟩ := C0.out _ hb2
            clear z0 z1 z2 z3 z4 z5 z6 z7 v0 v1 v2 v3 v4 v5 v6 v7
            go_quiet (fail)
            have hbq2 : Below wb.heap.size wb (w2.drewN nq) := hb2.trans (below_drewN _ _ _)
            have hownq2 := owns_below hown2 (below_drewN w2.heap.size w2 nq)
            obtain ⟨⟨s0, s1, s2, s3, s4, s5, s6, s7⟩, _⟩ := hbox.out _ hbq2
            obtain ⟨u0, u1, u2, u3, u4, u5, u6, u7⟩ := C0.out _ hbq2
            clear r0 r1 r2 r3 r4 r5 r6 r7 t0 t1 t2 t3 t4 t5 t6 t7
            generalize w2.drewN nq = wp at *
            go_wp2_with (at_builtin; go_must (refine append_t itemE ihE (w0 := wb) (B := wb.heap.size) rfl (.tmp 39) (.tmp 44) rfl _ _ _ rfl (hownq2.alloc _) (some ⟨_, 0, none⟩) 1 1 [q] rfl (lit_item wp q rfl) (fun h => by cases h) (by omega) (hbq2.alloc hbq2.size _) (hbq2.alloc hbq2.size _).size ?_; intro a3 c3 w3 hc3 hn3 _ hown3 hb3 _))
            go_roundw
            case rel => exact ⟨k + 1, m + 1 + 1, c3, a3, true, _, _, by omega, by omega, by go_num, rfl, rfl, hc3, hn3, H2, HP2, HA2, hown3, hb3⟩
            case measure => simp [intOf]; omega
          | true =>
            have H2 : Hid (L = (P ++ [y]) ++ It.putGo x false (xs.drop (k + 1))) := (by rw [hst.out]; simp : L = (P ++ [y]) ++ It.putGo x false (xs.drop (k + 1)))
            have HP2 : Hid ((P ++ [y]).length = m + 1) := (by rw [List.length_append, HP.out]; rfl : (P ++ [y]).length = m + 1)
            have HA2 : Hid (ItAll w0 (O ++ [q]) (P ++ [y])) := (HA.out.snoc Hy.out : ItAll w0 (O ++ [q]) (P ++ [y]))
            clear hst
            go_wp2_with fail
            go_quiet (fail)
            have hbq : Below wb.heap.size wb (wr.drewN nq) := hbel.trans (below_drewN _ _ _)
            have hownq := owns_below hown (below_drewN wr.heap.size wr nq)
            obtain ⟨⟨z0, z1, z2, z3, z4, z5, z6, z7⟩, _⟩ := hbox.out _ hbq
            obtain ⟨v0, v1, v2, v3, v4, v5, v6, v7⟩ := C0.out _ hbq
            clear x0 x1 x2 x3 x4 x5 x6 x7 y0 y1 y2 y3 y4 y5 y6 y7
            generalize wr.drewN nq = wq at *
            go_wp2_with fail
            go_quiet (fail)
            have hbq2 : Below wb.heap.size wb (wq.drewN nq) := hbq.trans (below_drewN _ _ _)
            have hownq2 := owns_below hownq (below_drewN wq.heap.size wq nq)
            obtain ⟨⟨s0, s1, s2, s3, s4, s5, s6, s7⟩, _⟩ := hbox.out _ hbq2
            obtain ⟨u0, u1, u2, u3, u4, u5, u6, u7⟩ := C0.out _ hbq2
            clear z0 z1 z2 z3 z4 z5 z6 z7 v0 v1 v2 v3 v4 v5 v6 v7
            generalize wq.drewN nq = wp at *
            go_wp2_with (at_builtin; go_must (refine append_t itemE ihE (w0 := wb) (B := wb.heap.size) rfl (.tmp 39) (.tmp 44) rfl _ _ _ rfl (hownq2.alloc _) (some ⟨_, 0, none⟩) 1 1 [q] rfl (lit_item wp q rfl) (fun h => by cases h) (by omega) (hbq2.alloc hbq2.size _) (hbq2.alloc hbq2.size _).size ?_; intro a3 c3 w3 hc3 hn3 _ hown3 hb3 _))
            go_roundw
            case rel => exact ⟨k + 1, m + 1, c3, a3, false, _, _, by omega, by omega, by go_num, rfl, rfl, hc3, hn3, H2, HP2, HA2, hown3, hb3⟩
            case measure => simp [intOf]; omega
    · obtain rfl : k = len := by omega
      have HE : Hid (L = P ++ (if b then [] else [x])) := (by rw [H.out, List.drop_of_length_le (by rw [hll.out]; omega)]; rfl : L = P ++ (if b then [] else [x]))
      clear H
      cases b with
      | true =>
        obtain rfl : L = P := by rw [HE.out]; simp
        obtain rfl := HP.out
        go_wp2
        go_ret
        exact ⟨g, c, O, rfl, hmc, hgn, hown.mono (by have := Hws.out; omega), HA.out, by rw [hbx]; exact hw⟩
      | false =>
        have HE2 : Hid (L = P ++ [x]) := HE.out
        clear HE
        go_wp2_with (at_builtin; go_must (refine append_t itemE ihE (w0 := wb) (B := wb.heap.size) rfl (.tmp 48) (.tmp 50) rfl _ _ _ rfl (hown.alloc _) (some ⟨_, 0, none⟩) 1 1 [h] rfl (lit_item wr h rfl) (fun h => by cases h) (by omega) (hbel.alloc hbel.size _) (hbel.alloc hbel.size _).size ?_; intro a2 c2 w2 hc2 hn2 _ hown2 hb2 _))
        go_ret
        obtain rfl := HE2.out
        have hl2 : (P ++ [x]).length = m + 1 := by rw [List.length_append, HP.out]; rfl
        exact ⟨a2, c2, O ++ [h], by rw [hl2]; rfl, by rw [hl2]; exact hc2, by rw [hl2]; exact hn2, by rw [hl2]; exact hown2.mono (by have := Hws.out; omega), HA.out.snoc Hx.out, by rw [hbx]; exact (hbox.out _ hb2).2⟩
end Go.Proofs.Ytpoocjffkhjeaaa
