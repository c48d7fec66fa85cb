/- What the reference's Order of tables does. -/
import Derived.Test.YtghgolpofafjmaaLI
namespace Go.Proofs.Ytghgolpofafjmaa
open Go.RowKit

set_option maxRecDepth 100000 in
set_option maxHeartbeats 4000000 in
theorem rord_any (a : Option Addr) (len cap : Nat) (ps : List Lv.T) (w : World) (hlen : len ≤ 1000) (hr : LRow w a len ps) :
    Calls Try.prog 16 #[.slice a len cap] w (LRes w (Lv.iord ps)) := by
  have hll : Hid (ps.length = len) := hr.1
  have hm0 := made_t (s := 5) (enc := le) w (B := w.heap.size) (E := 30) (Nat.le_refl _) rfl
  have hb0 := below_alloc w (.cells #[] 30)
  go_enter Try.func16, Try.ntmps16
  go_wp2
  go_loopw [3, 4] (fun v i wr => ∃ (k g c : Nat), k ≤ len ∧ k ≤ c ∧ i = .int .i64 k ∧ v = .slice (some ⟨g, 0, none⟩) k c ∧ wr.ownsRow w.heap.size 30 5 (.slice (some ⟨g, 0, none⟩) k c) k (tcells le (Lv.iord (ps.take k))) ∧ Below w.heap.size w wr)
    (fun _ i _ => len - (intOf i).toNat)
  case atStart => exact ⟨0, w.heap.size, 0, by omega, by omega, rfl, rfl, hm0, hb0⟩
  case round =>
    obtain ⟨k, g, c, hk, hkc, rfl, rfl, hown, hbel⟩ := hrel
    clear hm0 hb0
    have hsz := hbel.size
    by_cases hlt : k < len
    · obtain ⟨b, off, rfl, hc⟩ := hr.at (by omega)
      have hpatw := L5.of (hc k hlt)
      have hpat := hpatw.below hbel (Nat.le_refl _)
      have Hord : Hid (Lv.iord (ps.take (k + 1)) = Lv.insC (Lv.iord (ps.take k)) (ps.getD k Lv.zero)) := Lv.iord_take ps k (by rw [hll.out]; exact hlt)
      have HO : Hid ((Lv.iord (ps.take k)).length = k) := (by rw [Lv.iord_len, List.length_take, hll.out]; omega : (Lv.iord (ps.take k)).length = k)
      clear hc hr
      generalize ps.getD k Lv.zero = p at *
      generalize Lv.iord (ps.take k) = O at *
      have hbp : b < wr.heap.size := cell_lt hpat.1
      have HOf : Hid (∀ j, j < k → L5 wr g (j * 5) (O.getD j Lv.zero)) := (fun j hj => L5.own hown j (by rw [HO.out]; omega) : ∀ j, j < k → L5 wr g (j * 5) (O.getD j Lv.zero))
      have hl100 : k ≤ 1000 := by omega
      have Hins : Hid (Lv.insC O p = O.take (Lv.cut O p k) ++ [p] ++ O.drop (Lv.cut O p k)) := (by unfold Lv.insC; rw [HO.out] : Lv.insC O p = O.take (Lv.cut O p k) ++ [p] ++ O.drop (Lv.cut O p k))
      obtain ⟨x1, x2, x3, x4, x5⟩ := p
      have hle0 := fun z1 z2 z3 z4 z5 => rahead_any x1 x2 x3 x4 x5 z1 z2 z3 z4 z5
      have HP : Hid (∀ W', Below w.heap.size w W' → L5 W' b (off + k * 5) (Lv.T.mk x1 x2 x3 x4 x5)) := (fun W' h => hpatw.below h (Nat.le_refl _) : ∀ W', Below w.heap.size w W' → L5 W' b (off + k * 5) (Lv.T.mk x1 x2 x3 x4 x5))
      clear hpatw
      obtain ⟨p0, p1, p2, p3, p4⟩ := hpat
      simp only at p0 p1 p2 p3 p4
      obtain ⟨Wo, hWo⟩ : ∃ W : World, W = wr := ⟨_, rfl⟩
      subst hWo
      go_wp2
      go_loopw [5] (fun t wi => ∃ j : Nat, j ≤ k ∧ t = .int .i64 j ∧ Hid (Lv.cut O (Lv.T.mk x1 x2 x3 x4 x5) k = Lv.cut O (Lv.T.mk x1 x2 x3 x4 x5) j) ∧ Below Wo.heap.size Wo wi) (fun t _ => (intOf t).toNat)
      case atStart => exact ⟨k, by omega, rfl, (rfl : Lv.cut O (Lv.T.mk x1 x2 x3 x4 x5) k = Lv.cut O (Lv.T.mk x1 x2 x3 x4 x5) k), Below.refl _ _⟩
      case round =>
        obtain ⟨j, hj, rfl, Hcut, hbi⟩ := hrel
        have w0' := (hbi.cell (p := ⟨b, off + k * 5, none⟩) hbp).trans p0
        have w1' := (hbi.cell (p := ⟨b, off + k * 5 + 1, none⟩) hbp).trans p1
        have w2' := (hbi.cell (p := ⟨b, off + k * 5 + 2, none⟩) hbp).trans p2
        have w3' := (hbi.cell (p := ⟨b, off + k * 5 + 3, none⟩) hbp).trans p3
        have w4' := (hbi.cell (p := ⟨b, off + k * 5 + 4, none⟩) hbp).trans p4
        have i0 : (0 : Int) ≤ (k : Int) := by omega
        have i1 : (k : Int) < (len : Int) := by omega
        rcases Nat.eq_zero_or_pos j with hj0 | hj0
        · have hd : decide ((0 : Int) < (j : Int)) = false := by simp; omega
          have hd2 : decide (0 < j) = false := by simp; omega
          have Hj : Hid (Lv.cut O (Lv.T.mk x1 x2 x3 x4 x5) k = j) := (by rw [Hcut.out, hj0]; rfl : Lv.cut O (Lv.T.mk x1 x2 x3 x4 x5) k = j)
          clear p0 p1 p2 p3 p4 Hcut hj0 hle0
          go_wp2_with fail
          go_quiet (fail)
          have hbw : Below Wo.heap.size Wo (wr.drewN nq) := hbi.trans (below_drewN _ _ _)
          have u0 : (wr.drewN nq).cell? ⟨b, off + k * 5, none⟩ = some (.int .i64 x1) := w0'
          have u1 : (wr.drewN nq).cell? ⟨b, off + k * 5 + 1, none⟩ = some (.int .i64 x2) := w1'
          have u2 : (wr.drewN nq).cell? ⟨b, off + k * 5 + 2, none⟩ = some (.int .i64 x3) := w2'
          have u3 : (wr.drewN nq).cell? ⟨b, off + k * 5 + 3, none⟩ = some (.string x4) := w3'
          have u4 : (wr.drewN nq).cell? ⟨b, off + k * 5 + 4, none⟩ = some (.string x5) := w4'
          clear w0' w1' w2' w3' w4'
          generalize wr.drewN nq = W at *
          have hownW := owns_below hown hbw
          have hBW := hbel.trans (hbw.mono hsz)
          have hgl : g < W.heap.size := (hownW.lt g rfl).2
          have hrest : ∀ q u, (tcells le (O.drop j))[q]? = some u → W.cell? ((⟨g, j * 5, none⟩ : Addr).add q) = some u := fun q u hq => by
            rw [add_at]
            exact lown_cell hownW _ _ (by rw [← lcells_drop O j (by rw [HO.out]; omega), List.getElem?_drop] at hq; exact hq)
          have hhead : ∀ q u, (tcells le (O.take j))[q]? = some u → W.cell? ((⟨g, 0, none⟩ : Addr).add q) = some u := fun q u hq => by
            rw [add_at, Nat.zero_add]
            exact lown_cell hownW _ _ (by rw [← lcells_take O j (by rw [HO.out]; omega), List.getElem?_take] at hq; split at hq; exact hq; cases hq)
          have hjk : (j : Int) ≤ (k : Int) := by omega
          have hjc0 : (j : Int) ≤ (c : Int) := by omega
          have hj00 : (0 : Int) ≤ (j : Int) := by omega
          clear hbi
          by_cases hcj : c = j
          · subst hcj
            obtain rfl : k = c := by omega
            go_wp2_with fail
            have hown2 : (W.alloc (.cells #[] 30)).ownsRow W.heap.size 30 5 (.slice (some ⟨W.heap.size, 0, none⟩) 0 0) 0 (tcells le (O.drop k)) := by
              rw [List.drop_of_length_le (by rw [HO.out]; omega)]
              exact made_b W 30 5 W.heap.size rfl (Nat.le_refl _)
            have hbel2 := below_alloc W (.cells #[] 30)
            have HR : Hid (0 = k - k) := (by omega : 0 = k - k)
            have hgg : W.heap.size < (W.alloc (.cells #[] 30)).heap.size := by simp
            obtain ⟨g2, hg2⟩ : ∃ g2, g2 = W.heap.size := ⟨_, rfl⟩
            rw [← hg2] at hown2 ⊢
            have Hg2 : Hid (g2 = W.heap.size) := hg2
            clear hg2 hgg
            generalize W.alloc (.cells #[] 30) = w2 at *
            have h2' := hBW.trans (hbel2.mono hBW.size)
            obtain ⟨x0, x1', x2', x3', x4'⟩ := L5.below (x := (Lv.T.mk x1 x2 x3 x4 x5)) ⟨u0, u1, u2, u3, u4⟩ hbel2 (Nat.le_refl _)
            simp only at x0 x1' x2' x3' x4'
            have hhead2 : ∀ q u, (tcells le (O.take k))[q]? = some u → w2.cell? ((⟨g, 0, none⟩ : Addr).add q) = some u := fun q u hq => (hbel2.cell (by rw [add_at]; exact hgl)).trans (hhead q u hq)
            have hrest2 : ∀ q u, (tcells le (O.drop k))[q]? = some u → w2.cell? ((⟨g2, 0, none⟩ : Addr).add q) = some u := fun q u hq => by rw [add_at, Nat.zero_add]; exact lown_cell hown2 _ _ hq
            have hne := World.new_ne w2 ⟨b, off + k * 5, none⟩ x0
            have hnews : ∀ W3, Below (w2.alloc (.cells #[.int .i64 x1, .int .i64 x2, .int .i64 x3, .string x4, .string x5] 30)).heap.size (w2.alloc (.cells #[.int .i64 x1, .int .i64 x2, .int .i64 x3, .string x4, .string x5] 30)) W3 → ∀ q u, (tcells le [(Lv.T.mk x1 x2 x3 x4 x5)])[q]? = some u → W3.cell? ((⟨w2.heap.size, 0, none⟩ : Addr).add q) = some u := fun W3 h3 => news_tab (tab_past (w := w2) h3 (by simp))
            have hb3 := below_alloc w2 (.cells #[.int .i64 x1, .int .i64 x2, .int .i64 x3, .string x4, .string x5] 30)
            have hcat : Hid (O.take k ++ [(Lv.T.mk x1 x2 x3 x4 x5)] ++ O.drop k = Lv.iord (ps.take (k + 1))) := (by rw [Hord.out, Hins.out, Hj.out] : O.take k ++ [(Lv.T.mk x1 x2 x3 x4 x5)] ++ O.drop k = Lv.iord (ps.take (k + 1)))
            have hlt2 : Hid (k + 1 + 0 = k + 1) := (by omega : k + 1 + 0 = k + 1)
            have HtJ : Hid ((O.take k).length = k) := (by rw [List.length_take, HO.out]; omega : (O.take k).length = k)
            have HdJ : Hid ((O.drop k).length = 0) := (by rw [List.length_drop, HO.out]; first | done | omega : (O.drop k).length = 0)
            clear u0 u1 u2 u3 u4 hownW hBW hrest hhead Hins Hj Hord HOf hown
            go_region_held3 (fun w' => w'.cell? ⟨b, off + k * 5, none⟩ = some (.int .i64 x1) ∧ w'.cell? ⟨b, off + k * 5 + 1, none⟩ = some (.int .i64 x2) ∧ w'.cell? ⟨b, off + k * 5 + 2, none⟩ = some (.int .i64 x3) ∧ w'.cell? ⟨b, off + k * 5 + 3, none⟩ = some (.string x4) ∧ w'.cell? ⟨b, off + k * 5 + 4, none⟩ = some (.string x5)) (first | go_keep | (refine ⟨?_, ?_, ?_, ?_, ?_⟩ <;> assumption))
              (first
                | ((have := hown3; refine step_tabs (w0 := w) (B := w.heap.size) (by rfl) _ _ (by rfl) ⟨g3, 0, none⟩ (k + 1) c3 (O.take k ++ [(Lv.T.mk x1 x2 x3 x4 x5)]) (by rfl) (hown3.mono hb3w.size) ⟨g2, 0, none⟩ 0 _ (O.drop k) (by rfl) HdJ.out (fun q u hq => (hbel3'.cell (cell_lt (hrest2 q u hq))).trans (hrest2 q u hq)) (by omega) hB3 hB3.size ?_; intro g4 c4 w4 hc4 hown4 hbel4 hsz4; obtain ⟨v0, v1, v2, v3, v4⟩ := HP.out w4 hbel4; simp only at v0 v1 v2 v3 v4))
                | ((refine step_tabfull (by rfl) _ _ (by rfl) ⟨g, 0, none⟩ k (O.take k) (by rfl) HtJ.out (fun q u hq => (cell_past _ _ _ (cell_lt (hhead2 q u hq))).trans (hhead2 q u hq)) ⟨w2.heap.size, 0, none⟩ _ (Lv.T.mk x1 x2 x3 x4 x5) (by rfl) (hnews _ ((Below.refl _ _).drew)) (by omega) ?_; intro g3 c3 w3 hc3 hown3 hbel3; have hb3w := h2'.alloc h2'.size (.cells #[.int .i64 x1, .int .i64 x2, .int .i64 x3, .string x4, .string x5] 30); have hbel3d := below_of_drew hbel3; have hB3 := hb3w.trans (hbel3d.mono hb3w.size); have hbel3' := hb3.trans (hbel3d.mono hb3.size); obtain ⟨y0, y1, y2, y3, y4⟩ := HP.out w3 hB3; simp only at y0 y1 y2 y3 y4)))
            rw [hlt2.out] at hown4 hc4 ⊢
            rw [hcat.out] at hown4
            go_wp2
            go_roundw
            case rel => exact ⟨k + 1, g4, c4, by omega, hc4, by go_num, rfl, hown4, hbel4⟩
            case measure => simp [intOf]; omega
          · go_wp2_with (at_builtin; go_must (refine append_tabs (w0 := W) (B := W.heap.size) rfl (.tmp 32) (.tmp 35) rfl ⟨W.heap.size, 0, none⟩ 0 0 [] rfl (made_b W 30 5 W.heap.size rfl (Nat.le_refl _)) ⟨g, j * 5, none⟩ (k - j) (c - j) (O.drop j) rfl (by rw [List.length_drop, HO.out]) (fun q u hq => (cell_past _ _ _ (cell_lt (hrest q u hq))).trans (hrest q u hq)) (by omega) (below_alloc _ _) (by simp) ?_; intro g2 c2 w2 hc2 hown2 hbel2 hsz2; rw [Nat.zero_add, List.nil_append] at hown2; rw [Nat.zero_add]))
            have h2' := hBW.trans (hbel2.mono hBW.size)
            obtain ⟨x0, x1', x2', x3', x4'⟩ := L5.below (x := (Lv.T.mk x1 x2 x3 x4 x5)) ⟨u0, u1, u2, u3, u4⟩ hbel2 (Nat.le_refl _)
            simp only at x0 x1' x2' x3' x4'
            have hhead2 : ∀ q u, (tcells le (O.take j))[q]? = some u → w2.cell? ((⟨g, 0, none⟩ : Addr).add q) = some u := fun q u hq => (hbel2.cell (by rw [add_at]; exact hgl)).trans (hhead q u hq)
            have hrest2 : ∀ q u, (tcells le (O.drop j))[q]? = some u → w2.cell? ((⟨g2, 0, none⟩ : Addr).add q) = some u := fun q u hq => by rw [add_at, Nat.zero_add]; exact lown_cell hown2 _ _ hq
            have hne := World.new_ne w2 ⟨b, off + k * 5, none⟩ x0
            have hnews : ∀ W3, Below (w2.alloc (.cells #[.int .i64 x1, .int .i64 x2, .int .i64 x3, .string x4, .string x5] 30)).heap.size (w2.alloc (.cells #[.int .i64 x1, .int .i64 x2, .int .i64 x3, .string x4, .string x5] 30)) W3 → ∀ q u, (tcells le [(Lv.T.mk x1 x2 x3 x4 x5)])[q]? = some u → W3.cell? ((⟨w2.heap.size, 0, none⟩ : Addr).add q) = some u := fun W3 h3 => news_tab (tab_past (w := w2) h3 (by simp))
            have hb3 := below_alloc w2 (.cells #[.int .i64 x1, .int .i64 x2, .int .i64 x3, .string x4, .string x5] 30)
            have hcat : Hid (O.take j ++ [(Lv.T.mk x1 x2 x3 x4 x5)] ++ O.drop j = Lv.iord (ps.take (k + 1))) := (by rw [Hord.out, Hins.out, Hj.out] : O.take j ++ [(Lv.T.mk x1 x2 x3 x4 x5)] ++ O.drop j = Lv.iord (ps.take (k + 1)))
            have hlt2 : Hid (j + 1 + (k - j) = k + 1) := (by omega : j + 1 + (k - j) = k + 1)
            have HtJ : Hid ((O.take j).length = j) := (by rw [List.length_take, HO.out]; omega : (O.take j).length = j)
            have HdJ : Hid ((O.drop j).length = (k - j)) := (by rw [List.length_drop, HO.out]; first | done | omega : (O.drop j).length = (k - j))
            clear u0 u1 u2 u3 u4 hownW hBW hrest hhead Hins Hj Hord HOf hown
            go_region_held3 (fun w' => w'.cell? ⟨b, off + k * 5, none⟩ = some (.int .i64 x1) ∧ w'.cell? ⟨b, off + k * 5 + 1, none⟩ = some (.int .i64 x2) ∧ w'.cell? ⟨b, off + k * 5 + 2, none⟩ = some (.int .i64 x3) ∧ w'.cell? ⟨b, off + k * 5 + 3, none⟩ = some (.string x4) ∧ w'.cell? ⟨b, off + k * 5 + 4, none⟩ = some (.string x5)) (first | go_keep | (refine ⟨?_, ?_, ?_, ?_, ?_⟩ <;> assumption))
              (first
                | ((have := hown3; refine step_tabs (w0 := w) (B := w.heap.size) (by rfl) _ _ (by rfl) ⟨g3, 0, none⟩ (j + 1) c3 (O.take j ++ [(Lv.T.mk x1 x2 x3 x4 x5)]) (by rfl) (hown3.mono hb3w.size) ⟨g2, 0, none⟩ (k - j) _ (O.drop j) (by rfl) HdJ.out (fun q u hq => (hbel3'.cell (cell_lt (hrest2 q u hq))).trans (hrest2 q u hq)) (by omega) hB3 hB3.size ?_; intro g4 c4 w4 hc4 hown4 hbel4 hsz4; obtain ⟨v0, v1, v2, v3, v4⟩ := HP.out w4 hbel4; simp only at v0 v1 v2 v3 v4))
                | ((refine step_tabfull (by rfl) _ _ (by rfl) ⟨g, 0, none⟩ j (O.take j) (by rfl) HtJ.out (fun q u hq => (cell_past _ _ _ (cell_lt (hhead2 q u hq))).trans (hhead2 q u hq)) ⟨w2.heap.size, 0, none⟩ _ (Lv.T.mk x1 x2 x3 x4 x5) (by rfl) (hnews _ ((Below.refl _ _).drew)) (by omega) ?_; intro g3 c3 w3 hc3 hown3 hbel3; have hb3w := h2'.alloc h2'.size (.cells #[.int .i64 x1, .int .i64 x2, .int .i64 x3, .string x4, .string x5] 30); have hbel3d := below_of_drew hbel3; have hB3 := hb3w.trans (hbel3d.mono hb3w.size); have hbel3' := hb3.trans (hbel3d.mono hb3.size); obtain ⟨y0, y1, y2, y3, y4⟩ := HP.out w3 hB3; simp only at y0 y1 y2 y3 y4)))
            rw [hlt2.out] at hown4 hc4 ⊢
            rw [hcat.out] at hown4
            go_wp2
            go_roundw
            case rel => exact ⟨k + 1, g4, c4, by omega, hc4, by go_num, rfl, hown4, hbel4⟩
            case measure => simp [intOf]; omega
        · obtain ⟨Q, rfl⟩ : ∃ Q, j = Q + 1 := ⟨j - 1, by omega⟩
          have hd : decide ((0 : Int) < (Q : Int) + 1) = true := decide_eq_true (by omega)
          have hq := (HOf.out Q (by omega)).below hbi (Nat.le_refl _)
          have hcutS : Lv.cut O (Lv.T.mk x1 x2 x3 x4 x5) (Q + 1) = if Lv.ahead (Lv.T.mk x1 x2 x3 x4 x5) (O.getD Q Lv.zero) = true then Lv.cut O (Lv.T.mk x1 x2 x3 x4 x5) Q else Q + 1 := rfl
          have HcutS : Hid (_) := hcutS
          clear hcutS p0 p1 p2 p3 p4
          generalize O.getD Q Lv.zero = q at *
          obtain ⟨z1, z2, z3, z4, z5⟩ := q
          have hle := hle0 z1 z2 z3 z4 z5
          clear hle0
          obtain ⟨q0, q1, q2, q3, q4⟩ := hq
          simp only at q0 q1 q2 q3 q4
          have i2 : IntKind.i64.wrap ((Q : Int) + 1 - 1) = (Q : Int) := by rw [IntKind.wrap_i64]; omega
          have i3 : IntKind.i64.wrap (Q : Int) = (Q : Int) := by rw [IntKind.wrap_i64]; omega
          have i4 : (0 : Int) ≤ (Q : Int) := by omega
          have i5 : (Q : Int) < (k : Int) := by omega
          have hkeep : Hid (∀ W2, Below wr.heap.size wr W2 → L5 W2 b (off + k * 5) (Lv.T.mk x1 x2 x3 x4 x5) ∧ L5 W2 g (Q * 5) (Lv.T.mk z1 z2 z3 z4 z5)) := (fun W2 h => ⟨L5.below ⟨w0', w1', w2', w3', w4'⟩ h (Nat.le_refl _), L5.below ⟨q0, q1, q2, q3, q4⟩ h (Nat.le_refl _)⟩ : ∀ W2, Below wr.heap.size wr W2 → L5 W2 b (off + k * 5) (Lv.T.mk x1 x2 x3 x4 x5) ∧ L5 W2 g (Q * 5) (Lv.T.mk z1 z2 z3 z4 z5))
          by_cases hless : Lv.ahead (Lv.T.mk x1 x2 x3 x4 x5) (Lv.T.mk z1 z2 z3 z4 z5) = true
          · have Hc2 : Hid (Lv.cut O (Lv.T.mk x1 x2 x3 x4 x5) k = Lv.cut O (Lv.T.mk x1 x2 x3 x4 x5) Q) := (by rw [Hcut.out, HcutS.out, if_pos hless] : Lv.cut O (Lv.T.mk x1 x2 x3 x4 x5) k = Lv.cut O (Lv.T.mk x1 x2 x3 x4 x5) Q)
            rw [hless] at hle
            clear hless HcutS Hcut
            go_wp2_with fail
            go_region_held3 (fun w' => w'.cell? ⟨b, off + k * 5, none⟩ = some (.int .i64 x1) ∧ w'.cell? ⟨b, off + k * 5 + 1, none⟩ = some (.int .i64 x2) ∧ w'.cell? ⟨b, off + k * 5 + 2, none⟩ = some (.int .i64 x3) ∧ w'.cell? ⟨b, off + k * 5 + 3, none⟩ = some (.string x4) ∧ w'.cell? ⟨b, off + k * 5 + 4, none⟩ = some (.string x5) ∧ w'.cell? ⟨g, Q * 5, none⟩ = some (.int .i64 z1) ∧ w'.cell? ⟨g, Q * 5 + 1, none⟩ = some (.int .i64 z2) ∧ w'.cell? ⟨g, Q * 5 + 2, none⟩ = some (.int .i64 z3) ∧ w'.cell? ⟨g, Q * 5 + 3, none⟩ = some (.string z4) ∧ w'.cell? ⟨g, Q * 5 + 4, none⟩ = some (.string z5)) (first | go_keep | (refine ⟨?_, ?_, ?_, ?_, ?_, ?_, ?_, ?_, ?_, ?_⟩ <;> assumption))
              ((go_at_call 27; refine (hle _).mono ?_; rintro e w2 ⟨rfl, hbel2⟩; have hb2 := below_of_drew hbel2; obtain ⟨⟨u0, u1, u2, u3, u4⟩, v0, v1, v2, v3, v4⟩ := hkeep.out w2 hb2; simp only at u0 u1 u2 u3 u4 v0 v1 v2 v3 v4))
            go_wp2
            go_roundw
            case rel => exact ⟨Q, by omega, rfl, Hc2, hbi.trans (hb2.mono hbi.size)⟩
            case measure => simp [intOf]
          · have Hj : Hid (Lv.cut O (Lv.T.mk x1 x2 x3 x4 x5) k = Q + 1) := (by rw [Hcut.out, HcutS.out, if_neg hless] : Lv.cut O (Lv.T.mk x1 x2 x3 x4 x5) k = Q + 1)
            have hless : Lv.ahead (Lv.T.mk x1 x2 x3 x4 x5) (Lv.T.mk z1 z2 z3 z4 z5) = false := by simpa using hless
            rw [hless] at hle
            clear hless HcutS Hcut
            go_wp2_with fail
            go_region_held3 (fun w' => w'.cell? ⟨b, off + k * 5, none⟩ = some (.int .i64 x1) ∧ w'.cell? ⟨b, off + k * 5 + 1, none⟩ = some (.int .i64 x2) ∧ w'.cell? ⟨b, off + k * 5 + 2, none⟩ = some (.int .i64 x3) ∧ w'.cell? ⟨b, off + k * 5 + 3, none⟩ = some (.string x4) ∧ w'.cell? ⟨b, off + k * 5 + 4, none⟩ = some (.string x5) ∧ w'.cell? ⟨g, Q * 5, none⟩ = some (.int .i64 z1) ∧ w'.cell? ⟨g, Q * 5 + 1, none⟩ = some (.int .i64 z2) ∧ w'.cell? ⟨g, Q * 5 + 2, none⟩ = some (.int .i64 z3) ∧ w'.cell? ⟨g, Q * 5 + 3, none⟩ = some (.string z4) ∧ w'.cell? ⟨g, Q * 5 + 4, none⟩ = some (.string z5)) (first | go_keep | (refine ⟨?_, ?_, ?_, ?_, ?_, ?_, ?_, ?_, ?_, ?_⟩ <;> assumption))
              ((go_at_call 27; refine (hle _).mono ?_; rintro e w2 ⟨rfl, hbel2⟩; have hb2 := below_of_drew hbel2; obtain ⟨⟨u0, u1, u2, u3, u4⟩, v0, v1, v2, v3, v4⟩ := hkeep.out w2 hb2; simp only at u0 u1 u2 u3 u4 v0 v1 v2 v3 v4))
            have hbw : Below Wo.heap.size Wo w2 := hbi.trans (hb2.mono hbi.size)
            clear w0' w1' w2' w3' w4' q0 q1 q2 q3 q4 hbi hbel2 hb2 hkeep
            obtain ⟨j, hjQ⟩ : ∃ j, j = Q + 1 := ⟨_, rfl⟩
            have hjc : (Q : Int) + 1 = (j : Int) := by omega
            rw [hjc]
            rw [← hjQ] at Hj hj hj0
            clear i2 i3 i4 i5 hjc hd
            have HjQ : Hid (j = Q + 1) := hjQ
            clear hjQ
            generalize w2 = W at *
            have hownW := owns_below hown hbw
            have hBW := hbel.trans (hbw.mono hsz)
            have hgl : g < W.heap.size := (hownW.lt g rfl).2
            have hrest : ∀ q u, (tcells le (O.drop j))[q]? = some u → W.cell? ((⟨g, j * 5, none⟩ : Addr).add q) = some u := fun q u hq => by
              rw [add_at]
              exact lown_cell hownW _ _ (by rw [← lcells_drop O j (by rw [HO.out]; omega), List.getElem?_drop] at hq; exact hq)
            have hhead : ∀ q u, (tcells le (O.take j))[q]? = some u → W.cell? ((⟨g, 0, none⟩ : Addr).add q) = some u := fun q u hq => by
              rw [add_at, Nat.zero_add]
              exact lown_cell hownW _ _ (by rw [← lcells_take O j (by rw [HO.out]; omega), List.getElem?_take] at hq; split at hq; exact hq; cases hq)
            have hjk : (j : Int) ≤ (k : Int) := by omega
            have hjc0 : (j : Int) ≤ (c : Int) := by omega
            have hj00 : (0 : Int) ≤ (j : Int) := by omega
            by_cases hcj : c = j
            · subst hcj
              obtain rfl : k = c := by omega
              go_wp2_with fail
              have hown2 : (W.alloc (.cells #[] 30)).ownsRow W.heap.size 30 5 (.slice (some ⟨W.heap.size, 0, none⟩) 0 0) 0 (tcells le (O.drop k)) := by
                rw [List.drop_of_length_le (by rw [HO.out]; omega)]
                exact made_b W 30 5 W.heap.size rfl (Nat.le_refl _)
              have hbel2 := below_alloc W (.cells #[] 30)
              have HR : Hid (0 = k - k) := (by omega : 0 = k - k)
              have hgg : W.heap.size < (W.alloc (.cells #[] 30)).heap.size := by simp
              obtain ⟨g2, hg2⟩ : ∃ g2, g2 = W.heap.size := ⟨_, rfl⟩
              rw [← hg2] at hown2 ⊢
              have Hg2 : Hid (g2 = W.heap.size) := hg2
              clear hg2 hgg
              generalize W.alloc (.cells #[] 30) = w2 at *
              have h2' := hBW.trans (hbel2.mono hBW.size)
              obtain ⟨x0, x1', x2', x3', x4'⟩ := L5.below (x := (Lv.T.mk x1 x2 x3 x4 x5)) ⟨u0, u1, u2, u3, u4⟩ hbel2 (Nat.le_refl _)
              simp only at x0 x1' x2' x3' x4'
              have hhead2 : ∀ q u, (tcells le (O.take k))[q]? = some u → w2.cell? ((⟨g, 0, none⟩ : Addr).add q) = some u := fun q u hq => (hbel2.cell (by rw [add_at]; exact hgl)).trans (hhead q u hq)
              have hrest2 : ∀ q u, (tcells le (O.drop k))[q]? = some u → w2.cell? ((⟨g2, 0, none⟩ : Addr).add q) = some u := fun q u hq => by rw [add_at, Nat.zero_add]; exact lown_cell hown2 _ _ hq
              have hne := World.new_ne w2 ⟨b, off + k * 5, none⟩ x0
              have hnews : ∀ W3, Below (w2.alloc (.cells #[.int .i64 x1, .int .i64 x2, .int .i64 x3, .string x4, .string x5] 30)).heap.size (w2.alloc (.cells #[.int .i64 x1, .int .i64 x2, .int .i64 x3, .string x4, .string x5] 30)) W3 → ∀ q u, (tcells le [(Lv.T.mk x1 x2 x3 x4 x5)])[q]? = some u → W3.cell? ((⟨w2.heap.size, 0, none⟩ : Addr).add q) = some u := fun W3 h3 => news_tab (tab_past (w := w2) h3 (by simp))
              have hb3 := below_alloc w2 (.cells #[.int .i64 x1, .int .i64 x2, .int .i64 x3, .string x4, .string x5] 30)
              have hcat : Hid (O.take k ++ [(Lv.T.mk x1 x2 x3 x4 x5)] ++ O.drop k = Lv.iord (ps.take (k + 1))) := (by rw [Hord.out, Hins.out, Hj.out] : O.take k ++ [(Lv.T.mk x1 x2 x3 x4 x5)] ++ O.drop k = Lv.iord (ps.take (k + 1)))
              have hlt2 : Hid (k + 1 + 0 = k + 1) := (by omega : k + 1 + 0 = k + 1)
              have HtJ : Hid ((O.take k).length = k) := (by rw [List.length_take, HO.out]; omega : (O.take k).length = k)
              have HdJ : Hid ((O.drop k).length = 0) := (by rw [List.length_drop, HO.out]; first | done | omega : (O.drop k).length = 0)
              clear u0 u1 u2 u3 u4 hownW hBW hrest hhead Hins Hj Hord HOf hown
              go_region_held3 (fun w' => w'.cell? ⟨b, off + k * 5, none⟩ = some (.int .i64 x1) ∧ w'.cell? ⟨b, off + k * 5 + 1, none⟩ = some (.int .i64 x2) ∧ w'.cell? ⟨b, off + k * 5 + 2, none⟩ = some (.int .i64 x3) ∧ w'.cell? ⟨b, off + k * 5 + 3, none⟩ = some (.string x4) ∧ w'.cell? ⟨b, off + k * 5 + 4, none⟩ = some (.string x5)) (first | go_keep | (refine ⟨?_, ?_, ?_, ?_, ?_⟩ <;> assumption))
                (first
                  | ((have := hown3; refine step_tabs (w0 := w) (B := w.heap.size) (by rfl) _ _ (by rfl) ⟨g3, 0, none⟩ (k + 1) c3 (O.take k ++ [(Lv.T.mk x1 x2 x3 x4 x5)]) (by rfl) (hown3.mono hb3w.size) ⟨g2, 0, none⟩ 0 _ (O.drop k) (by rfl) HdJ.out (fun q u hq => (hbel3'.cell (cell_lt (hrest2 q u hq))).trans (hrest2 q u hq)) (by omega) hB3 hB3.size ?_; intro g4 c4 w4 hc4 hown4 hbel4 hsz4; obtain ⟨v0, v1, v2, v3, v4⟩ := HP.out w4 hbel4; simp only at v0 v1 v2 v3 v4))
                  | ((refine step_tabfull (by rfl) _ _ (by rfl) ⟨g, 0, none⟩ k (O.take k) (by rfl) HtJ.out (fun q u hq => (cell_past _ _ _ (cell_lt (hhead2 q u hq))).trans (hhead2 q u hq)) ⟨w2.heap.size, 0, none⟩ _ (Lv.T.mk x1 x2 x3 x4 x5) (by rfl) (hnews _ ((Below.refl _ _).drew)) (by omega) ?_; intro g3 c3 w3 hc3 hown3 hbel3; have hb3w := h2'.alloc h2'.size (.cells #[.int .i64 x1, .int .i64 x2, .int .i64 x3, .string x4, .string x5] 30); have hbel3d := below_of_drew hbel3; have hB3 := hb3w.trans (hbel3d.mono hb3w.size); have hbel3' := hb3.trans (hbel3d.mono hb3.size); obtain ⟨y0, y1, y2, y3, y4⟩ := HP.out w3 hB3; simp only at y0 y1 y2 y3 y4)))
              rw [hlt2.out] at hown4 hc4 ⊢
              rw [hcat.out] at hown4
              go_wp2
              go_roundw
              case rel => exact ⟨k + 1, g4, c4, by omega, hc4, by go_num, rfl, hown4, hbel4⟩
              case measure => simp [intOf]; omega
            · go_wp2_with (at_builtin; go_must (refine append_tabs (w0 := W) (B := W.heap.size) rfl (.tmp 32) (.tmp 35) rfl ⟨W.heap.size, 0, none⟩ 0 0 [] rfl (made_b W 30 5 W.heap.size rfl (Nat.le_refl _)) ⟨g, j * 5, none⟩ (k - j) (c - j) (O.drop j) rfl (by rw [List.length_drop, HO.out]) (fun q u hq => (cell_past _ _ _ (cell_lt (hrest q u hq))).trans (hrest q u hq)) (by omega) (below_alloc _ _) (by simp) ?_; intro g2 c2 w2 hc2 hown2 hbel2 hsz2; rw [Nat.zero_add, List.nil_append] at hown2; rw [Nat.zero_add]))
              have h2' := hBW.trans (hbel2.mono hBW.size)
              obtain ⟨x0, x1', x2', x3', x4'⟩ := L5.below (x := (Lv.T.mk x1 x2 x3 x4 x5)) ⟨u0, u1, u2, u3, u4⟩ hbel2 (Nat.le_refl _)
              simp only at x0 x1' x2' x3' x4'
              have hhead2 : ∀ q u, (tcells le (O.take j))[q]? = some u → w2.cell? ((⟨g, 0, none⟩ : Addr).add q) = some u := fun q u hq => (hbel2.cell (by rw [add_at]; exact hgl)).trans (hhead q u hq)
              have hrest2 : ∀ q u, (tcells le (O.drop j))[q]? = some u → w2.cell? ((⟨g2, 0, none⟩ : Addr).add q) = some u := fun q u hq => by rw [add_at, Nat.zero_add]; exact lown_cell hown2 _ _ hq
              have hne := World.new_ne w2 ⟨b, off + k * 5, none⟩ x0
              have hnews : ∀ W3, Below (w2.alloc (.cells #[.int .i64 x1, .int .i64 x2, .int .i64 x3, .string x4, .string x5] 30)).heap.size (w2.alloc (.cells #[.int .i64 x1, .int .i64 x2, .int .i64 x3, .string x4, .string x5] 30)) W3 → ∀ q u, (tcells le [(Lv.T.mk x1 x2 x3 x4 x5)])[q]? = some u → W3.cell? ((⟨w2.heap.size, 0, none⟩ : Addr).add q) = some u := fun W3 h3 => news_tab (tab_past (w := w2) h3 (by simp))
              have hb3 := below_alloc w2 (.cells #[.int .i64 x1, .int .i64 x2, .int .i64 x3, .string x4, .string x5] 30)
              have hcat : Hid (O.take j ++ [(Lv.T.mk x1 x2 x3 x4 x5)] ++ O.drop j = Lv.iord (ps.take (k + 1))) := (by rw [Hord.out, Hins.out, Hj.out] : O.take j ++ [(Lv.T.mk x1 x2 x3 x4 x5)] ++ O.drop j = Lv.iord (ps.take (k + 1)))
              have hlt2 : Hid (j + 1 + (k - j) = k + 1) := (by omega : j + 1 + (k - j) = k + 1)
              have HtJ : Hid ((O.take j).length = j) := (by rw [List.length_take, HO.out]; omega : (O.take j).length = j)
              have HdJ : Hid ((O.drop j).length = (k - j)) := (by rw [List.length_drop, HO.out]; first | done | omega : (O.drop j).length = (k - j))
              clear u0 u1 u2 u3 u4 hownW hBW hrest hhead Hins Hj Hord HOf hown
              go_region_held3 (fun w' => w'.cell? ⟨b, off + k * 5, none⟩ = some (.int .i64 x1) ∧ w'.cell? ⟨b, off + k * 5 + 1, none⟩ = some (.int .i64 x2) ∧ w'.cell? ⟨b, off + k * 5 + 2, none⟩ = some (.int .i64 x3) ∧ w'.cell? ⟨b, off + k * 5 + 3, none⟩ = some (.string x4) ∧ w'.cell? ⟨b, off + k * 5 + 4, none⟩ = some (.string x5)) (first | go_keep | (refine ⟨?_, ?_, ?_, ?_, ?_⟩ <;> assumption))
                (first
                  | ((have := hown3; refine step_tabs (w0 := w) (B := w.heap.size) (by rfl) _ _ (by rfl) ⟨g3, 0, none⟩ (j + 1) c3 (O.take j ++ [(Lv.T.mk x1 x2 x3 x4 x5)]) (by rfl) (hown3.mono hb3w.size) ⟨g2, 0, none⟩ (k - j) _ (O.drop j) (by rfl) HdJ.out (fun q u hq => (hbel3'.cell (cell_lt (hrest2 q u hq))).trans (hrest2 q u hq)) (by omega) hB3 hB3.size ?_; intro g4 c4 w4 hc4 hown4 hbel4 hsz4; obtain ⟨v0, v1, v2, v3, v4⟩ := HP.out w4 hbel4; simp only at v0 v1 v2 v3 v4))
                  | ((refine step_tabfull (by rfl) _ _ (by rfl) ⟨g, 0, none⟩ j (O.take j) (by rfl) HtJ.out (fun q u hq => (cell_past _ _ _ (cell_lt (hhead2 q u hq))).trans (hhead2 q u hq)) ⟨w2.heap.size, 0, none⟩ _ (Lv.T.mk x1 x2 x3 x4 x5) (by rfl) (hnews _ ((Below.refl _ _).drew)) (by omega) ?_; intro g3 c3 w3 hc3 hown3 hbel3; have hb3w := h2'.alloc h2'.size (.cells #[.int .i64 x1, .int .i64 x2, .int .i64 x3, .string x4, .string x5] 30); have hbel3d := below_of_drew hbel3; have hB3 := hb3w.trans (hbel3d.mono hb3w.size); have hbel3' := hb3.trans (hbel3d.mono hb3.size); obtain ⟨y0, y1, y2, y3, y4⟩ := HP.out w3 hB3; simp only at y0 y1 y2 y3 y4)))
              rw [hlt2.out] at hown4 hc4 ⊢
              rw [hcat.out] at hown4
              go_wp2
              go_roundw
              case rel => exact ⟨k + 1, g4, c4, by omega, hc4, by go_num, rfl, hown4, hbel4⟩
              case measure => simp [intOf]; omega
    · obtain rfl : k = len := by omega
      rw [List.take_of_length_le (by rw [hll.out]; omega)] at hown
      have hol : Hid ((Lv.iord ps).length = k) := (by rw [Lv.iord_len, hll.out] : (Lv.iord ps).length = k)
      go_wp2
      go_ret
      exact ⟨some ⟨g, 0, none⟩, c, by rw [hol.out]; rfl, by rw [hol.out]; exact hown, hbel⟩
end Go.Proofs.Ytghgolpofafjmaa
