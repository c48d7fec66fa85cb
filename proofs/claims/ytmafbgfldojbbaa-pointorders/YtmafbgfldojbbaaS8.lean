/- What the reference's Order of points does. -/
import Derived.Test.YtmafbgfldojbbaaS7
import Derived.Test.YtmafbgfldojbbaaS6
namespace Go.Proofs.Ytmafbgfldojbbaa
open Go.RowKit

theorem news_one {w : World} {b : Nat} {p : Po.P} (h0 : w.cell? ⟨b, 0, none⟩ = some (.int .i64 p.1)) (h1 : w.cell? ⟨b, 1, none⟩ = some (.int .i64 p.2.1)) (h2 : w.cell? ⟨b, 2, none⟩ = some (.int .i64 p.2.2.1)) (h3 : w.cell? ⟨b, 3, none⟩ = some (.int .u32 (p.2.2.2 : Nat))) :
    ∀ j u, (pcells [p])[j]? = some u → w.cell? ((⟨b, 0, none⟩ : Addr).add j) = some u := by
  intro j u hj
  rw [add_at, Nat.zero_add]
  have e : pcells [p] = [.int .i64 p.1, .int .i64 p.2.1, .int .i64 p.2.2.1, .int .u32 (p.2.2.2 : Nat)] := rfl
  rw [e] at hj
  match j, hj with
  | 0, hj => cases hj; exact h0
  | 1, hj => cases hj; exact h1
  | 2, hj => cases hj; exact h2
  | 3, hj => cases hj; exact h3

set_option maxRecDepth 100000 in
set_option maxHeartbeats 2000000 in
theorem poreford_any (a : Option Addr) (len cap : Nat) (ps : List Po.P) (w : World) (hlen : len ≤ 1000) (hr : PRow w a len ps) (hfit : ∀ p ∈ ps, Po.Fits p) :
    Calls Try.prog 19 #[.slice a len cap] w (POrdRes w (Po.ord ps)) := by
  have hll : Hid (ps.length = len) := hr.1
  have hm0 := made_b w 24 4 w.heap.size rfl (Nat.le_refl _)
  have hb0 := below_alloc w (.cells #[] 24)
  go_enter Try.func19, Try.ntmps19
  go_wp2
  go_loopw [3, 4] (fun v i wr => ∃ (k g c : Nat), k ≤ len ∧ k ≤ c ∧ i = .int .i64 k ∧ v = .slice (some ⟨g, 0, none⟩) k c ∧ wr.ownsRow w.heap.size 24 4 (.slice (some ⟨g, 0, none⟩) k c) k (pcells (Po.ord (ps.take k))) ∧ Below w.heap.size w wr)
    (fun _ i _ => len - (intOf i).toNat)
  case atStart => exact ⟨0, w.heap.size, 0, by omega, by omega, rfl, rfl, hm0, hb0⟩
  case round =>
    obtain ⟨k, g, c, hk, hkc, rfl, rfl, hown, hbel⟩ := hrel
    clear hm0 hb0
    have hsz := hbel.size
    by_cases hlt : k < len
    · obtain ⟨b, off, rfl, hc⟩ := hr.at (by omega)
      have hpatw := hc k hlt
      have hpat := hpatw.below hbel (Nat.le_refl _)
      have Hord : Hid (Po.ord (ps.take (k + 1)) = Po.ins (Po.ord (ps.take k)) (ps.getD k Po.zero)) := Po.ord_take ps k (by rw [hll.out]; exact hlt)
      have HO : Hid ((Po.ord (ps.take k)).length = k) := (by rw [Po.ord_len, List.length_take, hll.out]; omega : (Po.ord (ps.take k)).length = k)
      have hOfit : ∀ q ∈ Po.ord (ps.take k), Po.Fits q := fun q hq => hfit q (List.mem_of_mem_take (Po.ord_mem _ q hq))
      clear hc hr hfit
      generalize ps.getD k Po.zero = p at *
      generalize Po.ord (ps.take k) = O at *
      have hbp : b < wr.heap.size := cell_lt hpat.1
      have hOf : ∀ j, j < k → PAt wr g (j * 4) (O.getD j Po.zero) := fun j hj => by
        obtain ⟨z0, z1, z2, z3⟩ := pcells_get O j (by rw [HO.out]; omega)
        exact ⟨own_cell hown _ _ z0, own_cell hown _ _ z1, own_cell hown _ _ z2, own_cell hown _ _ z3, hOfit _ (by rw [List.getD_eq_getElem?_getD, List.getElem?_eq_getElem (by rw [HO.out]; omega)]; exact List.getElem_mem _)⟩
      have HOf : Hid (∀ j, j < k → PAt wr g (j * 4) (O.getD j Po.zero)) := hOf
      clear hOf hOfit
      have hl100 : k ≤ 1000 := by omega
      have Hins : Hid (Po.ins O p = O.take (Po.cut O p k) ++ [p] ++ O.drop (Po.cut O p k)) := (by unfold Po.ins; rw [HO.out] : Po.ins O p = O.take (Po.cut O p k) ++ [p] ++ O.drop (Po.cut O p k))
      have hle0 := fun q => poless_any p q
      obtain ⟨s, y, l, m⟩ := p
      have HP : Hid (∀ W', Below w.heap.size w W' → PAt W' b (off + k * 4) (s, y, l, m)) := (fun W' h => hpatw.below h (Nat.le_refl _) : ∀ W', Below w.heap.size w W' → PAt W' b (off + k * 4) (s, y, l, m))
      clear hpatw
      obtain ⟨p0, p1, p2, p3, pf1, pf2, pf3, pf4⟩ := hpat
      simp only at p0 p1 p2 p3 pf1 pf2 pf3 pf4 hle0
      obtain ⟨Wo, hWo⟩ : ∃ W : World, W = wr := ⟨_, rfl⟩
      subst hWo
      go_wp2
      go_loopw [5] (fun t wi => ∃ j : Nat, j ≤ k ∧ t = .int .i64 j ∧ Hid (Po.cut O (s, y, l, m) k = Po.cut O (s, y, l, m) j) ∧ Below Wo.heap.size Wo wi) (fun t _ => (intOf t).toNat)
      case atStart => exact ⟨k, by omega, rfl, (rfl : Po.cut O (s, y, l, m) k = Po.cut O (s, y, l, m) k), Below.refl _ _⟩
      case round =>
        obtain ⟨j, hj, rfl, Hcut, hbi⟩ := hrel
        have w0' := (hbi.cell (p := ⟨b, off + k * 4, none⟩) hbp).trans p0
        have w1' := (hbi.cell (p := ⟨b, off + k * 4 + 1, none⟩) hbp).trans p1
        have w2' := (hbi.cell (p := ⟨b, off + k * 4 + 2, none⟩) hbp).trans p2
        have w3' := (hbi.cell (p := ⟨b, off + k * 4 + 3, none⟩) hbp).trans p3
        have i0 : (0 : Int) ≤ (k : Int) := by omega
        have i1 : (k : Int) < (len : Int) := by omega
        rcases Nat.eq_zero_or_pos j with hj0 | hj0
        · have hd : decide ((0 : Int) < (j : Int)) = false := by simp; omega
          have hd2 : decide (0 < j) = false := by simp; omega
          have Hj : Hid (Po.cut O (s, y, l, m) k = j) := (by rw [Hcut.out, hj0]; rfl : Po.cut O (s, y, l, m) k = j)
          clear p0 p1 p2 p3 Hcut hj0 hle0
          go_wp2_with fail
          go_quiet (fail)
          have hbw : Below Wo.heap.size Wo (wr.drewN nq) := hbi.trans (below_drewN _ _ _)
          have u0 : (wr.drewN nq).cell? ⟨b, off + k * 4, none⟩ = some (.int .i64 s) := w0'
          have u1 : (wr.drewN nq).cell? ⟨b, off + k * 4 + 1, none⟩ = some (.int .i64 y) := w1'
          have u2 : (wr.drewN nq).cell? ⟨b, off + k * 4 + 2, none⟩ = some (.int .i64 l) := w2'
          have u3 : (wr.drewN nq).cell? ⟨b, off + k * 4 + 3, none⟩ = some (.int .u32 (m : Nat)) := w3'
          clear w0' w1' w2' w3'
          generalize wr.drewN nq = W at *
          have hownW := owns_below hown hbw
          have hBW := hbel.trans (hbw.mono hsz)
          have hgl : g < W.heap.size := (hownW.lt g rfl).2
          have hrest : ∀ q u, (pcells (O.drop j))[q]? = some u → W.cell? ((⟨g, j * 4, none⟩ : Addr).add q) = some u := fun q u hq => by
            rw [add_at]
            exact own_cell hownW _ _ (by rw [← pcells_drop O j (by rw [HO.out]; omega), List.getElem?_drop] at hq; exact hq)
          have hhead : ∀ q u, (pcells (O.take j))[q]? = some u → W.cell? ((⟨g, 0, none⟩ : Addr).add q) = some u := fun q u hq => by
            rw [add_at, Nat.zero_add]
            exact own_cell hownW _ _ (by rw [← pcells_take O j (by rw [HO.out]; omega), List.getElem?_take] at hq; split at hq; exact hq; cases hq)
          have hjk : (j : Int) ≤ (k : Int) := by omega
          have hjc0 : (j : Int) ≤ (c : Int) := by omega
          have hj00 : (0 : Int) ≤ (j : Int) := by omega
          clear hbi
          by_cases hcj : c = j
          · subst hcj
            obtain rfl : k = c := by omega
            go_wp2_with fail
            have hown2 : (W.alloc (.cells #[] 24)).ownsRow W.heap.size 24 4 (.slice (some ⟨W.heap.size, 0, none⟩) 0 0) 0 (pcells (O.drop k)) := by
              rw [List.drop_of_length_le (by rw [HO.out]; omega)]
              exact made_b W 24 4 W.heap.size rfl (Nat.le_refl _)
            have hbel2 := below_alloc W (.cells #[] 24)
            have HR : Hid (0 = k - k) := (by omega : 0 = k - k)
            have hgg : W.heap.size < (W.alloc (.cells #[] 24)).heap.size := by simp
            obtain ⟨g2, hg2⟩ : ∃ g2, g2 = W.heap.size := ⟨_, rfl⟩
            rw [← hg2] at hown2 ⊢
            have Hg2 : Hid (g2 = W.heap.size) := hg2
            clear hg2 hgg
            generalize W.alloc (.cells #[] 24) = w2 at *
            have h2' := hBW.trans (hbel2.mono hBW.size)
            have x0 := (hbel2.cell (p := ⟨b, off + k * 4, none⟩) (cell_lt u0)).trans u0
            have x1 := (hbel2.cell (p := ⟨b, off + k * 4 + 1, none⟩) (cell_lt u1)).trans u1
            have x2 := (hbel2.cell (p := ⟨b, off + k * 4 + 2, none⟩) (cell_lt u2)).trans u2
            have x3 := (hbel2.cell (p := ⟨b, off + k * 4 + 3, none⟩) (cell_lt u3)).trans u3
            have hhead2 : ∀ q u, (pcells (O.take k))[q]? = some u → w2.cell? ((⟨g, 0, none⟩ : Addr).add q) = some u := fun q u hq => (hbel2.cell (by rw [add_at]; exact hgl)).trans (hhead q u hq)
            have hrest2 : ∀ q u, (pcells (O.drop k))[q]? = some u → w2.cell? ((⟨g2, 0, none⟩ : Addr).add q) = some u := fun q u hq => by rw [add_at, Nat.zero_add]; exact own_cell hown2 _ _ hq
            have hne := World.new_ne w2 ⟨b, off + k * 4, none⟩ x0
            have hnews : ∀ W3, Below (w2.alloc (.cells #[.int .i64 s, .int .i64 y, .int .i64 l, .int .u32 (m : Nat)] 24)).heap.size (w2.alloc (.cells #[.int .i64 s, .int .i64 y, .int .i64 l, .int .u32 (m : Nat)] 24)) W3 → ∀ q u, (pcells [(s, y, l, m)])[q]? = some u → W3.cell? ((⟨w2.heap.size, 0, none⟩ : Addr).add q) = some u := fun W3 h3 => by
              obtain ⟨k0, k1, k2, k3, _, _⟩ := four_keep (w := w2) h3
              exact news_one (p := (s, y, l, m)) k0 k1 k2 k3
            have hb3 := below_alloc w2 (.cells #[.int .i64 s, .int .i64 y, .int .i64 l, .int .u32 (m : Nat)] 24)
            have hcat : Hid (O.take k ++ [(s, y, l, m)] ++ O.drop k = Po.ord (ps.take (k + 1))) := (by rw [Hord.out, Hins.out, Hj.out] : O.take k ++ [(s, y, l, m)] ++ O.drop k = Po.ord (ps.take (k + 1)))
            have hlt2 : Hid (k + 1 + 0 = k + 1) := (by omega : k + 1 + 0 = k + 1)
            have HtJ : Hid ((O.take k).length = k) := (by rw [List.length_take, HO.out]; omega : (O.take k).length = k)
            have HdJ : Hid ((O.drop k).length = 0) := (by rw [List.length_drop, HO.out]; first | done | omega : (O.drop k).length = 0)
            clear u0 u1 u2 u3 hownW hBW hrest hhead Hins Hj Hord HOf hown
            go_region_held3 (fun w' => w'.cell? ⟨b, off + k * 4, none⟩ = some (.int .i64 s) ∧ w'.cell? ⟨b, off + k * 4 + 1, none⟩ = some (.int .i64 y) ∧ w'.cell? ⟨b, off + k * 4 + 2, none⟩ = some (.int .i64 l) ∧ w'.cell? ⟨b, off + k * 4 + 3, none⟩ = some (.int .u32 (m : Nat))) (first | go_keep | (refine ⟨?_, ?_, ?_, ?_⟩ <;> assumption))
              (first
                | ((have := hown3; refine step_pts (w0 := w) (B := w.heap.size) (by rfl) _ _ (by rfl) ⟨g3, 0, none⟩ (k + 1) c3 (O.take k ++ [(s, y, l, m)]) (by rfl) (hown3.mono hb3w.size) ⟨g2, 0, none⟩ 0 _ (O.drop k) (by rfl) HdJ.out (fun q u hq => (hbel3'.cell (cell_lt (hrest2 q u hq))).trans (hrest2 q u hq)) (by omega) hB3 hB3.size ?_; intro g4 c4 w4 hc4 hown4 hbel4 hsz4; obtain ⟨v0, v1, v2, v3, _⟩ := HP.out w4 hbel4; simp only at v0 v1 v2 v3))
                | ((refine step_ptfull (by rfl) _ _ (by rfl) ⟨g, 0, none⟩ k (O.take k) (by rfl) HtJ.out (fun q u hq => (cell_past _ _ _ (cell_lt (hhead2 q u hq))).trans (hhead2 q u hq)) ⟨w2.heap.size, 0, none⟩ _ (s, y, l, m) (by rfl) (hnews _ ((Below.refl _ _).drew)) (by omega) ?_; intro g3 c3 w3 hc3 hown3 hbel3; have hb3w := h2'.alloc h2'.size (.cells #[.int .i64 s, .int .i64 y, .int .i64 l, .int .u32 (m : Nat)] 24); have hbel3d := below_of_drew hbel3; have hB3 := hb3w.trans (hbel3d.mono hb3w.size); have hbel3' := hb3.trans (hbel3d.mono hb3.size); obtain ⟨y0, y1, y2, y3, _⟩ := HP.out w3 hB3; simp only at y0 y1 y2 y3)))
            rw [hlt2.out] at hown4 hc4 ⊢
            rw [hcat.out] at hown4
            go_wp2
            go_roundw
            case rel => exact ⟨k + 1, g4, c4, by omega, hc4, by go_num, rfl, hown4, hbel4⟩
            case measure => simp [intOf]; omega
          · go_wp2_with (at_builtin; go_must (refine append_pts (w0 := W) (B := W.heap.size) rfl (.tmp 32) (.tmp 35) rfl ⟨W.heap.size, 0, none⟩ 0 0 [] rfl (made_b W 24 4 W.heap.size rfl (Nat.le_refl _)) ⟨g, j * 4, none⟩ (k - j) (c - j) (O.drop j) rfl (by rw [List.length_drop, HO.out]) (fun q u hq => (cell_past _ _ _ (cell_lt (hrest q u hq))).trans (hrest q u hq)) (by omega) (below_alloc _ _) (by simp) ?_; intro g2 c2 w2 hc2 hown2 hbel2 hsz2; rw [Nat.zero_add, List.nil_append] at hown2; rw [Nat.zero_add]))
            have h2' := hBW.trans (hbel2.mono hBW.size)
            have x0 := (hbel2.cell (p := ⟨b, off + k * 4, none⟩) (cell_lt u0)).trans u0
            have x1 := (hbel2.cell (p := ⟨b, off + k * 4 + 1, none⟩) (cell_lt u1)).trans u1
            have x2 := (hbel2.cell (p := ⟨b, off + k * 4 + 2, none⟩) (cell_lt u2)).trans u2
            have x3 := (hbel2.cell (p := ⟨b, off + k * 4 + 3, none⟩) (cell_lt u3)).trans u3
            have hhead2 : ∀ q u, (pcells (O.take j))[q]? = some u → w2.cell? ((⟨g, 0, none⟩ : Addr).add q) = some u := fun q u hq => (hbel2.cell (by rw [add_at]; exact hgl)).trans (hhead q u hq)
            have hrest2 : ∀ q u, (pcells (O.drop j))[q]? = some u → w2.cell? ((⟨g2, 0, none⟩ : Addr).add q) = some u := fun q u hq => by rw [add_at, Nat.zero_add]; exact own_cell hown2 _ _ hq
            have hne := World.new_ne w2 ⟨b, off + k * 4, none⟩ x0
            have hnews : ∀ W3, Below (w2.alloc (.cells #[.int .i64 s, .int .i64 y, .int .i64 l, .int .u32 (m : Nat)] 24)).heap.size (w2.alloc (.cells #[.int .i64 s, .int .i64 y, .int .i64 l, .int .u32 (m : Nat)] 24)) W3 → ∀ q u, (pcells [(s, y, l, m)])[q]? = some u → W3.cell? ((⟨w2.heap.size, 0, none⟩ : Addr).add q) = some u := fun W3 h3 => by
              obtain ⟨k0, k1, k2, k3, _, _⟩ := four_keep (w := w2) h3
              exact news_one (p := (s, y, l, m)) k0 k1 k2 k3
            have hb3 := below_alloc w2 (.cells #[.int .i64 s, .int .i64 y, .int .i64 l, .int .u32 (m : Nat)] 24)
            have hcat : Hid (O.take j ++ [(s, y, l, m)] ++ O.drop j = Po.ord (ps.take (k + 1))) := (by rw [Hord.out, Hins.out, Hj.out] : O.take j ++ [(s, y, l, m)] ++ O.drop j = Po.ord (ps.take (k + 1)))
            have hlt2 : Hid (j + 1 + (k - j) = k + 1) := (by omega : j + 1 + (k - j) = k + 1)
            have HtJ : Hid ((O.take j).length = j) := (by rw [List.length_take, HO.out]; omega : (O.take j).length = j)
            have HdJ : Hid ((O.drop j).length = (k - j)) := (by rw [List.length_drop, HO.out]; first | done | omega : (O.drop j).length = (k - j))
            clear u0 u1 u2 u3 hownW hBW hrest hhead Hins Hj Hord HOf hown
            go_region_held3 (fun w' => w'.cell? ⟨b, off + k * 4, none⟩ = some (.int .i64 s) ∧ w'.cell? ⟨b, off + k * 4 + 1, none⟩ = some (.int .i64 y) ∧ w'.cell? ⟨b, off + k * 4 + 2, none⟩ = some (.int .i64 l) ∧ w'.cell? ⟨b, off + k * 4 + 3, none⟩ = some (.int .u32 (m : Nat))) (first | go_keep | (refine ⟨?_, ?_, ?_, ?_⟩ <;> assumption))
              (first
                | ((have := hown3; refine step_pts (w0 := w) (B := w.heap.size) (by rfl) _ _ (by rfl) ⟨g3, 0, none⟩ (j + 1) c3 (O.take j ++ [(s, y, l, m)]) (by rfl) (hown3.mono hb3w.size) ⟨g2, 0, none⟩ (k - j) _ (O.drop j) (by rfl) HdJ.out (fun q u hq => (hbel3'.cell (cell_lt (hrest2 q u hq))).trans (hrest2 q u hq)) (by omega) hB3 hB3.size ?_; intro g4 c4 w4 hc4 hown4 hbel4 hsz4; obtain ⟨v0, v1, v2, v3, _⟩ := HP.out w4 hbel4; simp only at v0 v1 v2 v3))
                | ((refine step_ptfull (by rfl) _ _ (by rfl) ⟨g, 0, none⟩ j (O.take j) (by rfl) HtJ.out (fun q u hq => (cell_past _ _ _ (cell_lt (hhead2 q u hq))).trans (hhead2 q u hq)) ⟨w2.heap.size, 0, none⟩ _ (s, y, l, m) (by rfl) (hnews _ ((Below.refl _ _).drew)) (by omega) ?_; intro g3 c3 w3 hc3 hown3 hbel3; have hb3w := h2'.alloc h2'.size (.cells #[.int .i64 s, .int .i64 y, .int .i64 l, .int .u32 (m : Nat)] 24); have hbel3d := below_of_drew hbel3; have hB3 := hb3w.trans (hbel3d.mono hb3w.size); have hbel3' := hb3.trans (hbel3d.mono hb3.size); obtain ⟨y0, y1, y2, y3, _⟩ := HP.out w3 hB3; simp only at y0 y1 y2 y3)))
            rw [hlt2.out] at hown4 hc4 ⊢
            rw [hcat.out] at hown4
            go_wp2
            go_roundw
            case rel => exact ⟨k + 1, g4, c4, by omega, hc4, by go_num, rfl, hown4, hbel4⟩
            case measure => simp [intOf]; omega
        · obtain ⟨Q, rfl⟩ : ∃ Q, j = Q + 1 := ⟨j - 1, by omega⟩
          have hd : decide ((0 : Int) < (Q : Int) + 1) = true := decide_eq_true (by omega)
          have hq := (HOf.out Q (by omega)).below hbi (Nat.le_refl _)
          have hcutS : Po.cut O (s, y, l, m) (Q + 1) = if Po.less (s, y, l, m) (O.getD Q Po.zero) = true then Po.cut O (s, y, l, m) Q else Q + 1 := rfl
          have HcutS : Hid (_) := hcutS
          have hle := hle0 (O.getD Q Po.zero)
          clear hle0 hcutS p0 p1 p2 p3
          generalize O.getD Q Po.zero = q at *
          obtain ⟨qs, qy, ql, qm⟩ := q
          obtain ⟨q0, q1, q2, q3, _⟩ := hq
          simp only at q0 q1 q2 q3 hle
          have i2 : IntKind.i64.wrap ((Q : Int) + 1 - 1) = (Q : Int) := by rw [IntKind.wrap_i64]; omega
          have i3 : IntKind.i64.wrap (Q : Int) = (Q : Int) := by rw [IntKind.wrap_i64]; omega
          have i4 : (0 : Int) ≤ (Q : Int) := by omega
          have i5 : (Q : Int) < (k : Int) := by omega
          have hkeep : Hid (∀ W2, Below wr.heap.size wr W2 → (W2.cell? ⟨b, off + k * 4, none⟩ = some (.int .i64 s) ∧ W2.cell? ⟨b, off + k * 4 + 1, none⟩ = some (.int .i64 y) ∧ W2.cell? ⟨b, off + k * 4 + 2, none⟩ = some (.int .i64 l) ∧ W2.cell? ⟨b, off + k * 4 + 3, none⟩ = some (.int .u32 (m : Nat))) ∧ (W2.cell? ⟨g, Q * 4, none⟩ = some (.int .i64 qs) ∧ W2.cell? ⟨g, Q * 4 + 1, none⟩ = some (.int .i64 qy) ∧ W2.cell? ⟨g, Q * 4 + 2, none⟩ = some (.int .i64 ql) ∧ W2.cell? ⟨g, Q * 4 + 3, none⟩ = some (.int .u32 (qm : Nat)))) := by
            refine (fun W2 h => ?_ : ∀ W2, Below wr.heap.size wr W2 → _)
            exact ⟨⟨(h.cell (p := ⟨b, off + k * 4, none⟩) (cell_lt w0')).trans w0', (h.cell (p := ⟨b, off + k * 4 + 1, none⟩) (cell_lt w1')).trans w1', (h.cell (p := ⟨b, off + k * 4 + 2, none⟩) (cell_lt w2')).trans w2', (h.cell (p := ⟨b, off + k * 4 + 3, none⟩) (cell_lt w3')).trans w3'⟩, (h.cell (p := ⟨g, Q * 4, none⟩) (cell_lt q0)).trans q0, (h.cell (p := ⟨g, Q * 4 + 1, none⟩) (cell_lt q1)).trans q1, (h.cell (p := ⟨g, Q * 4 + 2, none⟩) (cell_lt q2)).trans q2, (h.cell (p := ⟨g, Q * 4 + 3, none⟩) (cell_lt q3)).trans q3⟩
          by_cases hless : Po.less (s, y, l, m) (qs, qy, ql, qm) = true
          · have Hc2 : Hid (Po.cut O (s, y, l, m) k = Po.cut O (s, y, l, m) Q) := (by rw [Hcut.out, HcutS.out, if_pos hless] : Po.cut O (s, y, l, m) k = Po.cut O (s, y, l, m) Q)
            rw [hless] at hle
            clear hless HcutS Hcut
            go_wp2_with fail
            go_region_held3 (fun w' => w'.cell? ⟨b, off + k * 4, none⟩ = some (.int .i64 s) ∧ w'.cell? ⟨b, off + k * 4 + 1, none⟩ = some (.int .i64 y) ∧ w'.cell? ⟨b, off + k * 4 + 2, none⟩ = some (.int .i64 l) ∧ w'.cell? ⟨b, off + k * 4 + 3, none⟩ = some (.int .u32 (m : Nat)) ∧ w'.cell? ⟨g, Q * 4, none⟩ = some (.int .i64 qs) ∧ w'.cell? ⟨g, Q * 4 + 1, none⟩ = some (.int .i64 qy) ∧ w'.cell? ⟨g, Q * 4 + 2, none⟩ = some (.int .i64 ql) ∧ w'.cell? ⟨g, Q * 4 + 3, none⟩ = some (.int .u32 (qm : Nat))) (first | go_keep | (refine ⟨?_, ?_, ?_, ?_, ?_, ?_, ?_, ?_⟩ <;> assumption))
              ((go_at_call 16; refine (hle _).mono ?_; rintro e w2 ⟨rfl, hbel2⟩; have hb2 := below_of_drew hbel2; obtain ⟨⟨u0, u1, u2, u3⟩, v0, v1, v2, v3⟩ := hkeep.out w2 hb2))
            go_wp2
            go_roundw
            case rel => exact ⟨Q, by omega, rfl, Hc2, hbi.trans (hb2.mono hbi.size)⟩
            case measure => simp [intOf]
          · have Hj : Hid (Po.cut O (s, y, l, m) k = Q + 1) := (by rw [Hcut.out, HcutS.out, if_neg hless] : Po.cut O (s, y, l, m) k = Q + 1)
            have hless : Po.less (s, y, l, m) (qs, qy, ql, qm) = false := by simpa using hless
            rw [hless] at hle
            clear hless HcutS Hcut
            go_wp2_with fail
            go_region_held3 (fun w' => w'.cell? ⟨b, off + k * 4, none⟩ = some (.int .i64 s) ∧ w'.cell? ⟨b, off + k * 4 + 1, none⟩ = some (.int .i64 y) ∧ w'.cell? ⟨b, off + k * 4 + 2, none⟩ = some (.int .i64 l) ∧ w'.cell? ⟨b, off + k * 4 + 3, none⟩ = some (.int .u32 (m : Nat)) ∧ w'.cell? ⟨g, Q * 4, none⟩ = some (.int .i64 qs) ∧ w'.cell? ⟨g, Q * 4 + 1, none⟩ = some (.int .i64 qy) ∧ w'.cell? ⟨g, Q * 4 + 2, none⟩ = some (.int .i64 ql) ∧ w'.cell? ⟨g, Q * 4 + 3, none⟩ = some (.int .u32 (qm : Nat))) (first | go_keep | (refine ⟨?_, ?_, ?_, ?_, ?_, ?_, ?_, ?_⟩ <;> assumption))
              ((go_at_call 16; refine (hle _).mono ?_; rintro e w2 ⟨rfl, hbel2⟩; have hb2 := below_of_drew hbel2; obtain ⟨⟨u0, u1, u2, u3⟩, v0, v1, v2, v3⟩ := hkeep.out w2 hb2))
            have hbw : Below Wo.heap.size Wo w2 := hbi.trans (hb2.mono hbi.size)
            clear w0' w1' w2' w3' q0 q1 q2 q3 hbi hbel2 hb2 hkeep
            obtain ⟨j, hjQ⟩ : ∃ j, j = Q + 1 := ⟨_, rfl⟩
            have hjc : (Q : Int) + 1 = (j : Int) := by omega
            rw [hjc]
            rw [← hjQ] at Hj hj hj0
            clear i2 i3 i4 i5 hjc hd
            have HjQ : Hid (j = Q + 1) := hjQ
            clear hjQ
            generalize w2 = W at *
            have hownW := owns_below hown hbw
            have hBW := hbel.trans (hbw.mono hsz)
            have hgl : g < W.heap.size := (hownW.lt g rfl).2
            have hrest : ∀ q u, (pcells (O.drop j))[q]? = some u → W.cell? ((⟨g, j * 4, none⟩ : Addr).add q) = some u := fun q u hq => by
              rw [add_at]
              exact own_cell hownW _ _ (by rw [← pcells_drop O j (by rw [HO.out]; omega), List.getElem?_drop] at hq; exact hq)
            have hhead : ∀ q u, (pcells (O.take j))[q]? = some u → W.cell? ((⟨g, 0, none⟩ : Addr).add q) = some u := fun q u hq => by
              rw [add_at, Nat.zero_add]
              exact own_cell hownW _ _ (by rw [← pcells_take O j (by rw [HO.out]; omega), List.getElem?_take] at hq; split at hq; exact hq; cases hq)
            have hjk : (j : Int) ≤ (k : Int) := by omega
            have hjc0 : (j : Int) ≤ (c : Int) := by omega
            have hj00 : (0 : Int) ≤ (j : Int) := by omega
            by_cases hcj : c = j
            · subst hcj
              obtain rfl : k = c := by omega
              go_wp2_with fail
              have hown2 : (W.alloc (.cells #[] 24)).ownsRow W.heap.size 24 4 (.slice (some ⟨W.heap.size, 0, none⟩) 0 0) 0 (pcells (O.drop k)) := by
                rw [List.drop_of_length_le (by rw [HO.out]; omega)]
                exact made_b W 24 4 W.heap.size rfl (Nat.le_refl _)
              have hbel2 := below_alloc W (.cells #[] 24)
              have HR : Hid (0 = k - k) := (by omega : 0 = k - k)
              have hgg : W.heap.size < (W.alloc (.cells #[] 24)).heap.size := by simp
              obtain ⟨g2, hg2⟩ : ∃ g2, g2 = W.heap.size := ⟨_, rfl⟩
              rw [← hg2] at hown2 ⊢
              have Hg2 : Hid (g2 = W.heap.size) := hg2
              clear hg2 hgg
              generalize W.alloc (.cells #[] 24) = w2 at *
              have h2' := hBW.trans (hbel2.mono hBW.size)
              have x0 := (hbel2.cell (p := ⟨b, off + k * 4, none⟩) (cell_lt u0)).trans u0
              have x1 := (hbel2.cell (p := ⟨b, off + k * 4 + 1, none⟩) (cell_lt u1)).trans u1
              have x2 := (hbel2.cell (p := ⟨b, off + k * 4 + 2, none⟩) (cell_lt u2)).trans u2
              have x3 := (hbel2.cell (p := ⟨b, off + k * 4 + 3, none⟩) (cell_lt u3)).trans u3
              have hhead2 : ∀ q u, (pcells (O.take k))[q]? = some u → w2.cell? ((⟨g, 0, none⟩ : Addr).add q) = some u := fun q u hq => (hbel2.cell (by rw [add_at]; exact hgl)).trans (hhead q u hq)
              have hrest2 : ∀ q u, (pcells (O.drop k))[q]? = some u → w2.cell? ((⟨g2, 0, none⟩ : Addr).add q) = some u := fun q u hq => by rw [add_at, Nat.zero_add]; exact own_cell hown2 _ _ hq
              have hne := World.new_ne w2 ⟨b, off + k * 4, none⟩ x0
              have hnews : ∀ W3, Below (w2.alloc (.cells #[.int .i64 s, .int .i64 y, .int .i64 l, .int .u32 (m : Nat)] 24)).heap.size (w2.alloc (.cells #[.int .i64 s, .int .i64 y, .int .i64 l, .int .u32 (m : Nat)] 24)) W3 → ∀ q u, (pcells [(s, y, l, m)])[q]? = some u → W3.cell? ((⟨w2.heap.size, 0, none⟩ : Addr).add q) = some u := fun W3 h3 => by
                obtain ⟨k0, k1, k2, k3, _, _⟩ := four_keep (w := w2) h3
                exact news_one (p := (s, y, l, m)) k0 k1 k2 k3
              have hb3 := below_alloc w2 (.cells #[.int .i64 s, .int .i64 y, .int .i64 l, .int .u32 (m : Nat)] 24)
              have hcat : Hid (O.take k ++ [(s, y, l, m)] ++ O.drop k = Po.ord (ps.take (k + 1))) := (by rw [Hord.out, Hins.out, Hj.out] : O.take k ++ [(s, y, l, m)] ++ O.drop k = Po.ord (ps.take (k + 1)))
              have hlt2 : Hid (k + 1 + 0 = k + 1) := (by omega : k + 1 + 0 = k + 1)
              have HtJ : Hid ((O.take k).length = k) := (by rw [List.length_take, HO.out]; omega : (O.take k).length = k)
              have HdJ : Hid ((O.drop k).length = 0) := (by rw [List.length_drop, HO.out]; first | done | omega : (O.drop k).length = 0)
              clear u0 u1 u2 u3 hownW hBW hrest hhead Hins Hj Hord HOf hown
              go_region_held3 (fun w' => w'.cell? ⟨b, off + k * 4, none⟩ = some (.int .i64 s) ∧ w'.cell? ⟨b, off + k * 4 + 1, none⟩ = some (.int .i64 y) ∧ w'.cell? ⟨b, off + k * 4 + 2, none⟩ = some (.int .i64 l) ∧ w'.cell? ⟨b, off + k * 4 + 3, none⟩ = some (.int .u32 (m : Nat))) (first | go_keep | (refine ⟨?_, ?_, ?_, ?_⟩ <;> assumption))
                (first
                  | ((have := hown3; refine step_pts (w0 := w) (B := w.heap.size) (by rfl) _ _ (by rfl) ⟨g3, 0, none⟩ (k + 1) c3 (O.take k ++ [(s, y, l, m)]) (by rfl) (hown3.mono hb3w.size) ⟨g2, 0, none⟩ 0 _ (O.drop k) (by rfl) HdJ.out (fun q u hq => (hbel3'.cell (cell_lt (hrest2 q u hq))).trans (hrest2 q u hq)) (by omega) hB3 hB3.size ?_; intro g4 c4 w4 hc4 hown4 hbel4 hsz4; obtain ⟨v0, v1, v2, v3, _⟩ := HP.out w4 hbel4; simp only at v0 v1 v2 v3))
                  | ((refine step_ptfull (by rfl) _ _ (by rfl) ⟨g, 0, none⟩ k (O.take k) (by rfl) HtJ.out (fun q u hq => (cell_past _ _ _ (cell_lt (hhead2 q u hq))).trans (hhead2 q u hq)) ⟨w2.heap.size, 0, none⟩ _ (s, y, l, m) (by rfl) (hnews _ ((Below.refl _ _).drew)) (by omega) ?_; intro g3 c3 w3 hc3 hown3 hbel3; have hb3w := h2'.alloc h2'.size (.cells #[.int .i64 s, .int .i64 y, .int .i64 l, .int .u32 (m : Nat)] 24); have hbel3d := below_of_drew hbel3; have hB3 := hb3w.trans (hbel3d.mono hb3w.size); have hbel3' := hb3.trans (hbel3d.mono hb3.size); obtain ⟨y0, y1, y2, y3, _⟩ := HP.out w3 hB3; simp only at y0 y1 y2 y3)))
              rw [hlt2.out] at hown4 hc4 ⊢
              rw [hcat.out] at hown4
              go_wp2
              go_roundw
              case rel => exact ⟨k + 1, g4, c4, by omega, hc4, by go_num, rfl, hown4, hbel4⟩
              case measure => simp [intOf]; omega
            · go_wp2_with (at_builtin; go_must (refine append_pts (w0 := W) (B := W.heap.size) rfl (.tmp 32) (.tmp 35) rfl ⟨W.heap.size, 0, none⟩ 0 0 [] rfl (made_b W 24 4 W.heap.size rfl (Nat.le_refl _)) ⟨g, j * 4, none⟩ (k - j) (c - j) (O.drop j) rfl (by rw [List.length_drop, HO.out]) (fun q u hq => (cell_past _ _ _ (cell_lt (hrest q u hq))).trans (hrest q u hq)) (by omega) (below_alloc _ _) (by simp) ?_; intro g2 c2 w2 hc2 hown2 hbel2 hsz2; rw [Nat.zero_add, List.nil_append] at hown2; rw [Nat.zero_add]))
              have h2' := hBW.trans (hbel2.mono hBW.size)
              have x0 := (hbel2.cell (p := ⟨b, off + k * 4, none⟩) (cell_lt u0)).trans u0
              have x1 := (hbel2.cell (p := ⟨b, off + k * 4 + 1, none⟩) (cell_lt u1)).trans u1
              have x2 := (hbel2.cell (p := ⟨b, off + k * 4 + 2, none⟩) (cell_lt u2)).trans u2
              have x3 := (hbel2.cell (p := ⟨b, off + k * 4 + 3, none⟩) (cell_lt u3)).trans u3
              have hhead2 : ∀ q u, (pcells (O.take j))[q]? = some u → w2.cell? ((⟨g, 0, none⟩ : Addr).add q) = some u := fun q u hq => (hbel2.cell (by rw [add_at]; exact hgl)).trans (hhead q u hq)
              have hrest2 : ∀ q u, (pcells (O.drop j))[q]? = some u → w2.cell? ((⟨g2, 0, none⟩ : Addr).add q) = some u := fun q u hq => by rw [add_at, Nat.zero_add]; exact own_cell hown2 _ _ hq
              have hne := World.new_ne w2 ⟨b, off + k * 4, none⟩ x0
              have hnews : ∀ W3, Below (w2.alloc (.cells #[.int .i64 s, .int .i64 y, .int .i64 l, .int .u32 (m : Nat)] 24)).heap.size (w2.alloc (.cells #[.int .i64 s, .int .i64 y, .int .i64 l, .int .u32 (m : Nat)] 24)) W3 → ∀ q u, (pcells [(s, y, l, m)])[q]? = some u → W3.cell? ((⟨w2.heap.size, 0, none⟩ : Addr).add q) = some u := fun W3 h3 => by
                obtain ⟨k0, k1, k2, k3, _, _⟩ := four_keep (w := w2) h3
                exact news_one (p := (s, y, l, m)) k0 k1 k2 k3
              have hb3 := below_alloc w2 (.cells #[.int .i64 s, .int .i64 y, .int .i64 l, .int .u32 (m : Nat)] 24)
              have hcat : Hid (O.take j ++ [(s, y, l, m)] ++ O.drop j = Po.ord (ps.take (k + 1))) := (by rw [Hord.out, Hins.out, Hj.out] : O.take j ++ [(s, y, l, m)] ++ O.drop j = Po.ord (ps.take (k + 1)))
              have hlt2 : Hid (j + 1 + (k - j) = k + 1) := (by omega : j + 1 + (k - j) = k + 1)
              have HtJ : Hid ((O.take j).length = j) := (by rw [List.length_take, HO.out]; omega : (O.take j).length = j)
              have HdJ : Hid ((O.drop j).length = (k - j)) := (by rw [List.length_drop, HO.out]; first | done | omega : (O.drop j).length = (k - j))
              clear u0 u1 u2 u3 hownW hBW hrest hhead Hins Hj Hord HOf hown
              go_region_held3 (fun w' => w'.cell? ⟨b, off + k * 4, none⟩ = some (.int .i64 s) ∧ w'.cell? ⟨b, off + k * 4 + 1, none⟩ = some (.int .i64 y) ∧ w'.cell? ⟨b, off + k * 4 + 2, none⟩ = some (.int .i64 l) ∧ w'.cell? ⟨b, off + k * 4 + 3, none⟩ = some (.int .u32 (m : Nat))) (first | go_keep | (refine ⟨?_, ?_, ?_, ?_⟩ <;> assumption))
                (first
                  | ((have := hown3; refine step_pts (w0 := w) (B := w.heap.size) (by rfl) _ _ (by rfl) ⟨g3, 0, none⟩ (j + 1) c3 (O.take j ++ [(s, y, l, m)]) (by rfl) (hown3.mono hb3w.size) ⟨g2, 0, none⟩ (k - j) _ (O.drop j) (by rfl) HdJ.out (fun q u hq => (hbel3'.cell (cell_lt (hrest2 q u hq))).trans (hrest2 q u hq)) (by omega) hB3 hB3.size ?_; intro g4 c4 w4 hc4 hown4 hbel4 hsz4; obtain ⟨v0, v1, v2, v3, _⟩ := HP.out w4 hbel4; simp only at v0 v1 v2 v3))
                  | ((refine step_ptfull (by rfl) _ _ (by rfl) ⟨g, 0, none⟩ j (O.take j) (by rfl) HtJ.out (fun q u hq => (cell_past _ _ _ (cell_lt (hhead2 q u hq))).trans (hhead2 q u hq)) ⟨w2.heap.size, 0, none⟩ _ (s, y, l, m) (by rfl) (hnews _ ((Below.refl _ _).drew)) (by omega) ?_; intro g3 c3 w3 hc3 hown3 hbel3; have hb3w := h2'.alloc h2'.size (.cells #[.int .i64 s, .int .i64 y, .int .i64 l, .int .u32 (m : Nat)] 24); have hbel3d := below_of_drew hbel3; have hB3 := hb3w.trans (hbel3d.mono hb3w.size); have hbel3' := hb3.trans (hbel3d.mono hb3.size); obtain ⟨y0, y1, y2, y3, _⟩ := HP.out w3 hB3; simp only at y0 y1 y2 y3)))
              rw [hlt2.out] at hown4 hc4 ⊢
              rw [hcat.out] at hown4
              go_wp2
              go_roundw
              case rel => exact ⟨k + 1, g4, c4, by omega, hc4, by go_num, rfl, hown4, hbel4⟩
              case measure => simp [intOf]; omega
    · obtain rfl : k = len := by omega
      rw [List.take_of_length_le (by rw [hll.out]; omega)] at hown
      have hol : Hid ((Po.ord ps).length = k) := (by rw [Po.ord_len, hll.out] : (Po.ord ps).length = k)
      go_wp2
      go_ret
      exact ⟨some ⟨g, 0, none⟩, c, by rw [hol.out]; rfl, by rw [hol.out]; exact hown, hbel⟩
end Go.Proofs.Ytmafbgfldojbbaa
