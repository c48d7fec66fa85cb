/- What the reference's All of names does. -/
import Derived.Test.YtaikgdgajkggiaaDoorN6
namespace Go.Proofs.YtaikgdgajkggiaaDoor
open Go.RowKit

def NAllRes (w : World) (l : List Nat) (e : Ending) (w' : World) : Prop :=
  ∃ a c, e = .returned (.slice a l.length c) ∧ w'.ownsRow w.heap.size 3 1 (.slice a l.length c) l.length (kcells .i64 l) ∧ Below w.heap.size w w'

set_option maxRecDepth 100000 in
set_option maxHeartbeats 4000000 in
theorem nrefall_any (a : Option Addr) (len cap : Nat) (ss : List ByteArray) (kind : Int) (w : World) (hlen : len ≤ 1000) (hr : SRow w a len ss) :
    Calls Tryd.prog 14 #[.slice a len cap, .int .i64 kind] w (NAllRes w (Na.all (ss.map kb) kind)) := by
  have hll : Hid (ss.length = len) := hr.1
  have hm0 := made_b w 3 1 w.heap.size rfl (Nat.le_refl _)
  have hb0 := below_alloc w (.cells #[] 3)
  go_enter Tryd.func14, Tryd.ntmps14
  go_wp2
  go_loopw [5, 6] (fun v i wr => ∃ (k n g c : Nat) (O : List Nat), k ≤ len ∧ n ≤ k ∧ n ≤ c ∧ i = .int .i64 k ∧ v = .slice (some ⟨g, 0, none⟩) n c ∧ Hid (O = Na.all ((ss.take k).map kb) kind) ∧ Hid (O.length = n) ∧ wr.ownsRow w.heap.size 3 1 (.slice (some ⟨g, 0, none⟩) n c) n (kcells .i64 O) ∧ Below w.heap.size w wr)
    (fun _ i _ => len - (intOf i).toNat)
  case atStart => exact ⟨0, 0, w.heap.size, 0, [], by omega, by omega, by omega, rfl, rfl, (rfl : ([] : List Nat) = Na.all ((ss.take 0).map kb) kind), (rfl : ([] : List Nat).length = 0), hm0, hb0⟩
  case round =>
    obtain ⟨k, n, g, c, O, hk, hnk, hnc, rfl, rfl, HOe, HO, hown, hbel⟩ := hrel
    clear hm0 hb0
    by_cases hlt : k < len
    · obtain ⟨b, off, rfl, hc⟩ := hr.at (by omega)
      have hp0 := (hbel.cell (p := ⟨b, off + k, none⟩) (cell_lt (hc k hlt))).trans (hc k hlt)
      have hsn : Hid (Na.all ((ss.take (k + 1)).map kb) kind = match Na.pick1 kind (kb (ss.getD k ⟨#[]⟩)) with | none => O | some x => Na.ins O x) := by
        have : Na.all ((ss.take (k + 1)).map kb) kind = match Na.pick1 kind (kb (ss.getD k ⟨#[]⟩)) with | none => O | some x => Na.ins O x := by
          have hk' : k < ss.length := by rw [hll.out]; exact hlt
          rw [List.take_succ_eq_append_getElem hk', List.map_append, List.map_cons, List.map_nil, Na.all_snoc, HOe.out, show ss.getD k ⟨#[]⟩ = ss[k] by simp [hk']]
          cases Na.pick1 kind (kb ss[k]) <;> rfl
        exact this
      have hpn := Na.parse_num (kb (ss.getD k ⟨#[]⟩))
      have hpa := fun W => nparse_any (ss.getD k ⟨#[]⟩) W
      simp only [fv] at hpa
      unfold Na.pick1 at hsn
      generalize ss.getD k ⟨#[]⟩ = s at *
      generalize Na.parse (kb s) = P at *
      obtain ⟨kd, xz⟩ := P
      simp only at hpn hpa hsn
      obtain ⟨x, rfl⟩ : ∃ x : Nat, xz = (x : Int) := ⟨xz.toNat, by omega⟩
      simp only [Int.toNat_natCast] at hsn
      have i0 : (0 : Int) ≤ (k : Int) := by omega
      have i1 : (k : Int) < (len : Int) := by omega
      clear hc
      by_cases hsk : kd = 0 ∨ kd ≠ kind
      · have H : Hid (O = Na.all ((ss.take (k + 1)).map kb) kind) := (by rw [hsn.out, if_pos hsk] : O = Na.all ((ss.take (k + 1)).map kb) kind)
        clear hsn HOe
        by_cases hk0 : kd = 0
        · subst hk0
          clear hsk
          go_wp2_with (go_at_call 11; go_must (refine (hpa _).mono ?_; rintro e w1 ⟨rfl, hbel1⟩))
          have hb1 := hbel.trans (hbel1.mono hbel.size)
          have hb2 := hb1.alloc hb1.size (.cells #[.int .i64 0, .int .i64 (x : Nat)] 23)
          go_roundw
          case rel => exact ⟨k + 1, n, g, c, O, by omega, by omega, hnc, by go_num, rfl, H, HO, (owns_below hown hbel1).alloc _, hb2⟩
          case measure => simp [intOf]; omega
        · have hd0 : (kd == 0) = false := by simpa using hk0
          have hd1 : (kd != kind) = true := by simp; omega
          clear hsk
          go_wp2_with (go_at_call 11; go_must (refine (hpa _).mono ?_; rintro e w1 ⟨rfl, hbel1⟩))
          have hb1 := hbel.trans (hbel1.mono hbel.size)
          have hb2 := hb1.alloc hb1.size (.cells #[.int .i64 kd, .int .i64 (x : Nat)] 23)
          go_roundw
          case rel => exact ⟨k + 1, n, g, c, O, by omega, by omega, hnc, by go_num, rfl, H, HO, (owns_below hown hbel1).alloc _, hb2⟩
          case measure => simp [intOf]; omega
      · obtain ⟨O2, hO2⟩ : ∃ O2, O2 = Na.all ((ss.take (k + 1)).map kb) kind := ⟨_, rfl⟩
        have HO2e : Hid (O2 = Na.all ((ss.take (k + 1)).map kb) kind) := hO2
        have HO2 : Hid (O2 = Na.ins O x) := (by rw [hO2, hsn.out, if_neg hsk] : O2 = Na.ins O x)
        have HO2l : Hid (O2.length = n + 1) := (by rw [HO2.out, Na.ins_len, HO.out] : O2.length = n + 1)
        have Hins : Hid (Na.ins O x = O.take (Na.cut O x n) ++ [x] ++ O.drop (Na.cut O x n)) := (by unfold Na.ins; rw [HO.out] : Na.ins O x = O.take (Na.cut O x n) ++ [x] ++ O.drop (Na.cut O x n))
        obtain rfl : kd = kind := by omega
        have hd0 : (kd == 0) = false := by simp; omega
        have hd1 : (kd != kd) = false := by simp
        clear hsn HOe hO2 hsk
        go_wp2_with (go_at_call 11; go_must (refine (hpa _).mono ?_; rintro e w1 ⟨rfl, hbel1⟩))
        have hb1 := hbel.trans (hbel1.mono hbel.size)
        obtain ⟨Wo, hWo⟩ : ∃ W, W = w1.alloc (.cells #[.int .i64 kd, .int .i64 (x : Nat)] 23) := ⟨_, rfl⟩
        obtain ⟨fb, hfb⟩ : ∃ fb, fb = w1.heap.size := ⟨_, rfl⟩
        have hwk := two_keep (w := w1) (W := Wo) (c0 := .int .i64 kd) (c1 := .int .i64 (x : Nat)) (e := 23) (by rw [hWo]; exact Below.refl _ _)
        have hownO := (owns_below hown hbel1).alloc (.cells #[.int .i64 kd, .int .i64 (x : Nat)] 23)
        have hbelO := hb1.alloc hb1.size (.cells #[.int .i64 kd, .int .i64 (x : Nat)] 23)
        rw [← hWo] at hownO hbelO ⊢
        rw [← hfb] at hwk ⊢
        obtain ⟨_, p1, _, _, _, hfl⟩ := hwk
        have hown := hownO
        have hbel := hbelO
        clear hownO hbelO hWo hfb hb1 hbel1 hpa hp0
        have hsz := hbel.size
        go_loopw [8] (fun t wi => ∃ j : Nat, j ≤ n ∧ t = .int .i64 j ∧ Hid (Na.cut O x n = Na.cut O x j) ∧ Below Wo.heap.size Wo wi) (fun t _ => (intOf t).toNat)
        case atStart => exact ⟨n, by omega, rfl, (rfl : Na.cut O x n = Na.cut O x n), Below.refl _ _⟩
        case round =>
          obtain ⟨j, hj, rfl, Hcut, hbi⟩ := hrel
          have w1' := (hbi.cell (p := ⟨fb, 1, none⟩) hfl).trans p1
          rcases Nat.eq_zero_or_pos j with hj0 | hj0
          · have hd : decide ((0 : Int) < (j : Int)) = false := by simp; omega
            have hd2 : decide (0 < j) = false := by simp; omega
            have Hj : Hid (Na.cut O x n = j) := (by rw [Hcut.out, hj0]; rfl : Na.cut O x n = j)
            clear Hcut hj0
            go_wp2_with fail
            go_quiet (fail)
            have hbw : Below Wo.heap.size Wo (wr.drewN nq) := hbi.trans (below_drewN _ _ _)
            have u1 : (wr.drewN nq).cell? ⟨fb, 1, none⟩ = some (.int .i64 (x : Nat)) := w1'
            clear w1'
            generalize wr.drewN nq = W at *
            have hownW := owns_below hown hbw
            have hBW := hbel.trans (hbw.mono hsz)
            have hgl : g < W.heap.size := (own_lt hownW).1
            have hrest : ∀ q u, (kcells .i64 (O.drop j))[q]? = some u → W.cell? ((⟨g, j, none⟩ : Addr).add q) = some u := fun q u hq => by
              rw [add_at]
              refine (own_cells hownW ?_).1
              rw [kcells, List.map_drop, List.getElem?_drop] at hq
              exact hq
            have hhead : ∀ q u, (kcells .i64 (O.take j))[q]? = some u → W.cell? ((⟨g, 0, none⟩ : Addr).add q) = some u := fun q u hq => by
              rw [add_at, Nat.zero_add]
              refine (own_cells hownW ?_).1
              rw [kcells, List.map_take, List.getElem?_take] at hq
              split at hq
              · exact hq
              · cases hq
            have hjk : (j : Int) ≤ (n : Int) := by omega
            have hjc0 : (j : Int) ≤ (c : Int) := by omega
            have hj00 : (0 : Int) ≤ (j : Int) := by omega
            clear hbi
            by_cases hcj : c = j
            · subst hcj
              obtain rfl : n = c := by omega
              go_wp2_with fail
              have hown2 : (W.alloc (.cells #[] 3)).ownsRow W.heap.size 3 1 (.slice (some ⟨W.heap.size, 0, none⟩) 0 0) 0 (kcells .i64 (O.drop n)) := by
                rw [List.drop_of_length_le (by rw [HO.out]; omega)]
                exact made_b W 3 1 W.heap.size rfl (Nat.le_refl _)
              have hbel2 := below_alloc W (.cells #[] 3)
              obtain ⟨g2, hg2⟩ : ∃ g2, g2 = W.heap.size := ⟨_, rfl⟩
              rw [← hg2] at hown2 ⊢
              have Hg2 : Hid (g2 = W.heap.size) := hg2
              clear hg2
              generalize W.alloc (.cells #[] 3) = w2 at *
              have h2' := hBW.trans (hbel2.mono hBW.size)
              have x1 := (hbel2.cell (p := ⟨fb, 1, none⟩) (cell_lt u1)).trans u1
              have hhead2 : ∀ q u, (kcells .i64 (O.take n))[q]? = some u → w2.cell? ((⟨g, 0, none⟩ : Addr).add q) = some u := fun q u hq => (hbel2.cell (by rw [add_at]; exact hgl)).trans (hhead q u hq)
              have hrest2 : ∀ q u, (kcells .i64 (O.drop n))[q]? = some u → w2.cell? ((⟨g2, 0, none⟩ : Addr).add q) = some u := fun q u hq => by rw [add_at, Nat.zero_add]; exact (own_cells hown2 hq).1
              have hne := World.new_ne w2 ⟨fb, 1, none⟩ x1
              have hnews : ∀ W3, Below (w2.alloc (.cells #[.int .i64 (x : Nat)] 3)).heap.size (w2.alloc (.cells #[.int .i64 (x : Nat)] 3)) W3 → ∀ q u, (kcells .i64 [x])[q]? = some u → W3.cell? ((⟨w2.heap.size, 0, none⟩ : Addr).add q) = some u := fun W3 h3 q u hq => by
                rw [add_at, Nat.zero_add, h3.cell (p := ⟨w2.heap.size, q, none⟩) (by simp), cell_new]
                match q, hq with
                | 0, hq => exact hq
                | q + 1, hq => simp [kcells] at hq
              have hb3 := below_alloc w2 (.cells #[.int .i64 (x : Nat)] 3)
              have hcat : Hid (O.take n ++ [x] ++ O.drop n = O2) := (by rw [HO2.out, Hins.out, Hj.out] : O.take n ++ [x] ++ O.drop n = O2)
              have HtJ : Hid ((O.take n).length = n) := (by rw [List.length_take, HO.out]; omega : (O.take n).length = n)
              have HdJ : Hid ((O.drop n).length = 0) := (by rw [List.length_drop, HO.out]; first | done | omega : (O.drop n).length = 0)
              have hlt2 : Hid (n + 1 + 0 = n + 1) := (by omega : n + 1 + 0 = n + 1)
              clear u1 hownW hBW hrest hhead Hins Hj HO2 hown
              go_region_held3 (fun w' => w'.cell? ⟨fb, 1, none⟩ = some (.int .i64 (x : Nat))) (first | go_keep | assumption)
                (first
                  | ((have := hown3; refine step_ints (w0 := w2) (B := w2.heap.size) (by rfl) _ _ (by rfl) ⟨g3, 0, none⟩ (n + 1) c3 (O.take n ++ [x]) (by rfl) (hown3.mono hb3.size) ⟨g2, 0, none⟩ 0 _ (O.drop n) (by rfl) HdJ.out (fun q u hq => (hbel3'.cell (cell_lt (hrest2 q u hq))).trans (hrest2 q u hq)) (by omega) hbel3' hbel3'.size ?_; intro g4 c4 w4 hc4 hown4 hbel4 hsz4; have hy4 := (hbel4.cell (p := ⟨fb, 1, none⟩) (cell_lt x1)).trans x1))
                  | ((refine step_ifull (by rfl) _ _ (by rfl) ⟨g, 0, none⟩ n (O.take n) (by rfl) HtJ.out (fun q u hq => (cell_past _ _ _ (cell_lt (hhead2 q u hq))).trans (hhead2 q u hq)) ⟨w2.heap.size, 0, none⟩ _ x (by rfl) (hnews _ ((Below.refl _ _).drew)) (by omega) ?_; intro g3 c3 w3 hc3 hown3 hbel3; have hb3w := h2'.alloc h2'.size (.cells #[.int .i64 (x : Nat)] 3); have hbel3d := below_of_drew hbel3; have hB3 := hb3w.trans (hbel3d.mono hb3w.size); have hbel3' := hb3.trans (hbel3d.mono hb3.size); have hy3 := (hbel3'.cell (p := ⟨fb, 1, none⟩) (cell_lt x1)).trans x1)))
              rw [hlt2.out] at hown4 hc4 ⊢
              rw [hcat.out] at hown4
              go_wp2
              go_roundw
              case rel => exact ⟨k + 1, n + 1, g4, c4, O2, by omega, by omega, hc4, by go_num, rfl, HO2e, HO2l, hown4.mono h2'.size, h2'.trans (hbel4.mono h2'.size)⟩
              case measure => simp [intOf]; omega
            · go_wp2_with (at_builtin; go_must (refine append_ints (w0 := W) (B := W.heap.size) rfl (.tmp 47) (.tmp 50) rfl ⟨W.heap.size, 0, none⟩ 0 0 [] rfl (made_b W 3 1 W.heap.size rfl (Nat.le_refl _)) ⟨g, j, none⟩ (n - j) (c - j) (O.drop j) rfl (by rw [List.length_drop, HO.out]) (fun q u hq => (cell_past _ _ _ (cell_lt (hrest q u hq))).trans (hrest q u hq)) (by omega) (below_alloc _ _) (by simp) ?_; intro g2 c2 w2 hc2 hown2 hbel2 hsz2; rw [Nat.zero_add, List.nil_append] at hown2; rw [Nat.zero_add]))
              have h2' := hBW.trans (hbel2.mono hBW.size)
              have x1 := (hbel2.cell (p := ⟨fb, 1, none⟩) (cell_lt u1)).trans u1
              have hhead2 : ∀ q u, (kcells .i64 (O.take j))[q]? = some u → w2.cell? ((⟨g, 0, none⟩ : Addr).add q) = some u := fun q u hq => (hbel2.cell (by rw [add_at]; exact hgl)).trans (hhead q u hq)
              have hrest2 : ∀ q u, (kcells .i64 (O.drop j))[q]? = some u → w2.cell? ((⟨g2, 0, none⟩ : Addr).add q) = some u := fun q u hq => by rw [add_at, Nat.zero_add]; exact (own_cells hown2 hq).1
              have hne := World.new_ne w2 ⟨fb, 1, none⟩ x1
              have hnews : ∀ W3, Below (w2.alloc (.cells #[.int .i64 (x : Nat)] 3)).heap.size (w2.alloc (.cells #[.int .i64 (x : Nat)] 3)) W3 → ∀ q u, (kcells .i64 [x])[q]? = some u → W3.cell? ((⟨w2.heap.size, 0, none⟩ : Addr).add q) = some u := fun W3 h3 q u hq => by
                rw [add_at, Nat.zero_add, h3.cell (p := ⟨w2.heap.size, q, none⟩) (by simp), cell_new]
                match q, hq with
                | 0, hq => exact hq
                | q + 1, hq => simp [kcells] at hq
              have hb3 := below_alloc w2 (.cells #[.int .i64 (x : Nat)] 3)
              have hcat : Hid (O.take j ++ [x] ++ O.drop j = O2) := (by rw [HO2.out, Hins.out, Hj.out] : O.take j ++ [x] ++ O.drop j = O2)
              have HtJ : Hid ((O.take j).length = j) := (by rw [List.length_take, HO.out]; omega : (O.take j).length = j)
              have HdJ : Hid ((O.drop j).length = (n - j)) := (by rw [List.length_drop, HO.out]; first | done | omega : (O.drop j).length = (n - j))
              have hlt2 : Hid (j + 1 + (n - j) = n + 1) := (by omega : j + 1 + (n - j) = n + 1)
              clear u1 hownW hBW hrest hhead Hins Hj HO2 hown
              go_region_held3 (fun w' => w'.cell? ⟨fb, 1, none⟩ = some (.int .i64 (x : Nat))) (first | go_keep | assumption)
                (first
                  | ((have := hown3; refine step_ints (w0 := w2) (B := w2.heap.size) (by rfl) _ _ (by rfl) ⟨g3, 0, none⟩ (j + 1) c3 (O.take j ++ [x]) (by rfl) (hown3.mono hb3.size) ⟨g2, 0, none⟩ (n - j) _ (O.drop j) (by rfl) HdJ.out (fun q u hq => (hbel3'.cell (cell_lt (hrest2 q u hq))).trans (hrest2 q u hq)) (by omega) hbel3' hbel3'.size ?_; intro g4 c4 w4 hc4 hown4 hbel4 hsz4; have hy4 := (hbel4.cell (p := ⟨fb, 1, none⟩) (cell_lt x1)).trans x1))
                  | ((refine step_ifull (by rfl) _ _ (by rfl) ⟨g, 0, none⟩ j (O.take j) (by rfl) HtJ.out (fun q u hq => (cell_past _ _ _ (cell_lt (hhead2 q u hq))).trans (hhead2 q u hq)) ⟨w2.heap.size, 0, none⟩ _ x (by rfl) (hnews _ ((Below.refl _ _).drew)) (by omega) ?_; intro g3 c3 w3 hc3 hown3 hbel3; have hb3w := h2'.alloc h2'.size (.cells #[.int .i64 (x : Nat)] 3); have hbel3d := below_of_drew hbel3; have hB3 := hb3w.trans (hbel3d.mono hb3w.size); have hbel3' := hb3.trans (hbel3d.mono hb3.size); have hy3 := (hbel3'.cell (p := ⟨fb, 1, none⟩) (cell_lt x1)).trans x1)))
              rw [hlt2.out] at hown4 hc4 ⊢
              rw [hcat.out] at hown4
              go_wp2
              go_roundw
              case rel => exact ⟨k + 1, n + 1, g4, c4, O2, by omega, by omega, hc4, by go_num, rfl, HO2e, HO2l, hown4.mono h2'.size, h2'.trans (hbel4.mono h2'.size)⟩
              case measure => simp [intOf]; omega
          · obtain ⟨Q, hQ⟩ : ∃ Q, Q = j - 1 := ⟨_, rfl⟩
            have hjQ : j = Q + 1 := by omega
            have hd : decide ((0 : Int) < (j : Int)) = true := by simp; omega
            have hd2 : decide (0 < j) = true := by simp; omega
            have hq := (own_cells (owns_below hown hbi) (j := Q) (v := .int .i64 (O.getD Q 0 : Nat)) (by
              have : Q < O.length := by rw [HO.out]; omega
              simp [kcells, this])).1
            have HcutS : Hid (Na.cut O x j = if x < O.getD Q 0 then Na.cut O x Q else Q + 1) := (by rw [hjQ]; rfl : Na.cut O x j = if x < O.getD Q 0 then Na.cut O x Q else Q + 1)
            have hoq : O.getD Q 0 < 18446744073709551616 ∨ True := .inr trivial
            clear hoq
            generalize O.getD Q 0 = y at *
            have HjQ : Hid (j = Q + 1) := hjQ
            have i2 : IntKind.i64.wrap ((j : Int) - 1) = (Q : Int) := by rw [IntKind.wrap_i64]; omega
            have i4 : (0 : Int) ≤ (Q : Int) := by omega
            have i5 : (Q : Int) < (n : Int) := by omega
            have hQn : Q ≤ n := by omega
            clear hjQ hQ
            by_cases hless : x < y
            · have Hc2 : Hid (Na.cut O x n = Na.cut O x Q) := (by rw [Hcut.out, HcutS.out, if_pos hless] : Na.cut O x n = Na.cut O x Q)
              have i6 : decide ((x : Int) < (y : Int)) = true := by simp; omega
              have i7 : decide (x < y) = true := decide_eq_true hless
              clear hless HcutS Hcut
              go_wp2_with fail
              go_quiet (fail)
              go_wp2
              go_roundw
              case rel => exact ⟨Q, hQn, rfl, Hc2, hbi.trans (below_drewN _ _ _)⟩
              case measure => simp [intOf]; have := HjQ.out; omega
            · have Hj : Hid (Na.cut O x n = j) := (by rw [Hcut.out, HcutS.out, if_neg hless, HjQ.out] : Na.cut O x n = j)
              have i6 : decide ((x : Int) < (y : Int)) = false := by simp; omega
              have i7 : decide (x < y) = false := decide_eq_false hless
              clear hless HcutS Hcut
              go_wp2_with fail
              go_quiet (fail)
              have hbw : Below Wo.heap.size Wo (wr.drewN nq) := hbi.trans (below_drewN _ _ _)
              have u1 : (wr.drewN nq).cell? ⟨fb, 1, none⟩ = some (.int .i64 (x : Nat)) := w1'
              clear w1' hq i2 i4 i5
              generalize wr.drewN nq = W at *
              have hownW := owns_below hown hbw
              have hBW := hbel.trans (hbw.mono hsz)
              have hgl : g < W.heap.size := (own_lt hownW).1
              have hrest : ∀ q u, (kcells .i64 (O.drop j))[q]? = some u → W.cell? ((⟨g, j, none⟩ : Addr).add q) = some u := fun q u hq => by
                rw [add_at]
                refine (own_cells hownW ?_).1
                rw [kcells, List.map_drop, List.getElem?_drop] at hq
                exact hq
              have hhead : ∀ q u, (kcells .i64 (O.take j))[q]? = some u → W.cell? ((⟨g, 0, none⟩ : Addr).add q) = some u := fun q u hq => by
                rw [add_at, Nat.zero_add]
                refine (own_cells hownW ?_).1
                rw [kcells, List.map_take, List.getElem?_take] at hq
                split at hq
                · exact hq
                · cases hq
              have hjk : (j : Int) ≤ (n : Int) := by omega
              have hjc0 : (j : Int) ≤ (c : Int) := by omega
              have hj00 : (0 : Int) ≤ (j : Int) := by omega
              clear hbi
              by_cases hcj : c = j
              · subst hcj
                obtain rfl : n = c := by omega
                go_wp2_with fail
                have hown2 : (W.alloc (.cells #[] 3)).ownsRow W.heap.size 3 1 (.slice (some ⟨W.heap.size, 0, none⟩) 0 0) 0 (kcells .i64 (O.drop n)) := by
                  rw [List.drop_of_length_le (by rw [HO.out]; omega)]
                  exact made_b W 3 1 W.heap.size rfl (Nat.le_refl _)
                have hbel2 := below_alloc W (.cells #[] 3)
                obtain ⟨g2, hg2⟩ : ∃ g2, g2 = W.heap.size := ⟨_, rfl⟩
                rw [← hg2] at hown2 ⊢
                have Hg2 : Hid (g2 = W.heap.size) := hg2
                clear hg2
                generalize W.alloc (.cells #[] 3) = w2 at *
                have h2' := hBW.trans (hbel2.mono hBW.size)
                have x1 := (hbel2.cell (p := ⟨fb, 1, none⟩) (cell_lt u1)).trans u1
                have hhead2 : ∀ q u, (kcells .i64 (O.take n))[q]? = some u → w2.cell? ((⟨g, 0, none⟩ : Addr).add q) = some u := fun q u hq => (hbel2.cell (by rw [add_at]; exact hgl)).trans (hhead q u hq)
                have hrest2 : ∀ q u, (kcells .i64 (O.drop n))[q]? = some u → w2.cell? ((⟨g2, 0, none⟩ : Addr).add q) = some u := fun q u hq => by rw [add_at, Nat.zero_add]; exact (own_cells hown2 hq).1
                have hne := World.new_ne w2 ⟨fb, 1, none⟩ x1
                have hnews : ∀ W3, Below (w2.alloc (.cells #[.int .i64 (x : Nat)] 3)).heap.size (w2.alloc (.cells #[.int .i64 (x : Nat)] 3)) W3 → ∀ q u, (kcells .i64 [x])[q]? = some u → W3.cell? ((⟨w2.heap.size, 0, none⟩ : Addr).add q) = some u := fun W3 h3 q u hq => by
                  rw [add_at, Nat.zero_add, h3.cell (p := ⟨w2.heap.size, q, none⟩) (by simp), cell_new]
                  match q, hq with
                  | 0, hq => exact hq
                  | q + 1, hq => simp [kcells] at hq
                have hb3 := below_alloc w2 (.cells #[.int .i64 (x : Nat)] 3)
                have hcat : Hid (O.take n ++ [x] ++ O.drop n = O2) := (by rw [HO2.out, Hins.out, Hj.out] : O.take n ++ [x] ++ O.drop n = O2)
                have HtJ : Hid ((O.take n).length = n) := (by rw [List.length_take, HO.out]; omega : (O.take n).length = n)
                have HdJ : Hid ((O.drop n).length = 0) := (by rw [List.length_drop, HO.out]; first | done | omega : (O.drop n).length = 0)
                have hlt2 : Hid (n + 1 + 0 = n + 1) := (by omega : n + 1 + 0 = n + 1)
                clear u1 hownW hBW hrest hhead Hins Hj HO2 hown
                go_region_held3 (fun w' => w'.cell? ⟨fb, 1, none⟩ = some (.int .i64 (x : Nat))) (first | go_keep | assumption)
                  (first
                    | ((have := hown3; refine step_ints (w0 := w2) (B := w2.heap.size) (by rfl) _ _ (by rfl) ⟨g3, 0, none⟩ (n + 1) c3 (O.take n ++ [x]) (by rfl) (hown3.mono hb3.size) ⟨g2, 0, none⟩ 0 _ (O.drop n) (by rfl) HdJ.out (fun q u hq => (hbel3'.cell (cell_lt (hrest2 q u hq))).trans (hrest2 q u hq)) (by omega) hbel3' hbel3'.size ?_; intro g4 c4 w4 hc4 hown4 hbel4 hsz4; have hy4 := (hbel4.cell (p := ⟨fb, 1, none⟩) (cell_lt x1)).trans x1))
                    | ((refine step_ifull (by rfl) _ _ (by rfl) ⟨g, 0, none⟩ n (O.take n) (by rfl) HtJ.out (fun q u hq => (cell_past _ _ _ (cell_lt (hhead2 q u hq))).trans (hhead2 q u hq)) ⟨w2.heap.size, 0, none⟩ _ x (by rfl) (hnews _ ((Below.refl _ _).drew)) (by omega) ?_; intro g3 c3 w3 hc3 hown3 hbel3; have hb3w := h2'.alloc h2'.size (.cells #[.int .i64 (x : Nat)] 3); have hbel3d := below_of_drew hbel3; have hB3 := hb3w.trans (hbel3d.mono hb3w.size); have hbel3' := hb3.trans (hbel3d.mono hb3.size); have hy3 := (hbel3'.cell (p := ⟨fb, 1, none⟩) (cell_lt x1)).trans x1)))
                rw [hlt2.out] at hown4 hc4 ⊢
                rw [hcat.out] at hown4
                go_wp2
                go_roundw
                case rel => exact ⟨k + 1, n + 1, g4, c4, O2, by omega, by omega, hc4, by go_num, rfl, HO2e, HO2l, hown4.mono h2'.size, h2'.trans (hbel4.mono h2'.size)⟩
                case measure => simp [intOf]; omega
              · go_wp2_with (at_builtin; go_must (refine append_ints (w0 := W) (B := W.heap.size) rfl (.tmp 47) (.tmp 50) rfl ⟨W.heap.size, 0, none⟩ 0 0 [] rfl (made_b W 3 1 W.heap.size rfl (Nat.le_refl _)) ⟨g, j, none⟩ (n - j) (c - j) (O.drop j) rfl (by rw [List.length_drop, HO.out]) (fun q u hq => (cell_past _ _ _ (cell_lt (hrest q u hq))).trans (hrest q u hq)) (by omega) (below_alloc _ _) (by simp) ?_; intro g2 c2 w2 hc2 hown2 hbel2 hsz2; rw [Nat.zero_add, List.nil_append] at hown2; rw [Nat.zero_add]))
                have h2' := hBW.trans (hbel2.mono hBW.size)
                have x1 := (hbel2.cell (p := ⟨fb, 1, none⟩) (cell_lt u1)).trans u1
                have hhead2 : ∀ q u, (kcells .i64 (O.take j))[q]? = some u → w2.cell? ((⟨g, 0, none⟩ : Addr).add q) = some u := fun q u hq => (hbel2.cell (by rw [add_at]; exact hgl)).trans (hhead q u hq)
                have hrest2 : ∀ q u, (kcells .i64 (O.drop j))[q]? = some u → w2.cell? ((⟨g2, 0, none⟩ : Addr).add q) = some u := fun q u hq => by rw [add_at, Nat.zero_add]; exact (own_cells hown2 hq).1
                have hne := World.new_ne w2 ⟨fb, 1, none⟩ x1
                have hnews : ∀ W3, Below (w2.alloc (.cells #[.int .i64 (x : Nat)] 3)).heap.size (w2.alloc (.cells #[.int .i64 (x : Nat)] 3)) W3 → ∀ q u, (kcells .i64 [x])[q]? = some u → W3.cell? ((⟨w2.heap.size, 0, none⟩ : Addr).add q) = some u := fun W3 h3 q u hq => by
                  rw [add_at, Nat.zero_add, h3.cell (p := ⟨w2.heap.size, q, none⟩) (by simp), cell_new]
                  match q, hq with
                  | 0, hq => exact hq
                  | q + 1, hq => simp [kcells] at hq
                have hb3 := below_alloc w2 (.cells #[.int .i64 (x : Nat)] 3)
                have hcat : Hid (O.take j ++ [x] ++ O.drop j = O2) := (by rw [HO2.out, Hins.out, Hj.out] : O.take j ++ [x] ++ O.drop j = O2)
                have HtJ : Hid ((O.take j).length = j) := (by rw [List.length_take, HO.out]; omega : (O.take j).length = j)
                have HdJ : Hid ((O.drop j).length = (n - j)) := (by rw [List.length_drop, HO.out]; first | done | omega : (O.drop j).length = (n - j))
                have hlt2 : Hid (j + 1 + (n - j) = n + 1) := (by omega : j + 1 + (n - j) = n + 1)
                clear u1 hownW hBW hrest hhead Hins Hj HO2 hown
                go_region_held3 (fun w' => w'.cell? ⟨fb, 1, none⟩ = some (.int .i64 (x : Nat))) (first | go_keep | assumption)
                  (first
                    | ((have := hown3; refine step_ints (w0 := w2) (B := w2.heap.size) (by rfl) _ _ (by rfl) ⟨g3, 0, none⟩ (j + 1) c3 (O.take j ++ [x]) (by rfl) (hown3.mono hb3.size) ⟨g2, 0, none⟩ (n - j) _ (O.drop j) (by rfl) HdJ.out (fun q u hq => (hbel3'.cell (cell_lt (hrest2 q u hq))).trans (hrest2 q u hq)) (by omega) hbel3' hbel3'.size ?_; intro g4 c4 w4 hc4 hown4 hbel4 hsz4; have hy4 := (hbel4.cell (p := ⟨fb, 1, none⟩) (cell_lt x1)).trans x1))
                    | ((refine step_ifull (by rfl) _ _ (by rfl) ⟨g, 0, none⟩ j (O.take j) (by rfl) HtJ.out (fun q u hq => (cell_past _ _ _ (cell_lt (hhead2 q u hq))).trans (hhead2 q u hq)) ⟨w2.heap.size, 0, none⟩ _ x (by rfl) (hnews _ ((Below.refl _ _).drew)) (by omega) ?_; intro g3 c3 w3 hc3 hown3 hbel3; have hb3w := h2'.alloc h2'.size (.cells #[.int .i64 (x : Nat)] 3); have hbel3d := below_of_drew hbel3; have hB3 := hb3w.trans (hbel3d.mono hb3w.size); have hbel3' := hb3.trans (hbel3d.mono hb3.size); have hy3 := (hbel3'.cell (p := ⟨fb, 1, none⟩) (cell_lt x1)).trans x1)))
                rw [hlt2.out] at hown4 hc4 ⊢
                rw [hcat.out] at hown4
                go_wp2
                go_roundw
                case rel => exact ⟨k + 1, n + 1, g4, c4, O2, by omega, by omega, hc4, by go_num, rfl, HO2e, HO2l, hown4.mono h2'.size, h2'.trans (hbel4.mono h2'.size)⟩
                case measure => simp [intOf]; omega
    · obtain rfl : k = len := by omega
      rw [List.take_of_length_le (by rw [hll.out]; omega)] at HOe
      have Hn : Hid (n = (Na.all (ss.map kb) kind).length) := (by rw [← HOe.out, HO.out] : n = (Na.all (ss.map kb) kind).length)
      rw [HOe.out] at hown
      go_wp2
      go_ret
      exact ⟨some ⟨g, 0, none⟩, c, by rw [← Hn.out]; rfl, by rw [← Hn.out]; exact hown, hbel⟩
end Go.Proofs.YtaikgdgajkggiaaDoor
