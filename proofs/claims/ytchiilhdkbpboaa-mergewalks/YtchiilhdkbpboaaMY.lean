/- The law of walks. -/
import Derived.Test.YtchiilhdkbpboaaMU
namespace Go.Proofs.Ytchiilhdkbpboaa
open Go.RowKit

theorem WalkAt.below {W0 w w' : World} {b : Nat} {a : Option Addr} {n c : Nat} {os : List OH} {ys : List Mg.Y} (h : WalkAt W0 w b a n c os ys) (hb : Below w.heap.size w w') : WalkAt W0 w' b a n c os ys :=
  ⟨h.low, h.bel.trans (hb.mono h.bel.size), (hb.block b (Array.getElem?_eq_some_iff.1 h.head).1).trans h.head, h.so⟩
theorem of_alloc' {w W : World} {o : Obj} (h : Below (w.alloc o).heap.size (w.alloc o) W) : Below w.heap.size w W := (below_alloc w o).trans (h.mono (by simp))
theorem next_new (w : World) : Calls Try.prog 19 #[.pointer (some ⟨w.heap.size + 1, 0, none⟩)] ((w.alloc (.cells #[.string ⟨#[]⟩, .bool false, .bool false, .slice none 0 0, .int .i64 0, .int .i64 0, .int .i64 0, .int .u32 0] 37)).alloc (.cells #[.slice none 0 0] 57)) fun e w' => e = .returned (.tuple #[.agg #[.string ⟨#[]⟩, .bool false, .bool false, .slice none 0 0, .int .i64 0, .int .i64 0, .int .i64 0, .int .u32 0], .int .i64 0, .bool false]) ∧ Below w.heap.size w w' := by
  refine (mnext_end (w.heap.size + 1) none 0 _ (by rw [cell_newb _ _ _ _ (by simp)]; rfl)).mono ?_
  rintro e w' ⟨rfl, hb⟩
  exact ⟨rfl, of_alloc' (of_alloc' hb)⟩
theorem Only.trans {S : Nat → Prop} {w w1 w2 : World} (h : Only S w w1) (h' : Only S w1 w2) : Only S w w2 := ⟨h'.os.trans h.os, h'.tape.trans h.tape, h'.output.trans h.output, Nat.le_trans h.size h'.size, fun k hk hn => (h'.block k (Nat.lt_of_lt_of_le hk h.size) hn).trans (h.block k hk hn)⟩
theorem only_of_below {S : Nat → Prop} {w w' : World} (h : Below w.heap.size w w') : Only S w w' := ⟨h.os, h.tape, h.output, h.size, fun k hk _ => h.block k hk⟩
theorem TRow.only {α : Type} {s : Nat} {enc : α → List Value} {d : α} {w w' : World} {S : Nat → Prop} {g off n : Nat} {l : List α} (h : TRow s enc d w (some ⟨g, off, none⟩) n l) (ho : Only S w w') (hg : ¬ S g) : TRow s enc d w' (some ⟨g, off, none⟩) n l := by
  refine ⟨h.1, h.2.1, ?_⟩
  rcases h.2.2 with h0 | ⟨b, o, e, hc⟩
  · exact .inl h0
  · refine .inr ⟨b, o, e, fun i hi j v hj => ?_⟩
    simp only [Option.some.injEq, Addr.mk.injEq] at e
    obtain ⟨rfl, rfl, -⟩ := e
    have h1 := hc i hi j v hj
    exact (World.cell?_of_block (w := w) (ho.block g (cell_lt h1) hg)).trans h1

set_option maxRecDepth 100000 in
set_option maxHeartbeats 4000000 in
theorem mergewalks_yes (a : Option Addr) (n c : Nat) (ps : List PH) (gss : List (List IH)) (xss : List (List It.I)) (w : World) (hi : InQ w a n c ps gss xss) (hL : Lite n ps gss) (hm : Mg.may xss = true) :
    Calls Try.prog 5 #[.slice a n c] w fun e w' => e = .returned (.bool true) ∧ Below w.heap.size w w' := by
  have hp := hi.1
  have hnc := hi.2.2
  have haw := fun W => mgawake W
  have hl := mlightT a n c ps gss xss w hp hL
  have hK := hL.le 100000 (by omega)
  have hK9 := hL.le 900 (by omega)
  have hK1 := hL.le 1000 (by omega)
  have hn := hL.1
  have hmay := fun W (hW : Below w.heap.size w W) => rmay_any a n c ps gss xss W (hp.below hW (Nat.le_refl _)) hK1
  rw [hm] at hmay
  obtain ⟨hU, hKy, hl100⟩ := Mg.may_keys hm
  rw [hp.len] at hl100
  have hbg := fun W (hW : Below w.heap.size w W) => mbegin_yes a n c ps gss xss W (hp.below hW (Nat.le_refl _)) hnc hK hm
  have hra := fun W (hW : Below w.heap.size w W) => rall_own a n c ps gss xss false w W hp hW hn hK9
  have hfr := fun (s : ByteArray) W (hW : Below w.heap.size w W) => rfrom_any a n c ps gss xss s w W hp hW (by omega) hK1
  have hsm := tag_small hU (mg_small hm) 0
  have hTL : (Mg.tag xss 0).map Prod.fst = Mg.all xss false := by
    rw [Mg.tag_mall 0 hU]
    unfold Mg.all
    rw [List.filter_eq_self.mpr]
    intro x _; rfl
  have hft : ∀ y ∈ Mg.tag xss 0, Mg.from' xss y.1.1 0 = y.2 := fun y hy => Mg.from_tag hU hKy hy
  have hlen := mg_length (parts_len hp hK9) false
  rw [hp.len] at hlen
  generalize Mg.tag xss 0 = T at *
  generalize Mg.all xss false = L at *
  have HTL : Hid (T.map Prod.fst = L) := hTL
  have Hsm : Hid (∀ y ∈ T, Small y.1) := hsm
  have Hft : Hid (∀ y ∈ T, Mg.from' xss y.1.1 0 = y.2) := hft
  obtain ⟨M, hM⟩ : ∃ M, M = L.length := ⟨_, rfl⟩
  have HM : Hid (M = L.length) := hM
  have hMl : M ≤ 99000 := by omega
  have hra2 : ∀ W, Below w.heap.size w W → Calls Try.prog 15 #[.slice a n c, .bool false] W fun e w' => ∃ a4 c4 hs4, e = .returned (.slice a4 M c4) ∧ Hid (w'.ownsRow W.heap.size 37 8 (.slice a4 M c4) M (tcells ih hs4)) ∧ Hid (ItAll w hs4 L) ∧ Below W.heap.size W w' := fun W hW => (hra W hW).mono fun e w' ⟨a4, c4, hs4, h1, h2, h3, h4, h5, h6⟩ => ⟨a4, c4, hs4, by rw [hM]; exact h1, (by rw [hM]; exact h4 : w'.ownsRow W.heap.size 37 8 (.slice a4 M c4) M (tcells ih hs4)), h5, h6⟩
  have HTM : Hid (T.length = M) := (by rw [hM, ← hTL, List.length_map] : T.length = M)
  clear hi hp hL hm hU hKy hK hK9 hK1 hnc hsm hTL hft hM hra hlen
  go_enter Try.func5, Try.ntmps5
  go_wp2_with (first
    | (go_at_call 7; go_must (refine hl.mono ?_; rintro e w1 ⟨rfl, b1⟩))
    | (go_at_call 10; go_must (refine (hmay _ b1).mono ?_; rintro e w2 ⟨rfl, hbel2⟩; have b2 := b1.trans (hbel2.mono b1.size)))
    | (go_at_call 13; go_must (refine (hbg _ b2).mono ?_; rintro e w3 ⟨W0, b, wa, wn, wc, os, rfl, hwk, hbge, hblt, hbel3⟩; have b3 := b2.trans (hbel3.mono b2.size)))
    | (go_at_call 15; go_must (refine (hra2 _ b3).mono ?_; rintro e w4 ⟨a4, c4, hs4, rfl, ho4, hA4, hbel4⟩; have b4 := b3.trans (hbel4.mono b3.size))))
  have hbw : w.heap.size ≤ b := Nat.le_trans b2.size hbge
  have HW4 : Hid (WalkAt W0 w4 b wa wn wc os (T.drop 0)) := (hwk.below hbel4 : WalkAt W0 w4 b wa wn wc os (T.drop 0))
  have HO4 : Hid (w4.ownsRow w3.heap.size 37 8 (.slice a4 M c4) M (tcells ih hs4)) := ho4
  have Hblt : Hid (b < w3.heap.size) := hblt
  clear hwk ho4 hbg hra2 hbge hblt hl hmay hbel2 hbel3
  go_loopw [6] (fun i wr => ∃ (k : Nat) (va : Option Addr) (vn vc : Nat) (vs : List OH), k ≤ M ∧ i = .int .i64 k ∧ Hid (WalkAt W0 wr b va vn vc vs (T.drop k)) ∧ Only (fun k => k = b) w4 wr ∧ Below w.heap.size w wr) (fun i _ => M - (intOf i).toNat)
  case atStart => exact ⟨0, wa, wn, wc, os, by omega, rfl, HW4, only_of_below (Below.refl _ _), b4⟩
  case round =>
    obtain ⟨k, va, vn, vc, vs, hk, rfl, HW, hon, hbel⟩ := hrel
    clear HW4
    by_cases hlt : k < M
    · have hkT : k < T.length := by rw [HTM.out]; exact hlt
      have hkL : k < L.length := by rw [← HM.out]; exact hlt
      obtain ⟨g, rfl⟩ : ∃ g, a4 = some ⟨g, 0, none⟩ := by
        rcases HO4.out.2 with ⟨e, h0⟩ | ⟨g, cap, cur, e, _⟩
        · omega
        · simp only [Value.slice.injEq] at e; exact ⟨g, e.1⟩
      have hgb : ¬ (g = b) := by have h1 := (own_lt HO4.out).2; have h2 := Hblt.out; omega
      have hT4 : TRow 8 ih ihz w4 (some ⟨g, 0, none⟩) M hs4 := trow_of_owns ihE HO4.out (by omega) (by omega)
      have hdT := drop_cons Mg.yz hkT
      have hmem : T.getD k Mg.yz ∈ T := by rw [List.getD_eq_getElem?_getD, List.getElem?_eq_getElem hkT]; exact List.getElem_mem _
      have hsy := Hsm.out _ hmem
      have hfy := Hft.out _ hmem
      have hLk : L.getD k It.zero = (T.getD k Mg.yz).1 := by
        rw [← HTL.out, List.getD_eq_getElem?_getD, List.getElem?_map, List.getD_eq_getElem?_getD, List.getElem?_eq_getElem hkT]; rfl
      have hIL := hA4.out.2 k hkL
      rw [hLk] at hIL
      have HW' := HW.out
      rw [hdT] at HW'
      have hnx := mnext_yes HW' hsy
      have HC : Hid (∀ W, Only (fun k => k = b) w4 W → ICells W g (k * 8) (hs4.getD k ihz)) := (fun W hW => by
        obtain ⟨b', o', e, hc⟩ := (hT4.only hW hgb).items (by omega)
        simp only [Option.some.injEq, Addr.mk.injEq] at e
        obtain ⟨rfl, rfl, -⟩ := e
        have := hc k hlt
        rw [Nat.zero_add] at this
        exact this : ∀ W, Only (fun k => k = b) w4 W → ICells W g (k * 8) (hs4.getD k ihz))
      have hkey := hIL.key
      have hfr2 := fun W (hW : Below w.heap.size w W) => hfr (hs4.getD k ihz).key W hW
      rw [hkey, hfy] at hfr2
      have hone := fun (h : IH) W hx hy => ione_any h (T.getD k Mg.yz).1 (hs4.getD k ihz) (T.getD k Mg.yz).1 W hx hy
      rw [(It.one_iff _ _).mpr rfl] at hone
      have HIL : Hid (IsItem w (hs4.getD k ihz) (T.getD k Mg.yz).1) := hIL
      generalize hs4.getD k ihz = q at *
      generalize T.getD k Mg.yz = y at *
      obtain ⟨y1, yf⟩ := y
      obtain ⟨key, dead, far, qa, qn, qc, ⟨p1, p2, p3, p4⟩⟩ := q
      simp only at hnx hfr2 hone
      have j0 : (0 : Int) ≤ (k : Int) := by omega
      have j1 : (k : Int) < (M : Int) := by omega
      have j2 : IntKind.i64.wrap ((k : Int) + 1) = (k : Int) + 1 := by rw [IntKind.wrap_i64]; omega
      clear hT4 hdT hmem hsy hfy hLk hIL HW' hkey hkT hkL HW
      go_wp2_with (go_at_call 19; go_must (refine hnx.mono ?_; rintro e w5 ⟨⟨k5, d5, f5, a5, n5, c5, ⟨r1, r2, r3, r4⟩⟩, xa, xn, xc, rfl, hit5, hwk5, ho5⟩))
      have hb5 : Below w.heap.size w w5 := ho5.below (fun k hk => by rw [hk]; exact hbw) hbel hbel.size
      have hon5 := (hon.trans ho5).trans (only_of_below (below_alloc w5 (.cells #[.string k5, .bool d5, .bool f5, .slice a5 n5 c5, .int .i64 r1, .int .i64 r2, .int .i64 r3, .int .u32 (r4 : Nat)] 37)))
      have HWV : Hid (WalkAt W0 (w5.alloc (.cells #[.string k5, .bool d5, .bool f5, .slice a5 n5 c5, .int .i64 r1, .int .i64 r2, .int .i64 r3, .int .u32 (r4 : Nat)] 37)) b xa xn xc (vs.drop 1) (T.drop (k + 1))) := (hwk5.below (below_alloc _ _) : WalkAt W0 (w5.alloc (.cells #[.string k5, .bool d5, .bool f5, .slice a5 n5 c5, .int .i64 r1, .int .i64 r2, .int .i64 r3, .int .u32 (r4 : Nat)] 37)) b xa xn xc (vs.drop 1) (T.drop (k + 1)))
      have hbV := hb5.alloc hb5.size (.cells #[.string k5, .bool d5, .bool f5, .slice a5 n5 c5, .int .i64 r1, .int .i64 r2, .int .i64 r3, .int .u32 (r4 : Nat)] 37)
      have hitV := hit5.below (below_alloc w5 (.cells #[.string k5, .bool d5, .bool f5, .slice a5 n5 c5, .int .i64 r1, .int .i64 r2, .int .i64 r3, .int .u32 (r4 : Nat)] 37)) (Nat.le_refl _)
      have hSV : ∀ W, Below (w5.alloc (.cells #[.string k5, .bool d5, .bool f5, .slice a5 n5 c5, .int .i64 r1, .int .i64 r2, .int .i64 r3, .int .u32 (r4 : Nat)] 37)).heap.size (w5.alloc (.cells #[.string k5, .bool d5, .bool f5, .slice a5 n5 c5, .int .i64 r1, .int .i64 r2, .int .i64 r3, .int .u32 (r4 : Nat)] 37)) W → W.cell? ⟨w5.heap.size, 0, none⟩ = some (.string k5) ∧ W.cell? ⟨w5.heap.size, 1, none⟩ = some (.bool d5) ∧ W.cell? ⟨w5.heap.size, 2, none⟩ = some (.bool f5) ∧ W.cell? ⟨w5.heap.size, 3, none⟩ = some (.slice a5 n5 c5) ∧ W.cell? ⟨w5.heap.size, 4, none⟩ = some (.int .i64 r1) ∧ W.cell? ⟨w5.heap.size, 5, none⟩ = some (.int .i64 r2) ∧ W.cell? ⟨w5.heap.size, 6, none⟩ = some (.int .i64 r3) ∧ W.cell? ⟨w5.heap.size, 7, none⟩ = some (.int .u32 (r4 : Nat)) ∧ W.cell? ⟨g, k * 8, none⟩ = some (.string key) ∧ W.cell? ⟨g, k * 8 + 1, none⟩ = some (.bool dead) ∧ W.cell? ⟨g, k * 8 + 2, none⟩ = some (.bool far) ∧ W.cell? ⟨g, k * 8 + 3, none⟩ = some (.slice qa qn qc) ∧ W.cell? ⟨g, k * 8 + 4, none⟩ = some (.int .i64 p1) ∧ W.cell? ⟨g, k * 8 + 5, none⟩ = some (.int .i64 p2) ∧ W.cell? ⟨g, k * 8 + 6, none⟩ = some (.int .i64 p3) ∧ W.cell? ⟨g, k * 8 + 7, none⟩ = some (.int .u32 (p4 : Nat)) := fun W hW => by
        obtain ⟨⟨x0, x1, x2, x3, x4, x5, x6, x7⟩, _, _⟩ := eight_keep hW
        obtain ⟨y0, y1, y2, y3, y4, y5, y6, y7⟩ := HC.out W (hon5.trans (only_of_below hW))
        exact ⟨x0, x1, x2, x3, x4, x5, x6, x7, y0, y1, y2, y3, y4, y5, y6, y7⟩
      generalize hVd : w5.alloc (.cells #[.string k5, .bool d5, .bool f5, .slice a5 n5 c5, .int .i64 r1, .int .i64 r2, .int .i64 r3, .int .u32 (r4 : Nat)] 37) = V at *
      clear hVd
      obtain ⟨qv0, qv1, qv2, qv3, qv4, qv5, qv6, qv7, qv8, qv9, qv10, qv11, qv12, qv13, qv14, qv15⟩ := hSV V (Below.refl _ _)
      have HSV : Hid (_) := hSV
      clear hSV hit5 hwk5 ho5
      go_region_held3 (fun W : World => W.cell? ⟨w5.heap.size, 0, none⟩ = some (.string k5) ∧ W.cell? ⟨w5.heap.size, 1, none⟩ = some (.bool d5) ∧ W.cell? ⟨w5.heap.size, 2, none⟩ = some (.bool f5) ∧ W.cell? ⟨w5.heap.size, 3, none⟩ = some (.slice a5 n5 c5) ∧ W.cell? ⟨w5.heap.size, 4, none⟩ = some (.int .i64 r1) ∧ W.cell? ⟨w5.heap.size, 5, none⟩ = some (.int .i64 r2) ∧ W.cell? ⟨w5.heap.size, 6, none⟩ = some (.int .i64 r3) ∧ W.cell? ⟨w5.heap.size, 7, none⟩ = some (.int .u32 (r4 : Nat)) ∧ W.cell? ⟨g, k * 8, none⟩ = some (.string key) ∧ W.cell? ⟨g, k * 8 + 1, none⟩ = some (.bool dead) ∧ W.cell? ⟨g, k * 8 + 2, none⟩ = some (.bool far) ∧ W.cell? ⟨g, k * 8 + 3, none⟩ = some (.slice qa qn qc) ∧ W.cell? ⟨g, k * 8 + 4, none⟩ = some (.int .i64 p1) ∧ W.cell? ⟨g, k * 8 + 5, none⟩ = some (.int .i64 p2) ∧ W.cell? ⟨g, k * 8 + 6, none⟩ = some (.int .i64 p3) ∧ W.cell? ⟨g, k * 8 + 7, none⟩ = some (.int .u32 (p4 : Nat))) (first | go_keep | (refine ⟨?_, ?_, ?_, ?_, ?_, ?_, ?_, ?_, ?_, ?_, ?_, ?_, ?_, ?_, ?_, ?_⟩ <;> assumption))
        (first
          | (go_at_call 18; refine (hone ⟨k5, d5, f5, a5, n5, c5, (r1, r2, r3, r4)⟩ _ (hitV.below (Below.refl _ _).drew (Nat.le_refl _)) (HIL.out.below hbV.drew (Nat.le_refl _))).mono ?_; rintro e w6 ⟨rfl, b6d⟩; have b6 : Below V.heap.size V w6 := below_of_drew b6d; obtain ⟨qx0, qx1, qx2, qx3, qx4, qx5, qx6, qx7, qx8, qx9, qx10, qx11, qx12, qx13, qx14, qx15⟩ := HSV.out w6 b6)
          | (go_at_call 20; refine (hfr2 _ (hbV.trans (b6.mono hbV.size))).mono ?_; rintro e w7 ⟨rfl, hbel7⟩; have b7 := b6.trans (hbel7.mono b6.size); obtain ⟨qz0, qz1, qz2, qz3, qz4, qz5, qz6, qz7, qz8, qz9, qz10, qz11, qz12, qz13, qz14, qz15⟩ := HSV.out w7 b7))
      all_goals
        go_wp2
        go_roundw
        case rel => exact ⟨k + 1, xa, xn, xc, vs.drop 1, by omega, by go_num, (HWV.out.below b7 : WalkAt W0 _ b xa xn xc (vs.drop 1) (T.drop (k + 1))), hon5.trans (only_of_below b7), hbV.trans (b7.mono hbV.size)⟩
        case measure => simp [intOf]; omega
    · obtain rfl : k = M := by omega
      have HE : Hid (WalkAt W0 wr b va vn vc vs []) := (by have h := HW.out; rw [List.drop_of_length_le (by rw [HTM.out]; omega)] at h; exact h : WalkAt W0 wr b va vn vc vs [])
      have hv0 : vn = 0 := by have := HE.out.so.len; simpa using this.symm
      subst hv0
      have hcb : wr.cell? ⟨b, 0, none⟩ = some (.slice va 0 vc) := Go.Joins.cell_of_block HE.out.head _
      clear HW HE
      have hend := fun (b' : Nat) (va : Option Addr) (vc : Nat) W (hc : W.cell? ⟨b', 0, none⟩ = some (.slice va 0 vc)) => mnext_end b' va vc W hc
      have hnil := fun W => mnext_nil W
      have hnew := fun W => next_new W
      have hone := fun W => ione_any ihz It.zero ihz It.zero W (item_zero W) (item_zero W)
      rw [(It.one_iff _ _).mpr rfl] at hone
      unfold NextNo at hend hnil
      simp only [ihz, Po.zero] at hend hnil hone
      obtain ⟨wb, hwb⟩ : ∃ wb, wb = wr := ⟨_, rfl⟩
      subst hwb
      go_wp2_with fail
      go_loopw [10] (fun i wr => ∃ (j : Nat), j ≤ 2 ∧ i = .int .i64 j ∧ wr.cell? ⟨b, 0, none⟩ = some (.slice va 0 vc) ∧ Below w.heap.size w wr) (fun i _ => 2 - (intOf i).toNat)
      case atStart => exact ⟨0, by omega, rfl, hcb, hbel⟩
      case round =>
        obtain ⟨j, hj, rfl, hcj, hbj⟩ := hrel
        clear hcb hbel
        by_cases hj2 : j < 2
        · have j1 : (j : Int) < 2 := by omega
          have j2 : IntKind.i64.wrap ((j : Int) + 1) = (j : Int) + 1 := by rw [IntKind.wrap_i64]; omega
          have d1 : decide ((j : Int) < 2) = true := by simp; omega
          go_wp2_with (first
            | (go_at_call 19; go_must (refine (hend _ _ _ _ hcj).mono ?_; rintro e w5 ⟨rfl, hbel5⟩; have hb5 := hbj.trans (hbel5.mono hbj.size)))
            | (go_at_call 18; go_must (refine (hone _).mono ?_; rintro e w6 ⟨rfl, hbel6⟩; have h56 := of_alloc' hbel6; have hb6 := hb5.trans (h56.mono hb5.size); have hcj6 := ((hbel5.trans (h56.mono hbel5.size)).cell (p := ⟨b, 0, none⟩) (cell_lt hcj)).trans hcj)))
          go_roundw
          case rel => exact ⟨j + 1, by omega, by go_num, hcj6, hb6⟩
          case measure => simp [intOf]; omega
        · obtain rfl : j = 2 := by omega
          go_wp2_with (first
            | (go_at_call 19; have hz := hb7; go_must (refine (hnew w7).mono ?_; rintro e w8 ⟨rfl, hbel8⟩; have hb8 := hb7.trans (hbel8.mono hb7.size)))
            | (go_at_call 19; go_must (refine (hnil _).mono ?_; rintro e w7 ⟨rfl, hbel7⟩; have hb7 := hbj.trans (hbel7.mono hbj.size)))
            | (go_at_call 8; go_must (refine (haw _).mono ?_; rintro e w9 ⟨rfl, hbel9⟩; have h89 := of_alloc' hbel9; have hb9 := hb8.trans (h89.mono hb8.size))))
          go_ret
          exact ⟨rfl, hb9⟩

set_option maxRecDepth 100000 in
set_option maxHeartbeats 1000000 in
theorem mergewalks_no (a : Option Addr) (n c : Nat) (ps : List PH) (gss : List (List IH)) (xss : List (List It.I)) (w : World) (hi : InQ w a n c ps gss xss) (h : ¬ (Lite n ps gss ∧ Mg.may xss = true)) :
    Calls Try.prog 5 #[.slice a n c] w fun e w' => e = .returned (.bool true) ∧ Below w.heap.size w w' := by
  have hp := hi.1
  have haw := fun W => mgawake W
  by_cases hL : Lite n ps gss
  · have hl := mlightT a n c ps gss xss w hp hL
    have hK1 := hL.le 1000 (by omega)
    have hmay := fun W (hW : Below w.heap.size w W) => rmay_any a n c ps gss xss W (hp.below hW (Nat.le_refl _)) hK1
    have hm : Mg.may xss = false := by
      cases hm : Mg.may xss with
      | false => rfl
      | true => exact absurd ⟨hL, hm⟩ h
    rw [hm] at hmay
    clear hi hp hL hK1 hm h
    go_enter Try.func5, Try.ntmps5
    go_wp2_with (first
      | (go_at_call 7; go_must (refine hl.mono ?_; rintro e w1 ⟨rfl, b1⟩))
      | (go_at_call 10; go_must (refine (hmay _ b1).mono ?_; rintro e w2 ⟨rfl, hbel2⟩; have b2 := b1.trans (hbel2.mono b1.size)))
      | (go_at_call 8; go_must (refine (haw _).mono ?_; rintro e wz ⟨rfl, hbelz⟩; have bz := b2.trans (hbelz.mono b2.size))))
    go_ret
    exact ⟨rfl, bz⟩
  · have hl := mlightF a n c ps gss xss w hp hL
    clear hi hp hL h
    go_enter Try.func5, Try.ntmps5
    go_wp2_with (first
      | (go_at_call 7; go_must (refine hl.mono ?_; rintro e w1 ⟨rfl, b1⟩))
      | (go_at_call 8; go_must (refine (haw _).mono ?_; rintro e wz ⟨rfl, hbelz⟩; have bz := b1.trans (hbelz.mono b1.size))))
    go_ret
    exact ⟨rfl, bz⟩
theorem mergewalks_any (a : Option Addr) (n c : Nat) (ps : List PH) (gss : List (List IH)) (xss : List (List It.I)) (w : World) (hi : InQ w a n c ps gss xss) :
    Calls Try.prog 5 #[.slice a n c] w fun e w' => e = .returned (.bool true) ∧ Below w.heap.size w w' := by
  by_cases h : Lite n ps gss ∧ Mg.may xss = true
  · exact mergewalks_yes a n c ps gss xss w hi h.1 h.2
  · exact mergewalks_no a n c ps gss xss w hi h
end Go.Proofs.Ytchiilhdkbpboaa
