/- The law of what is kept. -/
import Derived.Test.YtnoknmnbfkdccaaGreatDoorVLo
namespace Go.Proofs.YtnoknmnbfkdccaaGreatDoor
open Go.RowKit Go.Shelf

theorem Sg.put_le : ∀ (vs : List (List Nat)), (∀ v ∈ vs, v.length ≤ 500) → (Sg.put vs).length ≤ 510 * vs.length
  | [], _ => by simp [Sg.put, Sg.fr, Fr.all]
  | v :: vs, h => by
    have h1 := Sg.put_le vs (fun x hx => h x (.tail _ hx))
    have h2 := h v (.head _)
    have := Fr.one3 (n := v.length) (by omega)
    rw [Sg.put_cons, List.length_append, ← Sg.put_one, Sg.put_one_len, List.length_cons]
    unfold Fr.size; omega
theorem Sg.pts_next (vs : List (List Nat)) (k : Nat) (h : k < vs.length) : Sg.pts 3 0 (vs.take (k + 1)) = Sg.pts 3 0 (vs.take k) ++ [Sg.pt 3 (Sg.put (vs.take k)).length (vs.getD k [])] := by
  rw [gtake [] h, Sg.pts_snoc]
theorem Sg.put_next (vs : List (List Nat)) (k : Nat) (h : k < vs.length) : Sg.put (vs.take (k + 1)) = Sg.put (vs.take k) ++ Sg.put [vs.getD k []] := by
  rw [gtake [] h, Sg.put_append]

theorem InV.small {w : World} {a : Option Addr} {n c : Nat} {hs : List VH} {vs : List (List Nat)} (h : InV w a n c hs vs) : ∀ v ∈ vs, ∀ x ∈ v, x < 256 := fun v hv => by
  obtain ⟨i, hi, rfl⟩ := List.getElem_of_mem hv
  have := (h.2.1.2 i (by rw [h.2.1.1]; exact hi)).1.2.2.1
  have e : vs.getD i [] = vs[i] := by simp [hi]
  rw [e] at this
  exact this
theorem Sg.pt_fits {z : Nat} {v : List Nat} (hz : z ≤ 100000) (hv : v.length ≤ 4096) (hs : ∀ x ∈ v, x < 256) : Po.Fits (Sg.pt 3 z v) := by
  have := Fr.one3 (n := v.length) (by omega)
  have hh : Sg.head v.length = (Va.one v.length).length + 1 := rfl
  refine ⟨(by decide : -9223372036854775808 ≤ (3 : Int) ∧ (3 : Int) ≤ 9223372036854775807), ?_, ?_, Crc.more_lt _ (by omega) hs⟩
  · show -9223372036854775808 ≤ ((z + Sg.head v.length : Nat) : Int) ∧ ((z + Sg.head v.length : Nat) : Int) ≤ 9223372036854775807
    omega
  · show -9223372036854775808 ≤ ((v.length : Nat) : Int) ∧ ((v.length : Nat) : Int) ≤ 9223372036854775807
    omega
set_option maxRecDepth 100000 in
set_option maxHeartbeats 8000000 in
theorem vkeeps_any (a0 : Option Addr) (n0 c0 : Nat) (hs0 : List VH) (vs0 : List (List Nat)) (a1 : Option Addr) (n1 c1 : Nat) (hs1 : List VH) (vs1 : List (List Nat)) (st kn : Int) (ta : Option Addr) (tn tc : Nat) (zs : List Int) (w : World)
    (hi0 : InV w a0 n0 c0 hs0 vs0) (hi1 : InV w a1 n1 c1 hs1 vs1) (hst : -9223372036854775808 ≤ st ∧ st ≤ 9223372036854775807) (hz : ZIn w ta tn tc zs) (hT : Tab w) (hl0 : Vl.lightB vs0 = true) (hl1 : Vl.lightB vs1 = true) (htn : tn ≤ 100) (hlt : ∀ g o, ta = some ⟨g, o, none⟩ → w.heap.size ≤ g → tn = 0) :
    Calls Tryz.prog 4 #[.slice a0 n0 c0, .slice a1 n1 c1, .agg #[.int .i64 st, .int .i64 kn, .slice ta tn tc]] w fun e w' => e = .returned (.bool true) ∧ Below w.heap.size w w' := by
  have hvl0 : vs0.length = n0 := hi0.len
  have hvl1 : vs1.length = n1 := hi1.len
  have hb0 := below_alloc w (.cells #[.int .i64 st, .int .i64 kn, .slice ta tn tc] 52)
  have hq0 := heap_alloc_new w (.cells #[.int .i64 st, .int .i64 kn, .slice ta tn tc] 52)
  have hlg := fun a n c hs vs (h : InV w a n c hs vs) (hb : n ≤ 10) W (hW : Below w.heap.size w W) => vlight_any a n c hs vs W (h.below hW (Nat.le_refl _)) (by omega)
  have hL0 := hl0
  have hL1 := hl1
  simp only [Vl.lightB, decide_eq_true_eq] at hL0 hL1
  have hg0 := fun W hW => hlg a0 n0 c0 hs0 vs0 hi0 (by omega) W hW
  have hg1 := fun W hW => hlg a1 n1 c1 hs1 vs1 hi1 (by omega) W hW
  rw [hl0] at hg0
  rw [hl1] at hg1
  have ht1 : ¬ ((100 : Int) < (tn : Int)) := by omega
  have ht2 : decide ((100 : Int) < (tn : Int)) = false := by simp; omega
  have hS0 : Hid (∀ k, (Sg.put (vs0.take k)).length ≤ 5100) := (fun k => by have := Sg.put_le (vs0.take k) (fun v hv => hL0.2 v (List.mem_of_mem_take hv)); rw [List.length_take] at this; omega : ∀ k, (Sg.put (vs0.take k)).length ≤ 5100)
  have hS1 : Hid (∀ k, (Sg.put (vs1.take k)).length ≤ 5100) := (fun k => by have := Sg.put_le (vs1.take k) (fun v hv => hL1.2 v (List.mem_of_mem_take hv)); rw [List.length_take] at this; omega : ∀ k, (Sg.put (vs1.take k)).length ≤ 5100)
  have hx0 := (Go.Joins.cell_of_block hq0 2).trans rfl
  have hQ : Hid (∀ W, Below (w.heap.size + 1) (w.alloc (.cells #[.int .i64 st, .int .i64 kn, .slice ta tn tc] 52)) W → W.cell? ⟨w.heap.size, 0, none⟩ = some (.int .i64 st) ∧ W.cell? ⟨w.heap.size, 1, none⟩ = some (.int .i64 kn) ∧ W.cell? ⟨w.heap.size, 2, none⟩ = some (.slice ta tn tc)) := (fun W hb => by
    have h := (hb.block w.heap.size (Nat.lt_succ_self _)).trans hq0
    exact ⟨(Go.Joins.cell_of_block h _).trans rfl, (Go.Joins.cell_of_block h _).trans rfl, (Go.Joins.cell_of_block h _).trans rfl⟩ : ∀ W, Below (w.heap.size + 1) (w.alloc (.cells #[.int .i64 st, .int .i64 kn, .slice ta tn tc] 52)) W → W.cell? ⟨w.heap.size, 0, none⟩ = some (.int .i64 st) ∧ W.cell? ⟨w.heap.size, 1, none⟩ = some (.int .i64 kn) ∧ W.cell? ⟨w.heap.size, 2, none⟩ = some (.slice ta tn tc))
  have hTB := TB.of hT
  have hbg : ∀ W (hW : Below w.heap.size w W) (g : Nat), W.heap.size = g → Calls Tryz.prog 8 #[.slice (some ⟨g, 0, none⟩) 1 1] (W.alloc (.cells #[.int .i64 3] 3)) fun e w' => ∃ x p m A C, e = .returned (.tuple #[.pointer (some ⟨x, 0, none⟩), .bool true]) ∧ KW w.heap.size w' x p m A C (Dk.new 4194304) ∧ Below W.heap.size W w' := fun W hW g hg => by
    subst hg
    have hA := below_alloc W (.cells #[.int .i64 3] 3)
    refine (vbegin_any w.heap.size _ 1 1 [3] _ (hTB.keep (hW.trans (hA.mono hW.size))) (hW.trans (hA.mono hW.size)).size (lit_z W 3 rfl) (by decide)).mono ?_
    rintro e w' ⟨x, p, m, A, C, g, rfl, h1, h2, h3, h4, h5, h6⟩
    exact ⟨x, p, m, A, C, rfl, ⟨⟨_, _, _, h1⟩, h3.lower (hW.trans (hA.mono hW.size)).size, h4⟩, hA.trans (h6.mono hA.size)⟩
  clear hlg hT
  go_enter Tryz.func4, Tryz.ntmps4
  go_wp2_with (first
    | (go_at_call 8; go_must (refine (hbg _ hb0 _ (by simp)).mono ?_; rintro e w1 ⟨x, p, m, A, C, rfl, hK1, hb1⟩))
    | (go_at_call 13; have tok := hg0; go_must (clear hg0; refine (tok _ hb0).mono ?_; rintro e w1 ⟨rfl, hw⟩; rw [hw]; clear hw w1 tok))
    | (go_at_call 13; go_must (refine (hg1 _ hb0).mono ?_; rintro e w1 ⟨rfl, hw⟩; rw [hw]; clear hw w1)))
  have hW1 := hb0.trans (hb1.mono hb0.size)
  have hW2 := hW1.alloc hW1.size (.cells #[] 42)
  have hK2 := hK1.keep (below_alloc w1 (.cells #[] 42))
  have ho2 := made_t (s := 4) (enc := pve) w1 (B := w.heap.size) (E := 42) hW1.size rfl
  have hx2 := ((hb1.alloc hb1.size (.cells #[] 42)).block w.heap.size (by simp)).trans hq0
  have hV0 : Hid (vs0.length = n0 ∧ (∀ v ∈ vs0, v.length ≤ 500) ∧ ∀ v ∈ vs0, ∀ x ∈ v, x < 256) := (⟨hvl0, hL0.2, hi0.small⟩ : vs0.length = n0 ∧ (∀ v ∈ vs0, v.length ≤ 500) ∧ ∀ v ∈ vs0, ∀ x ∈ v, x < 256)
  have hI0 : Hid (∀ W, Below w.heap.size w W → InV W a0 n0 c0 hs0 vs0) := (fun W hb => hi0.below hb (Nat.le_refl _) : ∀ W, Below w.heap.size w W → InV W a0 n0 c0 hs0 vs0)
  have hV1 : Hid (vs1.length = n1 ∧ (∀ v ∈ vs1, v.length ≤ 500) ∧ ∀ v ∈ vs1, ∀ x ∈ v, x < 256) := (⟨hvl1, hL1.2, hi1.small⟩ : vs1.length = n1 ∧ (∀ v ∈ vs1, v.length ≤ 500) ∧ ∀ v ∈ vs1, ∀ x ∈ v, x < 256)
  have hI1 : Hid (∀ W, Below w.heap.size w W → InV W a1 n1 c1 hs1 vs1) := (fun W hb => hi1.below hb (Nat.le_refl _) : ∀ W, Below w.heap.size w W → InV W a1 n1 c1 hs1 vs1)
  have hZ : Hid (∀ W, Below w.heap.size w W → ZIn W.drew ta tn tc zs) := (fun W hb => ⟨hz.1.below (bd1 hb) (Nat.le_refl _), hz.2⟩ : ∀ W, Below w.heap.size w W → ZIn W.drew ta tn tc zs)
  have hlt0 := hlt
  have hn0 : n0 ≤ 10 := by omega
  have hn1 : n1 ≤ 10 := by omega
  clear hbg hg1 hvl0 hvl1 hL0 hL1 hq0 hx0 hQ hb0 hb1 hW1 hK1 hl0 hl1
  generalize w1.alloc (.cells #[] 42) = W2 at *
  generalize w1.heap.size = g9 at *
  go_loopw [9, 10] (fun v i wr => ∃ (k : Nat) (pa : Option Addr) (pc : Nat) (D : Dk.D), k ≤ n0 ∧ i = .int .i64 k ∧ v = .slice pa k pc ∧ KI w.heap.size w wr x p m A C D pa pc k (Sg.pts 3 0 (vs0.take k)) st kn ta tn tc ∧ Hid (Vl.Two D [] (Sg.put (vs0.take k)) ∧ D.dead = false ∧ D.stop = 0 ∧ D.kept = []))
    (fun _ i _ => n0 - (RowKit.intOf i).toNat)
  case atStart => exact ⟨0, some ⟨g9, 0, none⟩, 0, Dk.new 4194304, by omega, rfl, rfl, ⟨hK2, ho2, hx2, hW2⟩, (⟨⟨rfl, rfl, .inr (.inl ⟨rfl, rfl, rfl, rfl, rfl, rfl, rfl⟩)⟩, rfl, rfl, rfl⟩ : Vl.Two (Dk.new 4194304) [] (Sg.put (vs0.take 0)) ∧ (Dk.new 4194304).dead = false ∧ (Dk.new 4194304).stop = 0 ∧ (Dk.new 4194304).kept = [])⟩
  case round =>
    obtain ⟨k, pa, pc, D, hk, rfl, rfl, hK, hTD⟩ := hrel
    clear ho2 hx2 hK2 hW2
    by_cases hlt : k < n0
    · obtain ⟨b, off, e0, hc⟩ := hi0.get (by omega)
      subst e0
      obtain ⟨hcell0, hva0⟩ := hc k hlt
      have hcell : Hid (∀ W, Below w.heap.size w W → W.cell? ⟨b, off + k, none⟩ = some (.slice (hs0.getD k vhz).a (hs0.getD k vhz).n (hs0.getD k vhz).c)) := (fun W hb => (hb.cell (p := ⟨b, off + k, none⟩) (cell_lt hcell0)).trans hcell0 : ∀ W, Below w.heap.size w W → W.cell? ⟨b, off + k, none⟩ = some (.slice (hs0.getD k vhz).a (hs0.getD k vhz).n (hs0.getD k vhz).c))
      have hvk : vs0.getD k [] ∈ vs0 := by have := hV0.out.1; simp [show k < vs0.length by omega]
      have hnk : (vs0.getD k []).length ≤ 500 := hV0.out.2.1 _ hvk
      have hsz0 := hS0.out k
      have hput := fun W (hb : Below wr.heap.size wr W) => (hK.keep hb).kw.put hTD.out.1 hTD.out.2.1 (hs0.getD k vhz) (vs0.getD k []) (hva0.below ((hK.bel).trans (hb.mono hK.bel.size)) (Nat.le_refl _)) (by simp only [List.length_nil]; omega) (by rw [← hva0.1.1]; exact hnk)
      simp only [List.nil_append] at hput
      obtain ⟨q1, q2, q3, _⟩ := hTD.out.1.nxt (v := vs0.getD k []) hTD.out.2.1 (by simp only [List.length_nil]; omega) hnk
      have hTD' : Hid (Vl.Two (Vl.nxt D (vs0.getD k [])) [] (Sg.put (vs0.take (k + 1))) ∧ (Vl.nxt D (vs0.getD k [])).dead = false ∧ (Vl.nxt D (vs0.getD k [])).stop = 0 ∧ (Vl.nxt D (vs0.getD k [])).kept = []) := (⟨by rw [Sg.put_next vs0 k (by have := hV0.out.1; omega)]; exact q1, (q2 (by rw [hTD.out.2.2.1]; exact Int.le_refl _)).1, by rw [(q2 (by rw [hTD.out.2.2.1]; exact Int.le_refl _)).2, hTD.out.2.2.1], by rw [q3, hTD.out.2.2.2]⟩ : Vl.Two (Vl.nxt D (vs0.getD k [])) [] (Sg.put (vs0.take (k + 1))) ∧ (Vl.nxt D (vs0.getD k [])).dead = false ∧ (Vl.nxt D (vs0.getD k [])).stop = 0 ∧ (Vl.nxt D (vs0.getD k [])).kept = [])
      have hpt : Hid (Sg.pts 3 0 (vs0.take (k + 1)) = Sg.pts 3 0 (vs0.take k) ++ [Sg.pt 3 (Sg.put (vs0.take k)).length (vs0.getD k [])]) := (Sg.pts_next vs0 k (by have := hV0.out.1; omega) : Sg.pts 3 0 (vs0.take (k + 1)) = Sg.pts 3 0 (vs0.take k) ++ [Sg.pt 3 (Sg.put (vs0.take k)).length (vs0.getD k [])])
      have kx := hK.kw.cells.2
      have cx := hcell.out _ hK.bel
      have i1 : (k : Int) < (n0 : Int) := by omega
      clear hc hva0 hcell0 hvk hnk q1 q2 q3
      generalize Vl.nxt D (vs0.getD k []) = D' at *
      generalize hs0.getD k vhz = hh at *
      obtain ⟨A1, L1, C1⟩ := hh
      generalize Sg.pt 3 (Sg.put (vs0.take k)).length (vs0.getD k []) = P at *
      obtain ⟨P0, P1, P2, P3⟩ := P
      simp only [pv] at hput
      simp only at cx hcell
      have hz4 := heap_alloc_new wr (.cells #[.int .i64 0, .int .i64 0, .int .i64 0, .int .u32 0] 42)
      have bz4 := below_alloc wr (.cells #[.int .i64 0, .int .i64 0, .int .i64 0, .int .u32 0] 42)
      go_wp2_with fail
      go_region_held3 (fun W => W.cell? ⟨x, 1, none⟩ = some (.pointer (some ⟨m, 0, none⟩)) ∧ W.cell? ⟨b, off + k, none⟩ = some (.slice A1 L1 C1)) (first | go_keep | (refine ⟨?_, ?_⟩ <;> assumption))
        (first
          | (go_at_call 14; (with_reducible refine vworld wr.drew ?_); refine (hput _ (bd1 (Below.refl _ wr))).mono ?_; rintro e w3 ⟨rfl, hv3, hW3⟩; have hK3 := (hK.keep (bd1 (Below.refl _ wr))).wk hW3 hv3; have k3 := hK3.kw.cells.2; have c3 := hcell.out _ hK3.bel)
          | (go_at_call 14; (with_reducible refine vworld (wr.alloc (.cells #[.int .i64 0, .int .i64 0, .int .i64 0, .int .u32 0] 42)).drew ?_); refine (hput _ (bd1 bz4)).mono ?_; rintro e w3 ⟨rfl, hv3, hW3⟩; have hK3 := (hK.keep (bd1 bz4)).wk hW3 hv3; have k3 := hK3.kw.cells.2; have c3 := hcell.out _ hK3.bel; have z3 := hW3.blk (show (wr.alloc (.cells #[.int .i64 0, .int .i64 0, .int .i64 0, .int .u32 0] 42)).drew.heap[wr.heap.size]? = some (.cells #[.int .i64 0, .int .i64 0, .int .i64 0, .int .u32 0] 42 (0, 0)) from hz4) (by decide) (by decide) (by decide) (by decide); obtain ⟨y0, y1, y2, y3, yf⟩ := pbox_cells (q := Po.zero) z3; have yf0 := yf 0; have yf1 := yf 1; have yf2 := yf 2; have yf3 := yf 3; simp only [Po.zero] at y0 y1 y2 y3; have hK4 := hK3.pt4 z3 hK.bel.size (hK.fresh (Nat.le_refl _)) (.int .i64 P0) (.int .i64 P1) (.int .i64 P2) (.int .u32 (P3 : Nat)); have k4 := hK4.kw.cells.2; have c4 := hcell.out _ hK4.bel))
      · have hK4 := hK3.keep (below_alloc w3 (.cells #[.int .i64 P0, .int .i64 P1, .int .i64 P2, .int .u32 (P3 : Nat)] 42))
        obtain ⟨r0, r1, r2, r3, rf⟩ := pbox_cells (q := (P0, P1, P2, P3)) (heap_alloc_new w3 (.cells #[.int .i64 P0, .int .i64 P1, .int .i64 P2, .int .u32 (P3 : Nat)] 42))
        simp only at r0 r1 r2 r3
        generalize w3.alloc (.cells #[.int .i64 P0, .int .i64 P1, .int .i64 P2, .int .u32 (P3 : Nat)] 42) = W4 at *
        generalize w3.heap.size = g4 at *
        simp only [Exit.then]
        go_wp2_with (at_builtin; go_must (refine append_tg (d := Po.zero) pntE pvE (w0 := w) (B := w.heap.size) rfl (.tmp 65) (.tmp 67) rfl _ k (Sg.pts 3 0 (vs0.take k)) rfl (hK4.pts.alloc _) (some ⟨W4.heap.size, 0, none⟩) 1 1 [(P0, P1, P2, P3)] rfl (lit_pt rfl) (fun h => by cases h) (by omega) (hK4.bel.alloc hK4.bel.size _) (by simp; have := hK4.bel.size; omega) ?_; intro a5 c5 w5 hg5 _ _ _ ho5 hb5 hs5))
        have hK5 := (hK4.keep (below_alloc W4 (.cells #[.int .i64 P0, .int .i64 P1, .int .i64 P2, .int .u32 (P3 : Nat)] 42))).grown hg5 ho5
        go_roundw
        case rel => exact ⟨k + 1, a5, c5, D', by omega, by go_num, rfl, by rw [hpt.out]; exact hK5, hTD'⟩
        case measure => simp [RowKit.intOf]; omega
      · obtain ⟨r0, r1, r2, r3, rf⟩ := pbox_cells (q := (P0, P1, P2, P3)) (pset4 z3 (.int .i64 P0) (.int .i64 P1) (.int .i64 P2) (.int .u32 (P3 : Nat)))
        simp only at r0 r1 r2 r3
        clear y0 y1 y2 y3 yf yf0 yf1 yf2 yf3
        generalize (((w3.setCell ⟨wr.heap.size, 0, none⟩ (.int .i64 P0)).setCell ⟨wr.heap.size, 1, none⟩ (.int .i64 P1)).setCell ⟨wr.heap.size, 2, none⟩ (.int .i64 P2)).setCell ⟨wr.heap.size, 3, none⟩ (.int .u32 (P3 : Nat)) = W4 at *
        generalize wr.heap.size = g4 at *
        simp only [Exit.then]
        go_wp2_with (at_builtin; go_must (refine append_tg (d := Po.zero) pntE pvE (w0 := w) (B := w.heap.size) rfl (.tmp 65) (.tmp 67) rfl _ k (Sg.pts 3 0 (vs0.take k)) rfl (hK4.pts.alloc _) (some ⟨W4.heap.size, 0, none⟩) 1 1 [(P0, P1, P2, P3)] rfl (lit_pt rfl) (fun h => by cases h) (by omega) (hK4.bel.alloc hK4.bel.size _) (by simp; have := hK4.bel.size; omega) ?_; intro a5 c5 w5 hg5 _ _ _ ho5 hb5 hs5))
        have hK5 := (hK4.keep (below_alloc W4 (.cells #[.int .i64 P0, .int .i64 P1, .int .i64 P2, .int .u32 (P3 : Nat)] 42))).grown hg5 ho5
        go_roundw
        case rel => exact ⟨k + 1, a5, c5, D', by omega, by go_num, rfl, by rw [hpt.out]; exact hK5, hTD'⟩
        case measure => simp [RowKit.intOf]; omega
    · obtain rfl : k = n0 := by omega
      obtain ⟨D1, D2, hy1, hy2, hT2, hd2, htl1⟩ := hTD.out.1.safe hTD.out.2.1 hTD.out.2.2.1 hTD.out.2.2.2
      have htk : vs0.take k = vs0 := List.take_of_length_le (by rw [hV0.out.1]; exact Nat.le_refl _)
      rw [htk] at hK hT2
      have hsy := vsync_any hK.kw.lg hK.kw.vd
      rw [show Vl.synced D [3] = (D1, 0) from hy1] at hsy
      simp only at hsy
      have kg := hK.kw.cells.2
      have hT3 : Hid (Vl.Two (Dk.stopped D2 st) (Sg.put vs0) []) := (hT2.stop st : Vl.Two (Dk.stopped D2 st) (Sg.put vs0) [])
      have hsn := fun W (h : VD w.heap.size W p D1) => vd_syncNames h (Below.refl _ _) (by omega)
      rw [hy2] at hsn
      simp only at hsn
      have hsp := fun W (h : VD w.heap.size W p D2) => vd_stop h (bd1 (Below.refl _ W)) st hst
      clear hTD hy1 hy2 hT2 hd2 htl1 htk hlt
      generalize Dk.stopped D2 st = D3 at *
      go_wp2_with (first
        | (go_at_call 15; go_must (refine hsy.mono ?_; rintro e w3 ⟨rfl, hv3, hW3⟩; have hK3 := hK.wk hW3 hv3; obtain ⟨x3, x3'⟩ := hK3.kw.cells))
        | (go_at_call 16; go_must (refine (hsn _ hK3.kw.vd).mono ?_; rintro e w4 ⟨rfl, hv4, hW4⟩; have hK4 := hK3.wk hW4 hv4; have x4 := hK4.kw.cells.1; have y4 := hK4.crash.1)))
      go_region_held3 (fun W => W.cell? ⟨x, 0, none⟩ = some (.pointer (some ⟨p, 0, none⟩)) ∧ W.cell? ⟨w.heap.size, 0, none⟩ = some (.int .i64 st)) (first | go_keep | (refine ⟨?_, ?_⟩ <;> assumption))
        (first
          | (go_at_call 17; (with_reducible refine vworld w4.drew ?_); refine (hsp w4 hK4.kw.vd).mono ?_; rintro e w5 ⟨rfl, hv5, hW5⟩; have hK5 := hK4.wk hW5 hv5; have x5 := hK5.kw.cells.1; have y5 := hK5.crash.1))
      simp only [Exit.then]
      go_wp2_with fail
      go_loopw [9, 13] (fun v i wr => ∃ (j : Nat) (pa : Option Addr) (pc : Nat) (D : Dk.D), j ≤ n1 ∧ i = .int .i64 j ∧ v = .slice pa (k + j) pc ∧ KI w.heap.size w wr x p m A C D pa pc (k + j) (Sg.pts 3 0 (vs0 ++ vs1.take j)) st kn ta tn tc ∧ Hid (Vl.Two D (Sg.put vs0) (Sg.put (vs1.take j))))
        (fun _ i _ => n1 - (RowKit.intOf i).toNat)
      case atStart => exact ⟨0, pa, pc, D3, by omega, rfl, rfl, by rw [List.take_zero, List.append_nil]; exact hK5, hT3⟩
      case round =>
        obtain ⟨j, pa, pc, D, hj, rfl, rfl, hK, hTD⟩ := hrel
        by_cases hlt : j < n1
        · obtain ⟨b, off, e0, hc⟩ := hi1.get (by omega)
          subst e0
          obtain ⟨hcell0, hva0⟩ := hc j hlt
          have hcell : Hid (∀ W, Below w.heap.size w W → W.cell? ⟨b, off + j, none⟩ = some (.slice (hs1.getD j vhz).a (hs1.getD j vhz).n (hs1.getD j vhz).c)) := (fun W hb => (hb.cell (p := ⟨b, off + j, none⟩) (cell_lt hcell0)).trans hcell0 : ∀ W, Below w.heap.size w W → W.cell? ⟨b, off + j, none⟩ = some (.slice (hs1.getD j vhz).a (hs1.getD j vhz).n (hs1.getD j vhz).c))
          have hvk : vs1.getD j [] ∈ vs1 := by have := hV1.out.1; simp [show j < vs1.length by omega]
          have hnk : (vs1.getD j []).length ≤ 500 := hV1.out.2.1 _ hvk
          have hszA := hS0.out vs0.length
          rw [List.take_length] at hszA
          have hszB := hS1.out j
          have kx := hK.kw.cells.2
          have cx := hcell.out _ hK.bel
          have i1 : (j : Int) < (n1 : Int) := by omega
          have hz4 := heap_alloc_new wr (.cells #[.int .i64 0, .int .i64 0, .int .i64 0, .int .u32 0] 42)
          have bz4 := below_alloc wr (.cells #[.int .i64 0, .int .i64 0, .int .i64 0, .int .u32 0] 42)
          by_cases hdd : D.dead = true
          · have hput := fun W (hb : Below wr.heap.size wr W) => (hK.keep hb).kw.put_dead hTD.out hdd (hs1.getD j vhz) (vs1.getD j []) (hva0.below ((hK.bel).trans (hb.mono hK.bel.size)) (Nat.le_refl _)) (by omega) (by rw [← hva0.1.1]; exact hnk)
            clear hc hva0 hcell0 hvk hnk hszA hszB
            generalize hs1.getD j vhz = hh at *
            obtain ⟨A1, L1, C1⟩ := hh
            simp only [pv, Po.zero] at hput
            simp only at cx hcell
            go_wp2_with fail
            go_region_held3 (fun W => W.cell? ⟨x, 1, none⟩ = some (.pointer (some ⟨m, 0, none⟩)) ∧ W.cell? ⟨b, off + j, none⟩ = some (.slice A1 L1 C1)) (first | go_keep | (refine ⟨?_, ?_⟩ <;> assumption))
              (first
                | (go_at_call 14; (with_reducible refine vworld wr.drew ?_); refine (hput _ (bd1 (Below.refl _ wr))).mono ?_; rintro e w3 ⟨rfl, hv3, hW3⟩; have hK3 := (hK.keep (bd1 (Below.refl _ wr))).wk hW3 hv3; have k3 := hK3.kw.cells.2; have c3 := hcell.out _ hK3.bel)
                | (go_at_call 14; (with_reducible refine vworld (wr.alloc (.cells #[.int .i64 0, .int .i64 0, .int .i64 0, .int .u32 0] 42)).drew ?_); refine (hput _ (bd1 bz4)).mono ?_; rintro e w3 ⟨rfl, hv3, hW3⟩; have hK3 := (hK.keep (bd1 bz4)).wk hW3 hv3; have k3 := hK3.kw.cells.2; have c3 := hcell.out _ hK3.bel; have z3 := hW3.blk (show (wr.alloc (.cells #[.int .i64 0, .int .i64 0, .int .i64 0, .int .u32 0] 42)).drew.heap[wr.heap.size]? = some (.cells #[.int .i64 0, .int .i64 0, .int .i64 0, .int .u32 0] 42 (0, 0)) from hz4) (by decide) (by decide) (by decide) (by decide); obtain ⟨y0, y1, y2, y3, yf⟩ := pbox_cells (q := Po.zero) z3; have yf0 := yf 0; have yf1 := yf 1; have yf2 := yf 2; have yf3 := yf 3; simp only [Po.zero] at y0 y1 y2 y3; have hK4 := hK3.pt4 z3 hK.bel.size (hK.fresh (Nat.le_refl _)) (.int .i64 0) (.int .i64 0) (.int .i64 0) (.int .u32 0); have k4 := hK4.kw.cells.2; have c4 := hcell.out _ hK4.bel))
            · have hK4 := hK3.keep (below_alloc w3 (.cells #[.int .i64 0, .int .i64 0, .int .i64 0, .int .u32 0] 42))
              have hK := hK4
              clear hK3 hK4 k3 c3 hW3 hv3 hput hcell kx cx hz4 bz4
              generalize w3.alloc (.cells #[.int .i64 0, .int .i64 0, .int .i64 0, .int .u32 0] 42) = W4 at *
              generalize w3.heap.size = g4 at *
              simp only [Exit.then]
              go_wp2_with fail
              have hv1l : j ≤ vs1.length := by have := hV1.out.1; omega
              obtain ⟨jj, hjj, hby, hlive⟩ := hTD.out.crash kn zs
              obtain ⟨l, hl⟩ : ∃ l, l = vs0 ++ vs1.take j := ⟨_, rfl⟩
              have hll : l.length = k + j := by have := hV0.out.1; rw [hl, List.length_append, List.length_take]; omega
              have hlp : Sg.put l = Sg.put vs0 ++ Sg.put (vs1.take j) := by rw [hl, Sg.put_append]
              have hl0 : l.take vs0.length = vs0 := by rw [hl, List.take_left]
              have hsm : Sg.Small l := fun v hv => by
                rw [hl] at hv
                rcases List.mem_append.1 hv with h | h
                · exact ⟨Nat.le_trans (hV0.out.2.1 v h) (by omega), hV0.out.2.2 v h⟩
                · exact ⟨Nat.le_trans (hV1.out.2.1 v (List.mem_of_mem_take h)) (by omega), hV1.out.2.2 v (List.mem_of_mem_take h)⟩
              have h0s := hS0.out vs0.length
              rw [List.take_length] at h0s
              have h1s := hS1.out j
              have hlen : (Sg.put l).length ≤ 10200 := by rw [hlp, List.length_append]; omega
              have hby2 : Vl.by' (Dk.crash D kn zs) (vname 3) = (Sg.put l).take ((Sg.put vs0).length + jj) := by
                have e1 : (Sg.put vs0).take ((Sg.put vs0).length + jj) = Sg.put vs0 := List.take_of_length_le (by omega)
                rw [hby, hlp, List.take_append, e1, Nat.add_sub_cancel_left]
              have hkept := fun hO => Vl.kept (D := Dk.crash D kn zs) hO hlive hsm (by omega) vs0.length ((Sg.put vs0).length + jj) (by have := hV0.out.1; omega) (by rw [hl0]; omega) (by rw [hlp, List.length_append]; omega) hby2
              have hcr := fun W (h : VD w.heap.size W p D) (hb : Below w.heap.size w W) => vd_crash h (bd1 (Below.refl _ W)) kn ta tn tc zs (hZ.out _ hb) hlt0 (Nat.le_trans hTD.out.few.2.1 (by omega)) (Nat.le_trans hTD.out.few.2.2.2 (by omega))
              rw [← hl] at hK
              have kx := hK.kw.cells.1
              obtain ⟨kc0, kc1, kc2⟩ := hK.crash
              have hbW := hK.bel
              have hKH : Hid (KI w.heap.size w W4 x p m A C D pa pc (k + j) (Sg.pts 3 0 l) st kn ta tn tc) := hK
              clear hby h0s h1s hTD hlp hl0 hjj
              go_region_held3 (fun W => W.cell? ⟨x, 0, none⟩ = some (.pointer (some ⟨p, 0, none⟩)) ∧ W.cell? ⟨w.heap.size, 1, none⟩ = some (.int .i64 kn) ∧ W.cell? ⟨w.heap.size, 2, none⟩ = some (.slice ta tn tc)) (first | go_keep | (refine ⟨?_, ?_, ?_⟩ <;> assumption))
                (first
                  | (go_at_call 18; (with_reducible refine vworld W4.drew ?_); refine (hcr W4 hKH.out.kw.vd hbW).mono ?_; rintro e w6 ⟨rfl, hv6, hW6⟩; have hK6 := hKH.out.wk hW6 hv6; have x6 := hK6.kw.cells.1; obtain ⟨y60, y61, y62⟩ := hK6.crash))
              simp only [Exit.then]
              obtain ⟨D6, mm, hme, hd6, hkm, hml, hb6, hget⟩ := hkept hK6.kw.vd.ok
              have hD6l : (Vl.by' D6 (vname 3)).length ≤ 10200 := by rw [hb6]; exact Nat.le_trans (Sg.put_take_le l mm) hlen
              have hop : ∀ g, w6.heap.size = g → Calls Tryz.prog 19 #[.pointer (some ⟨p, 0, none⟩), .slice (some ⟨g, 0, none⟩) 1 1] (w6.alloc (.cells #[.int .i64 3] 3)) fun e w' => ∃ m' A' C', e = .returned (.tuple #[.pointer (some ⟨m', 0, none⟩), .int .i64 0]) ∧ LgAt w.heap.size w' m' p A' 1 C' [3] ∧ KI w.heap.size w w' x p m A C D6 pa pc (k + j) (Sg.pts 3 0 l) st kn ta tn tc := fun g hg => by
                subst hg
                have hba := below_alloc w6 (.cells #[.int .i64 3] 3)
                have hKa := hK6.keep hba
                have hll : (Vl.by' (Dk.crash D kn zs) (vname (Vl.last [3]))).length ≤ 100000 := by
                  show (Vl.by' (Dk.crash D kn zs) (vname 3)).length ≤ 100000
                  rw [hby2, List.length_take]; omega
                have hme2 : Vl.mend (Dk.crash D kn zs) (Vl.last [3]) = (D6, 0) := hme
                have := vopen_any (c := 1) hKa.kw.vd (lit_z w6 3 rfl) (by decide) hll hlive.dead (by rw [hme2])
                rw [hme2] at this
                refine this.mono ?_
                rintro e w' ⟨m', A', C', rfl, h1, h2, h3⟩
                exact ⟨m', A', C', rfl, h1.lower hKa.kw.vd.le, hKa.wk h3 h2⟩
              clear hkept hcr hme hby2 hlive
              go_wp2_with (go_at_call 19; go_must (refine (hop _ rfl).mono ?_; rintro e w7 ⟨m', A', C', rfl, hL7, hK7⟩))
              have hptr : TRow 4 pve Po.zero w7 pa (k + j) (Sg.pts 3 0 l) := trow_of_owns (l := Sg.pts 3 0 l) (d := Po.zero) pvE hK7.pts (by omega) (by omega)
              have hK7H : Hid (KI w.heap.size w w7 x p m A C D6 pa pc (k + j) (Sg.pts 3 0 l) st kn ta tn tc) := hK7
              have hL7H : Hid (LgAt w.heap.size w7 m' p A' 1 C' [3]) := hL7
              have hb7 := hK7.bel
              clear hop hK6 hK7 hL7 x6 y60 y61 y62 kx kc0 kc1 kc2
              go_loopw [18] (fun i wr => ∃ t : Nat, t ≤ k + j ∧ i = .int .i64 t ∧ Below w7.heap.size w7 wr) (fun i _ => k + j - (RowKit.intOf i).toNat)
              case atStart => exact ⟨0, by omega, rfl, Below.refl _ _⟩
              case round =>
                obtain ⟨t, ht, rfl, hbr⟩ := hrel
                by_cases hlt3 : t < k + j
                · obtain ⟨b9, o9, e9, hc9⟩ := (hptr.below hbr (Nat.le_refl _)).at (by omega)
                  subst e9
                  have hqt : (Sg.pts 3 0 l).getD t Po.zero = Sg.pt 3 (Sg.put (l.take t)).length (l.getD t []) := Sg.pts_get 3 l t (by omega)
                  have hvt : l.getD t [] ∈ l := by simp [show t < l.length by omega]
                  have hfit : Po.Fits (Sg.pt 3 (Sg.put (l.take t)).length (l.getD t [])) := Sg.pt_fits (by have := Sg.put_take_le l t; omega) (hsm _ hvt).1 (hsm _ hvt).2
                  have hgt := vget_any (hL7H.out.keep hbr) (hK7H.out.kw.vd.keep hbr) _ hfit hd6 (by show (Vl.by' D6 (vname 3)).length ≤ 100000; omega)
                  rw [hget t (by omega)] at hgt
                  have hvsm := (hsm _ hvt).2
                  have hvn := (hsm _ hvt).1
                  have hbw := hb7.trans (hbr.mono hb7.size)
                  have hrow := hc9 t hlt3
                  rw [hqt] at hrow
                  have hHV : Hid (l.getD t [] = if t < k then vs0.getD t [] else vs1.getD (t - k) []) := (by
                    have h0 := hV0.out.1
                    by_cases h : t < k
                    · rw [if_pos h, hl, List.getD_eq_getElem?_getD, List.getElem?_append_left (by omega), ← List.getD_eq_getElem?_getD]
                    · rw [if_neg h, hl, List.getD_eq_getElem?_getD, List.getElem?_append_right (by omega), List.getElem?_take, h0, if_pos (by omega), ← List.getD_eq_getElem?_getD] : l.getD t [] = if t < k then vs0.getD t [] else vs1.getD (t - k) [])
                  clear hc9 hqt hfit hvt
                  generalize l.getD t [] = v at *
                  generalize Sg.pt 3 (Sg.put (l.take t)).length v = P at *
                  obtain ⟨P0, P1, P2, P3⟩ := P
                  have p0 : wr.cell? ⟨b9, o9 + t * 4, none⟩ = some (.int .i64 P0) := hrow 0 _ rfl
                  have p1 : wr.cell? ⟨b9, o9 + t * 4 + 1, none⟩ = some (.int .i64 P1) := hrow 1 _ rfl
                  have p2 : wr.cell? ⟨b9, o9 + t * 4 + 2, none⟩ = some (.int .i64 P2) := hrow 2 _ rfl
                  have p3 : wr.cell? ⟨b9, o9 + t * 4 + 3, none⟩ = some (.int .u32 (P3 : Nat)) := hrow 3 _ rfl
                  have i0 : (t : Int) < ((k + j : Nat) : Int) := by omega
                  have i0' : (t : Int) < (k : Int) + (j : Int) := by omega
                  have i00 : (0 : Int) ≤ (t : Int) := by omega
                  clear hrow hlt3
                  simp only [pv] at hgt
                  unfold SValRes at hgt
                  by_cases htk : t < k
                  · have htm : t < mm := by have := hV0.out.1; omega
                    rw [if_pos htm] at hgt
                    simp only at hgt
                    obtain ⟨b8, o8, e8, hc8⟩ := (hI0.out wr hbw).get (by omega)
                    obtain ⟨hcell, hva⟩ := hc8 t htk
                    have hvv : vs0.getD t [] = v := by rw [hHV.out, if_pos htk]
                    rw [hvv] at hva
                    cases e8
                    have hlen8 : Hid (v.length = (hs0.getD t vhz).n) := hva.1.1
                    generalize hs0.getD t vhz = hh at *
                    obtain ⟨A8, L8, C8⟩ := hh
                    simp only at hcell hlen8
                    have hvar : Row .u8 wr A8 L8 v := hva.1
                    have hcl8 := fun W (hb : Below wr.heap.size wr W) => (hb.cell (cell_lt hcell)).trans hcell
                    have hdv : decide (v = v) = true := by simp
                    have j1 : (t : Int) < (k : Int) := by omega
                    have j2 : ¬ ((k : Int) ≤ (t : Int)) := by omega
                    clear hc8 hva htm hvv htk
                    go_wp2_with (first
                      | (go_at_call 21; have := ho8; go_must (refine (bytes_any _ _ _ v _ _ _ v _ (row_of_owns ho8 (fun x hx => hvsm x hx) (by omega)).1 (hvar.below hb8 (Nat.le_refl _))).mono ?_; rintro e w9 ⟨rfl, n9, rfl⟩))
                      | (go_at_call 20; go_must (refine hgt.mono ?_; rintro e w8 ⟨a8, c8, rfl, ho8, hb8⟩; have hcell8 := hcl8 _ hb8)))
                    exact ⟨⟨t + 1, by omega, by first | rfl | go_num | simp, hbr.trans ((hb8.trans (bdr (Below.refl _ w8) n9 |>.mono hb8.size)).mono hbr.size)⟩, by simp [RowKit.intOf]; omega⟩
                  · obtain ⟨u, hu⟩ : ∃ u, u = t - k := ⟨_, rfl⟩
                    have j1 : ¬ ((t : Int) < (k : Int)) := by omega
                    have j2 : (k : Int) ≤ (t : Int) := by omega
                    by_cases htm : t < mm
                    · rw [if_pos htm] at hgt
                      simp only at hgt
                      obtain ⟨b8, o8, e8, hc8⟩ := (hI1.out wr hbw).get (by omega)
                      obtain ⟨hcell, hva⟩ := hc8 u (by omega)
                      have hvv : vs1.getD u [] = v := by rw [hHV.out, if_neg htk, hu]
                      rw [hvv] at hva
                      cases e8
                      have hlen8 : Hid (v.length = (hs1.getD u vhz).n) := hva.1.1
                      generalize hs1.getD u vhz = hh at *
                      obtain ⟨A8, L8, C8⟩ := hh
                      simp only at hcell hlen8
                      have hvar : Row .u8 wr A8 L8 v := hva.1
                      have hcl8 := fun W (hb : Below wr.heap.size wr W) => (hb.cell (cell_lt hcell)).trans hcell
                      have hdv : decide (v = v) = true := by simp
                      have m1 : wrap64 ((t : Int) - (k : Int)) = (u : Int) := by unfold wrap64; omega
                      have m2 : IntKind.i64.wrap ((t : Int) - (k : Int)) = (u : Int) := by rw [IntKind.wrap_i64]; omega
                      have m3 : (0 : Int) ≤ (u : Int) := by omega
                      have m4 : (u : Int) < (n1 : Int) := by omega
                      have m5 : u < n1 := by omega
                      clear hc8 hva htm hvv htk hu
                      go_wp2_with (first
                        | (go_at_call 21; have := ho8; go_must (refine (bytes_any _ _ _ v _ _ _ v _ (row_of_owns ho8 (fun x hx => hvsm x hx) (by omega)).1 (hvar.below hb8 (Nat.le_refl _))).mono ?_; rintro e w9 ⟨rfl, n9, rfl⟩))
                        | (go_at_call 20; go_must (refine hgt.mono ?_; rintro e w8 ⟨a8, c8, rfl, ho8, hb8⟩; have hcell8 := hcl8 _ hb8)))
                      exact ⟨⟨t + 1, by omega, by first | rfl | go_num | simp, hbr.trans ((hb8.trans (bdr (Below.refl _ w8) n9 |>.mono hb8.size)).mono hbr.size)⟩, by simp [RowKit.intOf]; omega⟩
                    · rw [if_neg htm] at hgt
                      simp only at hgt
                      clear htm htk hu hHV
                      go_wp2_with (go_at_call 20; go_must (refine hgt.mono ?_; rintro e w8 ⟨a8, c8, rfl, ho8, hb8⟩))
                      exact ⟨⟨t + 1, by omega, by first | rfl | go_num | simp, hbr.trans (hb8.mono hbr.size)⟩, by simp [RowKit.intOf]; omega⟩
                · obtain rfl : t = k + j := by omega
                  have haw := vawake_any wr ((hTB.keep (hb7.trans (hbr.mono hb7.size))).tab)
                  go_wp2_with (go_at_call 7; go_must (refine haw.mono ?_; rintro e w8 ⟨rfl, hb8⟩))
                  go_ret
                  exact ⟨rfl, (hb7.trans (hbr.mono hb7.size)).trans (hb8.mono (Nat.le_trans hb7.size hbr.size))⟩
            · have hK := hK4
              clear hK3 hK4 k3 c3 hW3 hv3 hput hcell kx cx hz4 bz4 y0 y1 y2 y3 yf yf0 yf1 yf2 yf3 z3 k4 c4
              generalize (((w3.setCell ⟨wr.heap.size, 0, none⟩ (.int .i64 0)).setCell ⟨wr.heap.size, 1, none⟩ (.int .i64 0)).setCell ⟨wr.heap.size, 2, none⟩ (.int .i64 0)).setCell ⟨wr.heap.size, 3, none⟩ (.int .u32 0) = W4 at *
              generalize wr.heap.size = g4 at *
              simp only [Exit.then]
              go_wp2_with fail
              have hv1l : j ≤ vs1.length := by have := hV1.out.1; omega
              obtain ⟨jj, hjj, hby, hlive⟩ := hTD.out.crash kn zs
              obtain ⟨l, hl⟩ : ∃ l, l = vs0 ++ vs1.take j := ⟨_, rfl⟩
              have hll : l.length = k + j := by have := hV0.out.1; rw [hl, List.length_append, List.length_take]; omega
              have hlp : Sg.put l = Sg.put vs0 ++ Sg.put (vs1.take j) := by rw [hl, Sg.put_append]
              have hl0 : l.take vs0.length = vs0 := by rw [hl, List.take_left]
              have hsm : Sg.Small l := fun v hv => by
                rw [hl] at hv
                rcases List.mem_append.1 hv with h | h
                · exact ⟨Nat.le_trans (hV0.out.2.1 v h) (by omega), hV0.out.2.2 v h⟩
                · exact ⟨Nat.le_trans (hV1.out.2.1 v (List.mem_of_mem_take h)) (by omega), hV1.out.2.2 v (List.mem_of_mem_take h)⟩
              have h0s := hS0.out vs0.length
              rw [List.take_length] at h0s
              have h1s := hS1.out j
              have hlen : (Sg.put l).length ≤ 10200 := by rw [hlp, List.length_append]; omega
              have hby2 : Vl.by' (Dk.crash D kn zs) (vname 3) = (Sg.put l).take ((Sg.put vs0).length + jj) := by
                have e1 : (Sg.put vs0).take ((Sg.put vs0).length + jj) = Sg.put vs0 := List.take_of_length_le (by omega)
                rw [hby, hlp, List.take_append, e1, Nat.add_sub_cancel_left]
              have hkept := fun hO => Vl.kept (D := Dk.crash D kn zs) hO hlive hsm (by omega) vs0.length ((Sg.put vs0).length + jj) (by have := hV0.out.1; omega) (by rw [hl0]; omega) (by rw [hlp, List.length_append]; omega) hby2
              have hcr := fun W (h : VD w.heap.size W p D) (hb : Below w.heap.size w W) => vd_crash h (bd1 (Below.refl _ W)) kn ta tn tc zs (hZ.out _ hb) hlt0 (Nat.le_trans hTD.out.few.2.1 (by omega)) (Nat.le_trans hTD.out.few.2.2.2 (by omega))
              rw [← hl] at hK
              have kx := hK.kw.cells.1
              obtain ⟨kc0, kc1, kc2⟩ := hK.crash
              have hbW := hK.bel
              have hKH : Hid (KI w.heap.size w W4 x p m A C D pa pc (k + j) (Sg.pts 3 0 l) st kn ta tn tc) := hK
              clear hby h0s h1s hTD hlp hl0 hjj
              go_region_held3 (fun W => W.cell? ⟨x, 0, none⟩ = some (.pointer (some ⟨p, 0, none⟩)) ∧ W.cell? ⟨w.heap.size, 1, none⟩ = some (.int .i64 kn) ∧ W.cell? ⟨w.heap.size, 2, none⟩ = some (.slice ta tn tc)) (first | go_keep | (refine ⟨?_, ?_, ?_⟩ <;> assumption))
                (first
                  | (go_at_call 18; (with_reducible refine vworld W4.drew ?_); refine (hcr W4 hKH.out.kw.vd hbW).mono ?_; rintro e w6 ⟨rfl, hv6, hW6⟩; have hK6 := hKH.out.wk hW6 hv6; have x6 := hK6.kw.cells.1; obtain ⟨y60, y61, y62⟩ := hK6.crash))
              simp only [Exit.then]
              obtain ⟨D6, mm, hme, hd6, hkm, hml, hb6, hget⟩ := hkept hK6.kw.vd.ok
              have hD6l : (Vl.by' D6 (vname 3)).length ≤ 10200 := by rw [hb6]; exact Nat.le_trans (Sg.put_take_le l mm) hlen
              have hop : ∀ g, w6.heap.size = g → Calls Tryz.prog 19 #[.pointer (some ⟨p, 0, none⟩), .slice (some ⟨g, 0, none⟩) 1 1] (w6.alloc (.cells #[.int .i64 3] 3)) fun e w' => ∃ m' A' C', e = .returned (.tuple #[.pointer (some ⟨m', 0, none⟩), .int .i64 0]) ∧ LgAt w.heap.size w' m' p A' 1 C' [3] ∧ KI w.heap.size w w' x p m A C D6 pa pc (k + j) (Sg.pts 3 0 l) st kn ta tn tc := fun g hg => by
                subst hg
                have hba := below_alloc w6 (.cells #[.int .i64 3] 3)
                have hKa := hK6.keep hba
                have hll : (Vl.by' (Dk.crash D kn zs) (vname (Vl.last [3]))).length ≤ 100000 := by
                  show (Vl.by' (Dk.crash D kn zs) (vname 3)).length ≤ 100000
                  rw [hby2, List.length_take]; omega
                have hme2 : Vl.mend (Dk.crash D kn zs) (Vl.last [3]) = (D6, 0) := hme
                have := vopen_any (c := 1) hKa.kw.vd (lit_z w6 3 rfl) (by decide) hll hlive.dead (by rw [hme2])
                rw [hme2] at this
                refine this.mono ?_
                rintro e w' ⟨m', A', C', rfl, h1, h2, h3⟩
                exact ⟨m', A', C', rfl, h1.lower hKa.kw.vd.le, hKa.wk h3 h2⟩
              clear hkept hcr hme hby2 hlive
              go_wp2_with (go_at_call 19; go_must (refine (hop _ rfl).mono ?_; rintro e w7 ⟨m', A', C', rfl, hL7, hK7⟩))
              have hptr : TRow 4 pve Po.zero w7 pa (k + j) (Sg.pts 3 0 l) := trow_of_owns (l := Sg.pts 3 0 l) (d := Po.zero) pvE hK7.pts (by omega) (by omega)
              have hK7H : Hid (KI w.heap.size w w7 x p m A C D6 pa pc (k + j) (Sg.pts 3 0 l) st kn ta tn tc) := hK7
              have hL7H : Hid (LgAt w.heap.size w7 m' p A' 1 C' [3]) := hL7
              have hb7 := hK7.bel
              clear hop hK6 hK7 hL7 x6 y60 y61 y62 kx kc0 kc1 kc2
              go_loopw [18] (fun i wr => ∃ t : Nat, t ≤ k + j ∧ i = .int .i64 t ∧ Below w7.heap.size w7 wr) (fun i _ => k + j - (RowKit.intOf i).toNat)
              case atStart => exact ⟨0, by omega, rfl, Below.refl _ _⟩
              case round =>
                obtain ⟨t, ht, rfl, hbr⟩ := hrel
                by_cases hlt3 : t < k + j
                · obtain ⟨b9, o9, e9, hc9⟩ := (hptr.below hbr (Nat.le_refl _)).at (by omega)
                  subst e9
                  have hqt : (Sg.pts 3 0 l).getD t Po.zero = Sg.pt 3 (Sg.put (l.take t)).length (l.getD t []) := Sg.pts_get 3 l t (by omega)
                  have hvt : l.getD t [] ∈ l := by simp [show t < l.length by omega]
                  have hfit : Po.Fits (Sg.pt 3 (Sg.put (l.take t)).length (l.getD t [])) := Sg.pt_fits (by have := Sg.put_take_le l t; omega) (hsm _ hvt).1 (hsm _ hvt).2
                  have hgt := vget_any (hL7H.out.keep hbr) (hK7H.out.kw.vd.keep hbr) _ hfit hd6 (by show (Vl.by' D6 (vname 3)).length ≤ 100000; omega)
                  rw [hget t (by omega)] at hgt
                  have hvsm := (hsm _ hvt).2
                  have hvn := (hsm _ hvt).1
                  have hbw := hb7.trans (hbr.mono hb7.size)
                  have hrow := hc9 t hlt3
                  rw [hqt] at hrow
                  have hHV : Hid (l.getD t [] = if t < k then vs0.getD t [] else vs1.getD (t - k) []) := (by
                    have h0 := hV0.out.1
                    by_cases h : t < k
                    · rw [if_pos h, hl, List.getD_eq_getElem?_getD, List.getElem?_append_left (by omega), ← List.getD_eq_getElem?_getD]
                    · rw [if_neg h, hl, List.getD_eq_getElem?_getD, List.getElem?_append_right (by omega), List.getElem?_take, h0, if_pos (by omega), ← List.getD_eq_getElem?_getD] : l.getD t [] = if t < k then vs0.getD t [] else vs1.getD (t - k) [])
                  clear hc9 hqt hfit hvt
                  generalize l.getD t [] = v at *
                  generalize Sg.pt 3 (Sg.put (l.take t)).length v = P at *
                  obtain ⟨P0, P1, P2, P3⟩ := P
                  have p0 : wr.cell? ⟨b9, o9 + t * 4, none⟩ = some (.int .i64 P0) := hrow 0 _ rfl
                  have p1 : wr.cell? ⟨b9, o9 + t * 4 + 1, none⟩ = some (.int .i64 P1) := hrow 1 _ rfl
                  have p2 : wr.cell? ⟨b9, o9 + t * 4 + 2, none⟩ = some (.int .i64 P2) := hrow 2 _ rfl
                  have p3 : wr.cell? ⟨b9, o9 + t * 4 + 3, none⟩ = some (.int .u32 (P3 : Nat)) := hrow 3 _ rfl
                  have i0 : (t : Int) < ((k + j : Nat) : Int) := by omega
                  have i0' : (t : Int) < (k : Int) + (j : Int) := by omega
                  have i00 : (0 : Int) ≤ (t : Int) := by omega
                  clear hrow hlt3
                  simp only [pv] at hgt
                  unfold SValRes at hgt
                  by_cases htk : t < k
                  · have htm : t < mm := by have := hV0.out.1; omega
                    rw [if_pos htm] at hgt
                    simp only at hgt
                    obtain ⟨b8, o8, e8, hc8⟩ := (hI0.out wr hbw).get (by omega)
                    obtain ⟨hcell, hva⟩ := hc8 t htk
                    have hvv : vs0.getD t [] = v := by rw [hHV.out, if_pos htk]
                    rw [hvv] at hva
                    cases e8
                    have hlen8 : Hid (v.length = (hs0.getD t vhz).n) := hva.1.1
                    generalize hs0.getD t vhz = hh at *
                    obtain ⟨A8, L8, C8⟩ := hh
                    simp only at hcell hlen8
                    have hvar : Row .u8 wr A8 L8 v := hva.1
                    have hcl8 := fun W (hb : Below wr.heap.size wr W) => (hb.cell (cell_lt hcell)).trans hcell
                    have hdv : decide (v = v) = true := by simp
                    have j1 : (t : Int) < (k : Int) := by omega
                    have j2 : ¬ ((k : Int) ≤ (t : Int)) := by omega
                    clear hc8 hva htm hvv htk
                    go_wp2_with (first
                      | (go_at_call 21; have := ho8; go_must (refine (bytes_any _ _ _ v _ _ _ v _ (row_of_owns ho8 (fun x hx => hvsm x hx) (by omega)).1 (hvar.below hb8 (Nat.le_refl _))).mono ?_; rintro e w9 ⟨rfl, n9, rfl⟩))
                      | (go_at_call 20; go_must (refine hgt.mono ?_; rintro e w8 ⟨a8, c8, rfl, ho8, hb8⟩; have hcell8 := hcl8 _ hb8)))
                    exact ⟨⟨t + 1, by omega, by first | rfl | go_num | simp, hbr.trans ((hb8.trans (bdr (Below.refl _ w8) n9 |>.mono hb8.size)).mono hbr.size)⟩, by simp [RowKit.intOf]; omega⟩
                  · obtain ⟨u, hu⟩ : ∃ u, u = t - k := ⟨_, rfl⟩
                    have j1 : ¬ ((t : Int) < (k : Int)) := by omega
                    have j2 : (k : Int) ≤ (t : Int) := by omega
                    by_cases htm : t < mm
                    · rw [if_pos htm] at hgt
                      simp only at hgt
                      obtain ⟨b8, o8, e8, hc8⟩ := (hI1.out wr hbw).get (by omega)
                      obtain ⟨hcell, hva⟩ := hc8 u (by omega)
                      have hvv : vs1.getD u [] = v := by rw [hHV.out, if_neg htk, hu]
                      rw [hvv] at hva
                      cases e8
                      have hlen8 : Hid (v.length = (hs1.getD u vhz).n) := hva.1.1
                      generalize hs1.getD u vhz = hh at *
                      obtain ⟨A8, L8, C8⟩ := hh
                      simp only at hcell hlen8
                      have hvar : Row .u8 wr A8 L8 v := hva.1
                      have hcl8 := fun W (hb : Below wr.heap.size wr W) => (hb.cell (cell_lt hcell)).trans hcell
                      have hdv : decide (v = v) = true := by simp
                      have m1 : wrap64 ((t : Int) - (k : Int)) = (u : Int) := by unfold wrap64; omega
                      have m2 : IntKind.i64.wrap ((t : Int) - (k : Int)) = (u : Int) := by rw [IntKind.wrap_i64]; omega
                      have m3 : (0 : Int) ≤ (u : Int) := by omega
                      have m4 : (u : Int) < (n1 : Int) := by omega
                      have m5 : u < n1 := by omega
                      clear hc8 hva htm hvv htk hu
                      go_wp2_with (first
                        | (go_at_call 21; have := ho8; go_must (refine (bytes_any _ _ _ v _ _ _ v _ (row_of_owns ho8 (fun x hx => hvsm x hx) (by omega)).1 (hvar.below hb8 (Nat.le_refl _))).mono ?_; rintro e w9 ⟨rfl, n9, rfl⟩))
                        | (go_at_call 20; go_must (refine hgt.mono ?_; rintro e w8 ⟨a8, c8, rfl, ho8, hb8⟩; have hcell8 := hcl8 _ hb8)))
                      exact ⟨⟨t + 1, by omega, by first | rfl | go_num | simp, hbr.trans ((hb8.trans (bdr (Below.refl _ w8) n9 |>.mono hb8.size)).mono hbr.size)⟩, by simp [RowKit.intOf]; omega⟩
                    · rw [if_neg htm] at hgt
                      simp only at hgt
                      clear htm htk hu hHV
                      go_wp2_with (go_at_call 20; go_must (refine hgt.mono ?_; rintro e w8 ⟨a8, c8, rfl, ho8, hb8⟩))
                      exact ⟨⟨t + 1, by omega, by first | rfl | go_num | simp, hbr.trans (hb8.mono hbr.size)⟩, by simp [RowKit.intOf]; omega⟩
                · obtain rfl : t = k + j := by omega
                  have haw := vawake_any wr ((hTB.keep (hb7.trans (hbr.mono hb7.size))).tab)
                  go_wp2_with (go_at_call 7; go_must (refine haw.mono ?_; rintro e w8 ⟨rfl, hb8⟩))
                  go_ret
                  exact ⟨rfl, (hb7.trans (hbr.mono hb7.size)).trans (hb8.mono (Nat.le_trans hb7.size hbr.size))⟩
          · rw [Bool.not_eq_true] at hdd
            have hput := fun W (hb : Below wr.heap.size wr W) => (hK.keep hb).kw.put hTD.out hdd (hs1.getD j vhz) (vs1.getD j []) (hva0.below ((hK.bel).trans (hb.mono hK.bel.size)) (Nat.le_refl _)) (by omega) (by rw [← hva0.1.1]; exact hnk)
            obtain ⟨q1, _, _, _⟩ := hTD.out.nxt (v := vs1.getD j []) hdd (by omega) hnk
            have hTD' : Hid (Vl.Two (Vl.nxt D (vs1.getD j [])) (Sg.put vs0) (Sg.put (vs1.take (j + 1)))) := (by rw [Sg.put_next vs1 j (by have := hV1.out.1; omega)]; exact q1 : Vl.Two (Vl.nxt D (vs1.getD j [])) (Sg.put vs0) (Sg.put (vs1.take (j + 1))))
            rw [← Sg.put_append] at hput
            have hpt : Hid (Sg.pts 3 0 (vs0 ++ vs1.take (j + 1)) = Sg.pts 3 0 (vs0 ++ vs1.take j) ++ [Sg.pt 3 (Sg.put (vs0 ++ vs1.take j)).length (vs1.getD j [])]) := (by rw [gtake [] (show j < vs1.length by have := hV1.out.1; omega), ← List.append_assoc, Sg.pts_snoc] : Sg.pts 3 0 (vs0 ++ vs1.take (j + 1)) = Sg.pts 3 0 (vs0 ++ vs1.take j) ++ [Sg.pt 3 (Sg.put (vs0 ++ vs1.take j)).length (vs1.getD j [])])
            clear hc hva0 hcell0 hvk hnk hszA hszB q1
            generalize Vl.nxt D (vs1.getD j []) = D' at *
            generalize hs1.getD j vhz = hh at *
            obtain ⟨A1, L1, C1⟩ := hh
            generalize Sg.pt 3 (Sg.put (vs0 ++ vs1.take j)).length (vs1.getD j []) = P at *
            obtain ⟨P0, P1, P2, P3⟩ := P
            simp only [pv] at hput
            simp only at cx hcell
            go_wp2_with fail
            go_region_held3 (fun W => W.cell? ⟨x, 1, none⟩ = some (.pointer (some ⟨m, 0, none⟩)) ∧ W.cell? ⟨b, off + j, none⟩ = some (.slice A1 L1 C1)) (first | go_keep | (refine ⟨?_, ?_⟩ <;> assumption))
              (first
                | (go_at_call 14; (with_reducible refine vworld wr.drew ?_); refine (hput _ (bd1 (Below.refl _ wr))).mono ?_; rintro e w3 ⟨rfl, hv3, hW3⟩; have hK3 := (hK.keep (bd1 (Below.refl _ wr))).wk hW3 hv3; have k3 := hK3.kw.cells.2; have c3 := hcell.out _ hK3.bel)
                | (go_at_call 14; (with_reducible refine vworld (wr.alloc (.cells #[.int .i64 0, .int .i64 0, .int .i64 0, .int .u32 0] 42)).drew ?_); refine (hput _ (bd1 bz4)).mono ?_; rintro e w3 ⟨rfl, hv3, hW3⟩; have hK3 := (hK.keep (bd1 bz4)).wk hW3 hv3; have k3 := hK3.kw.cells.2; have c3 := hcell.out _ hK3.bel; have z3 := hW3.blk (show (wr.alloc (.cells #[.int .i64 0, .int .i64 0, .int .i64 0, .int .u32 0] 42)).drew.heap[wr.heap.size]? = some (.cells #[.int .i64 0, .int .i64 0, .int .i64 0, .int .u32 0] 42 (0, 0)) from hz4) (by decide) (by decide) (by decide) (by decide); obtain ⟨y0, y1, y2, y3, yf⟩ := pbox_cells (q := Po.zero) z3; have yf0 := yf 0; have yf1 := yf 1; have yf2 := yf 2; have yf3 := yf 3; simp only [Po.zero] at y0 y1 y2 y3; have hK4 := hK3.pt4 z3 hK.bel.size (hK.fresh (Nat.le_refl _)) (.int .i64 P0) (.int .i64 P1) (.int .i64 P2) (.int .u32 (P3 : Nat)); have k4 := hK4.kw.cells.2; have c4 := hcell.out _ hK4.bel))
            · have hK4 := hK3.keep (below_alloc w3 (.cells #[.int .i64 P0, .int .i64 P1, .int .i64 P2, .int .u32 (P3 : Nat)] 42))
              obtain ⟨r0, r1, r2, r3, rf⟩ := pbox_cells (q := (P0, P1, P2, P3)) (heap_alloc_new w3 (.cells #[.int .i64 P0, .int .i64 P1, .int .i64 P2, .int .u32 (P3 : Nat)] 42))
              simp only at r0 r1 r2 r3
              generalize w3.alloc (.cells #[.int .i64 P0, .int .i64 P1, .int .i64 P2, .int .u32 (P3 : Nat)] 42) = W4 at *
              generalize w3.heap.size = g4 at *
              simp only [Exit.then]
              go_wp2_with (at_builtin; go_must (refine append_tg (d := Po.zero) pntE pvE (w0 := w) (B := w.heap.size) rfl (.tmp 110) (.tmp 112) rfl _ (k + j) (Sg.pts 3 0 (vs0 ++ vs1.take j)) rfl (hK4.pts.alloc _) (some ⟨W4.heap.size, 0, none⟩) 1 1 [(P0, P1, P2, P3)] rfl (lit_pt rfl) (fun h => by cases h) (by omega) (hK4.bel.alloc hK4.bel.size _) (by simp; have := hK4.bel.size; omega) ?_; intro a5 c5 w5 hg5 _ _ _ ho5 hb5 hs5))
              have hK5 := (hK4.keep (below_alloc W4 (.cells #[.int .i64 P0, .int .i64 P1, .int .i64 P2, .int .u32 (P3 : Nat)] 42))).grown hg5 ho5
              go_roundw
              case rel => exact ⟨j + 1, a5, c5, D', by omega, by go_num, rfl, by rw [hpt.out]; exact hK5, hTD'⟩
              case measure => simp [RowKit.intOf]; omega
            · obtain ⟨r0, r1, r2, r3, rf⟩ := pbox_cells (q := (P0, P1, P2, P3)) (pset4 z3 (.int .i64 P0) (.int .i64 P1) (.int .i64 P2) (.int .u32 (P3 : Nat)))
              simp only at r0 r1 r2 r3
              clear y0 y1 y2 y3 yf yf0 yf1 yf2 yf3
              generalize (((w3.setCell ⟨wr.heap.size, 0, none⟩ (.int .i64 P0)).setCell ⟨wr.heap.size, 1, none⟩ (.int .i64 P1)).setCell ⟨wr.heap.size, 2, none⟩ (.int .i64 P2)).setCell ⟨wr.heap.size, 3, none⟩ (.int .u32 (P3 : Nat)) = W4 at *
              generalize wr.heap.size = g4 at *
              simp only [Exit.then]
              go_wp2_with (at_builtin; go_must (refine append_tg (d := Po.zero) pntE pvE (w0 := w) (B := w.heap.size) rfl (.tmp 110) (.tmp 112) rfl _ (k + j) (Sg.pts 3 0 (vs0 ++ vs1.take j)) rfl (hK4.pts.alloc _) (some ⟨W4.heap.size, 0, none⟩) 1 1 [(P0, P1, P2, P3)] rfl (lit_pt rfl) (fun h => by cases h) (by omega) (hK4.bel.alloc hK4.bel.size _) (by simp; have := hK4.bel.size; omega) ?_; intro a5 c5 w5 hg5 _ _ _ ho5 hb5 hs5))
              have hK5 := (hK4.keep (below_alloc W4 (.cells #[.int .i64 P0, .int .i64 P1, .int .i64 P2, .int .u32 (P3 : Nat)] 42))).grown hg5 ho5
              go_roundw
              case rel => exact ⟨j + 1, a5, c5, D', by omega, by go_num, rfl, by rw [hpt.out]; exact hK5, hTD'⟩
              case measure => simp [RowKit.intOf]; omega
        · obtain rfl : j = n1 := by omega
          go_wp2_with fail
          have hv1l : j ≤ vs1.length := by have := hV1.out.1; omega
          obtain ⟨jj, hjj, hby, hlive⟩ := hTD.out.crash kn zs
          obtain ⟨l, hl⟩ : ∃ l, l = vs0 ++ vs1.take j := ⟨_, rfl⟩
          have hll : l.length = k + j := by have := hV0.out.1; rw [hl, List.length_append, List.length_take]; omega
          have hlp : Sg.put l = Sg.put vs0 ++ Sg.put (vs1.take j) := by rw [hl, Sg.put_append]
          have hl0 : l.take vs0.length = vs0 := by rw [hl, List.take_left]
          have hsm : Sg.Small l := fun v hv => by
            rw [hl] at hv
            rcases List.mem_append.1 hv with h | h
            · exact ⟨Nat.le_trans (hV0.out.2.1 v h) (by omega), hV0.out.2.2 v h⟩
            · exact ⟨Nat.le_trans (hV1.out.2.1 v (List.mem_of_mem_take h)) (by omega), hV1.out.2.2 v (List.mem_of_mem_take h)⟩
          have h0s := hS0.out vs0.length
          rw [List.take_length] at h0s
          have h1s := hS1.out j
          have hlen : (Sg.put l).length ≤ 10200 := by rw [hlp, List.length_append]; omega
          have hby2 : Vl.by' (Dk.crash D kn zs) (vname 3) = (Sg.put l).take ((Sg.put vs0).length + jj) := by
            have e1 : (Sg.put vs0).take ((Sg.put vs0).length + jj) = Sg.put vs0 := List.take_of_length_le (by omega)
            rw [hby, hlp, List.take_append, e1, Nat.add_sub_cancel_left]
          have hkept := fun hO => Vl.kept (D := Dk.crash D kn zs) hO hlive hsm (by omega) vs0.length ((Sg.put vs0).length + jj) (by have := hV0.out.1; omega) (by rw [hl0]; omega) (by rw [hlp, List.length_append]; omega) hby2
          have hcr := fun W (h : VD w.heap.size W p D) (hb : Below w.heap.size w W) => vd_crash h (bd1 (Below.refl _ W)) kn ta tn tc zs (hZ.out _ hb) hlt0 (Nat.le_trans hTD.out.few.2.1 (by omega)) (Nat.le_trans hTD.out.few.2.2.2 (by omega))
          rw [← hl] at hK
          have kx := hK.kw.cells.1
          obtain ⟨kc0, kc1, kc2⟩ := hK.crash
          have hbW := hK.bel
          have hKH : Hid (KI w.heap.size w wr x p m A C D pa pc (k + j) (Sg.pts 3 0 l) st kn ta tn tc) := hK
          clear hby h0s h1s hTD hlp hl0 hjj
          go_region_held3 (fun W => W.cell? ⟨x, 0, none⟩ = some (.pointer (some ⟨p, 0, none⟩)) ∧ W.cell? ⟨w.heap.size, 1, none⟩ = some (.int .i64 kn) ∧ W.cell? ⟨w.heap.size, 2, none⟩ = some (.slice ta tn tc)) (first | go_keep | (refine ⟨?_, ?_, ?_⟩ <;> assumption))
            (first
              | (go_at_call 18; (with_reducible refine vworld wr.drew ?_); refine (hcr wr hKH.out.kw.vd hbW).mono ?_; rintro e w6 ⟨rfl, hv6, hW6⟩; have hK6 := hKH.out.wk hW6 hv6; have x6 := hK6.kw.cells.1; obtain ⟨y60, y61, y62⟩ := hK6.crash))
          simp only [Exit.then]
          obtain ⟨D6, mm, hme, hd6, hkm, hml, hb6, hget⟩ := hkept hK6.kw.vd.ok
          have hD6l : (Vl.by' D6 (vname 3)).length ≤ 10200 := by rw [hb6]; exact Nat.le_trans (Sg.put_take_le l mm) hlen
          have hop : ∀ g, w6.heap.size = g → Calls Tryz.prog 19 #[.pointer (some ⟨p, 0, none⟩), .slice (some ⟨g, 0, none⟩) 1 1] (w6.alloc (.cells #[.int .i64 3] 3)) fun e w' => ∃ m' A' C', e = .returned (.tuple #[.pointer (some ⟨m', 0, none⟩), .int .i64 0]) ∧ LgAt w.heap.size w' m' p A' 1 C' [3] ∧ KI w.heap.size w w' x p m A C D6 pa pc (k + j) (Sg.pts 3 0 l) st kn ta tn tc := fun g hg => by
            subst hg
            have hba := below_alloc w6 (.cells #[.int .i64 3] 3)
            have hKa := hK6.keep hba
            have hll : (Vl.by' (Dk.crash D kn zs) (vname (Vl.last [3]))).length ≤ 100000 := by
              show (Vl.by' (Dk.crash D kn zs) (vname 3)).length ≤ 100000
              rw [hby2, List.length_take]; omega
            have hme2 : Vl.mend (Dk.crash D kn zs) (Vl.last [3]) = (D6, 0) := hme
            have := vopen_any (c := 1) hKa.kw.vd (lit_z w6 3 rfl) (by decide) hll hlive.dead (by rw [hme2])
            rw [hme2] at this
            refine this.mono ?_
            rintro e w' ⟨m', A', C', rfl, h1, h2, h3⟩
            exact ⟨m', A', C', rfl, h1.lower hKa.kw.vd.le, hKa.wk h3 h2⟩
          clear hkept hcr hme hby2 hlive
          go_wp2_with (go_at_call 19; go_must (refine (hop _ rfl).mono ?_; rintro e w7 ⟨m', A', C', rfl, hL7, hK7⟩))
          have hptr : TRow 4 pve Po.zero w7 pa (k + j) (Sg.pts 3 0 l) := trow_of_owns (l := Sg.pts 3 0 l) (d := Po.zero) pvE hK7.pts (by omega) (by omega)
          have hK7H : Hid (KI w.heap.size w w7 x p m A C D6 pa pc (k + j) (Sg.pts 3 0 l) st kn ta tn tc) := hK7
          have hL7H : Hid (LgAt w.heap.size w7 m' p A' 1 C' [3]) := hL7
          have hb7 := hK7.bel
          clear hop hK6 hK7 hL7 x6 y60 y61 y62 kx kc0 kc1 kc2
          go_loopw [18] (fun i wr => ∃ t : Nat, t ≤ k + j ∧ i = .int .i64 t ∧ Below w7.heap.size w7 wr) (fun i _ => k + j - (RowKit.intOf i).toNat)
          case atStart => exact ⟨0, by omega, rfl, Below.refl _ _⟩
          case round =>
            obtain ⟨t, ht, rfl, hbr⟩ := hrel
            by_cases hlt3 : t < k + j
            · obtain ⟨b9, o9, e9, hc9⟩ := (hptr.below hbr (Nat.le_refl _)).at (by omega)
              subst e9
              have hqt : (Sg.pts 3 0 l).getD t Po.zero = Sg.pt 3 (Sg.put (l.take t)).length (l.getD t []) := Sg.pts_get 3 l t (by omega)
              have hvt : l.getD t [] ∈ l := by simp [show t < l.length by omega]
              have hfit : Po.Fits (Sg.pt 3 (Sg.put (l.take t)).length (l.getD t [])) := Sg.pt_fits (by have := Sg.put_take_le l t; omega) (hsm _ hvt).1 (hsm _ hvt).2
              have hgt := vget_any (hL7H.out.keep hbr) (hK7H.out.kw.vd.keep hbr) _ hfit hd6 (by show (Vl.by' D6 (vname 3)).length ≤ 100000; omega)
              rw [hget t (by omega)] at hgt
              have hvsm := (hsm _ hvt).2
              have hvn := (hsm _ hvt).1
              have hbw := hb7.trans (hbr.mono hb7.size)
              have hrow := hc9 t hlt3
              rw [hqt] at hrow
              have hHV : Hid (l.getD t [] = if t < k then vs0.getD t [] else vs1.getD (t - k) []) := (by
                have h0 := hV0.out.1
                by_cases h : t < k
                · rw [if_pos h, hl, List.getD_eq_getElem?_getD, List.getElem?_append_left (by omega), ← List.getD_eq_getElem?_getD]
                · rw [if_neg h, hl, List.getD_eq_getElem?_getD, List.getElem?_append_right (by omega), List.getElem?_take, h0, if_pos (by omega), ← List.getD_eq_getElem?_getD] : l.getD t [] = if t < k then vs0.getD t [] else vs1.getD (t - k) [])
              clear hc9 hqt hfit hvt
              generalize l.getD t [] = v at *
              generalize Sg.pt 3 (Sg.put (l.take t)).length v = P at *
              obtain ⟨P0, P1, P2, P3⟩ := P
              have p0 : wr.cell? ⟨b9, o9 + t * 4, none⟩ = some (.int .i64 P0) := hrow 0 _ rfl
              have p1 : wr.cell? ⟨b9, o9 + t * 4 + 1, none⟩ = some (.int .i64 P1) := hrow 1 _ rfl
              have p2 : wr.cell? ⟨b9, o9 + t * 4 + 2, none⟩ = some (.int .i64 P2) := hrow 2 _ rfl
              have p3 : wr.cell? ⟨b9, o9 + t * 4 + 3, none⟩ = some (.int .u32 (P3 : Nat)) := hrow 3 _ rfl
              have i0 : (t : Int) < ((k + j : Nat) : Int) := by omega
              have i0' : (t : Int) < (k : Int) + (j : Int) := by omega
              have i00 : (0 : Int) ≤ (t : Int) := by omega
              clear hrow hlt3
              simp only [pv] at hgt
              unfold SValRes at hgt
              by_cases htk : t < k
              · have htm : t < mm := by have := hV0.out.1; omega
                rw [if_pos htm] at hgt
                simp only at hgt
                obtain ⟨b8, o8, e8, hc8⟩ := (hI0.out wr hbw).get (by omega)
                obtain ⟨hcell, hva⟩ := hc8 t htk
                have hvv : vs0.getD t [] = v := by rw [hHV.out, if_pos htk]
                rw [hvv] at hva
                cases e8
                have hlen8 : Hid (v.length = (hs0.getD t vhz).n) := hva.1.1
                generalize hs0.getD t vhz = hh at *
                obtain ⟨A8, L8, C8⟩ := hh
                simp only at hcell hlen8
                have hvar : Row .u8 wr A8 L8 v := hva.1
                have hcl8 := fun W (hb : Below wr.heap.size wr W) => (hb.cell (cell_lt hcell)).trans hcell
                have hdv : decide (v = v) = true := by simp
                have j1 : (t : Int) < (k : Int) := by omega
                have j2 : ¬ ((k : Int) ≤ (t : Int)) := by omega
                clear hc8 hva htm hvv htk
                go_wp2_with (first
                  | (go_at_call 21; have := ho8; go_must (refine (bytes_any _ _ _ v _ _ _ v _ (row_of_owns ho8 (fun x hx => hvsm x hx) (by omega)).1 (hvar.below hb8 (Nat.le_refl _))).mono ?_; rintro e w9 ⟨rfl, n9, rfl⟩))
                  | (go_at_call 20; go_must (refine hgt.mono ?_; rintro e w8 ⟨a8, c8, rfl, ho8, hb8⟩; have hcell8 := hcl8 _ hb8)))
                exact ⟨⟨t + 1, by omega, by first | rfl | go_num | simp, hbr.trans ((hb8.trans (bdr (Below.refl _ w8) n9 |>.mono hb8.size)).mono hbr.size)⟩, by simp [RowKit.intOf]; omega⟩
              · obtain ⟨u, hu⟩ : ∃ u, u = t - k := ⟨_, rfl⟩
                have j1 : ¬ ((t : Int) < (k : Int)) := by omega
                have j2 : (k : Int) ≤ (t : Int) := by omega
                by_cases htm : t < mm
                · rw [if_pos htm] at hgt
                  simp only at hgt
                  obtain ⟨b8, o8, e8, hc8⟩ := (hI1.out wr hbw).get (by omega)
                  obtain ⟨hcell, hva⟩ := hc8 u (by omega)
                  have hvv : vs1.getD u [] = v := by rw [hHV.out, if_neg htk, hu]
                  rw [hvv] at hva
                  cases e8
                  have hlen8 : Hid (v.length = (hs1.getD u vhz).n) := hva.1.1
                  generalize hs1.getD u vhz = hh at *
                  obtain ⟨A8, L8, C8⟩ := hh
                  simp only at hcell hlen8
                  have hvar : Row .u8 wr A8 L8 v := hva.1
                  have hcl8 := fun W (hb : Below wr.heap.size wr W) => (hb.cell (cell_lt hcell)).trans hcell
                  have hdv : decide (v = v) = true := by simp
                  have m1 : wrap64 ((t : Int) - (k : Int)) = (u : Int) := by unfold wrap64; omega
                  have m2 : IntKind.i64.wrap ((t : Int) - (k : Int)) = (u : Int) := by rw [IntKind.wrap_i64]; omega
                  have m3 : (0 : Int) ≤ (u : Int) := by omega
                  have m4 : (u : Int) < (j : Int) := by omega
                  have m5 : u < j := by omega
                  clear hc8 hva htm hvv htk hu
                  go_wp2_with (first
                    | (go_at_call 21; have := ho8; go_must (refine (bytes_any _ _ _ v _ _ _ v _ (row_of_owns ho8 (fun x hx => hvsm x hx) (by omega)).1 (hvar.below hb8 (Nat.le_refl _))).mono ?_; rintro e w9 ⟨rfl, n9, rfl⟩))
                    | (go_at_call 20; go_must (refine hgt.mono ?_; rintro e w8 ⟨a8, c8, rfl, ho8, hb8⟩; have hcell8 := hcl8 _ hb8)))
                  exact ⟨⟨t + 1, by omega, by first | rfl | go_num | simp, hbr.trans ((hb8.trans (bdr (Below.refl _ w8) n9 |>.mono hb8.size)).mono hbr.size)⟩, by simp [RowKit.intOf]; omega⟩
                · rw [if_neg htm] at hgt
                  simp only at hgt
                  clear htm htk hu hHV
                  go_wp2_with (go_at_call 20; go_must (refine hgt.mono ?_; rintro e w8 ⟨a8, c8, rfl, ho8, hb8⟩))
                  exact ⟨⟨t + 1, by omega, by first | rfl | go_num | simp, hbr.trans (hb8.mono hbr.size)⟩, by simp [RowKit.intOf]; omega⟩
            · obtain rfl : t = k + j := by omega
              have haw := vawake_any wr ((hTB.keep (hb7.trans (hbr.mono hb7.size))).tab)
              go_wp2_with (go_at_call 7; go_must (refine haw.mono ?_; rintro e w8 ⟨rfl, hb8⟩))
              go_ret
              exact ⟨rfl, (hb7.trans (hbr.mono hb7.size)).trans (hb8.mono (Nat.le_trans hb7.size hbr.size))⟩
end Go.Proofs.YtnoknmnbfkdccaaGreatDoor
