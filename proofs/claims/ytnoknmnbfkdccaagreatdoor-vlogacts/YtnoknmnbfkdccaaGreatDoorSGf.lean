/- What the reference's Walk of layer 19 does. -/
import Derived.Test.YtnoknmnbfkdccaaGreatDoorSGb
import Derived.Test.YtnoknmnbfkdccaaGreatDoorFB
import Derived.Test.YtnoknmnbfkdccaaGreatDoorIG
namespace Go.Proofs.YtnoknmnbfkdccaaGreatDoor
open Go.RowKit

theorem Sg.tw_bad {fs : List Fr.F} {k : Nat} (h : ∀ j, j < k → Sg.good (fs.getD j (0, [])) = true) (hk : k < fs.length) (hb : Sg.good (fs.getD k (0, [])) = false) : fs.takeWhile Sg.good = fs.take k := by
  induction fs generalizing k with
  | nil => simp at hk
  | cons f fs ih =>
    cases k with
    | zero =>
      have : Sg.good f = false := by simpa using hb
      rw [List.takeWhile_cons_of_neg (by simp [this])]; rfl
    | succ k =>
      have h0 : Sg.good f = true := by simpa using h 0 (by omega)
      rw [List.takeWhile_cons_of_pos h0, List.take_succ_cons, ih (k := k) (fun j hj => by simpa using h (j + 1) (by omega)) (by simpa using hk) (by simpa using hb)]
theorem Sg.tw_all {fs : List Fr.F} (h : ∀ j, j < fs.length → Sg.good (fs.getD j (0, [])) = true) : fs.takeWhile Sg.good = fs := by
  obtain ⟨K, h1, h2, h3, h4⟩ := Sg.first_bad fs
  by_cases hK : K < fs.length
  · have := h4 hK
    rw [h K hK] at this
    cases this
  · rw [h2, List.take_of_length_le (by omega)]
theorem Sg.put_pre {fs : List Fr.F} {k : Nat} (h : ∀ j, j < k → Sg.good (fs.getD j (0, [])) = true) (hk : k ≤ fs.length) : Sg.put ((fs.take k).map Prod.snd) = Fr.all (fs.take k) := by
  have h1 := Sg.all_good (fs.take k) (fun f hf => by
    obtain ⟨j, hj, rfl⟩ := List.mem_iff_getElem.mp hf
    rw [List.length_take] at hj
    have := h j (by omega)
    have e : fs.getD j (0, []) = fs[j]'(by omega) := by simp [show j < fs.length by omega]
    rw [e] at this
    simpa using this)
  rw [Sg.put, ← h1]
theorem Sg.walk_bad {bs : List Nat} {k : Nat} (h : ∀ j, j < k → Sg.good ((Fr.scan bs).1.getD j (0, [])) = true) (hk : k < (Fr.scan bs).1.length) (hb : Sg.good ((Fr.scan bs).1.getD k (0, [])) = false) :
    Sg.walk bs = (((Fr.scan bs).1.take k).map Prod.snd, (Fr.all ((Fr.scan bs).1.take k)).length) := by rw [Sg.walk_scan, Sg.tw_bad h hk hb]
theorem Sg.walk_good {bs : List Nat} (h : ∀ j, j < (Fr.scan bs).1.length → Sg.good ((Fr.scan bs).1.getD j (0, [])) = true) :
    Sg.walk bs = ((Fr.scan bs).1.map Prod.snd, (Fr.scan bs).2.2) := by
  have h1 := Fr.scan_inv bs
  rw [Sg.walk_scan, Sg.tw_all h, h1.2.1, List.length_take, Nat.min_eq_left h1.1]
theorem Sg.pts_more {fs : List Fr.F} {k : Nat} (s : Int) (h : ∀ j, j < k → Sg.good (fs.getD j (0, [])) = true) (hk : k < fs.length) :
    Sg.pts s 0 ((fs.take (k + 1)).map Prod.snd) = Sg.pts s 0 ((fs.take k).map Prod.snd) ++ [(s, (((Fr.places fs 0).getD k 0 : Nat) : Int), ((fs.getD k (0, [])).2.length : Int), Crc.more 0 (fs.getD k (0, [])).2)] := by
  have e : fs.getD k (0, []) = fs[k] := by simp [hk]
  rw [List.take_succ_eq_append_getElem hk, List.map_append, List.map_cons, List.map_nil, Sg.pts_snoc, Sg.put_pre h (by omega), Sg.places_get fs 0 k hk, e, Sg.pt, Nat.zero_add]
theorem Sg.end_more {fs : List Fr.F} {k : Nat} (hk : k < fs.length) : (Fr.places fs 0).getD k 0 + (fs.getD k (0, [])).2.length + 4 = (Fr.all (fs.take (k + 1))).length := by
  rw [Sg.places_get fs 0 k hk, fall_take fs k hk, List.length_append, Fr.one_len, Fr.size, Sg.head]; omega

set_option maxRecDepth 100000 in
set_option maxHeartbeats 1000000 in
theorem refpoint_any (s z : Int) (a : Option Addr) (n c : Nat) (vs : List Nat) (w : World) (hr : Row .u8 w a n vs) :
    Calls Tryz.prog 92 #[.int .i64 s, .int .i64 z, .slice a n c] w fun e w' => e = .returned (.agg #[.int .i64 s, .int .i64 z, .int .i64 (n : Nat), .int .u32 (Crc.more 0 vs : Nat)]) ∧ Below w.heap.size w w' := by
  have hb0 := below_alloc w (.cells #[.int .i64 0, .int .i64 0, .int .i64 0, .int .u32 0] 42)
  have hof := refof_any a n c vs (w.alloc (.cells #[.int .i64 0, .int .i64 0, .int .i64 0, .int .u32 0] 42)) (hr.below hb0 (Nat.le_refl _))
  obtain ⟨⟨m0, m1, m2, m3⟩, ⟨g0, g1, g2, g3⟩, hs1, hb2⟩ := four_froz (Below.refl (w.alloc (.cells #[.int .i64 0, .int .i64 0, .int .i64 0, .int .u32 0] 42)).heap.size (w.alloc (.cells #[.int .i64 0, .int .i64 0, .int .i64 0, .int .u32 0] 42)))
  generalize Crc.more 0 vs = S at *
  go_enter Tryz.func92, Tryz.ntmps92
  go_wp2_with (go_at_call 117; refine hof.mono ?_; rintro e w1 ⟨rfl, hw1⟩; obtain rfl := hw1)
  exact bodyPost_ret (v := .agg #[.int .i64 s, .int .i64 z, .int .i64 (n : Nat), .int .u32 (S : Nat)]) (by simp [results, Tryz.results92, go_sem]) rfl ⟨rfl, by first | exact below_alloc w _ | exact below_four hb2 _ _ _ _⟩

theorem pl_get {pl : List Nat} {j : Nat} (h : j < pl.length) : (kcells .i64 pl)[j]? = some (.int .i64 (pl.getD j 0 : Nat)) := by simp [kcells, h]
theorem own_sm {w : World} {B e s n c : Nat} {a : Option Addr} {xs : List Value} (h : w.ownsRow B e s (.slice a n c) n xs) (hn : 0 < n) : ∃ g, a = some ⟨g, 0, none⟩ ∧ n ≤ c := by
  rcases h.2 with ⟨_, h0⟩ | ⟨g, cap, cur, e, _, _, hnc, _⟩
  · omega
  · simp only [Value.slice.injEq] at e
    exact ⟨g, e.1, by omega⟩
theorem swr_end {w W : World} {R : List (List Nat) × Nat} {vs : List (List Nat)} {s : Int} {k E c : Nat} {X : Int} {a : Option Addr} (h : R = (vs, E)) (hk : vs.length = k) (hX : X = (E : Int)) (ho : W.ownsRow w.heap.size 42 4 (.slice a k c) k (tcells pve (Sg.pts s 0 vs))) (hb : Below w.heap.size w W) :
    SWalkRes w (Sg.pts s 0 R.1, R.2) (.returned (.tuple #[.slice a k c, .int .i64 X])) W := by
  subst h; subst hk; subst hX
  exact ⟨a, c, by simp only [Sg.pts_length], by simp only [Sg.pts_length]; exact ho, hb⟩
theorem frm_at {w : World} {B : Nat} {g n c : Nat} {fs : List Fr.F} {cs : List Value} (h : w.ownsRow B 113 2 (.slice (some ⟨g, 0, none⟩) n c) n cs) (hh : Held w B fs cs) {i : Nat} (hi : i < fs.length) :
    ∃ A C, w.cell? ⟨g, i * 2, none⟩ = some (.int .i64 (fs.getD i (0, [])).1) ∧ w.cell? ⟨g, i * 2 + 1, none⟩ = some (.slice A (fs.getD i (0, [])).2.length C) ∧ Row .u8 w A (fs.getD i (0, [])).2.length (fs.getD i (0, [])).2 ∧ (fs.getD i (0, [])).2.length ≤ 1000000000 ∧ (-9223372036854775808 ≤ (fs.getD i (0, [])).1 ∧ (fs.getD i (0, [])).1 ≤ 9223372036854775807) ∧ Hid (cs[i * 2 + 1]? = some (.slice A (fs.getD i (0, [])).2.length C)) := by
  obtain ⟨A, C, q1, q2, q3, q4, q5, q6⟩ := hh.get i hi
  exact ⟨A, C, own_cell h _ _ q1, own_cell h _ _ q2, (row_of_owns q3 q4 (by omega)).1, q5, q6, q2⟩

set_option maxRecDepth 100000 in
set_option maxHeartbeats 4000000 in
theorem refwalk19_any (s : Int) (a : Option Addr) (len cap : Nat) (bs : List Nat) (w : World) (hbig : len ≤ 100000) (hshape : Shape a len cap) (hr : Row .u8 w a len bs) :
    Calls Tryz.prog 61 #[.int .i64 s, .slice a len cap] w (SWalkRes w (Sg.pts s 0 (Sg.walk bs).1, (Sg.walk bs).2)) := by
  obtain ⟨R, hR⟩ : ∃ R, R = Sg.walk bs := ⟨_, rfl⟩
  rw [← hR]
  have hb0 := below_alloc w (.cells #[] 42)
  have ho := made_t (enc := pve) (s := 4) w (B := w.heap.size) (E := 42) (Nat.le_refl _) rfl
  have hsc := refscan_any a len cap bs (w.alloc (.cells #[] 42)) hbig hshape (hr.below hb0 (Nat.le_refl _))
  have hbadR := fun k h1 h2 h3 => Sg.walk_bad (bs := bs) (k := k) h1 h2 h3
  have hgoodR := fun h => Sg.walk_good (bs := bs) h
  have hinv := Fr.scan_inv bs
  have hpl := hinv.2.2
  have hend := hinv.1
  rw [hr.1] at hend
  have hcnt := Fr.all_count (Fr.scan bs).1
  have hall := congrArg List.length hinv.2.1
  rw [List.length_take, hr.1, Nat.min_eq_left hend] at hall
  clear hinv
  obtain ⟨Q, hQ⟩ : ∃ Q, Q = Fr.scan bs := ⟨_, rfl⟩
  rw [← hQ] at hsc hbadR hgoodR hpl hend hcnt hall
  clear hQ
  obtain ⟨fs, pl, en⟩ := Q
  simp only at hbadR hgoodR hpl hend hcnt hall
  obtain ⟨n, hn⟩ : ∃ n, n = fs.length := ⟨_, rfl⟩
  have hsc : Calls Tryz.prog 91 #[.slice a len cap] (w.alloc (.cells #[] 42)) fun e w' => ∃ a1 c1 a2 c2 cs, e = .returned (.tuple #[.slice a1 n c1, .slice a2 n c2, .int .i64 (en : Nat)]) ∧ w'.ownsRow (w.alloc (.cells #[] 42)).heap.size 113 2 (.slice a1 n c1) n cs ∧ Held w' (w.alloc (.cells #[] 42)).heap.size fs cs ∧ w'.ownsRow (w.alloc (.cells #[] 42)).heap.size 3 1 (.slice a2 n c2) n (kcells .i64 pl) ∧ pl.length = n ∧ Below (w.alloc (.cells #[] 42)).heap.size (w.alloc (.cells #[] 42)) w' := by
    rw [hn]; exact hsc
  have Hn : Hid (n = fs.length) := hn
  have hn5 : n ≤ 100000 := by omega
  have HR : Hid (R = Sg.walk bs) := hR
  clear hr hn hR hcnt
  have Hbad : Hid (∀ k, (∀ j, j < k → Sg.good (fs.getD j (0, [])) = true) → k < fs.length → Sg.good (fs.getD k (0, [])) = false → R = ((fs.take k).map Prod.snd, (Fr.all (fs.take k)).length)) := (fun k h1 h2 h3 => by rw [HR.out]; exact hbadR k h1 h2 h3 : ∀ k, (∀ j, j < k → Sg.good (fs.getD j (0, [])) = true) → k < fs.length → Sg.good (fs.getD k (0, [])) = false → R = ((fs.take k).map Prod.snd, (Fr.all (fs.take k)).length))
  have Hgood : Hid ((∀ j, j < fs.length → Sg.good (fs.getD j (0, [])) = true) → R = (fs.map Prod.snd, en)) := (fun h => by rw [HR.out]; exact hgoodR h : (∀ j, j < fs.length → Sg.good (fs.getD j (0, [])) = true) → R = (fs.map Prod.snd, en))
  have Hpl : Hid (pl = Fr.places fs 0) := hpl
  have Hall : Hid ((Fr.all fs).length = en) := hall
  clear hbadR hgoodR HR hpl hall
  go_enter Tryz.func61, Tryz.ntmps61
  go_wp2_with (go_at_call 91; go_must (refine hsc.mono ?_; rintro e w1 ⟨a1, c1, a2, c2, cs, rfl, hownF, hheld, hownP, hpln, hbel1⟩; have hownL := owns_below ho hbel1; have hB1 := hb0.trans (hbel1.mono (by simp))))
  go_loopw [6, 10] (fun v i wr => ∃ (k : Nat) (a' : Option Addr) (c' : Nat), k ≤ n ∧ i = .int .i64 k ∧ v = .slice a' k c' ∧ wr.ownsRow (w.alloc (.cells #[] 42)).heap.size 113 2 (.slice a1 n c1) n cs ∧ Held wr (w.alloc (.cells #[] 42)).heap.size fs cs ∧ wr.ownsRow (w.alloc (.cells #[] 42)).heap.size 3 1 (.slice a2 n c2) n (kcells .i64 pl) ∧
      wr.ownsRow w.heap.size 42 4 (.slice a' k c') k (tcells pve (Sg.pts s 0 ((fs.take k).map Prod.snd))) ∧ Below w.heap.size w wr ∧ Hid (∀ j, j < k → Sg.good (fs.getD j (0, [])) = true)) (fun _ i _ => n - (intOf i).toNat)
  case atStart => exact ⟨0, _, _, by omega, rfl, rfl, hownF, hheld, hownP, hownL, hB1, (fun j hj => by omega : ∀ j, j < 0 → Sg.good (fs.getD j (0, [])) = true)⟩
  case round =>
    clear hownF hheld hownP hownL hB1 hbel1 ho hb0 hsc
    obtain ⟨k, a', c', hk, rfl, rfl, hownF, hheld, hownP, hownL, hbel, hgd⟩ := hrel
    have hsz := hbel.size
    by_cases hlt : k < n
    · obtain ⟨g1, rfl, hg1⟩ := own_sm hownF (by omega)
      obtain ⟨g2, rfl, hg2⟩ := own_sm hownP (by omega)
      obtain ⟨A, C, p0, p1, prow, pl1, pk1, hcs1⟩ := frm_at hownF hheld (i := k) (by rw [← Hn.out]; exact hlt)
      have Hb := fun h => Hbad.out k hgd.out (by rw [← Hn.out]; exact hlt) h
      have Hx := Sg.good_iff (fs.getD k (0, []))
      by_cases hx : (fs.getD k (0, [])).1 = 2
      · rw [hx] at p0
        by_cases hy : (fs.getD k (0, [])).2.length ≤ 4096
        · have Hg2 : Hid (∀ j, j < k + 1 → Sg.good (fs.getD j (0, [])) = true) := (fun j hj => by
            by_cases h : j < k
            · exact hgd.out j h
            · obtain rfl : j = k := by omega
              exact Hx.mpr ⟨hx, hy⟩ : ∀ j, j < k + 1 → Sg.good (fs.getD j (0, [])) = true)
          have Hpt := Sg.pts_more (fs := fs) (k := k) s hgd.out (by rw [← Hn.out]; exact hlt)
          rw [← Hpl.out] at Hpt
          have Hpt : Hid (_ = _) := Hpt
          have hpj0 := pl_get (pl := pl) (j := k) (by rw [hpln]; omega)
          have hpl0 : Hid ((kcells .i64 pl)[k]? = some (.int .i64 (pl.getD k 0 : Nat))) := hpj0
          have hpj := own_cell hownP k (.int .i64 (pl.getD k 0 : Nat)) hpj0
          clear hpj0
          have hpb : pl.getD k 0 ≤ 100000 := by
            have h1 := Sg.end_more (fs := fs) (k := k) (by rw [← Hn.out]; exact hlt)
            rw [← Hpl.out] at h1
            have h2 := fall_take_le fs (k + 1)
            rw [Hall.out] at h2; omega
          have hpoint := fun W (h : Row .u8 W A (fs.getD k (0, [])).2.length (fs.getD k (0, [])).2) => refpoint_any s (pl.getD k 0 : Nat) A (fs.getD k (0, [])).2.length C (fs.getD k (0, [])).2 W h
          have hpoint := hpoint wr.drew (prow.below (Below.refl _ _).drew (Nat.le_refl _))
          clear Hb Hx hx prow
          generalize Crc.more 0 (fs.getD k (0, [])).2 = S at *
          generalize (fs.getD k (0, [])).2.length = L at *
          generalize pl.getD k 0 = P at *
          have hlit : ∀ (j : Nat) (v : Value), (pve (s, (P : Int), (L : Int), S))[j]? = some v → (#[.int .i64 s, .int .i64 (P : Int), .int .i64 (L : Int), .int .u32 (S : Nat)] : Array Value)[j]? = some v := by
            intro j v h
            simpa [pve] using h
          go_wp2_with fail
          go_region_held3 (fun w' => w'.cell? ⟨g2, k, none⟩ = some (.int .i64 (P : Nat)) ∧ w'.cell? ⟨g1, k * 2 + 1, none⟩ = some (.slice A L C)) (first | go_keep | (refine ⟨?_, ?_⟩ <;> assumption))
            (first
            | ((go_at_call 92; go_must (refine hpoint.mono ?_; rintro e w1 ⟨rfl, hbel1d⟩; have hbel1 : Below wr.heap.size wr w1 := below_of_drew hbel1d; have hs1 := hbel1.size; have hF1 := owns_below hownF hbel1; have hH1 := hheld.below hbel1; have hP1 := owns_below hownP hbel1; have hL1 := owns_below hownL hbel1; have hB1 := hbel.trans (hbel1.mono hsz); have t1 := (hbel1.cell (cell_lt hpj)).trans hpj; have t2 := (hbel1.cell (cell_lt p1)).trans p1)))
            | ((refine step_tg pntE pvE (w0 := w) (B := w.heap.size) (d := Po.zero) (by rfl) _ _ (by rfl) _ k (Sg.pts s 0 ((fs.take k).map Prod.snd)) (by rfl) (hL1.alloc _) (some ⟨w1.heap.size, 0, none⟩) 1 1 [(s, (P : Int), (L : Int), S)] (by rfl) (trow_lit w1 _ _ (s, (P : Int), (L : Int), S) rfl hlit) (fun h => by cases h) (by omega) (hB1.alloc (by omega) _) (by simp; omega) ?_; intro a3 c3 w3 hg3 _ _ hl3 hB3; have hoL := hL1.alloc (.cells #[.int .i64 s, .int .i64 (P : Int), .int .i64 (L : Int), .int .u32 (S : Nat)] 42); have hoF := hF1.alloc (.cells #[.int .i64 s, .int .i64 (P : Int), .int .i64 (L : Int), .int .u32 (S : Nat)] 42); have hoP := hP1.alloc (.cells #[.int .i64 s, .int .i64 (P : Int), .int .i64 (L : Int), .int .u32 (S : Nat)] 42); have hF3 := hoF.kept hg3 (own_apart hoF hoL (by decide)); have hP3 := hoP.kept hg3 (own_apart hoP hoL (by decide)); have hH3 := (hH1.below (below_alloc w1 (.cells #[.int .i64 s, .int .i64 (P : Int), .int .i64 (L : Int), .int .u32 (S : Nat)] 42))).grown hoL (by decide) hg3; have t3 := own_cell hP3 k _ hpl0.out; have t4 := own_cell hF3 (k * 2 + 1) _ hcs1.out)))
          all_goals
            go_wp2
            go_roundw
          case rel => exact ⟨k + 1, a3, c3, by omega, by go_num, rfl, hF3, hH3, hP3, (by rw [Hpt.out]; exact hl3), hB3, Hg2⟩
          case measure => simp [intOf]; omega
        · have H := Hb (by rw [Bool.eq_false_iff]; intro h; exact hy (Hx.mp h).2)
          have H : Hid (_ = _) := H
          clear Hb Hx hx prow
          generalize (fs.getD k (0, [])).2.length = L at *
          rcases Nat.eq_zero_or_pos k with rfl | hk0
          · have H2 : Hid (R = ([], 0)) := (by rw [H.out]; simp [Fr.all] : R = ([], 0))
            clear H
            go_wp2
            go_ret2
            exact swr_end H2.out rfl rfl hownL hbel
          · obtain ⟨j, rfl⟩ : ∃ j, k = j + 1 := ⟨k - 1, by omega⟩
            obtain ⟨A', C', q0, q1, _, ql, _, _⟩ := frm_at hownF hheld (i := j) (by rw [← Hn.out]; omega)
            have Hend := Sg.end_more (fs := fs) (k := j) (by rw [← Hn.out]; omega)
            rw [← Hpl.out] at Hend
            have hpj := own_cell hownP j (.int .i64 (pl.getD j 0 : Nat)) (pl_get (by rw [hpln]; omega))
            have hEb : (Fr.all (fs.take (j + 1))).length ≤ 100000 := by have := fall_take_le fs (j + 1); rw [Hall.out] at this; omega
            have Hvs : Hid (((fs.take (j + 1)).map Prod.snd).length = j + 1) := (by rw [List.length_map, List.length_take, ← Hn.out]; omega : ((fs.take (j + 1)).map Prod.snd).length = j + 1)
            clear q0
            generalize (fs.getD j (0, [])).2.length = L' at *
            generalize pl.getD j 0 = P' at *
            obtain ⟨E', hE'⟩ : ∃ E', E' = (Fr.all (fs.take (j + 1))).length := ⟨_, rfl⟩
            rw [← hE'] at Hend hEb H
            clear hE'
            have hw1 : wrap64 (((j + 1 : Nat) : Int) - 1) = (j : Int) := by unfold wrap64; omega
            have hw2 : wrap64 (((j : Int) + 1) - 1) = (j : Int) := by unfold wrap64; omega
            have hw3 : IntKind.i64.wrap (((j : Int) + 1) - 1) = (j : Int) := by rw [IntKind.wrap_i64]; omega
            go_wp2_with fail
            go_quiet (fail)
            go_wp2
            go_ret2
            refine swr_end H.out Hvs.out ?_ (by first | exact hownL | exact hownL.drewN _) (by first | exact hbel | exact hbel.trans (below_drewN _ _ _))
            omega
      · have H := Hb (by rw [Bool.eq_false_iff]; intro h; exact hx (Hx.mp h).1)
        have H : Hid (_ = _) := H
        clear Hb Hx prow
        have hxb : ((fs.getD k (0, [])).1 != 2) = true := by simpa using hx
        clear hx
        generalize (fs.getD k (0, [])).1 = X at *
        rcases Nat.eq_zero_or_pos k with rfl | hk0
        · have H2 : Hid (R = ([], 0)) := (by rw [H.out]; simp [Fr.all] : R = ([], 0))
          clear H
          go_wp2
          go_ret2
          exact swr_end H2.out rfl rfl hownL hbel
        · obtain ⟨j, rfl⟩ : ∃ j, k = j + 1 := ⟨k - 1, by omega⟩
          obtain ⟨A', C', q0, q1, _, ql, _, _⟩ := frm_at hownF hheld (i := j) (by rw [← Hn.out]; omega)
          have Hend := Sg.end_more (fs := fs) (k := j) (by rw [← Hn.out]; omega)
          rw [← Hpl.out] at Hend
          have hpj := own_cell hownP j (.int .i64 (pl.getD j 0 : Nat)) (pl_get (by rw [hpln]; omega))
          have hEb : (Fr.all (fs.take (j + 1))).length ≤ 100000 := by have := fall_take_le fs (j + 1); rw [Hall.out] at this; omega
          have Hvs : Hid (((fs.take (j + 1)).map Prod.snd).length = j + 1) := (by rw [List.length_map, List.length_take, ← Hn.out]; omega : ((fs.take (j + 1)).map Prod.snd).length = j + 1)
          clear q0
          generalize (fs.getD j (0, [])).2.length = L' at *
          generalize pl.getD j 0 = P' at *
          obtain ⟨E', hE'⟩ : ∃ E', E' = (Fr.all (fs.take (j + 1))).length := ⟨_, rfl⟩
          rw [← hE'] at Hend hEb H
          clear hE'
          have hw1 : wrap64 (((j + 1 : Nat) : Int) - 1) = (j : Int) := by unfold wrap64; omega
          have hw2 : wrap64 (((j : Int) + 1) - 1) = (j : Int) := by unfold wrap64; omega
          have hw3 : IntKind.i64.wrap (((j : Int) + 1) - 1) = (j : Int) := by rw [IntKind.wrap_i64]; omega
          go_wp2_with fail
          go_quiet (fail)
          go_wp2
          go_ret2
          refine swr_end H.out Hvs.out ?_ (by first | exact hownL | exact hownL.drewN _) (by first | exact hbel | exact hbel.trans (below_drewN _ _ _))
          omega
    · obtain rfl : k = n := by omega
      have H : Hid (R = (fs.map Prod.snd, en)) := (Hgood.out (fun j hj => hgd.out j (by rw [Hn.out]; exact hj)) : R = (fs.map Prod.snd, en))
      have Hvs : Hid ((fs.map Prod.snd).length = k) := (by rw [List.length_map, ← Hn.out] : (fs.map Prod.snd).length = k)
      rw [List.take_of_length_le (by rw [← Hn.out]; exact Nat.le_refl _)] at hownL
      go_wp2
      go_ret2
      exact swr_end H.out Hvs.out rfl hownL hbel
end Go.Proofs.YtnoknmnbfkdccaaGreatDoor
