/- What the program's Sub of tallies does; all that is asked of the program, together. -/
import Derived.Test.YtfeaablomceejaaTB8
import Derived.Test.YtfeaablomceejaaTA6
namespace Go.Proofs.Ytfeaablomceejaa
open Go.RowKit

set_option maxRecDepth 100000 in
set_option maxHeartbeats 4000000 in
theorem tsubC : TSubC := by
  intro a n c l a' n' c' ps w hn hn' hi hp
  have hck := tcheck_any a n c l w hi.1
  cases hm : Ta.may l with
  | false =>
    have HR : Hid (Ta.subR l ps = (1, [])) := (by unfold Ta.subR; rw [if_pos (.inl hm)] : Ta.subR l ps = (1, []))
    simp only [hm, Bool.false_eq_true, if_false] at hck
    clear hm
    go_enter Try.func18, Try.ntmps18
    go_wp2_with (go_at_call 12; go_must (refine hck.mono ?_; rintro e w1 ⟨rfl, hb1⟩))
    go_ret2
    rw [HR.out]
    exact tno hb1
  | true =>
    simp only [hm, if_true] at hck
    have hmb := fun W (h : Below w.heap.size w W) => tmaybe_any a' n' c' ps W (hp.1.below h (Nat.le_refl _))
    cases hq : Ta.points ps with
    | false =>
      have HR : Hid (Ta.subR l ps = (1, [])) := (by unfold Ta.subR; rw [if_pos (.inr hq)] : Ta.subR l ps = (1, []))
      simp only [hq] at hmb
      clear hm hq
      go_enter Try.func18, Try.ntmps18
      go_wp2_with (first
        | (go_at_call 12; go_must (refine hck.mono ?_; rintro e w1 ⟨rfl, hb1⟩))
        | (go_at_call 21; go_must (refine (hmb _ hb1).mono ?_; rintro e w2 ⟨rfl, hb2⟩; have hb3 := hb1.trans (hb2.mono hb1.size))))
      go_ret2
      rw [HR.out]
      exact tno hb3
    | true =>
      simp only [hq] at hmb
      have hwe := fun W (h : Below w.heap.size w W) => tweigh_any a' n' c' ps W (by omega) (hp.1.below h (Nat.le_refl _))
      have hcl := fun W (h : Below w.heap.size w W) => tclone_any a n c l W (by omega) (hi.1.below h (Nat.le_refl _)) hi.2.2.1
      have hlen := Ta.shares_len ps
      rw [hp.1.1] at hlen
      have HX : Hid (∀ x ∈ Ta.shares ps, (1 ≤ x.1 ∧ x.1 ≤ 2147483647) ∧ 1 ≤ x.2 ∧ x.2 ≤ 4096) := Ta.shares_ok hq
      have H0 : Hid (Ta.Sbt l (Ta.shares ps) 0 l l) := Ta.sbt_zero hm _
      have HN : Hid (Ta.subS l (Ta.shares ps) = none → Ta.subR l ps = (3, [])) := (fun h => by
        unfold Ta.subR
        rw [if_neg (by rw [hm, hq]; simp), Ta.sub_subS (Ta.may_up hm) (Ta.points_nonneg hq), h] : Ta.subS l (Ta.shares ps) = none → Ta.subR l ps = (3, []))
      have HS : Hid (∀ m, Ta.subS l (Ta.shares ps) = some m → Ta.subR l ps = (0, m)) := (fun m h => by
        unfold Ta.subR
        rw [if_neg (by rw [hm, hq]; simp), Ta.sub_subS (Ta.may_up hm) (Ta.points_nonneg hq), h] : ∀ m, Ta.subS l (Ta.shares ps) = some m → Ta.subR l ps = (0, m))
      have HF : Hid (∀ x ∈ l, 1 ≤ x.1 ∧ x.1 ≤ 2147483647) := (fun x hx => (Ta.may_ok hm x hx).1 : ∀ x ∈ l, 1 ≤ x.1 ∧ x.1 ≤ 2147483647)
      have hll : Hid (l.length = n) := hi.1.1
      unfold ShRes at hwe hcl
      rw [hi.1.1] at hcl
      generalize Ta.shares ps = xs at *
      obtain ⟨M, hM⟩ : ∃ M, M = xs.length := ⟨_, rfl⟩
      rw [← hM] at hwe hlen
      have HM : Hid (xs.length = M) := hM.symm
      generalize Ta.subR l ps = R at *
      clear hm hq hM
      go_enter Try.func18, Try.ntmps18
      go_wp2_with (first
        | (go_at_call 12; go_must (refine hck.mono ?_; rintro e w1 ⟨rfl, hb1⟩))
        | (go_at_call 21; go_must (refine (hmb _ hb1).mono ?_; rintro e w2 ⟨rfl, hb2⟩; have hb3 := hb1.trans (hb2.mono hb1.size)))
        | (go_at_call 27; go_must (refine (hcl _ hb3).mono ?_; rintro e w3 ⟨a3, c3, rfl, hown3, hb4⟩; have hb5 := hb3.trans (hb4.mono hb3.size)))
        | (go_at_call 23; go_must (refine (hwe _ hb5).mono ?_; rintro e w4 ⟨a4, c4, rfl, hown4, hb6⟩; have hb7 := hb5.trans (hb6.mono hb5.size))))
      have hownL := own_kept (hown3.mono hb3.size) hb6
      have hsz : ∀ g, a3 = some ⟨g, 0, none⟩ → w.heap.size ≤ g ∧ g < w3.heap.size := fun g e => by
        subst e
        have := own_lt hown3
        exact ⟨Nat.le_trans hb3.size this.2, this.1⟩
      clear hck hmb hwe hcl hb1 hb2 hb3 hb4 hown3 hb5 hb6
      go_loopw [24] (fun i wr => ∃ (k : Nat) (left cur : List Ta.S), k ≤ M ∧ i = .int .i64 k ∧ Hid (Ta.Sbt l xs k left cur) ∧ Hid (left.length = n) ∧ Hid (∀ x ∈ left, 1 ≤ x.1 ∧ x.1 ≤ 2147483647) ∧ wr.ownsRow w.heap.size 47 2 (.slice a3 n c3) n (tcells se left) ∧ wr.ownsRow w3.heap.size 47 2 (.slice a4 M c4) M (tcells se xs) ∧ Below w.heap.size w wr) (fun i _ => M - (intOf i).toNat)
      case atStart => exact ⟨0, l, l, by omega, rfl, H0, hll, HF, hownL, hown4, hb7⟩
      case round =>
        obtain ⟨k, left, cur, hk, rfl, S, HL, HG, hl, hx, hbel⟩ := hrel
        clear hownL hown4 hb7 H0
        by_cases hlt : k < M
        · have hkx : k < xs.length := by rw [HM.out]; exact hlt
          obtain ⟨g4, rfl⟩ := town_blk hx (by omega)
          obtain ⟨t0, t1⟩ := tcells_at2 (l := xs) (j := k) hkx
          obtain ⟨y0, z0⟩ := own_cells hx t0
          obtain ⟨y1, z1⟩ := own_cells hx t1
          have hxo := HX.out (xs.getD k (0, 0)) (by rw [show xs.getD k (0, 0) = xs[k] by simp [hkx]]; exact List.getElem_mem _)
          have Hno : Hid (Ta.get left (xs.getD k (0, 0)).1 < (xs.getD k (0, 0)).2 → Ta.subS l xs = none) := (fun h => Ta.sbt_none S.out hkx h : Ta.get left (xs.getD k (0, 0)).1 < (xs.getD k (0, 0)).2 → Ta.subS l xs = none)
          have Hgo : Hid (∀ i, i < left.length → (left.getD i (0, 0)).1 = (xs.getD k (0, 0)).1 → (xs.getD k (0, 0)).2 ≤ (left.getD i (0, 0)).2 → ∃ cur', Ta.Sbt l xs (k + 1) (left.set i ((left.getD i (0, 0)).1, (left.getD i (0, 0)).2 - (xs.getD k (0, 0)).2)) cur') := (fun i h1 h2 h3 => ⟨_, Ta.sbt_step S.out hkx h1 h2 hxo.2.1 h3⟩ : ∀ i, i < left.length → (left.getD i (0, 0)).1 = (xs.getD k (0, 0)).1 → (xs.getD k (0, 0)).2 ≤ (left.getD i (0, 0)).2 → ∃ cur', Ta.Sbt l xs (k + 1) (left.set i ((left.getD i (0, 0)).1, (left.getD i (0, 0)).2 - (xs.getD k (0, 0)).2)) cur')
          generalize xs.getD k (0, 0) = x at *
          obtain ⟨x1, x2⟩ := x
          simp only at y0 y1 hxo Hno Hgo
          have i0 : (0 : Int) ≤ (k : Int) := by omega
          have i1 : (k : Int) < (M : Int) := by omega
          have hlA := hl.alloc (.cells #[.int .i64 x1, .int .i64 x2] 47)
          have hxA := hx.alloc (.cells #[.int .i64 x1, .int .i64 x2] 47)
          have hbA := hbel.alloc hbel.size (.cells #[.int .i64 x1, .int .i64 x2] 47)
          have s0 := cell_new wr #[.int .i64 x1, .int .i64 x2] 47 0
          have s1 := cell_new wr #[.int .i64 x1, .int .i64 x2] 47 1
          have HW : Hid (∀ W, Below (wr.alloc (.cells #[.int .i64 x1, .int .i64 x2] 47)).heap.size (wr.alloc (.cells #[.int .i64 x1, .int .i64 x2] 47)) W → W.cell? ⟨wr.heap.size, 0, none⟩ = some (.int .i64 x1) ∧ W.cell? ⟨wr.heap.size, 1, none⟩ = some (.int .i64 x2)) := (fun W hW => ⟨(hW.cell (p := ⟨wr.heap.size, 0, none⟩) (by simp)).trans s0, (hW.cell (p := ⟨wr.heap.size, 1, none⟩) (by simp)).trans s1⟩ : ∀ W, Below (wr.alloc (.cells #[.int .i64 x1, .int .i64 x2] 47)).heap.size (wr.alloc (.cells #[.int .i64 x1, .int .i64 x2] 47)) W → W.cell? ⟨wr.heap.size, 0, none⟩ = some (.int .i64 x1) ∧ W.cell? ⟨wr.heap.size, 1, none⟩ = some (.int .i64 x2))
          have hfi := tfind_any a3 n c3 left x1 (wr.alloc (.cells #[.int .i64 x1, .int .i64 x2] 47)) (by omega) (trow_of_owns seE hlA (by omega) (by omega)) S.out.ris.1
          have hsp : ∀ (i : Nat) (f : Bool), Found left x1 n i f → (f = false ∧ Hid (R = (3, []))) ∨ (f = true ∧ Hid (i < n ∧ (left.getD i (0, 0)).1 = x1 ∧ Ta.get left x1 = (left.getD i (0, 0)).2)) := fun i f hf => by
            cases f with
            | false => exact .inl ⟨rfl, (HN.out (Hno.out (by rw [Ta.get_out (hf.2.2 rfl)]; omega)) : R = (3, []))⟩
            | true => exact .inr ⟨rfl, (⟨(hf.2.1 rfl).1, (hf.2.1 rfl).2, Ta.get_found S.out.ris.1 HL.out hf⟩ : i < n ∧ (left.getD i (0, 0)).1 = x1 ∧ Ta.get left x1 = (left.getD i (0, 0)).2)⟩
          clear t0 t1 hl hx hbel hkx
          go_wp2_with (go_at_call 25; go_must (refine hfi.mono ?_; rintro e w5 ⟨i, f, rfl, hfd, hb5⟩; have hl5 := own_kept hlA hb5; have hx5 := own_kept hxA hb5; have hb6 := hbA.trans (hb5.mono hbA.size); obtain ⟨s2, s3⟩ := HW.out w5 hb5; rcases hsp i f hfd with ⟨rfl, hno⟩ | ⟨rfl, hyes⟩; clear hlA hxA hbA y0 y1 z0 z1 s0 s1 hfi hsp HW hfd hb5))
          · go_quiet (fail)
            have hb7 : Below w.heap.size w (w5.drewN nq) := hb6.trans (below_drewN _ _ _)
            go_wp2
            go_ret2
            rw [hno.out]
            exact tno hb7
          · have hin := hyes.out.1
            obtain ⟨g3, rfl⟩ := town_blk hl5 (by omega)
            obtain ⟨hg1, hg2⟩ := hsz g3 rfl
            have hil : i < left.length := by rw [HL.out]; exact hin
            obtain ⟨t0, t1⟩ := tcells_at2 (l := left) (j := i) hil
            obtain ⟨q0, r0⟩ := own_cells hl5 t0
            obtain ⟨q1, r1⟩ := own_cells hl5 t1
            have hle := S.out.le (left.getD i (0, 0)) (by rw [show left.getD i (0, 0) = left[i] by simp [hil]]; exact List.getElem_mem _)
            have hge := S.out.ris.2 (left.getD i (0, 0)) (by rw [show left.getD i (0, 0) = left[i] by simp [hil]]; exact List.getElem_mem _)
            have HT : Hid (∀ z, (tcells se left).set (i * 2 + 1) (.int .i64 z) = tcells se (left.set i ((left.getD i (0, 0)).1, z))) := (fun z => tcells_set z left i hil : ∀ z, (tcells se left).set (i * 2 + 1) (.int .i64 z) = tcells se (left.set i ((left.getD i (0, 0)).1, z)))
            have Hy := hyes.out.2
            have Hgo2 := Hgo.out i hil
            have HGi := HG.out (left.getD i (0, 0)) (by rw [show left.getD i (0, 0) = left[i] by simp [hil]]; exact List.getElem_mem _)
            generalize left.getD i (0, 0) = y at *
            obtain ⟨v1, v2⟩ := y
            simp only at q0 q1 hle hge HT Hy Hgo2 HGi
            have j1 : (0 : Int) ≤ (i : Int) := by omega
            have j2 : (i : Int) < (n : Int) := by omega
            have j3 : IntKind.i64.wrap (v2 - x2) = v2 - x2 := by rw [IntKind.wrap_i64]; omega
            have HY : Hid (v1 = x1 ∧ Ta.get left x1 = v2) := Hy
            clear Hy hyes Hgo t0 t1
            by_cases hvx : v2 < x2
            · have hd : decide (v2 < x2) = true := by simp [hvx]
              have hno : Hid (R = (3, [])) := HN.out (Hno.out (by rw [HY.out.2]; exact hvx))
              clear Hgo2
              go_quiet (fail)
              have hb7 : Below w.heap.size w (w5.drewN nq) := hb6.trans (below_drewN _ _ _)
              go_wp2
              go_ret2
              rw [hno.out]
              exact tno hb7
            · have hd : decide (v2 < x2) = false := by simp; omega
              obtain ⟨cur', hcur⟩ := Hgo2 HY.out.1 (by omega)
              have H2 : Hid (Ta.Sbt l xs (k + 1) (left.set i (v1, v2 - x2)) cur') := hcur
              have HL2 : Hid ((left.set i (v1, v2 - x2)).length = n) := (by rw [List.length_set]; exact HL.out : (left.set i (v1, v2 - x2)).length = n)
              have HG2 : Hid (∀ x ∈ left.set i (v1, v2 - x2), 1 ≤ x.1 ∧ x.1 ≤ 2147483647) := (fun x hx => by
                rcases List.mem_or_eq_of_mem_set hx with hx | hx
                · exact HG.out x hx
                · subst hx; exact HGi : ∀ x ∈ left.set i (v1, v2 - x2), 1 ≤ x.1 ∧ x.1 ≤ 2147483647)
              have hst : ∀ q, ((w5.drewN q).setCell ⟨g3, i * 2 + 1, none⟩ (.int .i64 (v2 - x2))).ownsRow w.heap.size 47 2 (.slice (some ⟨g3, 0, none⟩) n c3) n (tcells se (left.set i (v1, v2 - x2))) := fun q => by
                have := own_store (w := w5.drewN q) hl5 (i * 2 + 1) (.int .i64 (v2 - x2))
                rw [HT.out] at this
                exact this
              have hxs : ∀ q, ((w5.drewN q).setCell ⟨g3, i * 2 + 1, none⟩ (.int .i64 (v2 - x2))).ownsRow w3.heap.size 47 2 (.slice (some ⟨g4, 0, none⟩) M c4) M (tcells se xs) := fun q => by
                have h4 := own_lt hx5
                have hx6 : (w5.drewN q).ownsRow w3.heap.size 47 2 (.slice (some ⟨g4, 0, none⟩) M c4) M (tcells se xs) := hx5
                exact hx6.kept (turned_set (w5.drewN q) g3 (i * 2 + 1) (.int .i64 (v2 - x2))) (.inr (by intro e; simp only [Value.ownBlock, Option.some.injEq] at e; omega))
              have hbs : ∀ q, Below w.heap.size w ((w5.drewN q).setCell ⟨g3, i * 2 + 1, none⟩ (.int .i64 (v2 - x2))) := fun q => (hb6.trans (below_drewN _ _ _)).setCell hg1 _
              clear hcur Hgo2 HT hvx hl5 hx5
              go_quiet (fail)
              go_wp2_with fail
              go_region
              go_wp2
              go_roundw
              case rel => exact ⟨k + 1, left.set i (v1, v2 - x2), cur', by omega, by go_num, H2, HL2, HG2, hst _, hxs _, hbs _⟩
              case measure => simp [intOf]; omega
        · obtain rfl : k = M := by omega
          have hde := tdelete_any a3 n c3 w.heap.size left wr (by omega) hl hbel.size
          have HE : Hid (R = (0, Ta.keep left)) := HS.out _ (Ta.sbt_end (by rw [HM.out]; exact S.out))
          have HFt : Hid (SFit (Ta.keep left)) := (fun x hx => by
            have h1 := (List.mem_filter.mp hx).1
            have h2 := HG.out x h1
            have h3 := S.out.le x h1
            have h4 := S.out.ris.2 x h1
            omega : SFit (Ta.keep left))
          have HLn : Hid ((Ta.keep left).length ≤ n) := (by rw [← HL.out]; exact List.length_filter_le _ _ : (Ta.keep left).length ≤ n)
          clear S
          generalize Ta.keep left = K at *
          go_wp2_with (go_at_call 28; go_must (refine hde.mono ?_; rintro e w5 ⟨a5, c5, rfl, hown5, hb5⟩))
          go_ret2
          rw [HE.out]
          exact ⟨a5, c5, rfl, sh_of_own hown5 (by have := HLn.out; show K.length ≤ 1000000000; omega) HFt.out, hbel.trans hb5⟩

theorem tallyC : TallyC := ⟨tcheckC, tgetC, taddC, tsubC, tofC, tjoinC⟩
end Go.Proofs.Ytfeaablomceejaa
