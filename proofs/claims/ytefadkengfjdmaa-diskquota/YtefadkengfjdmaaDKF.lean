/- The disk's Append, whole. -/
import Derived.Test.YtefadkengfjdmaaDKE
namespace Go.Proofs.Ytefadkengfjdmaa
open Go.RowKit Go.Shelf

/-- a file's bytes, with some behind them -/
def Dk.appended (D : Dk.D) (s : ByteArray) (bs : List Nat) : Dk.D := match Dk.find D s with
  | some (n, f) => { D with files := mput D.files n (Dk.appF f bs) }
  | none => { Dk.created D s with files := mput (Dk.created D s).files (D.last + 1) (Dk.appF ⟨[], 0⟩ bs) }
/-- what Append does and tells -/
def Dk.append (D : Dk.D) (s : ByteArray) (bs : List Nat) : Dk.D × Int :=
  if D.dead = true then (D, 9) else if ¬ (1 ≤ s.size ∧ s.size ≤ 16) then (D, 1) else
    if (Dk.find D s = none ∧ 5000 ≤ D.names.length) ∨ D.quota < Dk.sum D.files + bs.length then (D, 7) else Dk.acted D (Dk.appended D s bs)

set_option maxRecDepth 100000 in
set_option maxHeartbeats 4000000 in
theorem appendD_any {w : World} {p : Nat} {D : Dk.D} {S : Nat → Prop} (h : DK w p D S) (hSw : ∀ k, S k → k < w.heap.size) (s : ByteArray) (ax : Option Addr) (m c : Nat) (bs : List Nat) (hn : D.turns.length ≤ 1000000) (hlast : D.last ≤ 1000000) (hnames : D.names.length ≤ 1000000)
    (hrow : Row .u8 w ax m bs) (hnil : ax = none → m = 0 ∧ c = 0) (hax : ∀ b o, ax = some ⟨b, o, none⟩ → ¬ S b ∧ b < w.heap.size) :
    Calls Try.prog 10 #[.pointer (some ⟨p, 0, none⟩), .string s, .slice ax m c] w fun e w' => e = .returned (.int .i64 (Dk.append D s bs).2) ∧ DK w' p (Dk.append D s bs).1 (grow1 S w) ∧ OnlyIn S w w' := by
  have hgr : ∀ {W : World}, Below w.heap.size w W → DK W p D (grow1 S w) ∧ OnlyIn S w W := fun {W} hb => ⟨h.keep (fun k hk _ => hb.block k hk) fun _ _ h => .inl h, OnlyIn.of_below hb⟩
  obtain ⟨hO, fm, nm, sm, tv, J, hP, hS⟩ := h
  have hPW : ∀ {W : World}, Below w.heap.size w W → Parts W p D (Dk.sum D.files) fm nm sm tv J := fun {W} hb => hP.keep fun k hk => hb.block k (hP.lt hk)
  have hdead := fun (W : World) (hb : Below w.heap.size w W) => dead_any (hPW hb)
  have hisn := fun (W : World) => isname_any s W
  have hbl : bs.length = m := hrow.1
  have hq := hO.q
  have hu := hO.use
  have hfar : ∀ i, ¬ S (w.heap.size + i) := fun i h => by have := hSw _ h; omega
  unfold Dk.append
  rw [hbl]
  by_cases hd : D.dead = true
  · rw [hd] at hdead
    rw [if_pos hd]
    clear hd
    go_enter Try.func10, Try.ntmps10
    go_wp2_with (go_at_call 21; go_must (refine Calls.mono (hdead _ ?_) ?_; (focus (repeat first | exact Below.refl _ _ | refine bal ?_ _ | refine bdr ?_ _ | refine bd1 ?_)); rintro e w1 ⟨rfl, hw⟩; rw [hw]; clear hw w1))
    go_ret
    exact ⟨rfl, hgr (bal (bal (bal (Below.refl _ w) _) _) _)⟩
  · rw [if_neg hd]
    rw [Bool.not_eq_true] at hd
    rw [hd] at hdead
    clear hd
    by_cases hs : 1 ≤ s.size ∧ s.size ≤ 16
    · rw [if_neg (fun h => h hs)]
      rw [decide_eq_true hs] at hisn
      have hz : s.size ≤ 16 := hs.2
      clear hs
      rcases hP.findJ hO s with ⟨e1, e2⟩ | ⟨num, x, f, e1, e2, e3, e4⟩
      · have hfd := fun (W : World) (hb : Below w.heap.size w W) => find_none (hPW hb) s e2 ((hPW hb).look0 hO)
        unfold Dk.appended
        simp only [e1, true_and]
        have hact := fun (W : World) (b0 b1 b2 b3 : Nat) (hb : Below w.heap.size w W) (s0 : ¬ S b0) (s1 : ¬ S b1) (s3 : ¬ S b3) (k0 : W.cell? ⟨b0, 0, none⟩ = some (.pointer none)) (kf : W.frozen? ⟨b0, 0, none⟩ = false) (k1 : W.cell? ⟨b1, 0, none⟩ = some (.pointer (some ⟨p, 0, none⟩))) (k2 : W.cell? ⟨b2, 0, none⟩ = some (.string s)) (k3 : W.cell? ⟨b3, 0, none⟩ = some (.slice ax m c)) (h01 : b0 ≠ b1) (h03 : b0 ≠ b3) (hx0 : ∀ b o, ax = some ⟨b, o, none⟩ → ¬ S b ∧ b ≠ b0) (hr : Dk.sum D.files + m ≤ D.quota) =>
          append1_none hO (hPW hb) hS hn hlast s hz b0 b1 b2 b3 s0 s1 s3 ax m c bs k0 kf k1 k2 k3 h01 h03 (hrow.below hb (Nat.le_refl _)) hnil hx0 hr
        have hcx : ∀ mm, let W := ((((w.alloc (.cells #[.pointer (some ⟨p, 0, none⟩)] 26)).alloc (.cells #[.string s] 9)).alloc (.cells #[.slice ax m c] 31)).drewN mm).alloc (.cells #[.pointer none] 54)
            Below w.heap.size w W ∧ W.cell? ⟨w.heap.size + 1 + 1 + 1, 0, none⟩ = some (.pointer none) ∧ W.cell? ⟨w.heap.size, 0, none⟩ = some (.pointer (some ⟨p, 0, none⟩)) ∧ W.cell? ⟨w.heap.size + 1, 0, none⟩ = some (.string s) ∧ W.cell? ⟨w.heap.size + 1 + 1, 0, none⟩ = some (.slice ax m c) ∧ W.frozen? ⟨w.heap.size + 1 + 1 + 1, 0, none⟩ = false := fun mm =>
          ⟨bal (bdr (bal (bal (bal (Below.refl _ w) _) _) _) _) _, by simp [go_sem], by simp [go_sem], by simp [go_sem], by simp [go_sem], by simp [go_sem]⟩
        by_cases hg1 : 5000 ≤ D.names.length
        · rw [if_pos (.inl hg1)]
          go_enter Try.func10, Try.ntmps10
          go_wp2_with (first | (go_at_call 21; go_must (refine Calls.mono (hdead _ ?_) ?_; (focus (repeat first | exact Below.refl _ _ | refine bal ?_ _ | refine bdr ?_ _ | refine bd1 ?_)); rintro e w1 ⟨rfl, hw⟩; rw [hw]; clear hw w1)) | (go_at_call 22; go_must (refine (hisn _).mono ?_; rintro e w1 ⟨rfl, hw⟩; rw [hw]; clear hw w1)) | (go_at_call 23; go_must (refine Calls.mono (hfd _ ?_) ?_; (focus (repeat first | exact Below.refl _ _ | refine bal ?_ _ | refine bdr ?_ _ | refine bd1 ?_)); rintro e w1 ⟨rfl, mm, hw⟩; subst hw)))
          obtain ⟨bw, k0, k1, k2, k3, kf⟩ := hcx mm
          generalize ((((w.alloc (.cells #[.pointer (some ⟨p, 0, none⟩)] 26)).alloc (.cells #[.string s] 9)).alloc (.cells #[.slice ax m c] 31)).drewN mm).alloc (.cells #[.pointer none] 54) = W at bw k0 k1 k2 k3 kf ⊢
          obtain ⟨⟨c0, c1, c2, c3, c4, c5, c6, c7, c8, c9⟩, hf⟩ := (hPW bw).cells
          have hrm := fun n => room_any (hPW (bdr bw n)) hO.use hO.q
          have hln : ∀ n, (Builtin.len_ #[46] 3 #[.map (some nm)]).run Try.prog (W.drewN n) = .ok (.int .i64 (D.names.length : Int)) (W.drewN n) := fun n => run_len_at Try.underlying46 3 ((hPW bw).names.drewN n)
          have hd1 : decide ((5000 : Int) ≤ (D.names.length : Int)) = true := decide_eq_true (by omega)
          go_quiet (fail)
          go_wp2
          go_ret
          exact ⟨rfl, hgr (bdr bw _)⟩
        · have hd0 : decide ((5000 : Int) ≤ (D.names.length : Int)) = false := decide_eq_false (by omega)
          by_cases hg2 : D.quota < Dk.sum D.files + m
          · rw [if_pos (.inr hg2)]
            go_enter Try.func10, Try.ntmps10
            go_wp2_with (first | (go_at_call 21; go_must (refine Calls.mono (hdead _ ?_) ?_; (focus (repeat first | exact Below.refl _ _ | refine bal ?_ _ | refine bdr ?_ _ | refine bd1 ?_)); rintro e w1 ⟨rfl, hw⟩; rw [hw]; clear hw w1)) | (go_at_call 22; go_must (refine (hisn _).mono ?_; rintro e w1 ⟨rfl, hw⟩; rw [hw]; clear hw w1)) | (go_at_call 23; go_must (refine Calls.mono (hfd _ ?_) ?_; (focus (repeat first | exact Below.refl _ _ | refine bal ?_ _ | refine bdr ?_ _ | refine bd1 ?_)); rintro e w1 ⟨rfl, mm, hw⟩; subst hw)))
            obtain ⟨bw, k0, k1, k2, k3, kf⟩ := hcx mm
            generalize ((((w.alloc (.cells #[.pointer (some ⟨p, 0, none⟩)] 26)).alloc (.cells #[.string s] 9)).alloc (.cells #[.slice ax m c] 31)).drewN mm).alloc (.cells #[.pointer none] 54) = W at bw k0 k1 k2 k3 kf ⊢
            obtain ⟨⟨c0, c1, c2, c3, c4, c5, c6, c7, c8, c9⟩, hf⟩ := (hPW bw).cells
            have hrm := fun n => room_any (hPW (bdr bw n)) hO.use hO.q
            have hln : ∀ n, (Builtin.len_ #[46] 3 #[.map (some nm)]).run Try.prog (W.drewN n) = .ok (.int .i64 (D.names.length : Int)) (W.drewN n) := fun n => run_len_at Try.underlying46 3 ((hPW bw).names.drewN n)
            have hd2 : decide ((D.quota : Int) - ((Dk.sum D.files : Nat) : Int) < (m : Int)) = true := decide_eq_true (by omega)
            go_quiet ((go_at_call 9; refine Calls.quiet_of (hrm _)))
            go_wp2
            go_ret
            exact ⟨rfl, hgr (bdr bw _)⟩
          · rw [if_neg (by omega)]
            go_enter Try.func10, Try.ntmps10
            go_wp2_with (first | (go_at_call 21; go_must (refine Calls.mono (hdead _ ?_) ?_; (focus (repeat first | exact Below.refl _ _ | refine bal ?_ _ | refine bdr ?_ _ | refine bd1 ?_)); rintro e w1 ⟨rfl, hw⟩; rw [hw]; clear hw w1)) | (go_at_call 22; go_must (refine (hisn _).mono ?_; rintro e w1 ⟨rfl, hw⟩; rw [hw]; clear hw w1)) | (go_at_call 23; go_must (refine Calls.mono (hfd _ ?_) ?_; (focus (repeat first | exact Below.refl _ _ | refine bal ?_ _ | refine bdr ?_ _ | refine bd1 ?_)); rintro e w1 ⟨rfl, mm, hw⟩; subst hw)))
            obtain ⟨bw, k0, k1, k2, k3, kf⟩ := hcx mm
            generalize ((((w.alloc (.cells #[.pointer (some ⟨p, 0, none⟩)] 26)).alloc (.cells #[.string s] 9)).alloc (.cells #[.slice ax m c] 31)).drewN mm).alloc (.cells #[.pointer none] 54) = W at bw k0 k1 k2 k3 kf ⊢
            obtain ⟨⟨c0, c1, c2, c3, c4, c5, c6, c7, c8, c9⟩, hf⟩ := (hPW bw).cells
            have hrm := fun n => room_any (hPW (bdr bw n)) hO.use hO.q
            have hln : ∀ n, (Builtin.len_ #[46] 3 #[.map (some nm)]).run Try.prog (W.drewN n) = .ok (.int .i64 (D.names.length : Int)) (W.drewN n) := fun n => run_len_at Try.underlying46 3 ((hPW bw).names.drewN n)
            have hd2 : decide ((D.quota : Int) - ((Dk.sum D.files : Nat) : Int) < (m : Int)) = false := decide_eq_false (by omega)
            go_quiet ((go_at_call 9; refine Calls.quiet_of (hrm _)))
            have hc := hact (W.drewN nq) (w.heap.size + 1 + 1 + 1) w.heap.size (w.heap.size + 1) (w.heap.size + 1 + 1) (bdr bw _) (hfar 3) (hfar 0) (hfar 2) k0 kf k1 k2 k3 (by omega) (by omega) (fun b o e => ⟨(hax b o e).1, by have := (hax b o e).2; omega⟩) (by omega)
            have hact2 := act_any (S := fun k => S k ∨ k = w.heap.size + 1 + 1 + 1) ⟨hO, fm, nm, sm, tv, J, hPW (bdr bw nq), fun k hk => .inl (hS k hk)⟩ { Dk.created D s with files := mput (Dk.created D s).files (D.last + 1) (Dk.appF ⟨[], 0⟩ bs) } 25 _ rfl rfl (enters_lit Try.func25 (by kernel_rfl) rfl) (hc.mono fun e w' h => ⟨h.1, h.2.1.keep (fun _ _ _ => rfl) (fun k _ h => h.imp .inl id), h.2.2⟩)
            go_wp2_with (go_at_call 24; go_must (refine hact2.mono ?_; rintro e w1 ⟨rfl, hDK1, hon1⟩))
            go_ret
            refine ⟨rfl, hDK1.keep (fun _ _ _ => rfl) fun k _ h => ?_, ?_⟩
            · rcases h with (h | h) | h
              · exact .inl h
              · exact .inr (by omega)
              · exact .inr (Nat.le_trans (bdr bw nq).size h)
            · exact (OnlyIn.of_below (bdr bw nq)).trans (hon1.mono fun k _ h => h.imp id fun h => by omega)
      · have hfd := fun (W : World) (hb : Below w.heap.size w W) => find_some (hPW hb) s e2 e3
        unfold Dk.appended
        simp only [e1, reduceCtorEq, false_and, false_or]
        have hact := fun (W : World) (b0 b1 b2 b3 : Nat) (hb : Below w.heap.size w W) (s0 : ¬ S b0) (s1 : ¬ S b1) (s3 : ¬ S b3) (k0 : W.cell? ⟨b0, 0, none⟩ = some (.pointer (some ⟨x.q, 0, none⟩))) (k1 : W.cell? ⟨b1, 0, none⟩ = some (.pointer (some ⟨p, 0, none⟩))) (k3 : W.cell? ⟨b3, 0, none⟩ = some (.slice ax m c)) (hr : Dk.sum D.files + m ≤ D.quota) =>
          act_any ⟨hO, fm, nm, sm, tv, J, hPW hb, hS⟩ { D with files := mput D.files num (Dk.appF f bs) } 25 _ rfl rfl (enters_lit Try.func25 (by kernel_rfl) rfl) (append1_some hO (hPW hb) hS e3 b0 b1 b2 b3 s0 s1 s3 ax m c bs k0 k1 k3 (hrow.below hb (Nat.le_refl _)) hnil hr)
        have hcx : ∀ mm, let W := ((((w.alloc (.cells #[.pointer (some ⟨p, 0, none⟩)] 26)).alloc (.cells #[.string s] 9)).alloc (.cells #[.slice ax m c] 31)).drewN mm).alloc (.cells #[.pointer (some ⟨x.q, 0, none⟩)] 54)
            Below w.heap.size w W ∧ W.cell? ⟨w.heap.size + 1 + 1 + 1, 0, none⟩ = some (.pointer (some ⟨x.q, 0, none⟩)) ∧ W.cell? ⟨w.heap.size, 0, none⟩ = some (.pointer (some ⟨p, 0, none⟩)) ∧ W.cell? ⟨w.heap.size + 1, 0, none⟩ = some (.string s) ∧ W.cell? ⟨w.heap.size + 1 + 1, 0, none⟩ = some (.slice ax m c) ∧ W.frozen? ⟨w.heap.size + 1 + 1 + 1, 0, none⟩ = false := fun mm =>
          ⟨bal (bdr (bal (bal (bal (Below.refl _ w) _) _) _) _) _, by simp [go_sem], by simp [go_sem], by simp [go_sem], by simp [go_sem], by simp [go_sem]⟩
        by_cases hg2 : D.quota < Dk.sum D.files + m
        · rw [if_pos hg2]
          go_enter Try.func10, Try.ntmps10
          go_wp2_with (first | (go_at_call 21; go_must (refine Calls.mono (hdead _ ?_) ?_; (focus (repeat first | exact Below.refl _ _ | refine bal ?_ _ | refine bdr ?_ _ | refine bd1 ?_)); rintro e w1 ⟨rfl, hw⟩; rw [hw]; clear hw w1)) | (go_at_call 22; go_must (refine (hisn _).mono ?_; rintro e w1 ⟨rfl, hw⟩; rw [hw]; clear hw w1)) | (go_at_call 23; go_must (refine Calls.mono (hfd _ ?_) ?_; (focus (repeat first | exact Below.refl _ _ | refine bal ?_ _ | refine bdr ?_ _ | refine bd1 ?_)); rintro e w1 ⟨rfl, mm, hw⟩; subst hw)))
          obtain ⟨bw, k0, k1, k2, k3, kf⟩ := hcx mm
          generalize ((((w.alloc (.cells #[.pointer (some ⟨p, 0, none⟩)] 26)).alloc (.cells #[.string s] 9)).alloc (.cells #[.slice ax m c] 31)).drewN mm).alloc (.cells #[.pointer (some ⟨x.q, 0, none⟩)] 54) = W at bw k0 k1 k2 k3 kf ⊢
          obtain ⟨⟨c0, c1, c2, c3, c4, c5, c6, c7, c8, c9⟩, hf⟩ := (hPW bw).cells
          have hrm := fun n => room_any (hPW (bdr bw n)) hO.use hO.q
          have hd2 : decide ((D.quota : Int) - ((Dk.sum D.files : Nat) : Int) < (m : Int)) = true := decide_eq_true (by omega)
          go_quiet ((go_at_call 9; refine Calls.quiet_of (hrm _)))
          go_wp2
          go_ret
          exact ⟨rfl, hgr (bdr bw _)⟩
        · rw [if_neg hg2]
          go_enter Try.func10, Try.ntmps10
          go_wp2_with (first | (go_at_call 21; go_must (refine Calls.mono (hdead _ ?_) ?_; (focus (repeat first | exact Below.refl _ _ | refine bal ?_ _ | refine bdr ?_ _ | refine bd1 ?_)); rintro e w1 ⟨rfl, hw⟩; rw [hw]; clear hw w1)) | (go_at_call 22; go_must (refine (hisn _).mono ?_; rintro e w1 ⟨rfl, hw⟩; rw [hw]; clear hw w1)) | (go_at_call 23; go_must (refine Calls.mono (hfd _ ?_) ?_; (focus (repeat first | exact Below.refl _ _ | refine bal ?_ _ | refine bdr ?_ _ | refine bd1 ?_)); rintro e w1 ⟨rfl, mm, hw⟩; subst hw)))
          obtain ⟨bw, k0, k1, k2, k3, kf⟩ := hcx mm
          generalize ((((w.alloc (.cells #[.pointer (some ⟨p, 0, none⟩)] 26)).alloc (.cells #[.string s] 9)).alloc (.cells #[.slice ax m c] 31)).drewN mm).alloc (.cells #[.pointer (some ⟨x.q, 0, none⟩)] 54) = W at bw k0 k1 k2 k3 kf ⊢
          obtain ⟨⟨c0, c1, c2, c3, c4, c5, c6, c7, c8, c9⟩, hf⟩ := (hPW bw).cells
          have hrm := fun n => room_any (hPW (bdr bw n)) hO.use hO.q
          have hd2 : decide ((D.quota : Int) - ((Dk.sum D.files : Nat) : Int) < (m : Int)) = false := decide_eq_false (by omega)
          go_quiet ((go_at_call 9; refine Calls.quiet_of (hrm _)))
          have hc := hact (W.drewN nq) (w.heap.size + 1 + 1 + 1) w.heap.size (w.heap.size + 1) (w.heap.size + 1 + 1) (bdr bw _) (hfar 3) (hfar 0) (hfar 2) k0 k1 k3 (by omega)
          go_wp2_with (go_at_call 24; go_must (refine hc.mono ?_; rintro e w1 ⟨rfl, hDK1, hon1⟩))
          go_ret
          exact ⟨rfl, hDK1.after (bdr bw _), hon1.after (bdr bw _)⟩
    · rw [if_pos hs]
      rw [decide_eq_false hs] at hisn
      go_enter Try.func10, Try.ntmps10
      go_wp2_with (first | (go_at_call 21; go_must (refine Calls.mono (hdead _ ?_) ?_; (focus (repeat first | exact Below.refl _ _ | refine bal ?_ _ | refine bdr ?_ _ | refine bd1 ?_)); rintro e w1 ⟨rfl, hw⟩; rw [hw]; clear hw w1)) | (go_at_call 22; go_must (refine (hisn _).mono ?_; rintro e w1 ⟨rfl, hw⟩; rw [hw]; clear hw w1)))
      go_ret
      exact ⟨rfl, hgr (bal (bal (bal (Below.refl _ w) _) _) _)⟩
end Go.Proofs.Ytefadkengfjdmaa
