/- The disk's Remove and Rename. -/
import Derived.Test.YtefadkengfjdmaaDKB
import Derived.StillTailTactics
namespace Go.Proofs.Ytefadkengfjdmaa
open Go.RowKit Go.Shelf

/-- the disk behind a turn -/
def Dk.turned (D : Dk.D) (t : Dk.T) : Dk.D := { D with names := Dk.turn t D.names, turns := D.turns ++ [t] }
theorem Dk.turn_mem {t : Dk.T} {l : List (ByteArray × Nat)} {x : ByteArray × Nat} (h : x ∈ Dk.turn t l) : x ∈ l ∨ (t.given ≠ ⟨#[]⟩ ∧ x = (t.given, t.file)) := by
  unfold Dk.turn at h
  split at h
  · exact .inl ((mdel_sub l t.taken).subset h)
  · rename_i hg
    rcases mput_mem h with h | h
    · exact .inl ((mdel_sub l t.taken).subset h)
    · exact .inr ⟨hg, h⟩
theorem Dk.turn_nodup {t : Dk.T} {l : List (ByteArray × Nat)} (h : (l.map (·.1)).Nodup) : ((Dk.turn t l).map (·.1)).Nodup := by
  have h1 : ((mdel l t.taken).map (·.1)).Nodup := h.sublist ((mdel_sub l t.taken).map _)
  unfold Dk.turn
  split
  · exact h1
  · exact mput_nodup h1
theorem Dk.Ok.turned {D : Dk.D} (h : Dk.Ok D) (t : Dk.T) (hz : t.given.size ≤ 16) (ht : t.given ≠ ⟨#[]⟩ → t.file ∈ D.files.map (·.1)) : Dk.Ok (Dk.turned D t) := by
  refine ⟨h.q, h.use, h.fk, h.pos, Dk.turn_nodup h.nk, h.kk, ?_, h.kf, ?_, h.stop, h.fault, ?_, h.ks, ?_⟩
  · intro x hx
    rcases Dk.turn_mem hx with h1 | ⟨h1, rfl⟩
    · exact h.nf x h1
    · exact ht h1
  · intro t' ht' hg
    rcases List.mem_append.1 ht' with h1 | h1
    · exact h.tf t' h1 hg
    · simp at h1; subst h1; exact ht hg
  · intro x hx
    rcases Dk.turn_mem hx with h1 | ⟨h1, rfl⟩
    · exact h.ns x h1
    · exact hz
  · intro t' ht'
    rcases List.mem_append.1 ht' with h1 | h1
    · exact h.ts t' h1
    · simp at h1; subst h1; exact hz
theorem foot_turns {p fm nm sm : Nat} {tv tv' : Value} {J : List (Nat × FH × Dk.F)} {S : Nat → Prop} (hS : ∀ k, foot p fm nm sm tv J k → S k) (hv : ∀ g, tv'.ownBlock = some g → S g) : ∀ k, foot p fm nm sm tv' J k → S k := by
  rintro k (h | h | h | h | h | h)
  · exact hS k (.inl h)
  · exact hS k (.inr (.inl h))
  · exact hS k (.inr (.inr (.inl h)))
  · exact hS k (.inr (.inr (.inr (.inl h))))
  · exact hv k h
  · exact hS k (.inr (.inr (.inr (.inr (.inr h)))))

theorem turn_dk {w : World} {p fm nm sm : Nat} {D : Dk.D} {tv : Value} {J : List (Nat × FH × Dk.F)} {S : Nat → Prop} (hO : Dk.Ok D) (hP : Parts w p D (Dk.sum D.files) fm nm sm tv J) (hS : ∀ k, foot p fm nm sm tv J k → S k) (t : Dk.T) (hn : D.turns.length ≤ 1000000) (hz : t.given.size ≤ 16) (ht : t.given ≠ ⟨#[]⟩ → t.file ∈ D.files.map (·.1)) :
    Calls Try.prog 35 #[.pointer (some ⟨p, 0, none⟩), tval t] w fun e w' => e = .returned (.tuple #[]) ∧ DK w' p (Dk.turned D t) (grow1 S w) ∧ OnlyIn S w w' := by
  refine (turn_any hP t hn).mono ?_
  rintro e w' ⟨rfl, ⟨tv', hP', hv⟩, hon⟩
  refine ⟨rfl, ⟨hO.turned t hz ht, fm, nm, sm, tv', J, hP', foot_turns (tv := tv) (fun k hk => .inl (hS k hk)) fun g hg => (hv g hg).imp (fun h => hS g (.inr (.inr (.inr (.inr (.inl h)))))) id⟩, hon.mono fun k _ hk => ?_⟩
  rcases hk with rfl | rfl | hk
  · exact hS k (.inl rfl)
  · exact hS k (.inr (.inr (.inl rfl)))
  · exact hS k (.inr (.inr (.inr (.inr (.inl hk)))))

set_option maxHeartbeats 1000000 in
theorem remove1_any {w : World} {p fm nm sm : Nat} {D : Dk.D} {tv : Value} {J : List (Nat × FH × Dk.F)} {S : Nat → Prop} (hO : Dk.Ok D) (hP : Parts w p D (Dk.sum D.files) fm nm sm tv J) (hS : ∀ k, foot p fm nm sm tv J k → S k) (hn : D.turns.length ≤ 1000000) (s : ByteArray)
    (b0 b1 : Nat) (k0 : w.cell? ⟨b0, 0, none⟩ = some (.pointer (some ⟨p, 0, none⟩))) (k1 : w.cell? ⟨b1, 0, none⟩ = some (.string s)) :
    Calls Try.prog 36 #[.pointer (some ⟨b0, 0, none⟩), .pointer (some ⟨b1, 0, none⟩)] w fun e w' => e = .returned (.tuple #[]) ∧ DK w' p (Dk.turned D ⟨s, ⟨#[]⟩, 0⟩) (grow1 S w) ∧ OnlyIn S w w' := by
  have hc := turn_dk hO hP hS ⟨s, ⟨#[]⟩, 0⟩ hn (Nat.zero_le _) (fun h => absurd rfl h)
  simp only [tval, Int.cast_ofNat_Int] at hc
  go_enter Try.func36, Try.ntmps36
  go_wp2_with (go_at_call 35; go_must (refine hc.mono ?_; rintro e w1 ⟨rfl, hDK1, hon1⟩))
  first | go_end0 | refine bodyPost_ret (results_none rfl _ _ _) rfl ?_
  exact ⟨rfl, hDK1, hon1⟩

/-- what Remove does and tells -/
def Dk.remove (D : Dk.D) (s : ByteArray) : Dk.D × Int :=
  if D.dead = true then (D, 9) else if Dk.find D s = none then (D, 3) else Dk.acted D (Dk.turned D ⟨s, ⟨#[]⟩, 0⟩)

set_option maxHeartbeats 2000000 in
theorem removeD_any {w : World} {p : Nat} {D : Dk.D} {S : Nat → Prop} (h : DK w p D S) (s : ByteArray) (hn : D.turns.length ≤ 1000000) :
    Calls Try.prog 17 #[.pointer (some ⟨p, 0, none⟩), .string s] w fun e w' => e = .returned (.int .i64 (Dk.remove D s).2) ∧ DK w' p (Dk.remove D s).1 (grow1 S w) ∧ OnlyIn S w w' := by
  have hgr : ∀ {W : World}, Below w.heap.size w W → DK W p D (grow1 S w) ∧ OnlyIn S w W := fun {W} hb => ⟨h.keep (fun k hk _ => hb.block k hk) fun _ _ h => .inl h, OnlyIn.of_below hb⟩
  obtain ⟨hO, fm, nm, sm, tv, J, hP, hS⟩ := h
  have hPW : ∀ {W : World}, Below w.heap.size w W → Parts W p D (Dk.sum D.files) fm nm sm tv J := fun {W} hb => hP.keep fun k hk => hb.block k (hP.lt hk)
  have hdead := fun (W : World) (hb : Below w.heap.size w W) => dead_any (hPW hb)
  unfold Dk.remove
  by_cases hd : D.dead = true
  · rw [hd] at hdead
    rw [if_pos hd]
    clear hd
    go_enter Try.func17, Try.ntmps17
    go_wp2_with (go_at_call 21; go_must (refine Calls.mono (hdead _ ?_) ?_; (focus (repeat first | exact Below.refl _ _ | refine bal ?_ _ | refine bdr ?_ _ | refine bd1 ?_)); rintro e w1 ⟨rfl, hw⟩; rw [hw]; clear hw w1))
    go_ret
    exact ⟨rfl, hgr (bal (bal (Below.refl _ w) _) _)⟩
  · rw [if_neg hd]
    rw [Bool.not_eq_true] at hd
    rw [hd] at hdead
    clear hd
    rcases hP.findJ hO s with ⟨e1, e2⟩ | ⟨num, x, f, e1, e2, e3, e4⟩
    · have hfd := fun (W : World) (hb : Below w.heap.size w W) => find_none (hPW hb) s e2 ((hPW hb).look0 hO)
      rw [if_pos e1]
      go_enter Try.func17, Try.ntmps17
      go_wp2_with (first | (go_at_call 21; go_must (refine Calls.mono (hdead _ ?_) ?_; (focus (repeat first | exact Below.refl _ _ | refine bal ?_ _ | refine bdr ?_ _ | refine bd1 ?_)); rintro e w1 ⟨rfl, hw⟩; rw [hw]; clear hw w1)) | (go_at_call 23; go_must (refine Calls.mono (hfd _ ?_) ?_; (focus (repeat first | exact Below.refl _ _ | refine bal ?_ _ | refine bdr ?_ _ | refine bd1 ?_)); rintro e w1 ⟨rfl, m, hw⟩; subst hw)))
      go_ret
      exact ⟨rfl, hgr (bdr (bal (bal (Below.refl _ w) _) _) _)⟩
    · have hfd := fun (W : World) (hb : Below w.heap.size w W) => find_some (hPW hb) s e2 e3
      have hact := fun (W : World) (b0 b1 : Nat) (hb : Below w.heap.size w W) (k0 : W.cell? ⟨b0, 0, none⟩ = some (.pointer (some ⟨p, 0, none⟩))) (k1 : W.cell? ⟨b1, 0, none⟩ = some (.string s)) =>
        act_any ⟨hO, fm, nm, sm, tv, J, hPW hb, hS⟩ (Dk.turned D ⟨s, ⟨#[]⟩, 0⟩) 36 _ rfl rfl (enters_lit Try.func36 (by kernel_rfl) rfl) (remove1_any hO (hPW hb) hS hn s b0 b1 k0 k1)
      rw [if_neg (by rw [e1]; simp)]
      go_enter Try.func17, Try.ntmps17
      go_wp2_with (first | (go_at_call 21; go_must (refine Calls.mono (hdead _ ?_) ?_; (focus (repeat first | exact Below.refl _ _ | refine bal ?_ _ | refine bdr ?_ _ | refine bd1 ?_)); rintro e w1 ⟨rfl, hw⟩; rw [hw]; clear hw w1)) | (go_at_call 23; go_must (refine Calls.mono (hfd _ ?_) ?_; (focus (repeat first | exact Below.refl _ _ | refine bal ?_ _ | refine bdr ?_ _ | refine bd1 ?_)); rintro e w1 ⟨rfl, m, hw⟩; subst hw)) | (go_at_call 24; go_must (refine Calls.mono (hact (((w.alloc (.cells #[.pointer (some ⟨p, 0, none⟩)] 26)).alloc (.cells #[.string s] 9)).drewN m) w.heap.size (w.heap.size + 1) (bdr (bal (bal (Below.refl _ w) _) _) _) (by simp [go_sem]) (by simp [go_sem])) ?_; rintro e w2 ⟨rfl, hDK1, hon1⟩)))
      go_ret
      exact ⟨rfl, hDK1.after (bdr (bal (bal (Below.refl _ w) _) _) _), hon1.after (bdr (bal (bal (Below.refl _ w) _) _) _)⟩

/-- names behind a renaming -/
def Dk.renamed (D : Dk.D) (old fresh : ByteArray) (n : Nat) : Dk.D := if old = fresh then D else Dk.turned D ⟨old, fresh, n⟩

set_option maxRecDepth 100000 in
set_option maxHeartbeats 2000000 in
theorem rename1_any {w : World} {p fm nm sm num : Nat} {D : Dk.D} {tv : Value} {J : List (Nat × FH × Dk.F)} {S : Nat → Prop} (hO : Dk.Ok D) (hP : Parts w p D (Dk.sum D.files) fm nm sm tv J) (hS : ∀ k, foot p fm nm sm tv J k → S k) (hn : D.turns.length ≤ 1000000) (old fresh : ByteArray) (hz : fresh.size ≤ 16) (hl : look D.names old = some num)
    (b0 b1 b2 : Nat) (k0 : w.cell? ⟨b0, 0, none⟩ = some (.string old)) (k1 : w.cell? ⟨b1, 0, none⟩ = some (.string fresh)) (k2 : w.cell? ⟨b2, 0, none⟩ = some (.pointer (some ⟨p, 0, none⟩))) :
    Calls Try.prog 34 #[.pointer (some ⟨b0, 0, none⟩), .pointer (some ⟨b1, 0, none⟩), .pointer (some ⟨b2, 0, none⟩)] w fun e w' => e = .returned (.tuple #[]) ∧ DK w' p (Dk.renamed D old fresh num) (grow1 S w) ∧ OnlyIn S w w' := by
  unfold Dk.renamed
  by_cases he : old = fresh
  · rw [if_pos he]
    subst he
    go_enter Try.func34, Try.ntmps34
    go_wp2
    first | go_end0 | refine bodyPost_ret (results_none rfl _ _ _) rfl ?_
    exact ⟨rfl, ⟨hO, fm, nm, sm, tv, J, hP, fun k hk => .inl (hS k hk)⟩, OnlyIn.refl _ _⟩
  · rw [if_neg he]
    obtain ⟨⟨c0, c1, c2, c3, c4, c5, c6, c7, c8, c9⟩, hf⟩ := hP.cells
    have hne : (old.toList == fresh.toList) = false := str_ne fun e => he (kb_inj e)
    have hl1 : (Instr.lookup 46 (.map (some nm)) (.string old) false).run Try.prog w.drew = .ok (.int .i64 (num : Int)) w.drew := (run_lookup_at skE Try.underlying46 (h := MapAt.keep (w' := w.drew) hP.names rfl) old).1 num hl
    have hm : Try.prog.follows .mixedOrders = true := by kernel_rfl
    have hc := turn_dk (w := w.drew) (S := S) hO (hP.keep fun k _ => rfl) hS ⟨old, fresh, num⟩ hn hz (fun _ => hO.nf _ (look_mem hl))
    simp only [tval] at hc
    clear he
    go_enter Try.func34, Try.ntmps34
    go_wp2
    go_still_tail 10, hm
    go_wp2_with (go_at_call 35; go_must (refine hc.mono ?_; rintro e w1 ⟨rfl, hDK1, hon1⟩))
    first | go_end0 | refine bodyPost_ret (results_none rfl _ _ _) rfl ?_
    exact ⟨rfl, hDK1, hon1.after (W := w.drew) (bd1 (Below.refl _ _))⟩

/-- what Rename does and tells -/
def Dk.rename (D : Dk.D) (old fresh : ByteArray) : Dk.D × Int :=
  if D.dead = true then (D, 9) else if ¬ (1 ≤ fresh.size ∧ fresh.size ≤ 16) then (D, 1) else match Dk.find D old with
    | none => (D, 3)
    | some (n, _) => Dk.acted D (Dk.renamed D old fresh n)

theorem Dk.renamed_stop (D : Dk.D) (old fresh : ByteArray) (n : Nat) : (Dk.renamed D old fresh n).stop = D.stop ∧ (Dk.renamed D old fresh n).fault = D.fault := by
  unfold Dk.renamed
  split <;> exact ⟨rfl, rfl⟩

set_option maxHeartbeats 2000000 in
theorem renameD_any {w : World} {p : Nat} {D : Dk.D} {S : Nat → Prop} (h : DK w p D S) (old fresh : ByteArray) (hn : D.turns.length ≤ 1000000) :
    Calls Try.prog 16 #[.pointer (some ⟨p, 0, none⟩), .string old, .string fresh] w fun e w' => e = .returned (.int .i64 (Dk.rename D old fresh).2) ∧ DK w' p (Dk.rename D old fresh).1 (grow1 S w) ∧ OnlyIn S w w' := by
  have hgr : ∀ {W : World}, Below w.heap.size w W → DK W p D (grow1 S w) ∧ OnlyIn S w W := fun {W} hb => ⟨h.keep (fun k hk _ => hb.block k hk) fun _ _ h => .inl h, OnlyIn.of_below hb⟩
  obtain ⟨hO, fm, nm, sm, tv, J, hP, hS⟩ := h
  have hPW : ∀ {W : World}, Below w.heap.size w W → Parts W p D (Dk.sum D.files) fm nm sm tv J := fun {W} hb => hP.keep fun k hk => hb.block k (hP.lt hk)
  have hdead := fun (W : World) (hb : Below w.heap.size w W) => dead_any (hPW hb)
  have hisn := fun (W : World) => isname_any fresh W
  unfold Dk.rename
  by_cases hd : D.dead = true
  · rw [hd] at hdead
    rw [if_pos hd]
    clear hd
    go_enter Try.func16, Try.ntmps16
    go_wp2_with (go_at_call 21; go_must (refine Calls.mono (hdead _ ?_) ?_; (focus (repeat first | exact Below.refl _ _ | refine bal ?_ _ | refine bdr ?_ _ | refine bd1 ?_)); rintro e w1 ⟨rfl, hw⟩; rw [hw]; clear hw w1))
    go_ret
    exact ⟨rfl, hgr (bal (bal (bal (Below.refl _ w) _) _) _)⟩
  · rw [if_neg hd]
    rw [Bool.not_eq_true] at hd
    rw [hd] at hdead
    clear hd
    by_cases hs : 1 ≤ fresh.size ∧ fresh.size ≤ 16
    · rw [if_neg (fun h => h hs)]
      rw [decide_eq_true hs] at hisn
      rcases hP.findJ hO old with ⟨e1, e2⟩ | ⟨num, x, f, e1, e2, e3, e4⟩
      · have hfd := fun (W : World) (hb : Below w.heap.size w W) => find_none (hPW hb) old e2 ((hPW hb).look0 hO)
        simp only [e1]
        go_enter Try.func16, Try.ntmps16
        go_wp2_with (first | (go_at_call 21; go_must (refine Calls.mono (hdead _ ?_) ?_; (focus (repeat first | exact Below.refl _ _ | refine bal ?_ _ | refine bdr ?_ _ | refine bd1 ?_)); rintro e w1 ⟨rfl, hw⟩; rw [hw]; clear hw w1)) | (go_at_call 22; go_must (refine (hisn _).mono ?_; rintro e w1 ⟨rfl, hw⟩; rw [hw]; clear hw w1)) | (go_at_call 23; go_must (refine Calls.mono (hfd _ ?_) ?_; (focus (repeat first | exact Below.refl _ _ | refine bal ?_ _ | refine bdr ?_ _ | refine bd1 ?_)); rintro e w1 ⟨rfl, m, hw⟩; subst hw)))
        go_ret
        exact ⟨rfl, hgr (bdr (bal (bal (bal (Below.refl _ w) _) _) _) _)⟩
      · have hfd := fun (W : World) (hb : Below w.heap.size w W) => find_some (hPW hb) old e2 e3
        have hact := fun (W : World) (b0 b1 b2 : Nat) (hb : Below w.heap.size w W) (k0 : W.cell? ⟨b0, 0, none⟩ = some (.string old)) (k1 : W.cell? ⟨b1, 0, none⟩ = some (.string fresh)) (k2 : W.cell? ⟨b2, 0, none⟩ = some (.pointer (some ⟨p, 0, none⟩))) =>
          act_any ⟨hO, fm, nm, sm, tv, J, hPW hb, hS⟩ (Dk.renamed D old fresh num) 34 _ (Dk.renamed_stop D old fresh num).1 (Dk.renamed_stop D old fresh num).2 (enters_lit Try.func34 (by kernel_rfl) rfl) (rename1_any hO (hPW hb) hS hn old fresh hs.2 e2 b0 b1 b2 k0 k1 k2)
        simp only [e1]
        go_enter Try.func16, Try.ntmps16
        go_wp2_with (first | (go_at_call 21; go_must (refine Calls.mono (hdead _ ?_) ?_; (focus (repeat first | exact Below.refl _ _ | refine bal ?_ _ | refine bdr ?_ _ | refine bd1 ?_)); rintro e w1 ⟨rfl, hw⟩; rw [hw]; clear hw w1)) | (go_at_call 22; go_must (refine (hisn _).mono ?_; rintro e w1 ⟨rfl, hw⟩; rw [hw]; clear hw w1)) | (go_at_call 23; go_must (refine Calls.mono (hfd _ ?_) ?_; (focus (repeat first | exact Below.refl _ _ | refine bal ?_ _ | refine bdr ?_ _ | refine bd1 ?_)); rintro e w1 ⟨rfl, m, hw⟩; subst hw)) | (go_at_call 24; go_must (refine Calls.mono (hact ((((w.alloc (.cells #[.pointer (some ⟨p, 0, none⟩)] 26)).alloc (.cells #[.string old] 9)).alloc (.cells #[.string fresh] 9)).drewN m) (w.heap.size + 1) (w.heap.size + 1 + 1) w.heap.size (bdr (bal (bal (bal (Below.refl _ w) _) _) _) _) (by simp [go_sem]) (by simp [go_sem]) (by simp [go_sem])) ?_; rintro e w2 ⟨rfl, hDK1, hon1⟩)))
        go_ret
        exact ⟨rfl, hDK1.after (bdr (bal (bal (bal (Below.refl _ w) _) _) _) _), hon1.after (bdr (bal (bal (bal (Below.refl _ w) _) _) _) _)⟩
    · rw [if_pos hs]
      rw [decide_eq_false hs] at hisn
      go_enter Try.func16, Try.ntmps16
      go_wp2_with (first | (go_at_call 21; go_must (refine Calls.mono (hdead _ ?_) ?_; (focus (repeat first | exact Below.refl _ _ | refine bal ?_ _ | refine bdr ?_ _ | refine bd1 ?_)); rintro e w1 ⟨rfl, hw⟩; rw [hw]; clear hw w1)) | (go_at_call 22; go_must (refine (hisn _).mono ?_; rintro e w1 ⟨rfl, hw⟩; rw [hw]; clear hw w1)))
      go_ret
      exact ⟨rfl, hgr (bal (bal (bal (Below.refl _ w) _) _) _)⟩
end Go.Proofs.Ytefadkengfjdmaa
