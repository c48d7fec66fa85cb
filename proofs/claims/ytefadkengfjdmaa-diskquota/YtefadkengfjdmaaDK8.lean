/- The disk's Cut and Sync. -/
import Derived.Test.YtefadkengfjdmaaDK7
namespace Go.Proofs.Ytefadkengfjdmaa
open Go.RowKit Go.Shelf

theorem Dk.sum_mput : ∀ {l : List (Nat × Dk.F)} {n : Nat} {f : Dk.F} (f' : Dk.F), look l n = some f → Dk.sum (mput l n f') + f.bs.length = Dk.sum l + f'.bs.length
  | (a, x) :: l, n, f, f', h => by
    by_cases hk : a = n
    · simp only [look, hk, if_true, Option.some.injEq] at h
      subst h
      simp only [mput, hk, if_true, Dk.sum, List.map_cons, List.sum_cons]
      omega
    · simp only [look, hk, if_false] at h
      have := Dk.sum_mput f' h
      simp only [mput, hk, if_false, Dk.sum, List.map_cons, List.sum_cons] at this ⊢
      omega
theorem Dk.le_sum : ∀ {l : List (Nat × Dk.F)} {n : Nat} {f : Dk.F}, look l n = some f → f.bs.length ≤ Dk.sum l
  | (a, x) :: l, n, f, h => by
    by_cases hk : a = n
    · simp only [look, hk, if_true, Option.some.injEq] at h
      subst h
      simp [Dk.sum]
    · simp only [look, hk, if_false] at h
      have := Dk.le_sum h
      simp only [Dk.sum, List.map_cons, List.sum_cons] at this ⊢
      omega
theorem mput_same {α β : Type} [DecidableEq α] {l : List (α × β)} {k : α} {v : β} (v' : β) (h : look l k = some v) : (mput l k v').map (·.1) = l.map (·.1) := by
  rw [mput_keys, if_pos (List.mem_map.2 ⟨_, look_mem h, rfl⟩)]
/-- one file is another -/
theorem Dk.Ok.setF {D : Dk.D} (h : Dk.Ok D) {n : Nat} {f : Dk.F} (f' : Dk.F) (hf : look D.files n = some f) (hu : Dk.sum D.files + f'.bs.length ≤ D.quota + f.bs.length) : Dk.Ok { D with files := mput D.files n f' } := by
  have hk := mput_same f' hf
  have hs := Dk.sum_mput f' hf
  refine ⟨h.q, ?_, ?_, ?_, h.nk, h.kk, ?_, ?_, ?_, h.stop, h.fault, h.ns, h.ks, h.ts⟩
  · show Dk.sum (mput D.files n f') ≤ D.quota; omega
  · show ((mput D.files n f').map (·.1)).Nodup; rw [hk]; exact h.fk
  · intro x hx
    have : x.1 ∈ D.files.map (·.1) := by rw [← hk]; exact List.mem_map.2 ⟨x, hx, rfl⟩
    obtain ⟨y, hy, e⟩ := List.mem_map.1 this
    rw [← e]; exact h.pos y hy
  · show ∀ x ∈ D.names, x.2 ∈ (mput D.files n f').map (·.1); rw [hk]; exact h.nf
  · show ∀ x ∈ D.kept, x.2 ∈ (mput D.files n f').map (·.1); rw [hk]; exact h.kf
  · show ∀ t ∈ D.turns, t.given ≠ _ → t.file ∈ (mput D.files n f').map (·.1); rw [hk]; exact h.tf

theorem foot_file {p fm nm sm num : Nat} {tv : Value} {A B : List (Nat × FH × Dk.F)} {x x' : FH} {f f' : Dk.F} {S : Nat → Prop} (hS : ∀ k, foot p fm nm sm tv (A ++ (num, x, f) :: B) k → S k) (hq : x'.q = x.q) (hv : ∀ g, x'.v.ownBlock = some g → S g) : ∀ k, foot p fm nm sm tv (A ++ (num, x', f') :: B) k → S k := by
  rintro k (h | h | h | h | h | ⟨y, hy, h⟩)
  · exact hS k (.inl h)
  · exact hS k (.inr (.inl h))
  · exact hS k (.inr (.inr (.inl h)))
  · exact hS k (.inr (.inr (.inr (.inl h))))
  · exact hS k (.inr (.inr (.inr (.inr (.inl h)))))
  · rcases List.mem_append.1 hy with h1 | h1
    · exact hS k (.inr (.inr (.inr (.inr (.inr ⟨y, List.mem_append.2 (.inl h1), h⟩)))))
    · rcases List.mem_cons.1 h1 with rfl | h1
      · rcases h with h | h
        · exact hS k (.inr (.inr (.inr (.inr (.inr ⟨(num, x, f), by simp, .inl (h.trans hq)⟩)))))
        · exact hv k h
      · exact hS k (.inr (.inr (.inr (.inr (.inr ⟨y, by simp [h1], h⟩)))))

/-- the disk's cut, of the file of a number -/
theorem cut_dk {w : World} {p fm nm sm num : Nat} {D : Dk.D} {tv : Value} {J : List (Nat × FH × Dk.F)} {S : Nat → Prop} {x : FH} {f : Dk.F} (hO : Dk.Ok D) (hP : Parts w p D (Dk.sum D.files) fm nm sm tv J) (hS : ∀ k, foot p fm nm sm tv J k → S k) (hj : look J num = some (x, f)) (n : Nat) (hn : n ≤ f.bs.length) :
    Calls Try.prog 33 #[.pointer (some ⟨p, 0, none⟩), .pointer (some ⟨x.q, 0, none⟩), .int .i64 (n : Int)] w fun e w' => e = .returned (.tuple #[]) ∧ DK w' p { D with files := mput D.files num (Dk.cutF f n) } S ∧ OnlyIn S w w' := by
  have hf : look D.files num = some f := by rw [hP.look, hj]; rfl
  have hle := Dk.le_sum hf
  have hq := hO.q
  have hu := hO.use
  obtain ⟨A, B, rfl, hA⟩ := look_part hj
  refine (cut_any hP hA n hn (by omega) (by omega) (by omega)).mono ?_
  rintro e w' ⟨rfl, ⟨v, hP', hv⟩, hon⟩
  have hl : (Dk.cutF f n).bs.length = n := by simp [Dk.cutF]; omega
  have hsum := Dk.sum_mput (Dk.cutF f n) hf
  refine ⟨rfl, ⟨hO.setF _ hf (by omega), fm, nm, sm, tv, _, ?_, foot_file (x' := ⟨x.q, v⟩) (f' := Dk.cutF f n) hS rfl fun g hg => hS g (.inr (.inr (.inr (.inr (.inr ⟨(num, x, f), by simp, .inr (hv g hg)⟩)))))⟩, ?_⟩
  · rw [show Dk.sum D.files - (f.bs.length - n) = Dk.sum (mput D.files num (Dk.cutF f n)) by omega] at hP'
    exact hP'
  · refine hon.mono fun k _ hk => ?_
    rcases hk with rfl | rfl
    · exact hS k (.inl rfl)
    · exact hS _ (.inr (.inr (.inr (.inr (.inr ⟨(num, x, f), by simp, .inl rfl⟩)))))

theorem enters_lit {f : Nat} {fn : Func} {c : Code} (hf : Try.prog.funcs[f]? = some fn) (hn : (fn.name == "runtime.NumGoroutine") = false) (hb : fn.body = some c) : ∀ args w, (callFunc f args).run Try.prog w = .ok (.enter f args) w := enters_of hf hn hb

set_option maxHeartbeats 1000000 in
theorem cut1_any {w : World} {p fm nm sm num : Nat} {D : Dk.D} {tv : Value} {J : List (Nat × FH × Dk.F)} {S : Nat → Prop} {x : FH} {f : Dk.F} (hO : Dk.Ok D) (hP : Parts w p D (Dk.sum D.files) fm nm sm tv J) (hS : ∀ k, foot p fm nm sm tv J k → S k) (hj : look J num = some (x, f)) (n : Nat) (hn : n ≤ f.bs.length)
    (b0 b1 b2 : Nat) (k0 : w.cell? ⟨b0, 0, none⟩ = some (.pointer (some ⟨p, 0, none⟩))) (k1 : w.cell? ⟨b1, 0, none⟩ = some (.pointer (some ⟨x.q, 0, none⟩))) (k2 : w.cell? ⟨b2, 0, none⟩ = some (.int .i64 (n : Int))) :
    Calls Try.prog 32 #[.pointer (some ⟨b0, 0, none⟩), .pointer (some ⟨b1, 0, none⟩), .pointer (some ⟨b2, 0, none⟩)] w fun e w' => e = .returned (.tuple #[]) ∧ DK w' p { D with files := mput D.files num (Dk.cutF f n) } (grow1 S w) ∧ OnlyIn S w w' := by
  have hc := cut_dk hO hP hS hj n hn
  go_enter Try.func32, Try.ntmps32
  go_wp2_with (go_at_call 33; go_must (refine hc.mono ?_; rintro e w1 ⟨rfl, hDK1, hon1⟩))
  first | go_end0 | refine bodyPost_ret (results_none rfl _ _ _) rfl ?_
  exact ⟨rfl, hDK1.keep (fun _ _ _ => rfl) fun _ _ h => .inl h, hon1⟩

theorem bal {w W : World} (hb : Below w.heap.size w W) (o : Obj) : Below w.heap.size w (W.alloc o) := hb.alloc hb.size o
theorem bdr {w W : World} (hb : Below w.heap.size w W) (n : Nat) : Below w.heap.size w (W.drewN n) := hb.trans (below_drewN _ _ _)
theorem bd1 {w W : World} (hb : Below w.heap.size w W) : Below w.heap.size w W.drew := hb.trans (below_drewN _ _ 1)
theorem OnlyIn.after {S : Nat → Prop} {w W w' : World} (hb : Below w.heap.size w W) (h : OnlyIn S W w') : OnlyIn S w w' := (OnlyIn.of_below hb).trans (h.mono fun _ _ h => .inl h)
theorem DK.after {S : Nat → Prop} {w W w' : World} {p : Nat} {D : Dk.D} (hb : Below w.heap.size w W) (h : DK w' p D (grow1 S W)) : DK w' p D (grow1 S w) := h.keep (fun _ _ _ => rfl) fun _ _ h => h.imp id fun h => Nat.le_trans hb.size h

/-- what Cut does and tells -/
def Dk.cut (D : Dk.D) (s : ByteArray) (n : Int) : Dk.D × Int :=
  if D.dead = true then (D, 9) else match Dk.find D s with
    | none => (D, 3)
    | some (m, f) => if n < 0 ∨ (f.bs.length : Int) < n then (D, 1) else Dk.acted D { D with files := mput D.files m (Dk.cutF f n.toNat) }

set_option maxHeartbeats 2000000 in
theorem cutD_any {w : World} {p : Nat} {D : Dk.D} {S : Nat → Prop} (h : DK w p D S) (s : ByteArray) (n : Int) (hn : -9223372036854775808 ≤ n ∧ n ≤ 9223372036854775807) :
    Calls Try.prog 15 #[.pointer (some ⟨p, 0, none⟩), .string s, .int .i64 n] w fun e w' => e = .returned (.int .i64 (Dk.cut D s n).2) ∧ DK w' p (Dk.cut D s n).1 (grow1 S w) ∧ OnlyIn S w w' := by
  have hgr : ∀ {W : World}, Below w.heap.size w W → DK W p D (grow1 S w) ∧ OnlyIn S w W := fun {W} hb => ⟨h.keep (fun k hk _ => hb.block k hk) fun _ _ h => .inl h, OnlyIn.of_below hb⟩
  obtain ⟨hO, fm, nm, sm, tv, J, hP, hS⟩ := h
  have hPW : ∀ {W : World}, Below w.heap.size w W → Parts W p D (Dk.sum D.files) fm nm sm tv J := fun {W} hb => hP.keep fun k hk => hb.block k (hP.lt hk)
  have hdead := fun (W : World) (hb : Below w.heap.size w W) => dead_any (hPW hb)
  unfold Dk.cut
  by_cases hd : D.dead = true
  · rw [hd] at hdead
    rw [if_pos hd]
    clear hd
    go_enter Try.func15, Try.ntmps15
    go_wp2_with (go_at_call 21; go_must (refine Calls.mono (hdead _ ?_) ?_; (focus (repeat first | exact Below.refl _ _ | refine bal ?_ _ | refine bdr ?_ _ | refine bd1 ?_)); rintro e w1 ⟨rfl, hw⟩; subst hw))
    go_ret
    exact ⟨rfl, hgr (bal (bal (Below.refl _ w) _) _)⟩
  · rw [if_neg hd]
    rw [Bool.not_eq_true] at hd
    rw [hd] at hdead
    clear hd
    rcases hP.findJ hO s with ⟨e1, e2⟩ | ⟨num, x, f, e1, e2, e3, e4⟩
    · have hfd := fun (W : World) (hb : Below w.heap.size w W) => find_none (hPW hb) s e2 ((hPW hb).look0 hO)
      simp only [e1]
      go_enter Try.func15, Try.ntmps15
      go_wp2_with (first | (go_at_call 21; go_must (refine Calls.mono (hdead _ ?_) ?_; (focus (repeat first | exact Below.refl _ _ | refine bal ?_ _ | refine bdr ?_ _ | refine bd1 ?_)); rintro e w1 ⟨rfl, hw⟩; subst hw)) | (go_at_call 23; go_must (refine Calls.mono (hfd _ ?_) ?_; (focus (repeat first | exact Below.refl _ _ | refine bal ?_ _ | refine bdr ?_ _ | refine bd1 ?_)); rintro e w1 ⟨rfl, m, hw⟩; subst hw)))
      go_ret
      exact ⟨rfl, hgr (bal (bdr (bal (bal (Below.refl _ w) _) _) _) _)⟩
    · have hfd := fun (W : World) (hb : Below w.heap.size w W) => find_some (hPW hb) s e2 e3
      have hx := fun (W : World) (hb : Below w.heap.size w W) => ((hPW hb).each _ (look_mem e3)).cells.1
      obtain ⟨a, c, hv, _⟩ := t_shape (hP.each _ (look_mem e3)).row
      simp only at hv hx
      have hlen : f.bs.length ≤ 4194304 := Nat.le_trans (Dk.le_sum e4) (Nat.le_trans hO.use hO.q)
      rw [hv] at hx
      have hact := fun (W : World) (b0 b1 b2 m : Nat) (hb : Below w.heap.size w W) (hm : m ≤ f.bs.length) (k0 : W.cell? ⟨b0, 0, none⟩ = some (.pointer (some ⟨p, 0, none⟩))) (k1 : W.cell? ⟨b1, 0, none⟩ = some (.pointer (some ⟨x.q, 0, none⟩))) (k2 : W.cell? ⟨b2, 0, none⟩ = some (.int .i64 (m : Int))) =>
        act_any ⟨hO, fm, nm, sm, tv, J, hPW hb, hS⟩ { D with files := mput D.files num (Dk.cutF f m) } 32 _ rfl rfl (enters_lit Try.func32 (by kernel_rfl) rfl) (cut1_any hO (hPW hb) hS e3 m hm b0 b1 b2 k0 k1 k2)
      obtain ⟨L, hL⟩ : ∃ L, L = f.bs.length := ⟨_, rfl⟩
      simp only [e1]
      rw [← hL] at hx hlen hact ⊢
      have hcx : ∀ m, let W := (((w.alloc (.cells #[.pointer (some ⟨p, 0, none⟩)] 26)).alloc (.cells #[.int .i64 n] 3)).drewN m).alloc (.cells #[.pointer (some ⟨x.q, 0, none⟩)] 54)
          Below w.heap.size w W ∧ W.cell? ⟨w.heap.size, 0, none⟩ = some (.pointer (some ⟨p, 0, none⟩)) ∧ W.cell? ⟨w.heap.size + 1 + 1, 0, none⟩ = some (.pointer (some ⟨x.q, 0, none⟩)) ∧ W.cell? ⟨w.heap.size + 1, 0, none⟩ = some (.int .i64 n) := fun m =>
        ⟨bal (bdr (bal (bal (Below.refl _ w) _) _) _) _, by simp [go_sem], by simp [go_sem], by simp [go_sem]⟩
      clear hL
      by_cases h0 : n < 0
      · have hd0 : decide (n < 0) = true := decide_eq_true h0
        rw [if_pos (.inl h0)]
        go_enter Try.func15, Try.ntmps15
        go_wp2_with (first | (go_at_call 21; go_must (refine Calls.mono (hdead _ ?_) ?_; (focus (repeat first | exact Below.refl _ _ | refine bal ?_ _ | refine bdr ?_ _ | refine bd1 ?_)); rintro e w1 ⟨rfl, hw⟩; subst hw)) | (go_at_call 23; go_must (refine Calls.mono (hfd _ ?_) ?_; (focus (repeat first | exact Below.refl _ _ | refine bal ?_ _ | refine bdr ?_ _ | refine bd1 ?_)); rintro e w1 ⟨rfl, m, hw⟩; subst hw)))
        obtain ⟨bw, k0, k1, k2⟩ := hcx m
        generalize ((((w.alloc (.cells #[.pointer (some ⟨p, 0, none⟩)] 26)).alloc (.cells #[.int .i64 n] 3)).drewN m).alloc (.cells #[.pointer (some ⟨x.q, 0, none⟩)] 54)) = W at bw k0 k1 k2 ⊢
        have hxW := hx W bw
        go_quiet (fail)
        go_wp2
        go_ret
        exact ⟨rfl, hgr (bdr bw _)⟩
      · have hd0 : decide (n < 0) = false := decide_eq_false h0
        by_cases h2 : (L : Int) < n
        · have hd2 : decide ((L : Int) < n) = true := decide_eq_true h2
          rw [if_pos (.inr h2)]
          go_enter Try.func15, Try.ntmps15
          go_wp2_with (first | (go_at_call 21; go_must (refine Calls.mono (hdead _ ?_) ?_; (focus (repeat first | exact Below.refl _ _ | refine bal ?_ _ | refine bdr ?_ _ | refine bd1 ?_)); rintro e w1 ⟨rfl, hw⟩; subst hw)) | (go_at_call 23; go_must (refine Calls.mono (hfd _ ?_) ?_; (focus (repeat first | exact Below.refl _ _ | refine bal ?_ _ | refine bdr ?_ _ | refine bd1 ?_)); rintro e w1 ⟨rfl, m, hw⟩; subst hw)))
          obtain ⟨bw, k0, k1, k2⟩ := hcx m
          generalize ((((w.alloc (.cells #[.pointer (some ⟨p, 0, none⟩)] 26)).alloc (.cells #[.int .i64 n] 3)).drewN m).alloc (.cells #[.pointer (some ⟨x.q, 0, none⟩)] 54)) = W at bw k0 k1 k2 ⊢
          have hxW := hx W bw
          go_quiet (fail)
          go_wp2
          go_ret
          exact ⟨rfl, hgr (bdr bw _)⟩
        · have hd2 : decide ((L : Int) < n) = false := decide_eq_false h2
          rw [if_neg (by omega)]
          obtain ⟨n', rfl⟩ : ∃ n' : Nat, n = (n' : Int) := ⟨n.toNat, by omega⟩
          rw [Int.toNat_natCast]
          go_enter Try.func15, Try.ntmps15
          go_wp2_with (first | (go_at_call 21; go_must (refine Calls.mono (hdead _ ?_) ?_; (focus (repeat first | exact Below.refl _ _ | refine bal ?_ _ | refine bdr ?_ _ | refine bd1 ?_)); rintro e w1 ⟨rfl, hw⟩; subst hw)) | (go_at_call 23; go_must (refine Calls.mono (hfd _ ?_) ?_; (focus (repeat first | exact Below.refl _ _ | refine bal ?_ _ | refine bdr ?_ _ | refine bd1 ?_)); rintro e w1 ⟨rfl, m, hw⟩; subst hw)))
          obtain ⟨bw, k0, k1, k2⟩ := hcx m
          generalize ((((w.alloc (.cells #[.pointer (some ⟨p, 0, none⟩)] 26)).alloc (.cells #[.int .i64 (n' : Int)] 3)).drewN m).alloc (.cells #[.pointer (some ⟨x.q, 0, none⟩)] 54)) = W at bw k0 k1 k2 ⊢
          have hxW := hx W bw
          go_quiet (fail)
          have hc := hact (W.drewN nq) w.heap.size (w.heap.size + 1 + 1) (w.heap.size + 1) n' (bdr bw _) (by omega) k0 k1 k2
          go_wp2_with (go_at_call 24; go_must (refine hc.mono ?_; rintro e w1 ⟨rfl, hDK1, hon1⟩))
          go_ret
          exact ⟨rfl, hDK1.after (bdr bw _), hon1.after (bdr bw _)⟩

/-- a file is safe -/
def Dk.syncF (f : Dk.F) : Dk.F := ⟨f.bs, f.bs.length⟩
set_option maxHeartbeats 1000000 in
theorem sync1_any {w : World} {p fm nm sm num : Nat} {D : Dk.D} {tv : Value} {J : List (Nat × FH × Dk.F)} {S : Nat → Prop} {x : FH} {f : Dk.F} (hO : Dk.Ok D) (hP : Parts w p D (Dk.sum D.files) fm nm sm tv J) (hS : ∀ k, foot p fm nm sm tv J k → S k) (hj : look J num = some (x, f))
    (b1 : Nat) (k1 : w.cell? ⟨b1, 0, none⟩ = some (.pointer (some ⟨x.q, 0, none⟩))) :
    Calls Try.prog 27 #[.pointer (some ⟨b1, 0, none⟩)] w fun e w' => e = .returned (.tuple #[]) ∧ DK w' p { D with files := mput D.files num (Dk.syncF f) } (grow1 S w) ∧ OnlyIn S w w' := by
  have hf : look D.files num = some f := by rw [hP.look, hj]; rfl
  have hx : FileAt w x f := hP.each _ (look_mem hj)
  obtain ⟨d0, d1, hfx⟩ := hx.cells
  obtain ⟨a, c, hv, ha, hc⟩ := t_shape hx.row
  obtain ⟨A, B, rfl, hA⟩ := look_part hj
  obtain ⟨L, hL⟩ : ∃ L, L = f.bs.length := ⟨_, rfl⟩
  have HL : Hid (L = f.bs.length) := hL
  have HV : Hid (x.v = .slice a f.bs.length c) := hv
  rw [hv, ← hL] at d0
  clear hL hv hc ha
  go_enter Try.func27, Try.ntmps27
  go_wp2
  go_region
  all_goals go_wp2
  all_goals first | go_end0 | refine bodyPost_ret (results_none rfl _ _ _) rfl ?_
  have hsum := Dk.sum_mput (Dk.syncF f) hf
  have hP' := hP.file (w' := (w.setCell ⟨x.q, 1, none⟩ (.int .i64 (L : Int)))) (h' := x) (f' := Dk.syncF f) (fun k _ hk _ => set_other w x.q 1 _ hk) hA ?_ rfl fun g hg => .inl hg
  · refine ⟨rfl, ⟨hO.setF _ hf (by have := hO.use; simp only [Dk.syncF]; omega), fm, nm, sm, tv, A ++ (num, x, Dk.syncF f) :: B, ?_, foot_file (x := x) (f := f) (fun k hk => .inl (hS k hk)) rfl fun g hg => .inl (hS g (.inr (.inr (.inr (.inr (.inr ⟨(num, x, f), by simp, .inr hg⟩))))))⟩, ?_⟩
    · have : Dk.sum (mput D.files num (Dk.syncF f)) = Dk.sum D.files := by simp only [Dk.syncF] at hsum; simp only [Dk.syncF]; omega
      show Parts _ p _ (Dk.sum (mput D.files num (Dk.syncF f))) fm nm sm tv _
      rw [this]
      exact hP'.keep fun k _ => rfl
    · exact (only_set w x.q 1 _ (hS _ (.inr (.inr (.inr (.inr (.inr ⟨(num, x, f), by simp, .inl rfl⟩))))))).trans ⟨rfl, rfl, rfl, Nat.le_refl _, fun _ _ _ => rfl⟩
  · refine hx.set x.v (L : Int) (Dk.syncF f) (by rw [HL.out]; rfl) hx.row hx.small (Nat.le_refl _) ?_ fun k _ hk => set_other w x.q 1 _ hk
    exact Go.Joins.block_setCell hx.blk _

/-- what Sync does and tells -/
def Dk.sync (D : Dk.D) (s : ByteArray) : Dk.D × Int :=
  if D.dead = true then (D, 9) else match Dk.find D s with
    | none => (D, 3)
    | some (m, f) => Dk.acted D { D with files := mput D.files m (Dk.syncF f) }

set_option maxHeartbeats 2000000 in
theorem syncD_any {w : World} {p : Nat} {D : Dk.D} {S : Nat → Prop} (h : DK w p D S) (s : ByteArray) :
    Calls Try.prog 11 #[.pointer (some ⟨p, 0, none⟩), .string s] w fun e w' => e = .returned (.int .i64 (Dk.sync D s).2) ∧ DK w' p (Dk.sync D s).1 (grow1 S w) ∧ OnlyIn S w w' := by
  have hgr : ∀ {W : World}, Below w.heap.size w W → DK W p D (grow1 S w) ∧ OnlyIn S w W := fun {W} hb => ⟨h.keep (fun k hk _ => hb.block k hk) fun _ _ h => .inl h, OnlyIn.of_below hb⟩
  obtain ⟨hO, fm, nm, sm, tv, J, hP, hS⟩ := h
  have hPW : ∀ {W : World}, Below w.heap.size w W → Parts W p D (Dk.sum D.files) fm nm sm tv J := fun {W} hb => hP.keep fun k hk => hb.block k (hP.lt hk)
  have hdead := fun (W : World) (hb : Below w.heap.size w W) => dead_any (hPW hb)
  unfold Dk.sync
  by_cases hd : D.dead = true
  · rw [hd] at hdead
    rw [if_pos hd]
    clear hd
    go_enter Try.func11, Try.ntmps11
    go_wp2_with (go_at_call 21; go_must (refine Calls.mono (hdead _ ?_) ?_; (focus (repeat first | exact Below.refl _ _ | refine bal ?_ _ | refine bdr ?_ _ | refine bd1 ?_)); rintro e w1 ⟨rfl, hw⟩; rw [hw]; clear hw w1))
    go_ret
    exact ⟨rfl, hgr (Below.refl _ _)⟩
  · rw [if_neg hd]
    rw [Bool.not_eq_true] at hd
    rw [hd] at hdead
    clear hd
    rcases hP.findJ hO s with ⟨e1, e2⟩ | ⟨num, x, f, e1, e2, e3, e4⟩
    · have hfd := fun (W : World) (hb : Below w.heap.size w W) => find_none (hPW hb) s e2 ((hPW hb).look0 hO)
      simp only [e1]
      go_enter Try.func11, Try.ntmps11
      go_wp2_with (first | (go_at_call 21; go_must (refine Calls.mono (hdead _ ?_) ?_; (focus (repeat first | exact Below.refl _ _ | refine bal ?_ _ | refine bdr ?_ _ | refine bd1 ?_)); rintro e w1 ⟨rfl, hw⟩; rw [hw]; clear hw w1)) | (go_at_call 23; go_must (refine Calls.mono (hfd _ ?_) ?_; (focus (repeat first | exact Below.refl _ _ | refine bal ?_ _ | refine bdr ?_ _ | refine bd1 ?_)); rintro e w1 ⟨rfl, m, hw⟩; have bw : Below w.heap.size w w1 := hw ▸ below_drew w m; clear hw)))
      go_ret
      exact ⟨rfl, hgr (bal bw _)⟩
    · have hfd := fun (W : World) (hb : Below w.heap.size w W) => find_some (hPW hb) s e2 e3
      have hact := fun (W : World) (b1 : Nat) (hb : Below w.heap.size w W) (k1 : W.cell? ⟨b1, 0, none⟩ = some (.pointer (some ⟨x.q, 0, none⟩))) =>
        act_any ⟨hO, fm, nm, sm, tv, J, hPW hb, hS⟩ { D with files := mput D.files num (Dk.syncF f) } 27 _ rfl rfl (enters_lit Try.func27 (by kernel_rfl) rfl) (sync1_any hO (hPW hb) hS e3 b1 k1)
      simp only [e1]
      go_enter Try.func11, Try.ntmps11
      go_wp2_with (first | (go_at_call 21; go_must (refine Calls.mono (hdead _ ?_) ?_; (focus (repeat first | exact Below.refl _ _ | refine bal ?_ _ | refine bdr ?_ _ | refine bd1 ?_)); rintro e w1 ⟨rfl, hw⟩; rw [hw]; clear hw w1)) | (go_at_call 23; go_must (refine Calls.mono (hfd _ ?_) ?_; (focus (repeat first | exact Below.refl _ _ | refine bal ?_ _ | refine bdr ?_ _ | refine bd1 ?_)); rintro e w1 ⟨rfl, m, hw⟩; have bw : Below w.heap.size w w1 := hw ▸ below_drew w m; clear hw)) | (go_at_call 24; go_must (refine Calls.mono (hact (w1.alloc (.cells #[.pointer (some ⟨x.q, 0, none⟩)] 54)) w1.heap.size (bal bw _) (by simp [go_sem])) ?_; rintro e w2 ⟨rfl, hDK1, hon1⟩)))
      go_ret
      exact ⟨rfl, hDK1.after (bal bw _), hon1.after (bal bw _)⟩
end Go.Proofs.Ytefadkengfjdmaa
