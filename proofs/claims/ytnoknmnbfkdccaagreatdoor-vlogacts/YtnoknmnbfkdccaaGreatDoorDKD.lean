/- append onto a row that lies within something, and where the row lies behind it. -/
import Derived.Test.YtnoknmnbfkdccaaGreatDoorDK9
import Derived.Deep.AppendLies
import Derived.Deep.RegionHeld3
import Derived.StillTailTactics
namespace Go.Proofs.YtnoknmnbfkdccaaGreatDoor
open Go.RowKit Go.Shelf

theorem run_append_zero {P : Program} (w : World) (T E : TypeId) (ht : P.underlying T = some (.slice E)) (i : TypeInfo) (hi : P.info? E = some i) (ty : TypeId) (a ax : Option Addr) (n cap c : Nat) (hc : n ≤ cap) :
    (Builtin.append_ #[T, T] ty #[.slice a n cap, .slice ax 0 c]).run P w = .ok (.slice a n cap) w := by
  cases a <;> cases ax <;> simp [Builtin.append_, run_underlying ht, sizeOf, typeInfo, hi, Builtin.lenOf, Builtin.firstCells, Result.andThen, hc, loadCells, storeCells, go_sem]

theorem run_append_raw {P : Program} {w : World} (T E ty : TypeId) (i : TypeInfo) (z : Value) (s bytes : Nat)
    (ht : P.underlying T = some (.slice E)) (hi : P.info? E = some i) (hz : i.zero = some z) (hz1 : i.size = s) (hz2 : i.bytes = bytes) (hzs : z.cells.size = s) (hs0 : 0 < s) (hsm : bytes ≤ 1000)
    (v : Value) (n : Nat) (xs : List Value) (hown : w.ownsRow 0 E s v n xs)
    (ax : Option Addr) (m c : Nat) (news : List Value) (hl : news.length = m * s) (hnil : ax = none → m = 0) (hnews : ∀ ad, ax = some ad → ∀ j u, news[j]? = some u → w.cell? (ad.add j) = some u) (h1 : ∀ u ∈ news, u.oneCell' = true)
    (hnm : n + m ≤ 1000000000) :
    ∃ a' c' w', (Builtin.append_ #[T, T] ty #[v, .slice ax m c]).run P w = .ok (.slice a' (n + m) c') w' ∧ w'.ownsRow 0 E s (.slice a' (n + m) c') (n + m) (xs ++ news) ∧ w.grownBy w' v.ownBlock ∧ (∀ g, (Value.slice a' (n + m) c').ownBlock = some g → v.ownBlock = some g ∨ w.heap.size ≤ g) := by
  obtain ⟨a0, c0, rfl, h2, h3⟩ := t_shape hown
  by_cases hm : m = 0
  · subst hm
    have hn0 : news = [] := List.length_eq_zero_iff.mp (by omega)
    subst hn0
    exact ⟨a0, c0, w, run_append_zero (P := P) w T E ht i hi ty a0 ax n c0 c h3, by simpa using hown, ⟨rfl, rfl, rfl, Nat.le_refl _, fun _ _ _ => rfl⟩, fun g hg => .inl hg⟩
  · cases ax with
    | none => exact absurd (hnil rfl) hm
    | some ad =>
      have h2 : (n + m) * bytes ≤ 1000000000 * 1000 := Nat.mul_le_mul hnm hsm
      obtain ⟨g, cap, w', hr, hown', hg, hgg, _⟩ := run_append_lies w T ty 0 E i z s bytes ht hi hz hz1 hz2 hzs hs0 _ n xs hown ad m c news hl (hnews ad rfl) h1 (by omega) (by unfold maxLen; omega) (by omega) (Nat.zero_le _) w.heap.size rfl
      refine ⟨some ⟨g, 0, none⟩, cap, w', hr, hown', hg, fun g' hg' => ?_⟩
      simp only [Value.ownBlock, Option.some.injEq] at hg'
      subst hg'
      exact hgg.imp id fun e => by omega

theorem turnE : Elem 74 129 3 40 (.agg #[.string ⟨#[]⟩, .string ⟨#[]⟩, .int .i64 0]) := ⟨Tryz.underlying74, by kernel_rfl, rfl, by decide, by decide⟩
/-- a turn behind the disk's turns -/
theorem run_append_turn {w : World} (ty : TypeId) (v : Value) (n : Nat) (xs : List Dk.T) (hown : w.ownsRow 0 129 3 v n (tcells tenc xs)) (ad : Addr) (c : Nat) (t : Dk.T) (hnews : ∀ j u, (tenc t)[j]? = some u → w.cell? (ad.add j) = some u) (hnm : n + 1 ≤ 1000000000) :
    ∃ a' c' w', (Builtin.append_ #[74, 74] ty #[v, .slice (some ad) 1 c]).run Tryz.prog w = .ok (.slice a' (n + 1) c') w' ∧ w'.ownsRow 0 129 3 (.slice a' (n + 1) c') (n + 1) (tcells tenc (xs ++ [t])) ∧ w.grownBy w' v.ownBlock ∧ (∀ g, (Value.slice a' (n + 1) c').ownBlock = some g → v.ownBlock = some g ∨ w.heap.size ≤ g) := by
  obtain ⟨i0, hi, hz0, hz1, hz2⟩ := info_parts turnE.info
  obtain ⟨a', c', w', h0, h1, h2, h3⟩ := run_append_raw (P := Tryz.prog) 74 129 ty i0 _ 3 40 turnE.und hi hz0 hz1 hz2 turnE.zero (by decide) (by decide) v n _ hown (some ad) 1 c (tenc t) rfl (fun e => by cases e) (fun ad' e j u hj => by cases e; exact hnews j u hj) (fun u hu => tencE.one t u hu) hnm
  refine ⟨a', c', w', h0, ?_, h2, h3⟩
  rw [tcells_append]
  simpa [tcells] using h1
/-- at a step of a region that draws -/
theorem step_turn {w : World} {ops : Array Oper} {o : Oper} {a : Act} {K : Act → World → Prop} {Q : Exit → Act → World → Prop} {F : Prop} (hgd : o.guard = none) (sl x : Operand)
    (ho : o.op = .call { callee := .builtin .append, args := #[sl, x], argTypes := #[74, 74] })
    (v : Value) (n : Nat) (xs : List Dk.T) (hs : a.eval sl = v) (hown : w.ownsRow 0 129 3 v n (tcells tenc xs))
    (ad : Addr) (c : Nat) (t : Dk.T) (hx : a.eval x = .slice (some ad) 1 c) (hnews : ∀ j u, (tenc t)[j]? = some u → w.cell? (ad.add j) = some u) (hnm : n + 1 ≤ 1000000000)
    (h : ∀ a' c' w', w'.ownsRow 0 129 3 (.slice a' (n + 1) c') (n + 1) (tcells tenc (xs ++ [t])) → w.grownBy w' v.ownBlock → (∀ g, (Value.slice a' (n + 1) c').ownBlock = some g → v.ownBlock = some g ∨ w.heap.size ≤ g) → K (a.put o.dst (.slice a' (n + 1) c')) w') :
    if Region.wanted o (yielded ops a.tmps) = true then Oper.wp Tryz.prog o a w K Q else F := by
  have hw : Region.wanted o (yielded ops a.tmps) = true := by simp [Region.wanted, hgd]
  rw [if_pos hw]
  obtain ⟨a', c', w', hrun, h1, h2, h3⟩ := run_append_turn o.type v n xs hown ad c t hnews hnm
  unfold Oper.wp
  simp [execOp, ho, resolve, invoke, builtin, hs, hx, hrun, Result.andThen]
  exact h a' c' w' h1 h2 h3
/-- bytes behind a file's -/
theorem run_append_bytes {w : World} (ty : TypeId) (v : Value) (n : Nat) (xs : List Nat) (hown : w.ownsRow 0 5 1 v n (kcells .u8 xs)) (ax : Option Addr) (m c : Nat) (bs : List Nat) (hr : Row .u8 w ax m bs) (hnil : ax = none → m = 0 ∧ c = 0) (hnm : n + m ≤ 1000000000) :
    ∃ a' c' w', (Builtin.append_ #[39, 39] ty #[v, .slice ax m c]).run Tryz.prog w = .ok (.slice a' (n + m) c') w' ∧ w'.ownsRow 0 5 1 (.slice a' (n + m) c') (n + m) (kcells .u8 (xs ++ bs)) ∧ w.grownBy w' v.ownBlock ∧ (∀ g, (Value.slice a' (n + m) c').ownBlock = some g → v.ownBlock = some g ∨ w.heap.size ≤ g) := by
  obtain ⟨i0, hi, hz0, hz1, hz2⟩ := info_parts Tryz.info5
  obtain ⟨h1, h2, h3, h4⟩ := hr
  rw [kcells_append]
  refine run_append_raw (P := Tryz.prog) 39 5 ty i0 (.int .u8 0) 1 1 Tryz.underlying39 hi hz0 hz1 hz2 rfl (by decide) (by decide) v n _ hown ax m c (kcells .u8 bs) (by rw [kcells_length]; omega) (fun e => (hnil e).1) ?_ ?_ hnm
  · intro ad e j u hj
    obtain ⟨hlt, rfl⟩ := kcells_get .u8 bs j u hj
    rcases h4 with h0 | ⟨b, off, e', hc⟩
    · omega
    · rw [e] at e'
      obtain rfl : ad = ⟨b, off, none⟩ := by simpa using e'
      rw [add_at]; exact hc j (by omega)
  · intro u hu
    simp only [kcells, List.mem_map] at hu
    obtain ⟨n, _, rfl⟩ := hu
    rfl
theorem step_bytes {w : World} {ops : Array Oper} {o : Oper} {a : Act} {K : Act → World → Prop} {Q : Exit → Act → World → Prop} {F : Prop} (hgd : o.guard = none) (sl x : Operand)
    (ho : o.op = .call { callee := .builtin .append, args := #[sl, x], argTypes := #[39, 39] })
    (v : Value) (n : Nat) (xs : List Nat) (hs : a.eval sl = v) (hown : w.ownsRow 0 5 1 v n (kcells .u8 xs)) (ax : Option Addr) (m c : Nat) (bs : List Nat) (hx : a.eval x = .slice ax m c) (hr : Row .u8 w ax m bs) (hnil : ax = none → m = 0 ∧ c = 0) (hnm : n + m ≤ 1000000000)
    (h : ∀ a' c' w', w'.ownsRow 0 5 1 (.slice a' (n + m) c') (n + m) (kcells .u8 (xs ++ bs)) → w.grownBy w' v.ownBlock → (∀ g, (Value.slice a' (n + m) c').ownBlock = some g → v.ownBlock = some g ∨ w.heap.size ≤ g) → K (a.put o.dst (.slice a' (n + m) c')) w') :
    if Region.wanted o (yielded ops a.tmps) = true then Oper.wp Tryz.prog o a w K Q else F := by
  have hw : Region.wanted o (yielded ops a.tmps) = true := by simp [Region.wanted, hgd]
  rw [if_pos hw]
  obtain ⟨a', c', w', hrun, h1, h2, h3⟩ := run_append_bytes o.type v n xs hown ax m c bs hr hnil hnm
  unfold Oper.wp
  simp [execOp, ho, resolve, invoke, builtin, hs, hx, hrun, Result.andThen]
  exact h a' c' w' h1 h2 h3
/-- the turns of the disk, and its own cells, have turned -/
theorem Parts.turned {w w' : World} {p u fm nm sm : Nat} {D : Dk.D} {tv tv' : Value} {J : List (Nat × FH × Dk.F)} (h : Parts w p D u fm nm sm tv J) (hk : ∀ k, k < w.heap.size → k ≠ p → tv.ownBlock ≠ some k → w'.heap[k]? = w.heap[k]?) (ts : List Dk.T)
    (hb : w'.heap[p]? = some (.cells #[.int .i64 (D.quota : Int), .map (some fm), .int .i64 (D.last : Int), .int .i64 (u : Int), .map (some nm), .map (some sm), tv', .int .i64 D.stop, .int .i64 D.fault, .bool D.dead] 76 (0, 0)))
    (ht : w'.ownsRow 0 129 3 tv' ts.length (tcells tenc ts)) : Parts w' p { D with turns := ts } u fm nm sm tv' J := by
  have hmap : ∀ {k : Nat} {es : Array MapEntry} {cl : Nat}, w.heap[k]? = some (.map es cl) → w'.heap[k]? = w.heap[k]? := fun {k es cl} hc =>
    hk k (heap_lt hc) (cells_map h.blk hc).symm fun hg => by
      obtain ⟨c', hc'⟩ := own_blk h.turns hg
      exact (cells_map hc' hc) rfl
  have hcell : ∀ {k : Nat} {c : Array Value} {T : TypeId} {r : Nat × Nat}, w.heap[k]? = some (.cells c T r) → T ≠ 76 → T ≠ 129 → w'.heap[k]? = w.heap[k]? := fun {k c T r} hc h1 h2 =>
    hk k (heap_lt hc) (cells_ne hc h.blk h1) fun hg => by
      obtain ⟨c', hc'⟩ := own_blk h.turns hg
      exact (cells_ne hc hc' h2) rfl
  refine ⟨hb, h.jf, ?_, ?_, ?_, ht, ?_, h.qs, h.vs, h.ne⟩
  · obtain ⟨es, c, he⟩ := h.files.blk; exact h.files.keep (hmap he)
  · obtain ⟨es, c, he⟩ := h.names.blk; exact h.names.keep (hmap he)
  · obtain ⟨es, c, he⟩ := h.kept.blk; exact h.kept.keep (hmap he)
  · intro x hx
    refine (h.each x hx).keep (hcell (h.each x hx).blk (by decide) (by decide)) fun g hg => ?_
    obtain ⟨c, hc⟩ := own_blk (h.each x hx).row hg
    exact hcell hc (by decide) (by decide)
end Go.Proofs.YtnoknmnbfkdccaaGreatDoor

/- The disk's turnNames. -/
namespace Go.Proofs.YtnoknmnbfkdccaaGreatDoor
open Go.RowKit Go.Shelf

set_option maxHeartbeats 2000000 in
theorem turn_any {w : World} {p u fm nm sm : Nat} {D : Dk.D} {tv : Value} {J : List (Nat × FH × Dk.F)} (hP : Parts w p D u fm nm sm tv J) (t : Dk.T) (hn : D.turns.length ≤ 1000000) :
    Calls Tryz.prog 90 #[.pointer (some ⟨p, 0, none⟩), tval t] w fun e w' => e = .returned (.tuple #[]) ∧
      (∃ tv', Parts w' p { D with names := Dk.turn t D.names, turns := D.turns ++ [t] } u fm nm sm tv' J ∧ ∀ g, tv'.ownBlock = some g → tv.ownBlock = some g ∨ w.heap.size ≤ g) ∧ OnlyIn (fun k => k = p ∨ k = nm ∨ tv.ownBlock = some k) w w' := by
  have hP0 : Parts (w.alloc (.cells #[.string t.taken, .string t.given, .int .i64 (t.file : Int)] 129)) p D u fm nm sm tv J := hP.keep fun k hk => heap_alloc_old w _ (hP.lt hk)
  have hb0 : (w.alloc (.cells #[.string t.taken, .string t.given, .int .i64 (t.file : Int)] 129)).heap[w.heap.size]? = some (.cells #[.string t.taken, .string t.given, .int .i64 (t.file : Int)] 129 (0, 0)) := heap_alloc_new w _
  have hold : ∀ k, k < w.heap.size → (w.alloc (.cells #[.string t.taken, .string t.given, .int .i64 (t.file : Int)] 129)).heap[k]? = w.heap[k]? := fun k hk => heap_alloc_old w _ hk
  have hsz : (w.alloc (.cells #[.string t.taken, .string t.given, .int .i64 (t.file : Int)] 129)).heap.size = w.heap.size + 1 := by simp
  have hlt : ∀ k, foot p fm nm sm tv J k → k < w.heap.size := fun k hk => hP.lt hk
  unfold tval
  go_enter Tryz.func90, Tryz.ntmps90
  go_wp2
  have hbel : Below w.heap.size w (w.alloc (.cells #[.string t.taken, .string t.given, .int .i64 (t.file : Int)] 129)) := below_alloc w _
  generalize w.alloc (.cells #[.string t.taken, .string t.given, .int .i64 (t.file : Int)] 129) = W at *
  obtain ⟨⟨c0, c1, c2, c3, c4, c5, c6, c7, c8, c9⟩, hf⟩ := hP0.cells
  have k0 : W.cell? ⟨w.heap.size, 0, none⟩ = some (.string t.taken) := (Go.Joins.cell_of_block hb0 _).trans rfl
  have k1 : W.cell? ⟨w.heap.size, 1, none⟩ = some (.string t.given) := (Go.Joins.cell_of_block hb0 _).trans rfl
  have k2 : W.cell? ⟨w.heap.size, 2, none⟩ = some (.int .i64 (t.file : Int)) := (Go.Joins.cell_of_block hb0 _).trans rfl
  obtain ⟨N, hN⟩ : ∃ N, N = w.heap.size := ⟨_, rfl⟩
  rw [← hN] at k0 k1 k2 hb0 ⊢
  have HN : Hid (N = w.heap.size) := hN
  clear hN
  have hNn : ¬ (N = nm) := fun e => by have := hlt nm (.inr (.inr (.inl rfl))); rw [HN.out] at e; omega
  have hpn : ¬ (p = nm) := by obtain ⟨es, c, he⟩ := hP0.names.blk; exact cells_map hP0.blk he
  have hNl : N < W.heap.size := by rw [HN.out]; omega
  have hpl : p < W.heap.size := heap_lt hP0.blk
  have hcs : Hid (∀ w1, OnlyIn (fun k => k = nm) W.drew w1 → w1.cell? ⟨N, 0, none⟩ = some (.string t.taken) ∧ w1.cell? ⟨N, 1, none⟩ = some (.string t.given) ∧ w1.cell? ⟨N, 2, none⟩ = some (.int .i64 (t.file : Int)) ∧ w1.cell? ⟨p, 4, none⟩ = some (.map (some nm))) :=
    (fun w1 ho => ⟨(World.cell?_of_block (ho.block N hNl hNn)).trans k0, (World.cell?_of_block (ho.block N hNl hNn)).trans k1, (World.cell?_of_block (ho.block N hNl hNn)).trans k2, (World.cell?_of_block (ho.block p hpl hpn)).trans c4⟩ : ∀ w1, OnlyIn (fun k => k = nm) W.drew w1 → w1.cell? ⟨N, 0, none⟩ = some (.string t.taken) ∧ w1.cell? ⟨N, 1, none⟩ = some (.string t.given) ∧ w1.cell? ⟨N, 2, none⟩ = some (.int .i64 (t.file : Int)) ∧ w1.cell? ⟨p, 4, none⟩ = some (.map (some nm)))
  have hdo := do_any t nm D.names W.drew (hP0.names.keep rfl)
  unfold tval at hdo
  go_region_held3 (fun w' => w'.cell? ⟨N, 0, none⟩ = some (.string t.taken) ∧ w'.cell? ⟨N, 1, none⟩ = some (.string t.given) ∧ w'.cell? ⟨N, 2, none⟩ = some (.int .i64 (t.file : Int)) ∧ w'.cell? ⟨p, 4, none⟩ = some (.map (some nm))) (first | go_keep | (refine ⟨?_, ?_, ?_, ?_⟩ <;> assumption))
    ((go_at_call 77; refine hdo.mono ?_; rintro e w1 ⟨rfl, hm1, hon1⟩; obtain ⟨m0, m1, m2, m3⟩ := hcs.out w1 hon1))
  have hP1 : Parts w1 p { D with names := Dk.turn t D.names } u fm nm sm tv J := hP0.named (fun k hk hn => hon1.block k hk hn) hm1
  have hb1 : w1.heap[N]? = some (.cells #[.string t.taken, .string t.given, .int .i64 (t.file : Int)] 129 (0, 0)) := (hon1.block N hNl hNn).trans hb0
  have hs1 : W.heap.size ≤ w1.heap.size := hon1.size
  have hold1 : ∀ k, k < w.heap.size → k ≠ nm → w1.heap[k]? = w.heap[k]? := fun k hk hn => (hon1.block k (by show k < W.heap.size; omega) hn).trans (hold k hk)
  have ho1 : w1.os = w.os ∧ w1.tape = w.tape ∧ w1.output = w.output := ⟨hon1.os.trans hbel.os, hon1.tape.trans hbel.tape, hon1.output.trans hbel.output⟩
  clear m0 m1 m2 m3 k0 k1 k2 hcs c0 c1 c2 c3 c4 c5 c6 c7 c8 c9 hf hdo hm1
  obtain ⟨⟨c0, c1, c2, c3, c4, c5, c6, c7, c8, c9⟩, hf⟩ := hP1.cells
  have k0 : w1.cell? ⟨N, 0, none⟩ = some (.string t.taken) := (Go.Joins.cell_of_block hb1 _).trans rfl
  have k1 : w1.cell? ⟨N, 1, none⟩ = some (.string t.given) := (Go.Joins.cell_of_block hb1 _).trans rfl
  have k2 : w1.cell? ⟨N, 2, none⟩ = some (.int .i64 (t.file : Int)) := (Go.Joins.cell_of_block hb1 _).trans rfl
  have hal : (w1.drew.alloc (.cells #[.string t.taken, .string t.given, .int .i64 (t.file : Int)] 129)).heap[w1.heap.size]? = some (.cells #[.string t.taken, .string t.given, .int .i64 (t.file : Int)] 129 (0, 0)) := heap_alloc_new w1.drew _
  have HO : Hid ((w1.drew.alloc (.cells #[.string t.taken, .string t.given, .int .i64 (t.file : Int)] 129)).ownsRow 0 129 3 tv D.turns.length (tcells tenc D.turns)) := hP1.turns.alloc _
  obtain ⟨ta, tc, htv, _, _⟩ := t_shape hP1.turns
  have HTV : Hid (tv = .slice ta D.turns.length tc) := htv
  rw [htv] at c6 HO
  obtain ⟨L, hL⟩ : ∃ L, L = D.turns.length := ⟨_, rfl⟩
  have HL : Hid (L = D.turns.length) := hL
  simp only at c6
  rw [← hL] at c6 HO
  have hLs : L + 1 ≤ 1000000000 := by omega
  clear htv hL
  have n1 := World.new_ne w1 ⟨p, 6, none⟩ c6
  have n2 := World.new_ne w1 ⟨N, 0, none⟩ k0
  have hNw : N < w1.heap.size := by omega
  have hpw : p < w1.heap.size := by omega
  have hNv : some N ≠ (Value.slice ta L tc).ownBlock := fun e => by
    have h1 := hlt N (.inr (.inr (.inr (.inr (.inl (by rw [HTV.out, ← HL.out]; exact e.symm))))))
    rw [HN.out] at h1; omega
  have hpv : some p ≠ (Value.slice ta L tc).ownBlock := fun e => by
    have h1 := hP1.turns
    rw [HTV.out, ← HL.out] at h1
    obtain ⟨c, hc⟩ := own_blk h1 e.symm
    exact cells_ne hc hP1.blk (by decide) rfl
  have hkp : Hid (∀ w2, (w1.drew.alloc (.cells #[.string t.taken, .string t.given, .int .i64 (t.file : Int)] 129)).grownBy w2 (Value.slice ta L tc).ownBlock → w2.cell? ⟨N, 0, none⟩ = some (.string t.taken) ∧ w2.cell? ⟨N, 1, none⟩ = some (.string t.given) ∧ w2.cell? ⟨N, 2, none⟩ = some (.int .i64 (t.file : Int)) ∧ w2.cell? ⟨p, 6, none⟩ = some (.slice ta L tc) ∧ (∀ i, w2.frozen? ⟨p, i, none⟩ = false)) :=
    (fun w2 hg => by
      have hb : ∀ k, k < w1.heap.size → some k ≠ (Value.slice ta L tc).ownBlock → w2.heap[k]? = w1.heap[k]? := fun k hk hne => (hg.block k (by simp; omega) hne).trans (heap_alloc_old w1.drew _ hk)
      exact ⟨(World.cell?_of_block (hb N hNw hNv)).trans k0, (World.cell?_of_block (hb N hNw hNv)).trans k1, (World.cell?_of_block (hb N hNw hNv)).trans k2, (World.cell?_of_block (hb p hpw hpv)).trans c6, fun i => (World.frozen?_of_block (hb p hpw hpv)).trans (hf i)⟩ : ∀ w2, (w1.drew.alloc (.cells #[.string t.taken, .string t.given, .int .i64 (t.file : Int)] 129)).grownBy w2 (Value.slice ta L tc).ownBlock → w2.cell? ⟨N, 0, none⟩ = some (.string t.taken) ∧ w2.cell? ⟨N, 1, none⟩ = some (.string t.given) ∧ w2.cell? ⟨N, 2, none⟩ = some (.int .i64 (t.file : Int)) ∧ w2.cell? ⟨p, 6, none⟩ = some (.slice ta L tc) ∧ (∀ i, w2.frozen? ⟨p, i, none⟩ = false))
  have HH : Hid (w1.os = w.os ∧ w1.tape = w.tape ∧ w1.output = w.output) := ho1
  clear ho1
  go_wp2
  have hNp : ¬ (N = p) := fun e => by have := hlt p (.inl rfl); rw [HN.out] at e; omega
  have hpN : ¬ (p = N) := fun e => hNp e.symm
  refine wp_region_held_drew (S := fun w' => w'.cell? ⟨N, 0, none⟩ = some (.string t.taken) ∧ w'.cell? ⟨N, 1, none⟩ = some (.string t.given) ∧ w'.cell? ⟨N, 2, none⟩ = some (.int .i64 (t.file : Int))) (by kernel_rfl) ⟨k0, k1, k2⟩ (fun hHeld => ?_)
  refine wpAnyH_take (i := 0) (oi := ⟨some 10, _, _, _, _, _⟩) (v := ?_) rfl (by kernel_rfl) (by kernel_rfl) (by kernel_rfl) (fun _ _ _ h => h) (Or.inl ⟨by rfl, ?_⟩) (by assumption) ?_
  rotate_left
  · intro w hSw; (try dsimp only at hSw); go_simp <;> (try with_reducible rfl)
  go_frame
  refine wpAnyH_take (i := 1) (oi := ⟨some 11, _, _, _, _, _⟩) (v := ?_) rfl (by kernel_rfl) (by kernel_rfl) (by kernel_rfl) (fun _ _ _ h => h) (Or.inl ⟨by rfl, ?_⟩) (by assumption) ?_
  rotate_left
  · intro w hSw; (try dsimp only at hSw); go_simp <;> (try with_reducible rfl)
  go_frame
  refine wpAnyH_take (i := 2) (oi := ⟨some 12, _, _, _, _, _⟩) (v := ?_) rfl (by kernel_rfl) (by kernel_rfl) (by kernel_rfl) (fun _ _ _ h => h) (Or.inl ⟨by rfl, ?_⟩) (by assumption) ?_
  rotate_left
  · intro w hSw; (try dsimp only at hSw); go_simp <;> (try with_reducible rfl)
  go_frame
  refine wpAnyH_take (i := 3) (oi := ⟨some 13, _, _, _, _, _⟩) (v := ?_) rfl (by kernel_rfl) (by kernel_rfl) (by kernel_rfl) (fun _ _ _ h => h) (Or.inl ⟨by rfl, ?_⟩) (by assumption) ?_
  rotate_left
  · intro w hSw; (try dsimp only at hSw); go_simp <;> (try with_reducible rfl)
  go_frame
  refine wpAnyH_take (i := 5) (oi := ⟨some 15, _, _, _, _, _⟩) (v := ?_) rfl (by kernel_rfl) (by kernel_rfl) (by kernel_rfl) (fun _ _ _ h => h) (Or.inl ⟨by rfl, ?_⟩) (by assumption) ?_
  rotate_left
  · intro w hSw; (try dsimp only at hSw); go_simp <;> (try with_reducible rfl)
  go_frame
  refine wpAnyH_ready (rs := [4, 6]) (by kernel_rfl) (by simp) ?_
  refine AllReadyH.cons rfl (fun K hK => ?_) (AllReadyH.cons rfl (fun K hK => ?_) AllReadyH.nil)
  · skip
    go_simp
    refine hK.out _ _ (by first | go_keep | (refine ⟨?_, ?_, ?_⟩ <;> assumption)) (fun hHeld => ?_)
    clear hK K
    refine wpAnyH_ready (rs := [6]) (by kernel_rfl) (by simp) ?_
    refine AllReadyH.cons rfl (fun K hK => ?_) AllReadyH.nil
    go_simp
    refine hK.out _ _ (by first | go_keep | (refine ⟨?_, ?_, ?_⟩ <;> assumption)) (fun hHeld => ?_)
    clear hK K
    refine wpAnyH_ready (rs := [7]) (by kernel_rfl) (by simp) ?_
    refine AllReadyH.cons rfl (fun K hK => ?_) AllReadyH.nil
    refine step_turn (by rfl) _ _ (by rfl) _ L D.turns (by rfl) HO.out ⟨w1.heap.size, 0, none⟩ _ t (by rfl) (fun j v hj => World.news_of_block hal j v hj) hLs ?_; intro a' c' w2 hown2 hg2 hpl2; obtain ⟨m0, m1, m2, m3, m4⟩ := hkp.out w2 hg2
    refine hK.out _ _ (by first | go_keep | (refine ⟨?_, ?_, ?_⟩ <;> assumption)) (fun hHeld => ?_)
    clear hK K
    go_frame
    refine wpAnyH_take (i := 8) (oi := ⟨some 18, _, _, _, _, _⟩) (v := ?_) rfl (by kernel_rfl) (by kernel_rfl) (by kernel_rfl) (fun _ _ _ h => h) (Or.inl ⟨by rfl, ?_⟩) (by assumption) ?_
    rotate_left
    · intro w hSw; (try dsimp only at hSw); go_simp <;> (try with_reducible rfl)
    go_frame
    refine wpAnyH_take (i := 9) (oi := ⟨some 19, _, _, _, _, _⟩) (v := ?_) rfl (by kernel_rfl) (by kernel_rfl) (by kernel_rfl) (fun _ _ _ h => h) (Or.inl ⟨by rfl, ?_⟩) (by assumption) ?_
    rotate_left
    · intro w hSw; (try dsimp only at hSw); go_simp <;> (try with_reducible rfl)
    go_frame
    refine wpAnyH_ready (rs := [10]) (by kernel_rfl) (by simp) ?_
    refine AllReadyH.cons rfl (fun K hK => ?_) AllReadyH.nil
    go_simp
    refine hK.out _ _ (by first | go_keep | (refine ⟨?_, ?_, ?_⟩ <;> assumption)) (fun hHeld => ?_)
    clear hK K
    refine wpAnyH_done (by kernel_rfl) ?_ _
    go_wp2
    first | go_end0 | refine bodyPost_ret (results_none rfl _ _ _) rfl ?_
    have hb2 : ∀ k, k < w1.heap.size → some k ≠ (Value.slice ta L tc).ownBlock → w2.heap[k]? = w1.heap[k]? := fun k hk hne => (hg2.block k (by simp; omega) hne).trans (heap_alloc_old w1.drew _ hk)
    have hset : ∀ k, k ≠ p → (w2.setCell ⟨p, 6, none⟩ (.slice a' (L + 1) c')).heap[k]? = w2.heap[k]? := fun k hk => set_other w2 p 6 _ hk
    have htv : tv.ownBlock = (Value.slice ta L tc).ownBlock := by rw [HTV.out, ← HL.out]
    refine ⟨rfl, ⟨.slice a' (L + 1) c', ?_, fun g hg => ?_⟩, ?_⟩
    · refine hP1.turned (fun k hk h1 h2 => (hset k h1).trans (hb2 k hk (fun e => h2 (htv.trans e.symm)))) (D.turns ++ [t]) (Go.Joins.block_setCell ((hb2 p hpw hpv).trans hP1.blk) _) ?_
      rw [show (D.turns ++ [t]).length = L + 1 by rw [List.length_append, HL.out]; rfl]
      refine own_keep hown2 fun g hg => hset g fun e => ?_
      obtain ⟨c, hc⟩ := own_blk hown2 hg
      have hpb := (hb2 p hpw hpv).trans hP1.blk
      exact cells_ne hc hpb (by decide) e
    · rcases hpl2 g hg with h1 | h1
      · exact .inl (htv.trans h1)
      · have : w1.heap.size ≤ g := by simp at h1; omega
        right; omega
    · refine ⟨?_, ?_, ?_, ?_, fun k hk hn => ?_⟩
      · exact hg2.os.trans HH.out.1
      · exact hg2.tape.trans HH.out.2.1
      · exact hg2.output.trans HH.out.2.2
      · have := hg2.size; simp at this ⊢; omega
      · have h1 : k ≠ p := fun e => hn (.inl e)
        exact ((hset k h1).trans (hb2 k (by omega) fun e => hn (.inr (.inr (htv.trans e.symm))))).trans (hold1 k hk fun e => hn (.inr (.inl e)))
  · skip
    go_simp
    refine hK.out _ _ (by first | go_keep | (refine ⟨?_, ?_, ?_⟩ <;> assumption)) (fun hHeld => ?_)
    clear hK K
    refine wpAnyH_ready (rs := [4]) (by kernel_rfl) (by simp) ?_
    refine AllReadyH.cons rfl (fun K hK => ?_) AllReadyH.nil
    go_simp
    refine hK.out _ _ (by first | go_keep | (refine ⟨?_, ?_, ?_⟩ <;> assumption)) (fun hHeld => ?_)
    clear hK K
    refine wpAnyH_ready (rs := [7]) (by kernel_rfl) (by simp) ?_
    refine AllReadyH.cons rfl (fun K hK => ?_) AllReadyH.nil
    refine step_turn (by rfl) _ _ (by rfl) _ L D.turns (by rfl) HO.out ⟨w1.heap.size, 0, none⟩ _ t (by rfl) (fun j v hj => World.news_of_block hal j v hj) hLs ?_; intro a' c' w2 hown2 hg2 hpl2; obtain ⟨m0, m1, m2, m3, m4⟩ := hkp.out w2 hg2
    refine hK.out _ _ (by first | go_keep | (refine ⟨?_, ?_, ?_⟩ <;> assumption)) (fun hHeld => ?_)
    clear hK K
    go_frame
    refine wpAnyH_take (i := 8) (oi := ⟨some 18, _, _, _, _, _⟩) (v := ?_) rfl (by kernel_rfl) (by kernel_rfl) (by kernel_rfl) (fun _ _ _ h => h) (Or.inl ⟨by rfl, ?_⟩) (by assumption) ?_
    rotate_left
    · intro w hSw; (try dsimp only at hSw); go_simp <;> (try with_reducible rfl)
    go_frame
    refine wpAnyH_take (i := 9) (oi := ⟨some 19, _, _, _, _, _⟩) (v := ?_) rfl (by kernel_rfl) (by kernel_rfl) (by kernel_rfl) (fun _ _ _ h => h) (Or.inl ⟨by rfl, ?_⟩) (by assumption) ?_
    rotate_left
    · intro w hSw; (try dsimp only at hSw); go_simp <;> (try with_reducible rfl)
    go_frame
    refine wpAnyH_ready (rs := [10]) (by kernel_rfl) (by simp) ?_
    refine AllReadyH.cons rfl (fun K hK => ?_) AllReadyH.nil
    go_simp
    refine hK.out _ _ (by first | go_keep | (refine ⟨?_, ?_, ?_⟩ <;> assumption)) (fun hHeld => ?_)
    clear hK K
    refine wpAnyH_done (by kernel_rfl) ?_ _
    go_wp2
    first | go_end0 | refine bodyPost_ret (results_none rfl _ _ _) rfl ?_
    have hb2 : ∀ k, k < w1.heap.size → some k ≠ (Value.slice ta L tc).ownBlock → w2.heap[k]? = w1.heap[k]? := fun k hk hne => (hg2.block k (by simp; omega) hne).trans (heap_alloc_old w1.drew _ hk)
    have hset : ∀ k, k ≠ p → (w2.setCell ⟨p, 6, none⟩ (.slice a' (L + 1) c')).heap[k]? = w2.heap[k]? := fun k hk => set_other w2 p 6 _ hk
    have htv : tv.ownBlock = (Value.slice ta L tc).ownBlock := by rw [HTV.out, ← HL.out]
    refine ⟨rfl, ⟨.slice a' (L + 1) c', ?_, fun g hg => ?_⟩, ?_⟩
    · refine hP1.turned (fun k hk h1 h2 => (hset k h1).trans (hb2 k hk (fun e => h2 (htv.trans e.symm)))) (D.turns ++ [t]) (Go.Joins.block_setCell ((hb2 p hpw hpv).trans hP1.blk) _) ?_
      rw [show (D.turns ++ [t]).length = L + 1 by rw [List.length_append, HL.out]; rfl]
      refine own_keep hown2 fun g hg => hset g fun e => ?_
      obtain ⟨c, hc⟩ := own_blk hown2 hg
      have hpb := (hb2 p hpw hpv).trans hP1.blk
      exact cells_ne hc hpb (by decide) e
    · rcases hpl2 g hg with h1 | h1
      · exact .inl (htv.trans h1)
      · have : w1.heap.size ≤ g := by simp at h1; omega
        right; omega
    · refine ⟨?_, ?_, ?_, ?_, fun k hk hn => ?_⟩
      · exact hg2.os.trans HH.out.1
      · exact hg2.tape.trans HH.out.2.1
      · exact hg2.output.trans HH.out.2.2
      · have := hg2.size; simp at this ⊢; omega
      · have h1 : k ≠ p := fun e => hn (.inl e)
        exact ((hset k h1).trans (hb2 k (by omega) fun e => hn (.inr (.inr (htv.trans e.symm))))).trans (hold1 k hk fun e => hn (.inr (.inl e)))
end Go.Proofs.YtnoknmnbfkdccaaGreatDoor

/- The disk's Remove and Rename. -/
namespace Go.Proofs.YtnoknmnbfkdccaaGreatDoor
open Go.RowKit Go.Shelf

/-- the disk behind a turn -/
def Dk.turned (D : Dk.D) (t : Dk.T) : Dk.D := { D with names := Dk.turn t D.names, turns := D.turns ++ [t] }
theorem Dk.turn_mem {t : Dk.T} {l : List (ByteArray × Nat)} {x : ByteArray × Nat} (h : x ∈ Dk.turn t l) : x ∈ l ∨ (t.given ≠ ⟨#[]⟩ ∧ x = (t.given, t.file)) := by
  unfold Dk.turn at h
  split at h
  · exact .inl ((mdel_sub l t.taken).subset h)
  · rename_i hg
    rcases mput_mem h with h | h
    · exact .inl ((mdel_sub l t.taken).subset h)
    · exact .inr ⟨hg, h⟩
theorem Dk.turn_nodup {t : Dk.T} {l : List (ByteArray × Nat)} (h : (l.map (·.1)).Nodup) : ((Dk.turn t l).map (·.1)).Nodup := by
  have h1 : ((mdel l t.taken).map (·.1)).Nodup := h.sublist ((mdel_sub l t.taken).map _)
  unfold Dk.turn
  split
  · exact h1
  · exact mput_nodup h1
theorem Dk.Ok.turned {D : Dk.D} (h : Dk.Ok D) (t : Dk.T) (hz : t.given.size ≤ 16) (ht : t.given ≠ ⟨#[]⟩ → t.file ∈ D.files.map (·.1)) : Dk.Ok (Dk.turned D t) := by
  refine ⟨h.q, h.use, h.fk, h.pos, Dk.turn_nodup h.nk, h.kk, ?_, h.kf, ?_, h.stop, h.fault, ?_, h.ks, ?_⟩
  · intro x hx
    rcases Dk.turn_mem hx with h1 | ⟨h1, rfl⟩
    · exact h.nf x h1
    · exact ht h1
  · intro t' ht' hg
    rcases List.mem_append.1 ht' with h1 | h1
    · exact h.tf t' h1 hg
    · simp at h1; subst h1; exact ht hg
  · intro x hx
    rcases Dk.turn_mem hx with h1 | ⟨h1, rfl⟩
    · exact h.ns x h1
    · exact hz
  · intro t' ht'
    rcases List.mem_append.1 ht' with h1 | h1
    · exact h.ts t' h1
    · simp at h1; subst h1; exact hz
theorem foot_turns {p fm nm sm : Nat} {tv tv' : Value} {J : List (Nat × FH × Dk.F)} {S : Nat → Prop} (hS : ∀ k, foot p fm nm sm tv J k → S k) (hv : ∀ g, tv'.ownBlock = some g → S g) : ∀ k, foot p fm nm sm tv' J k → S k := by
  rintro k (h | h | h | h | h | h)
  · exact hS k (.inl h)
  · exact hS k (.inr (.inl h))
  · exact hS k (.inr (.inr (.inl h)))
  · exact hS k (.inr (.inr (.inr (.inl h))))
  · exact hv k h
  · exact hS k (.inr (.inr (.inr (.inr (.inr h)))))

theorem turn_dk {w : World} {p fm nm sm : Nat} {D : Dk.D} {tv : Value} {J : List (Nat × FH × Dk.F)} {S : Nat → Prop} (hO : Dk.Ok D) (hP : Parts w p D (Dk.sum D.files) fm nm sm tv J) (hS : ∀ k, foot p fm nm sm tv J k → S k) (t : Dk.T) (hn : D.turns.length ≤ 1000000) (hz : t.given.size ≤ 16) (ht : t.given ≠ ⟨#[]⟩ → t.file ∈ D.files.map (·.1)) :
    Calls Tryz.prog 90 #[.pointer (some ⟨p, 0, none⟩), tval t] w fun e w' => e = .returned (.tuple #[]) ∧ DK w' p (Dk.turned D t) (grow1 S w) ∧ OnlyIn S w w' := by
  refine (turn_any hP t hn).mono ?_
  rintro e w' ⟨rfl, ⟨tv', hP', hv⟩, hon⟩
  refine ⟨rfl, ⟨hO.turned t hz ht, fm, nm, sm, tv', J, hP', foot_turns (tv := tv) (fun k hk => .inl (hS k hk)) fun g hg => (hv g hg).imp (fun h => hS g (.inr (.inr (.inr (.inr (.inl h)))))) id⟩, hon.mono fun k _ hk => ?_⟩
  rcases hk with rfl | rfl | hk
  · exact hS k (.inl rfl)
  · exact hS k (.inr (.inr (.inl rfl)))
  · exact hS k (.inr (.inr (.inr (.inr (.inl hk)))))

set_option maxHeartbeats 1000000 in
theorem remove1_any {w : World} {p fm nm sm : Nat} {D : Dk.D} {tv : Value} {J : List (Nat × FH × Dk.F)} {S : Nat → Prop} (hO : Dk.Ok D) (hP : Parts w p D (Dk.sum D.files) fm nm sm tv J) (hS : ∀ k, foot p fm nm sm tv J k → S k) (hn : D.turns.length ≤ 1000000) (s : ByteArray)
    (b0 b1 : Nat) (k0 : w.cell? ⟨b0, 0, none⟩ = some (.pointer (some ⟨p, 0, none⟩))) (k1 : w.cell? ⟨b1, 0, none⟩ = some (.string s)) :
    Calls Tryz.prog 89 #[.pointer (some ⟨b0, 0, none⟩), .pointer (some ⟨b1, 0, none⟩)] w fun e w' => e = .returned (.tuple #[]) ∧ DK w' p (Dk.turned D ⟨s, ⟨#[]⟩, 0⟩) (grow1 S w) ∧ OnlyIn S w w' := by
  have hc := turn_dk hO hP hS ⟨s, ⟨#[]⟩, 0⟩ hn (Nat.zero_le _) (fun h => absurd rfl h)
  simp only [tval, Int.cast_ofNat_Int] at hc
  go_enter Tryz.func89, Tryz.ntmps89
  go_wp2_with (go_at_call 90; go_must (refine hc.mono ?_; rintro e w1 ⟨rfl, hDK1, hon1⟩))
  first | go_end0 | refine bodyPost_ret (results_none rfl _ _ _) rfl ?_
  exact ⟨rfl, hDK1, hon1⟩

/-- what Remove does and tells -/
def Dk.remove (D : Dk.D) (s : ByteArray) : Dk.D × Int :=
  if D.dead = true then (D, 9) else if Dk.find D s = none then (D, 3) else Dk.acted D (Dk.turned D ⟨s, ⟨#[]⟩, 0⟩)

set_option maxHeartbeats 2000000 in
theorem removeD_any {w : World} {p : Nat} {D : Dk.D} {S : Nat → Prop} (h : DK w p D S) (s : ByteArray) (hn : D.turns.length ≤ 1000000) :
    Calls Tryz.prog 57 #[.pointer (some ⟨p, 0, none⟩), .string s] w fun e w' => e = .returned (.int .i64 (Dk.remove D s).2) ∧ DK w' p (Dk.remove D s).1 (grow1 S w) ∧ OnlyIn S w w' := by
  have hgr : ∀ {W : World}, Below w.heap.size w W → DK W p D (grow1 S w) ∧ OnlyIn S w W := fun {W} hb => ⟨h.keep (fun k hk _ => hb.block k hk) fun _ _ h => .inl h, OnlyIn.of_below hb⟩
  obtain ⟨hO, fm, nm, sm, tv, J, hP, hS⟩ := h
  have hPW : ∀ {W : World}, Below w.heap.size w W → Parts W p D (Dk.sum D.files) fm nm sm tv J := fun {W} hb => hP.keep fun k hk => hb.block k (hP.lt hk)
  have hdead := fun (W : World) (hb : Below w.heap.size w W) => dead_any (hPW hb)
  unfold Dk.remove
  by_cases hd : D.dead = true
  · rw [hd] at hdead
    rw [if_pos hd]
    clear hd
    go_enter Tryz.func57, Tryz.ntmps57
    go_wp2_with (go_at_call 42; go_must (refine Calls.mono (hdead _ ?_) ?_; (focus (repeat first | exact Below.refl _ _ | refine bal ?_ _ | refine bdr ?_ _ | refine bd1 ?_)); rintro e w1 ⟨rfl, hw⟩; rw [hw]; clear hw w1))
    go_ret
    exact ⟨rfl, hgr (bal (bal (Below.refl _ w) _) _)⟩
  · rw [if_neg hd]
    rw [Bool.not_eq_true] at hd
    rw [hd] at hdead
    clear hd
    rcases hP.findJ hO s with ⟨e1, e2⟩ | ⟨num, x, f, e1, e2, e3, e4⟩
    · have hfd := fun (W : World) (hb : Below w.heap.size w W) => find_none (hPW hb) s e2 ((hPW hb).look0 hO)
      rw [if_pos e1]
      go_enter Tryz.func57, Tryz.ntmps57
      go_wp2_with (first | (go_at_call 42; go_must (refine Calls.mono (hdead _ ?_) ?_; (focus (repeat first | exact Below.refl _ _ | refine bal ?_ _ | refine bdr ?_ _ | refine bd1 ?_)); rintro e w1 ⟨rfl, hw⟩; rw [hw]; clear hw w1)) | (go_at_call 71; go_must (refine Calls.mono (hfd _ ?_) ?_; (focus (repeat first | exact Below.refl _ _ | refine bal ?_ _ | refine bdr ?_ _ | refine bd1 ?_)); rintro e w1 ⟨rfl, m, hw⟩; subst hw)))
      go_ret
      exact ⟨rfl, hgr (bdr (bal (bal (Below.refl _ w) _) _) _)⟩
    · have hfd := fun (W : World) (hb : Below w.heap.size w W) => find_some (hPW hb) s e2 e3
      have hact := fun (W : World) (b0 b1 : Nat) (hb : Below w.heap.size w W) (k0 : W.cell? ⟨b0, 0, none⟩ = some (.pointer (some ⟨p, 0, none⟩))) (k1 : W.cell? ⟨b1, 0, none⟩ = some (.string s)) =>
        act_any ⟨hO, fm, nm, sm, tv, J, hPW hb, hS⟩ (Dk.turned D ⟨s, ⟨#[]⟩, 0⟩) 89 _ rfl rfl (enters_lit Tryz.func89 (by kernel_rfl) rfl) (remove1_any hO (hPW hb) hS hn s b0 b1 k0 k1)
      rw [if_neg (by rw [e1]; simp)]
      go_enter Tryz.func57, Tryz.ntmps57
      go_wp2_with (first | (go_at_call 42; go_must (refine Calls.mono (hdead _ ?_) ?_; (focus (repeat first | exact Below.refl _ _ | refine bal ?_ _ | refine bdr ?_ _ | refine bd1 ?_)); rintro e w1 ⟨rfl, hw⟩; rw [hw]; clear hw w1)) | (go_at_call 71; go_must (refine Calls.mono (hfd _ ?_) ?_; (focus (repeat first | exact Below.refl _ _ | refine bal ?_ _ | refine bdr ?_ _ | refine bd1 ?_)); rintro e w1 ⟨rfl, m, hw⟩; subst hw)) | (go_at_call 43; go_must (refine Calls.mono (hact (((w.alloc (.cells #[.pointer (some ⟨p, 0, none⟩)] 30)).alloc (.cells #[.string s] 9)).drewN m) w.heap.size (w.heap.size + 1) (bdr (bal (bal (Below.refl _ w) _) _) _) (by simp [go_sem]) (by simp [go_sem])) ?_; rintro e w2 ⟨rfl, hDK1, hon1⟩)))
      go_ret
      exact ⟨rfl, hDK1.after (bdr (bal (bal (Below.refl _ w) _) _) _), hon1.after (bdr (bal (bal (Below.refl _ w) _) _) _)⟩

end Go.Proofs.YtnoknmnbfkdccaaGreatDoor

/- The disk's create. -/
namespace Go.Proofs.YtnoknmnbfkdccaaGreatDoor
open Go.RowKit Go.Shelf

/-- a file more -/
theorem parts_created {W w' : World} {p u fm nm sm q n : Nat} {D : Dk.D} {tv : Value} {J : List (Nat × FH × Dk.F)} (h : Parts W p D u fm nm sm tv J)
    (hq : W.heap[q]? = some (.cells #[.slice none 0 0, .int .i64 0] 123 (0, 0))) (hnew : ∀ k, foot p fm nm sm tv J k → k ≠ q) (hn : look D.files n = none)
    (hm : MapAt ik fv w' fm (mput (J.map fun x => (x.1, x.2.1)) n ⟨q, .slice none 0 0⟩)) (ht : Turn1 W w' fm) :
    Parts w' p { D with files := D.files ++ [(n, ⟨[], 0⟩)] } u fm nm sm tv (J ++ [(n, ⟨q, .slice none 0 0⟩, ⟨[], 0⟩)]) := by
  obtain ⟨es, c, he⟩ := h.files.blk
  obtain ⟨a, _, b, d, e, f⟩ := h.maps he (fun k _ hk => ht.block k hk)
  have hl : look (J.map fun x => (x.1, x.2.1)) n = none := by
    rw [look_j]
    have := h.look n
    rw [hn] at this
    cases hj : look J n with
    | none => rfl
    | some y => rw [hj] at this; cases this
  refine ⟨a.trans h.blk, ?_, ?_, b h.ne.1.symm, d h.ne.2.1.symm, e, ?_, ?_, ?_, h.ne⟩
  · rw [List.map_append, h.jf]; rfl
  · rw [mput_none _ _ _ hl] at hm
    rw [List.map_append]
    exact hm
  · intro x hx
    rcases List.mem_append.1 hx with hx | hx
    · exact f x hx
    · simp at hx
      subst hx
      refine ⟨(ht.block q (cells_map hq he)).trans hq, ⟨rfl, .inl ⟨rfl, rfl⟩⟩, by simp, by simp⟩
  · rw [List.map_append, List.nodup_append]
    refine ⟨h.qs, by simp, ?_⟩
    intro x hx y hy
    simp at hy
    subst hy
    obtain ⟨z, hz, rfl⟩ := List.mem_map.1 hx
    exact hnew _ (.inr (.inr (.inr (.inr (.inr ⟨z, hz, .inl rfl⟩)))))
  · refine List.pairwise_append.2 ⟨h.vs, by simp, fun x hx y hy => ?_⟩
    simp at hy
    subst hy
    cases hg : x.2.1.v.ownBlock with
    | none => exact .inl rfl
    | some g => exact .inr (by simp [Value.ownBlock])

theorem look_app {α β : Type} [DecidableEq α] : ∀ {l : List (α × β)} {k : α} (v : β), look l k = none → look (l ++ [(k, v)]) k = some v
  | [], k, v, _ => by simp [look]
  | (a, x) :: l, k, v, h => by
    by_cases hk : a = k
    · simp [look, hk] at h
    · simp only [look, hk, if_false] at h
      simp only [List.cons_append, look, hk, if_false]
      exact look_app v h
theorem Dk.sum_app (l : List (Nat × Dk.F)) (n : Nat) : Dk.sum (l ++ [(n, ⟨[], 0⟩)]) = Dk.sum l := by simp [Dk.sum]

/-- the disk with a file more -/
def Dk.created (D : Dk.D) (s : ByteArray) : Dk.D := Dk.turned { D with files := D.files ++ [(D.last + 1, (⟨[], 0⟩ : Dk.F))], last := D.last + 1 } ⟨⟨#[]⟩, s, D.last + 1⟩
theorem Dk.Ok.more {D : Dk.D} (h : Dk.Ok D) : Dk.Ok { D with files := D.files ++ [(D.last + 1, (⟨[], 0⟩ : Dk.F))], last := D.last + 1 } := by
  refine ⟨h.q, ?_, ?_, ?_, h.nk, h.kk, ?_, ?_, ?_, h.stop, h.fault, h.ns, h.ks, h.ts⟩
  · show Dk.sum (D.files ++ [(D.last + 1, (⟨[], 0⟩ : Dk.F))]) ≤ D.quota; rw [Dk.sum_app]; exact h.use
  · show ((D.files ++ [(D.last + 1, (⟨[], 0⟩ : Dk.F))]).map (·.1)).Nodup
    rw [List.map_append, List.nodup_append]
    refine ⟨h.fk, by simp, fun a ha b hb => ?_⟩
    simp at hb
    obtain ⟨y, hy, rfl⟩ := List.mem_map.1 ha
    have := h.pos y hy
    omega
  · intro x hx
    rcases List.mem_append.1 hx with hx | hx
    · have := h.pos x hx; show 1 ≤ x.1 ∧ x.1 ≤ D.last + 1; omega
    · simp at hx; subst hx; exact ⟨by simp, Nat.le_refl _⟩
  · intro x hx
    show x.2 ∈ (D.files ++ [(D.last + 1, (⟨[], 0⟩ : Dk.F))]).map (·.1)
    rw [List.map_append]; exact List.mem_append.2 (.inl (h.nf x hx))
  · intro x hx
    show x.2 ∈ (D.files ++ [(D.last + 1, (⟨[], 0⟩ : Dk.F))]).map (·.1)
    rw [List.map_append]; exact List.mem_append.2 (.inl (h.kf x hx))
  · intro t ht hg
    show t.file ∈ (D.files ++ [(D.last + 1, (⟨[], 0⟩ : Dk.F))]).map (·.1)
    rw [List.map_append]; exact List.mem_append.2 (.inl (h.tf t ht hg))
theorem Dk.no_last {D : Dk.D} (h : Dk.Ok D) : look D.files (D.last + 1) = none := look_none.2 fun hm => by
  obtain ⟨y, hy, e⟩ := List.mem_map.1 hm
  have := h.pos y hy
  omega

set_option maxRecDepth 100000 in
set_option maxHeartbeats 2000000 in
theorem create_any {w : World} {p fm nm sm : Nat} {D : Dk.D} {tv : Value} {J : List (Nat × FH × Dk.F)} {S : Nat → Prop} (hO : Dk.Ok D) (hP : Parts w p D (Dk.sum D.files) fm nm sm tv J) (hS : ∀ k, foot p fm nm sm tv J k → S k) (hn : D.turns.length ≤ 1000000) (hlast : D.last ≤ 1000000) (s : ByteArray) (hz : s.size ≤ 16) :
    Calls Tryz.prog 74 #[.pointer (some ⟨p, 0, none⟩), .string s] w fun e w' => ∃ x tv' J', e = .returned (.pointer (some ⟨x.q, 0, none⟩)) ∧ Dk.Ok (Dk.created D s) ∧ Parts w' p (Dk.created D s) (Dk.sum (Dk.created D s).files) fm nm sm tv' J' ∧ look J' (D.last + 1) = some (x, ⟨[], 0⟩) ∧ (∀ k, foot p fm nm sm tv' J' k → grow1 S w k) ∧ OnlyIn S w w' := by
  have hm : Tryz.prog.follows .mixedOrders = true := by kernel_rfl
  have hO2 : Dk.Ok (Dk.created D s) := hO.more.turned _ hz (fun _ => by show D.last + 1 ∈ (D.files ++ [(D.last + 1, (⟨[], 0⟩ : Dk.F))]).map (·.1); simp)
  have hnl := Dk.no_last hO
  have hO1 := hO.more
  unfold Dk.created at hO2 ⊢
  obtain ⟨M, hM⟩ : ∃ M, M = D.last + 1 := ⟨_, rfl⟩
  have HM : Hid (M = D.last + 1) := hM
  rw [← hM] at hO2 hnl hO1 ⊢
  have j1 : IntKind.i64.wrap ((D.last : Int) + 1) = (M : Int) := by rw [IntKind.wrap_i64]; omega
  clear hM
  have hP1 : Parts (w.setCell ⟨p, 2, none⟩ (.int .i64 (M : Int))) p { D with last := M } (Dk.sum D.files) fm nm sm tv J := hP.setLast rfl
  have hP2 : Parts ((w.setCell ⟨p, 2, none⟩ (.int .i64 (M : Int))).alloc (.cells #[.slice none 0 0, .int .i64 0] 123)) p { D with last := M } (Dk.sum D.files) fm nm sm tv J := hP1.keep fun k hk => heap_alloc_old _ _ (hP1.lt hk)
  have hq2 : ((w.setCell ⟨p, 2, none⟩ (.int .i64 (M : Int))).alloc (.cells #[.slice none 0 0, .int .i64 0] 123)).heap[w.heap.size]? = some (.cells #[.slice none 0 0, .int .i64 0] 123 (0, 0)) := by
    have := heap_alloc_new (w.setCell ⟨p, 2, none⟩ (.int .i64 (M : Int))) (.cells #[.slice none 0 0, .int .i64 0] 123)
    rwa [show (w.setCell ⟨p, 2, none⟩ (.int .i64 (M : Int))).heap.size = w.heap.size by simp] at this
  have hon2 : OnlyIn S w ((w.setCell ⟨p, 2, none⟩ (.int .i64 (M : Int))).alloc (.cells #[.slice none 0 0, .int .i64 0] 123)) := (only_set w p 2 _ (hS p (.inl rfl))).trans (OnlyIn.of_below (below_alloc _ _))
  have hnew : ∀ k, foot p fm nm sm tv J k → k ≠ w.heap.size := fun k hk => by have := hP.lt hk; omega
  obtain ⟨⟨c0, c1, c2, c3, c4, c5, c6, c7, c8, c9⟩, hf⟩ := hP.cells
  go_enter Tryz.func74, Tryz.ntmps74
  go_wp2
  generalize (w.setCell ⟨p, 2, none⟩ (.int .i64 (M : Int))).alloc (.cells #[.slice none 0 0, .int .i64 0] 123) = W at *
  clear c0 c1 c2 c3 c4 c5 c6 c7 c8 c9 hf hP1
  obtain ⟨⟨c0, c1, c2, c3, c4, c5, c6, c7, c8, c9⟩, hf⟩ := hP2.cells
  simp only at c2
  go_still_tail 9, hm
  go_wp2_with (first
    | (at_mapUpdate; go_must (refine wp_update_at (w := _) rfl _ _ _ _ rfl 120 ikE Tryz.underlying72 fm (J.map fun x => (x.1, x.2.1)) M (⟨w.heap.size, .slice none 0 0⟩ : FH) rfl rfl rfl (hP2.files.keep rfl) ?_; intro w1 hm1 ht1; have hP3 := parts_created (n := M) (hP2.keep (w' := W.drew) fun k _ => rfl) hq2 hnew hnl hm1 ht1; have cl := hP3.cells.1.2.2.1; simp only at cl; have hc := turn_any hP3 ⟨⟨#[]⟩, s, M⟩ hn; simp only [tval] at hc))
    | (go_at_call 90; go_must (refine hc.mono ?_; rintro e w2 ⟨rfl, ⟨tv', hP4, hv4⟩, hon4⟩)))
  go_ret
  have hs1 : W.heap.size = w1.heap.size := ht1.size.symm
  have hsw := hon2.size
  refine ⟨⟨w.heap.size, .slice none 0 0⟩, tv', J ++ [(M, (⟨w.heap.size, .slice none 0 0⟩ : FH), (⟨[], 0⟩ : Dk.F))], rfl, hO2, ?_, look_app _ ?_, ?_, ?_⟩
  · show Parts w2 p _ (Dk.sum (D.files ++ [(M, (⟨[], 0⟩ : Dk.F))])) fm nm sm tv' _
    rw [Dk.sum_app]
    exact hP4
  · have := hP.look M
    rw [hnl] at this
    cases hj : look J M with
    | none => rfl
    | some y => rw [hj] at this; cases this
  · rintro k (h | h | h | h | h | ⟨y, hy, h⟩)
    · exact .inl (hS k (.inl h))
    · exact .inl (hS k (.inr (.inl h)))
    · exact .inl (hS k (.inr (.inr (.inl h))))
    · exact .inl (hS k (.inr (.inr (.inr (.inl h)))))
    · exact (hv4 k h).imp (fun h => hS k (.inr (.inr (.inr (.inr (.inl h)))))) fun h => by omega
    · rcases List.mem_append.1 hy with hy | hy
      · exact .inl (hS k (.inr (.inr (.inr (.inr (.inr ⟨y, hy, h⟩))))))
      · simp at hy
        subst hy
        rcases h with h | h
        · exact .inr (by rw [h]; exact Nat.le_refl _)
        · simp [Value.ownBlock] at h
  · refine hon2.trans (OnlyIn.trans (b := w1) ⟨ht1.os, ht1.tape, ht1.output, by omega, fun k _ hk => ht1.block k fun e => hk (.inl (hS k (.inr (.inl e))))⟩ (hon4.mono fun k _ hk => ?_))
    rcases hk with h | h | h
    · exact .inl (.inl (hS k (.inl h)))
    · exact .inl (.inl (hS k (.inr (.inr (.inl h)))))
    · exact .inl (.inl (hS k (.inr (.inr (.inr (.inr (.inl h)))))))
end Go.Proofs.YtnoknmnbfkdccaaGreatDoor
