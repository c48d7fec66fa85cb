/- append onto a row that lies within something, and where the row lies behind it. -/
import Derived.Test.YtefadkengfjdmaaDK9
import Derived.Deep.AppendLies
namespace Go.Proofs.Ytefadkengfjdmaa
open Go.RowKit Go.Shelf

theorem run_append_zero {P : Program} (w : World) (T E : TypeId) (ht : P.underlying T = some (.slice E)) (i : TypeInfo) (hi : P.info? E = some i) (ty : TypeId) (a ax : Option Addr) (n cap c : Nat) (hc : n ≤ cap) :
    (Builtin.append_ #[T, T] ty #[.slice a n cap, .slice ax 0 c]).run P w = .ok (.slice a n cap) w := by
  cases a <;> cases ax <;> simp [Builtin.append_, run_underlying ht, sizeOf, typeInfo, hi, Builtin.lenOf, Builtin.firstCells, Result.andThen, hc, loadCells, storeCells, go_sem]

theorem run_append_raw {P : Program} {w : World} (T E ty : TypeId) (i : TypeInfo) (z : Value) (s bytes : Nat)
    (ht : P.underlying T = some (.slice E)) (hi : P.info? E = some i) (hz : i.zero = some z) (hz1 : i.size = s) (hz2 : i.bytes = bytes) (hzs : z.cells.size = s) (hs0 : 0 < s) (hsm : bytes ≤ 1000)
    (v : Value) (n : Nat) (xs : List Value) (hown : w.ownsRow 0 E s v n xs)
    (ax : Option Addr) (m c : Nat) (news : List Value) (hl : news.length = m * s) (hnil : ax = none → m = 0) (hnews : ∀ ad, ax = some ad → ∀ j u, news[j]? = some u → w.cell? (ad.add j) = some u) (h1 : ∀ u ∈ news, u.oneCell' = true)
    (hnm : n + m ≤ 1000000000) :
    ∃ a' c' w', (Builtin.append_ #[T, T] ty #[v, .slice ax m c]).run P w = .ok (.slice a' (n + m) c') w' ∧ w'.ownsRow 0 E s (.slice a' (n + m) c') (n + m) (xs ++ news) ∧ w.grownBy w' v.ownBlock ∧ (∀ g, (Value.slice a' (n + m) c').ownBlock = some g → v.ownBlock = some g ∨ w.heap.size ≤ g) := by
  obtain ⟨a0, c0, rfl, h2, h3⟩ := t_shape hown
  by_cases hm : m = 0
  · subst hm
    have hn0 : news = [] := List.length_eq_zero_iff.mp (by omega)
    subst hn0
    exact ⟨a0, c0, w, run_append_zero (P := P) w T E ht i hi ty a0 ax n c0 c h3, by simpa using hown, ⟨rfl, rfl, rfl, Nat.le_refl _, fun _ _ _ => rfl⟩, fun g hg => .inl hg⟩
  · cases ax with
    | none => exact absurd (hnil rfl) hm
    | some ad =>
      have h2 : (n + m) * bytes ≤ 1000000000 * 1000 := Nat.mul_le_mul hnm hsm
      obtain ⟨g, cap, w', hr, hown', hg, hgg, _⟩ := run_append_lies w T ty 0 E i z s bytes ht hi hz hz1 hz2 hzs hs0 _ n xs hown ad m c news hl (hnews ad rfl) h1 (by omega) (by unfold maxLen; omega) (by omega) (Nat.zero_le _) w.heap.size rfl
      refine ⟨some ⟨g, 0, none⟩, cap, w', hr, hown', hg, fun g' hg' => ?_⟩
      simp only [Value.ownBlock, Option.some.injEq] at hg'
      subst hg'
      exact hgg.imp id fun e => by omega

theorem turnE : Elem 47 64 3 40 (.agg #[.string ⟨#[]⟩, .string ⟨#[]⟩, .int .i64 0]) := ⟨Try.underlying47, by kernel_rfl, rfl, by decide, by decide⟩
/-- a turn behind the disk's turns -/
theorem run_append_turn {w : World} (ty : TypeId) (v : Value) (n : Nat) (xs : List Dk.T) (hown : w.ownsRow 0 64 3 v n (tcells tenc xs)) (ad : Addr) (c : Nat) (t : Dk.T) (hnews : ∀ j u, (tenc t)[j]? = some u → w.cell? (ad.add j) = some u) (hnm : n + 1 ≤ 1000000000) :
    ∃ a' c' w', (Builtin.append_ #[47, 47] ty #[v, .slice (some ad) 1 c]).run Try.prog w = .ok (.slice a' (n + 1) c') w' ∧ w'.ownsRow 0 64 3 (.slice a' (n + 1) c') (n + 1) (tcells tenc (xs ++ [t])) ∧ w.grownBy w' v.ownBlock ∧ (∀ g, (Value.slice a' (n + 1) c').ownBlock = some g → v.ownBlock = some g ∨ w.heap.size ≤ g) := by
  obtain ⟨i0, hi, hz0, hz1, hz2⟩ := info_parts turnE.info
  obtain ⟨a', c', w', h0, h1, h2, h3⟩ := run_append_raw (P := Try.prog) 47 64 ty i0 _ 3 40 turnE.und hi hz0 hz1 hz2 turnE.zero (by decide) (by decide) v n _ hown (some ad) 1 c (tenc t) rfl (fun e => by cases e) (fun ad' e j u hj => by cases e; exact hnews j u hj) (fun u hu => tencE.one t u hu) hnm
  refine ⟨a', c', w', h0, ?_, h2, h3⟩
  rw [tcells_append]
  simpa [tcells] using h1
/-- at a step of a region that draws -/
theorem step_turn {w : World} {ops : Array Oper} {o : Oper} {a : Act} {K : Act → World → Prop} {Q : Exit → Act → World → Prop} {F : Prop} (hgd : o.guard = none) (sl x : Operand)
    (ho : o.op = .call { callee := .builtin .append, args := #[sl, x], argTypes := #[47, 47] })
    (v : Value) (n : Nat) (xs : List Dk.T) (hs : a.eval sl = v) (hown : w.ownsRow 0 64 3 v n (tcells tenc xs))
    (ad : Addr) (c : Nat) (t : Dk.T) (hx : a.eval x = .slice (some ad) 1 c) (hnews : ∀ j u, (tenc t)[j]? = some u → w.cell? (ad.add j) = some u) (hnm : n + 1 ≤ 1000000000)
    (h : ∀ a' c' w', w'.ownsRow 0 64 3 (.slice a' (n + 1) c') (n + 1) (tcells tenc (xs ++ [t])) → w.grownBy w' v.ownBlock → (∀ g, (Value.slice a' (n + 1) c').ownBlock = some g → v.ownBlock = some g ∨ w.heap.size ≤ g) → K (a.put o.dst (.slice a' (n + 1) c')) w') :
    if Region.wanted o (yielded ops a.tmps) = true then Oper.wp Try.prog o a w K Q else F := by
  have hw : Region.wanted o (yielded ops a.tmps) = true := by simp [Region.wanted, hgd]
  rw [if_pos hw]
  obtain ⟨a', c', w', hrun, h1, h2, h3⟩ := run_append_turn o.type v n xs hown ad c t hnews hnm
  unfold Oper.wp
  simp [execOp, ho, resolve, invoke, builtin, hs, hx, hrun, Result.andThen]
  exact h a' c' w' h1 h2 h3
/-- bytes behind a file's -/
theorem run_append_bytes {w : World} (ty : TypeId) (v : Value) (n : Nat) (xs : List Nat) (hown : w.ownsRow 0 5 1 v n (kcells .u8 xs)) (ax : Option Addr) (m c : Nat) (bs : List Nat) (hr : Row .u8 w ax m bs) (hnil : ax = none → m = 0 ∧ c = 0) (hnm : n + m ≤ 1000000000) :
    ∃ a' c' w', (Builtin.append_ #[31, 31] ty #[v, .slice ax m c]).run Try.prog w = .ok (.slice a' (n + m) c') w' ∧ w'.ownsRow 0 5 1 (.slice a' (n + m) c') (n + m) (kcells .u8 (xs ++ bs)) ∧ w.grownBy w' v.ownBlock ∧ (∀ g, (Value.slice a' (n + m) c').ownBlock = some g → v.ownBlock = some g ∨ w.heap.size ≤ g) := by
  obtain ⟨i0, hi, hz0, hz1, hz2⟩ := info_parts Try.info5
  obtain ⟨h1, h2, h3, h4⟩ := hr
  rw [kcells_append]
  refine run_append_raw (P := Try.prog) 31 5 ty i0 (.int .u8 0) 1 1 Try.underlying31 hi hz0 hz1 hz2 rfl (by decide) (by decide) v n _ hown ax m c (kcells .u8 bs) (by rw [kcells_length]; omega) (fun e => (hnil e).1) ?_ ?_ hnm
  · intro ad e j u hj
    obtain ⟨hlt, rfl⟩ := kcells_get .u8 bs j u hj
    rcases h4 with h0 | ⟨b, off, e', hc⟩
    · omega
    · rw [e] at e'
      obtain rfl : ad = ⟨b, off, none⟩ := by simpa using e'
      rw [add_at]; exact hc j (by omega)
  · intro u hu
    simp only [kcells, List.mem_map] at hu
    obtain ⟨n, _, rfl⟩ := hu
    rfl
theorem step_bytes {w : World} {ops : Array Oper} {o : Oper} {a : Act} {K : Act → World → Prop} {Q : Exit → Act → World → Prop} {F : Prop} (hgd : o.guard = none) (sl x : Operand)
    (ho : o.op = .call { callee := .builtin .append, args := #[sl, x], argTypes := #[31, 31] })
    (v : Value) (n : Nat) (xs : List Nat) (hs : a.eval sl = v) (hown : w.ownsRow 0 5 1 v n (kcells .u8 xs)) (ax : Option Addr) (m c : Nat) (bs : List Nat) (hx : a.eval x = .slice ax m c) (hr : Row .u8 w ax m bs) (hnil : ax = none → m = 0 ∧ c = 0) (hnm : n + m ≤ 1000000000)
    (h : ∀ a' c' w', w'.ownsRow 0 5 1 (.slice a' (n + m) c') (n + m) (kcells .u8 (xs ++ bs)) → w.grownBy w' v.ownBlock → (∀ g, (Value.slice a' (n + m) c').ownBlock = some g → v.ownBlock = some g ∨ w.heap.size ≤ g) → K (a.put o.dst (.slice a' (n + m) c')) w') :
    if Region.wanted o (yielded ops a.tmps) = true then Oper.wp Try.prog o a w K Q else F := by
  have hw : Region.wanted o (yielded ops a.tmps) = true := by simp [Region.wanted, hgd]
  rw [if_pos hw]
  obtain ⟨a', c', w', hrun, h1, h2, h3⟩ := run_append_bytes o.type v n xs hown ax m c bs hr hnil hnm
  unfold Oper.wp
  simp [execOp, ho, resolve, invoke, builtin, hs, hx, hrun, Result.andThen]
  exact h a' c' w' h1 h2 h3
/-- the turns of the disk, and its own cells, have turned -/
theorem Parts.turned {w w' : World} {p u fm nm sm : Nat} {D : Dk.D} {tv tv' : Value} {J : List (Nat × FH × Dk.F)} (h : Parts w p D u fm nm sm tv J) (hk : ∀ k, k < w.heap.size → k ≠ p → tv.ownBlock ≠ some k → w'.heap[k]? = w.heap[k]?) (ts : List Dk.T)
    (hb : w'.heap[p]? = some (.cells #[.int .i64 (D.quota : Int), .map (some fm), .int .i64 (D.last : Int), .int .i64 (u : Int), .map (some nm), .map (some sm), tv', .int .i64 D.stop, .int .i64 D.fault, .bool D.dead] 49 (0, 0)))
    (ht : w'.ownsRow 0 64 3 tv' ts.length (tcells tenc ts)) : Parts w' p { D with turns := ts } u fm nm sm tv' J := by
  have hmap : ∀ {k : Nat} {es : Array MapEntry} {cl : Nat}, w.heap[k]? = some (.map es cl) → w'.heap[k]? = w.heap[k]? := fun {k es cl} hc =>
    hk k (heap_lt hc) (cells_map h.blk hc).symm fun hg => by
      obtain ⟨c', hc'⟩ := own_blk h.turns hg
      exact (cells_map hc' hc) rfl
  have hcell : ∀ {k : Nat} {c : Array Value} {T : TypeId} {r : Nat × Nat}, w.heap[k]? = some (.cells c T r) → T ≠ 49 → T ≠ 64 → w'.heap[k]? = w.heap[k]? := fun {k c T r} hc h1 h2 =>
    hk k (heap_lt hc) (cells_ne hc h.blk h1) fun hg => by
      obtain ⟨c', hc'⟩ := own_blk h.turns hg
      exact (cells_ne hc hc' h2) rfl
  refine ⟨hb, h.jf, ?_, ?_, ?_, ht, ?_, h.qs, h.vs, h.ne⟩
  · obtain ⟨es, c, he⟩ := h.files.blk; exact h.files.keep (hmap he)
  · obtain ⟨es, c, he⟩ := h.names.blk; exact h.names.keep (hmap he)
  · obtain ⟨es, c, he⟩ := h.kept.blk; exact h.kept.keep (hmap he)
  · intro x hx
    refine (h.each x hx).keep (hcell (h.each x hx).blk (by decide) (by decide)) fun g hg => ?_
    obtain ⟨c, hc⟩ := own_blk (h.each x hx).row hg
    exact hcell hc (by decide) (by decide)
end Go.Proofs.Ytefadkengfjdmaa
