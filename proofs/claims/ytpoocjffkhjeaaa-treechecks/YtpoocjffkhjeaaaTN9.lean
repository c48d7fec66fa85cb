/- What the program's Put does. -/
import Derived.Test.YtpoocjffkhjeaaaTN8
import Derived.Test.YtpoocjffkhjeaaaTN5
import Derived.Test.YtpoocjffkhjeaaaShelf
namespace Go.Proofs.Ytpoocjffkhjeaaa
open Go.RowKit

theorem ItIn.bound {N : Nat → Prop} {w : World} {h : IH} {x : It.I} (hx : ItIn N w h x) : ItIn (fun k => N k ∧ k < w.heap.size) w h x := by
  refine ⟨hx.item, ?_⟩
  rcases hx.foot with h0 | ⟨q, e, hq⟩
  · exact .inl h0
  · rcases hx.item.row.2.2.2 with h0 | ⟨b, off, e2, hc⟩
    · exact .inl h0
    · rcases Nat.eq_zero_or_pos h.n with h0 | h0
      · exact .inl h0
      · obtain rfl : q = ⟨b, off, none⟩ := by rw [e] at e2; simpa using e2
        exact .inr ⟨_, e, hq, cell_lt (hc 0 h0)⟩
theorem Lies.bound {N : Nat → Prop} {w : World} : ∀ {v : Option Addr} {t : Tn.T}, Lies N w v t → Lies (fun k => N k ∧ k < w.heap.size) w v t
  | _, .e, h => h
  | _, .n _ _ _, ⟨b, h, vl, vr, e, hb, hc, hi, hl, hr⟩ => ⟨b, h, vl, vr, e, ⟨hb, hc.lt⟩, hc, hi.bound, Lies.bound hl, Lies.bound hr⟩
theorem Only.of_below {S : Nat → Prop} {w w' : World} (h : Below w.heap.size w w') : Only S w w' := ⟨h.os, h.tape, h.output, h.size, fun k hk _ => h.block k hk⟩
theorem Only.below_trans {S : Nat → Prop} {w w1 w2 : World} (h : Only S w w1) (hb : Below w1.heap.size w1 w2) : Only S w w2 := ⟨hb.os.trans h.os, hb.tape.trans h.tape, hb.output.trans h.output, Nat.le_trans h.size hb.size, fun k hk hn => (hb.block k (Nat.lt_of_lt_of_le hk h.size)).trans (h.block k hk hn)⟩
theorem Only.set {S : Nat → Prop} {w w1 : World} (h : Only S w w1) (b o : Nat) (u : Value) (hb : S b ∨ w.heap.size ≤ b) : Only S w (w1.setCell ⟨b, o, none⟩ u) :=
  ⟨h.os, h.tape, h.output, by have := h.size; simpa using this, fun k hk hn => (Below.heap_setCell w1 ⟨b, o, none⟩ u k (by show k ≠ b; rintro rfl; exact hb.elim hn (by omega))).trans (h.block k hk hn)⟩
theorem box_set0 {w : World} {b : Nat} {c0 c1 c2 c3 c4 c5 c6 c7 : Value} {e : TypeId} (h : w.heap[b]? = some (.cells #[c0, c1, c2, c3, c4, c5, c6, c7] e (0, 0))) (u : Value) : (w.setCell ⟨b, 0, none⟩ u).heap[b]? = some (.cells #[u, c1, c2, c3, c4, c5, c6, c7] e (0, 0)) := by
  have k := Go.Joins.block_setCell (i := 0) h u
  simpa using k
theorem box_set1 {w : World} {b : Nat} {c0 c1 c2 c3 c4 c5 c6 c7 : Value} {e : TypeId} (h : w.heap[b]? = some (.cells #[c0, c1, c2, c3, c4, c5, c6, c7] e (0, 0))) (u : Value) : (w.setCell ⟨b, 1, none⟩ u).heap[b]? = some (.cells #[c0, u, c2, c3, c4, c5, c6, c7] e (0, 0)) := by
  have k := Go.Joins.block_setCell (i := 1) h u
  simpa using k
theorem box_set2 {w : World} {b : Nat} {c0 c1 c2 c3 c4 c5 c6 c7 : Value} {e : TypeId} (h : w.heap[b]? = some (.cells #[c0, c1, c2, c3, c4, c5, c6, c7] e (0, 0))) (u : Value) : (w.setCell ⟨b, 2, none⟩ u).heap[b]? = some (.cells #[c0, c1, u, c3, c4, c5, c6, c7] e (0, 0)) := by
  have k := Go.Joins.block_setCell (i := 2) h u
  simpa using k
theorem box_set3 {w : World} {b : Nat} {c0 c1 c2 c3 c4 c5 c6 c7 : Value} {e : TypeId} (h : w.heap[b]? = some (.cells #[c0, c1, c2, c3, c4, c5, c6, c7] e (0, 0))) (u : Value) : (w.setCell ⟨b, 3, none⟩ u).heap[b]? = some (.cells #[c0, c1, c2, u, c4, c5, c6, c7] e (0, 0)) := by
  have k := Go.Joins.block_setCell (i := 3) h u
  simpa using k
theorem box_set4 {w : World} {b : Nat} {c0 c1 c2 c3 c4 c5 c6 c7 : Value} {e : TypeId} (h : w.heap[b]? = some (.cells #[c0, c1, c2, c3, c4, c5, c6, c7] e (0, 0))) (u : Value) : (w.setCell ⟨b, 4, none⟩ u).heap[b]? = some (.cells #[c0, c1, c2, c3, u, c5, c6, c7] e (0, 0)) := by
  have k := Go.Joins.block_setCell (i := 4) h u
  simpa using k
theorem box_set5 {w : World} {b : Nat} {c0 c1 c2 c3 c4 c5 c6 c7 : Value} {e : TypeId} (h : w.heap[b]? = some (.cells #[c0, c1, c2, c3, c4, c5, c6, c7] e (0, 0))) (u : Value) : (w.setCell ⟨b, 5, none⟩ u).heap[b]? = some (.cells #[c0, c1, c2, c3, c4, u, c6, c7] e (0, 0)) := by
  have k := Go.Joins.block_setCell (i := 5) h u
  simpa using k
theorem box_set6 {w : World} {b : Nat} {c0 c1 c2 c3 c4 c5 c6 c7 : Value} {e : TypeId} (h : w.heap[b]? = some (.cells #[c0, c1, c2, c3, c4, c5, c6, c7] e (0, 0))) (u : Value) : (w.setCell ⟨b, 6, none⟩ u).heap[b]? = some (.cells #[c0, c1, c2, c3, c4, c5, u, c7] e (0, 0)) := by
  have k := Go.Joins.block_setCell (i := 6) h u
  simpa using k
theorem box_set7 {w : World} {b : Nat} {c0 c1 c2 c3 c4 c5 c6 c7 : Value} {e : TypeId} (h : w.heap[b]? = some (.cells #[c0, c1, c2, c3, c4, c5, c6, c7] e (0, 0))) (u : Value) : (w.setCell ⟨b, 7, none⟩ u).heap[b]? = some (.cells #[c0, c1, c2, c3, c4, c5, c6, u] e (0, 0)) := by
  have k := Go.Joins.block_setCell (i := 7) h u
  simpa using k
theorem set_box {w : World} {b : Nat} {c0 c1 c2 c3 c4 c5 c6 c7 : Value} {e : TypeId} (h : w.heap[b]? = some (.cells #[c0, c1, c2, c3, c4, c5, c6, c7] e (0, 0))) (g : IH) : (set8 w b g).heap[b]? = some (.cells #[.string g.key, .bool g.dead, .bool g.far, .slice g.a g.n g.c, .int .i64 g.p.1, .int .i64 g.p.2.1, .int .i64 g.p.2.2.1, .int .u32 (g.p.2.2.2 : Nat)] e (0, 0)) := by
  have h0 := box_set0 h (.string g.key)
  have h1 := box_set1 h0 (.bool g.dead)
  have h2 := box_set2 h1 (.bool g.far)
  have h3 := box_set3 h2 (.slice g.a g.n g.c)
  have h4 := box_set4 h3 (.int .i64 g.p.1)
  have h5 := box_set5 h4 (.int .i64 g.p.2.1)
  have h6 := box_set6 h5 (.int .i64 g.p.2.2.1)
  have h7 := box_set7 h6 (.int .u32 (g.p.2.2.2 : Nat))
  exact h7
theorem set8_size (w : World) (b : Nat) (h : IH) : (set8 w b h).heap.size = w.heap.size := by simp [set8]

/-- half way through Put: the head, the nodes, the item's box -/
structure PSt (w : World) (b : Nat) (N : Nat → Prop) (t : Tn.T) (v : Option Addr) (g : IH) (x : It.I) (V : World) (n z : Nat) : Prop where
  only : Only (fun k => k = b) w V
  head : HeadAt V b v n z
  lies : Lies N V v t
  box : V.heap[w.heap.size]? = some (.cells #[.string g.key, .bool g.dead, .bool g.far, .slice g.a g.n g.c, .int .i64 g.p.1, .int .i64 g.p.2.1, .int .i64 g.p.2.2.1, .int .u32 (g.p.2.2.2 : Nat)] 40 (0, 0))
  item : ItIn (fun k => w.heap.size < k) V g x
  sub : ∀ k, N k → k < w.heap.size ∧ k ≠ b
  blt : b < w.heap.size
theorem PSt.lt {w : World} {b : Nat} {N : Nat → Prop} {t : Tn.T} {v : Option Addr} {g : IH} {x : It.I} {V : World} {n z : Nat} (h : PSt w b N t v g x V n z) : w.heap.size < V.heap.size := (Array.getElem?_eq_some_iff.1 h.box).1
theorem PSt.below {w : World} {b : Nat} {N : Nat → Prop} {t : Tn.T} {v : Option Addr} {g : IH} {x : It.I} {V V' : World} {n z : Nat} (h : PSt w b N t v g x V n z) (hb : Below V.heap.size V V') : PSt w b N t v g x V' n z :=
  ⟨h.only.below_trans hb, (hb.block b h.head.lt).trans h.head, h.lies.below hb, (hb.block _ h.lt).trans h.box, h.item.below hb, h.sub, h.blt⟩
theorem PSt.weight {w : World} {b : Nat} {N : Nat → Prop} {t : Tn.T} {v : Option Addr} {g : IH} {x : It.I} {V : World} {n z : Nat} (h : PSt w b N t v g x V n z) (z' : Nat) : PSt w b N t v g x (V.setCell ⟨b, 3, none⟩ (.int .i64 (z' : Nat))) n z' := by
  have k : ∀ k, k ≠ b → (V.setCell ⟨b, 3, none⟩ (.int .i64 (z' : Nat))).heap[k]? = V.heap[k]? := fun k hk => Below.heap_setCell V ⟨b, 3, none⟩ _ k hk
  have hb := h.blt
  exact ⟨h.only.set b 3 _ (.inl rfl), Go.Joins.block_setCell (i := 3) h.head _, h.lies.keep (fun j hj => k j (h.sub j hj).2), (k _ (by omega)).trans h.box, h.item.keep (fun j hj => k j (by omega)), h.sub, h.blt⟩
theorem PSt.count {w : World} {b : Nat} {N : Nat → Prop} {t : Tn.T} {v : Option Addr} {g : IH} {x : It.I} {V : World} {n z : Nat} (h : PSt w b N t v g x V n z) (n' : Nat) : PSt w b N t v g x (V.setCell ⟨b, 2, none⟩ (.int .i64 (n' : Nat))) n' z := by
  have k : ∀ k, k ≠ b → (V.setCell ⟨b, 2, none⟩ (.int .i64 (n' : Nat))).heap[k]? = V.heap[k]? := fun k hk => Below.heap_setCell V ⟨b, 2, none⟩ _ k hk
  have hb := h.blt
  exact ⟨h.only.set b 2 _ (.inl rfl), Go.Joins.block_setCell (i := 2) h.head _, h.lies.keep (fun j hj => k j (h.sub j hj).2), (k _ (by omega)).trans h.box, h.item.keep (fun j hj => k j (by omega)), h.sub, h.blt⟩
theorem PSt.key {w : World} {b : Nat} {N : Nat → Prop} {t : Tn.T} {v : Option Addr} {g : IH} {x : It.I} {V : World} {n z : Nat} (h : PSt w b N t v g x V n z) : PSt w b N t v g x (V.setCell ⟨w.heap.size, 0, none⟩ (.string g.key)) n z := by
  have k : ∀ k, k ≠ w.heap.size → (V.setCell ⟨w.heap.size, 0, none⟩ (.string g.key)).heap[k]? = V.heap[k]? := fun k hk => Below.heap_setCell V ⟨w.heap.size, 0, none⟩ _ k hk
  have hb := h.blt
  exact ⟨h.only.set w.heap.size 0 _ (.inr (Nat.le_refl _)), (k _ (by omega)).trans h.head, h.lies.keep (fun j hj => k j (by have := (h.sub j hj).1; omega)), box_set0 h.box _, h.item.keep (fun j hj => k j (by omega)), h.sub, h.blt⟩
theorem PSt.drew {w : World} {b : Nat} {N : Nat → Prop} {t : Tn.T} {v : Option Addr} {g : IH} {x : It.I} {V : World} {n z : Nat} (h : PSt w b N t v g x V n z) : PSt w b N t v g x V.drew n z := h.below (Below.refl _ _).drew
/-- the item is copied into its box -/
theorem PSt.made {w W w1 w2 : World} {b : Nat} {N S : Nat → Prop} {t : Tn.T} {v : Option Addr} {h g : IH} {x : It.I} (hT : TTat w b v t N S) (hW : W = w.alloc (.cells #[.string h.key, .bool h.dead, .bool h.far, .slice h.a h.n h.c, .int .i64 h.p.1, .int .i64 h.p.2.1, .int .i64 h.p.2.2.1, .int .u32 (h.p.2.2.2 : Nat)] 40)) (h1 : Below W.heap.size W w1) (h2 : Below w1.heap.size w1 w2) (ho : OwnIt w2 w1.heap.size g x) : PSt w b N t v g x (set8 w2 w.heap.size g) t.list.length (It.weight t.list) := by
  have hb0 : Below w.heap.size w W := hW ▸ below_alloc w _
  have hsz : W.heap.size = w.heap.size + 1 := by subst hW; simp
  have hb2 : Below w.heap.size w w2 := (hb0.trans (h1.mono hb0.size)).trans (h2.mono (Nat.le_trans hb0.size h1.size))
  have hblt : b < w.heap.size := hT.lt b hT.self
  have k : ∀ k, k ≠ w.heap.size → (set8 w2 w.heap.size g).heap[k]? = w2.heap[k]? := fun k hk => set8_other _ _ _ k hk
  have hbox : w2.heap[w.heap.size]? = some (.cells #[.string h.key, .bool h.dead, .bool h.far, .slice h.a h.n h.c, .int .i64 h.p.1, .int .i64 h.p.2.1, .int .i64 h.p.2.2.1, .int .u32 (h.p.2.2.2 : Nat)] 40 (0, 0)) := by
    have l1 := h1.size
    rw [h2.block _ (by omega), h1.block _ (by omega), hW]
    exact heap_alloc_new w _
  have h1s := h1.size
  have a1 : Only (fun k => k = b) w (set8 w2 w.heap.size g) := Only.of_below (set8_below hb2 w.heap.size g (Nat.le_refl _))
  have a2 : HeadAt (set8 w2 w.heap.size g) b v t.list.length (It.weight t.list) := (k b (by omega)).trans ((hb2.block b hblt).trans hT.head)
  have a3 : Lies N (set8 w2 w.heap.size g) v t := (hT.lies.below hb2).keep (fun j hj => k j (by have := hT.lt j (hT.sub j hj).1; omega))
  have a4 := set_box hbox g
  refine ⟨a1, a2, a3, a4, ?_, fun j hj => ⟨hT.lt j (hT.sub j hj).1, (hT.sub j hj).2⟩, hblt⟩
  have hi : ItIn (fun j => w.heap.size < j) w2 g x := by
    refine ⟨ho.1, ?_⟩
    rcases ho.2.2 with ⟨e, h0⟩ | ⟨q, cap, cur, e, hq, _⟩
    · exact .inl h0
    · simp only [Value.slice.injEq] at e
      exact .inr ⟨_, e.1, by show w.heap.size < q; omega⟩
  exact hi.keep (fun j hj => k j (by omega))
/-- the root is written -/
theorem PSt.done {w w1 : World} {b : Nat} {N S : Nat → Prop} {t : Tn.T} {v : Option Addr} {g : IH} {x : It.I} {V : World} {n z : Nat} (h : PSt w b N t v g x V n z) (hS : S b) (hNS : ∀ k, N k → S k) {v' : Option Addr} {t' : Tn.T} {L : List It.I} (hL : Lies (grw (fun k => N k ∨ w.heap.size < k) V) w1 v' t') (hl : t'.list = L) (hb : Below V.heap.size V w1) (hu : It.Up L) (hm : ∀ x ∈ L, It.may x = true) (hn : n = L.length) (hz : z = It.weight L) :
    ∃ S', TT (w1.setCell ⟨b, 1, none⟩ (.pointer v')) ⟨b, 0, none⟩ L S' ∧ (∀ k, S' k → S k ∨ w.heap.size ≤ k) ∧ Only (fun k => k = b) w (w1.setCell ⟨b, 1, none⟩ (.pointer v')) := by
  subst hn hz hl
  have k : ∀ k, k ≠ b → (w1.setCell ⟨b, 1, none⟩ (.pointer v')).heap[k]? = w1.heap[k]? := fun k hk => Below.heap_setCell w1 ⟨b, 1, none⟩ _ k hk
  have hblt := h.blt
  have hVl := h.lt
  have hsz : (w1.setCell ⟨b, 1, none⟩ (.pointer v')).heap.size = w1.heap.size := by simp
  have hw1 := hb.size
  have hg : ∀ j, grw (fun k => N k ∨ w.heap.size < k) V j → (N j ∨ w.heap.size < j) := fun j hj => hj.elim id (fun hj => .inr (by omega))
  have hgb : ∀ j, grw (fun k => N k ∨ w.heap.size < k) V j → j ≠ b := fun j hj => by
    rcases hg j hj with h1 | h1
    · exact (h.sub j h1).2
    · omega
  have hL2 := (hL.keep (fun j hj => k j (hgb j hj))).bound
  refine ⟨fun j => j = b ∨ (grw (fun k => N k ∨ w.heap.size < k) V j ∧ j < w1.heap.size), ⟨b, v', t', _, rfl, rfl, ⟨Go.Joins.block_setCell (i := 1) ((hb.block b h.head.lt).trans h.head) _, hL2, hu, hm, .inl rfl, fun j hj => ⟨.inr ⟨hj.1, by rw [hsz] at hj; exact hj.2⟩, hgb j hj.1⟩, ?_⟩⟩, ?_, (h.only.below_trans hb).set b 1 _ (.inl rfl)⟩
  · rintro j (rfl | hj)
    · rw [hsz]; omega
    · rw [hsz]; exact hj.2
  · rintro j (rfl | hj)
    · exact .inl hS
    · rcases hg j hj.1 with h1 | h1
      · exact .inl (hNS j h1)
      · exact .inr (by omega)

set_option maxRecDepth 100000 in
theorem sclone_any (s : ByteArray) (w : World) (hs : s.size ≤ 100000) :
    Calls Try.prog 37 #[.string s] w fun e w' => e = .returned (.string s) ∧ Below w.heap.size w w' := by
  have hc := Try.stringslite_Clone s w (by omega)
  go_enter Try.func37, Try.ntmps37
  go_wp2_with (go_at_call 45; go_must (refine hc.mono ?_; rintro e w1 ⟨rfl, hb1⟩))
  go_ret
  exact ⟨rfl, hb1⟩

set_option maxRecDepth 100000 in
set_option maxHeartbeats 2000000 in
theorem tput_no (b : Nat) (v : Option Addr) (t : Tn.T) (N S : Nat → Prop) (h : IH) (x : It.I) (w : World) (hT : TTat w b v t N S) (hx : IsItem w h x) (hmay : It.may x = false) :
    Calls Try.prog 23 #[.pointer (some ⟨b, 0, none⟩), iv h] w fun e w' => e = .returned (.int .i64 1) ∧ Below w.heap.size w w' := by
  have hb0 := below_alloc w (.cells #[.string h.key, .bool h.dead, .bool h.far, .slice h.a h.n h.c, .int .i64 h.p.1, .int .i64 h.p.2.1, .int .i64 h.p.2.2.1, .int .u32 (h.p.2.2.2 : Nat)] 40)
  have hm := ismade_any _ _ _ _ _ (hT.on hb0).head
  have hch := tcheck_any h x _ (hx.below hb0 (Nat.le_refl _))
  rw [hmay] at hch
  simp only [Bool.false_eq_true, if_false] at hch
  clear hx hT
  obtain ⟨key, dead, far, qa, qn, qc, ⟨p1, p2, p3, p4⟩⟩ := h
  simp only at hch hm hb0
  go_enter Try.func23, Try.ntmps23
  go_wp2_with (first
    | (go_at_call 31; go_must (refine hm.mono ?_; rintro e w1 ⟨rfl, hw⟩; rw [hw]; clear hw w1))
    | (go_at_call 24; go_must (refine hch.mono ?_; rintro e w1 ⟨rfl, hb1⟩)))
  go_ret
  exact ⟨rfl, hb0.trans (hb1.mono hb0.size)⟩

set_option maxRecDepth 100000 in
set_option maxHeartbeats 8000000 in
theorem tput_yes (b : Nat) (v : Option Addr) (t : Tn.T) (N S : Nat → Prop) (h : IH) (x : It.I) (w : World) (hT : TTat w b v t N S) (hlen : t.list.length ≤ 1000) (hx : IsItem w h x) (hmay : It.may x = true) :
    Calls Try.prog 23 #[.pointer (some ⟨b, 0, none⟩), iv h] w fun e w' => ∃ S', e = .returned (.int .i64 0) ∧ TT w' ⟨b, 0, none⟩ (It.put t.list x) S' ∧ (∀ k, S' k → S k ∨ w.heap.size ≤ k) ∧ Only (fun k => k = b) w w' := by
  have hmx : Try.prog.follows .mixedOrders = true := by kernel_rfl
  have hb0 := below_alloc w (.cells #[.string h.key, .bool h.dead, .bool h.far, .slice h.a h.n h.c, .int .i64 h.p.1, .int .i64 h.p.2.1, .int .i64 h.p.2.2.1, .int .u32 (h.p.2.2.2 : Nat)] 40)
  have hm := ismade_any _ _ _ _ _ (hT.on hb0).head
  have hch := tcheck_any h x _ (hx.below hb0 (Nat.le_refl _))
  rw [hmay] at hch
  simp only [if_true] at hch
  obtain ⟨hne, ms1, ms2⟩ := Tn.may_small hmay
  have hcp := fun (W : World) (hW : Below w.heap.size w W) => copied_any h x W (hx.below hW (Nat.le_refl _)) (by omega)
  have hks : h.key.size ≤ 64 := by rw [← kb_len, hx.key]; exact ms1
  have hkey : Hid (kb h.key = x.1) := hx.key
  have hsc := fun (W : World) => sclone_any h.key W (by omega)
  have hwx := fun (g : IH) (W : World) (hi : IsItem W g x) => weigh_any g x W hi (by omega) (by omega)
  have hSb : Hid (S b) := hT.self
  have hNS : Hid (∀ k, N k → S k) := (fun k hk => (hT.sub k hk).1 : ∀ k, N k → S k)
  have hU : Hid (It.Up t.list) := hT.up
  have hup : Hid (It.Up (It.put t.list x)) := It.up_put hT.up x
  have hmy : Hid (∀ y ∈ It.put t.list x, It.may y = true) := Tn.put_may hT.up hT.may hmay
  have hmo : Hid (∀ y ∈ t.list, It.may y = true) := hT.may
  have hwl : It.weight t.list ≤ t.list.length * 112 := Tn.weight_le hT.may
  have hBOX : Hid (∀ w1, Below (w.alloc (.cells #[.string h.key, .bool h.dead, .bool h.far, .slice h.a h.n h.c, .int .i64 h.p.1, .int .i64 h.p.2.1, .int .i64 h.p.2.2.1, .int .u32 (h.p.2.2.2 : Nat)] 40)).heap.size (w.alloc (.cells #[.string h.key, .bool h.dead, .bool h.far, .slice h.a h.n h.c, .int .i64 h.p.1, .int .i64 h.p.2.1, .int .i64 h.p.2.2.1, .int .u32 (h.p.2.2.2 : Nat)] 40)) w1 → w1.heap[w.heap.size]? = some (.cells #[.string h.key, .bool h.dead, .bool h.far, .slice h.a h.n h.c, .int .i64 h.p.1, .int .i64 h.p.2.1, .int .i64 h.p.2.2.1, .int .u32 (h.p.2.2.2 : Nat)] 40 (0, 0)) ∧ w.heap.size < w1.heap.size) := (fun w1 h1 => ⟨(h1.block _ (by simp)).trans (heap_alloc_new w _), by have := h1.size; simp at this; omega⟩ : _)
  have hMADE : Hid (∀ w1 w2 g, Below (w.alloc (.cells #[.string h.key, .bool h.dead, .bool h.far, .slice h.a h.n h.c, .int .i64 h.p.1, .int .i64 h.p.2.1, .int .i64 h.p.2.2.1, .int .u32 (h.p.2.2.2 : Nat)] 40)).heap.size (w.alloc (.cells #[.string h.key, .bool h.dead, .bool h.far, .slice h.a h.n h.c, .int .i64 h.p.1, .int .i64 h.p.2.1, .int .i64 h.p.2.2.1, .int .u32 (h.p.2.2.2 : Nat)] 40)) w1 → Below w1.heap.size w1 w2 → OwnIt w2 w1.heap.size g x → PSt w b N t v g x (set8 w2 w.heap.size g) t.list.length (It.weight t.list)) := (fun w1 w2 g h1 h2 h3 => PSt.made hT rfl h1 h2 h3 : _)
  clear hT hx hmay hne
  obtain ⟨key, dead, far, qa, qn, qc, ⟨p1, p2, p3, p4⟩⟩ := h
  simp only at hch hm hb0 hcp hks hkey hsc hBOX hMADE
  obtain ⟨n, hn⟩ : ∃ n, n = t.list.length := ⟨_, rfl⟩
  obtain ⟨z, hz⟩ : ∃ z, z = It.weight t.list := ⟨_, rfl⟩
  have Hn : Hid (n = t.list.length) := hn
  have Hz : Hid (z = It.weight t.list) := hz
  rw [← hn, ← hz] at hMADE
  rw [← hn] at hlen
  rw [← hn, ← hz] at hwl
  clear hn hz
  go_enter Try.func23, Try.ntmps23
  go_wp2_with (first
    | (go_at_call 31; go_must (refine hm.mono ?_; rintro e w1 ⟨rfl, hw⟩; rw [hw]; clear hw w1))
    | (go_at_call 24; go_must (refine hch.mono ?_; rintro e w1 ⟨rfl, hb1⟩; obtain ⟨hbx1, hlt1⟩ := hBOX.out w1 hb1; obtain ⟨x0, x1, x2, x3, x4, x5, x6, x7, xf⟩ := eight_of hbx1; clear xf))
    | (go_at_call 33; go_must (refine (hcp w1 (hb0.trans (hb1.mono hb0.size))).mono ?_; rintro e w2 ⟨g, rfl, hown, hgk, hb2⟩; have HS := hMADE.out w1 w2 g hb1 hb2 hown; obtain ⟨y0, y1, y2, y3, y4, y5, y6, y7, yf⟩ := eight_of ((hb2.block _ hlt1).trans hbx1); have yf0 := yf 0; have yf1 := yf 1; have yf2 := yf 2; have yf3 := yf 3; have yf4 := yf 4; have yf5 := yf 5; have yf6 := yf 6; have yf7 := yf 7; clear yf; obtain ⟨gk, gd, gf, ga, gn, gc, ⟨g1, g2, g3, g4⟩⟩ := g; obtain rfl : gk = key := hgk; clear hown; unfold set8 at HS; simp only at HS))
    | (go_at_call 37; go_must (refine (hsc _).mono ?_; rintro e w4 ⟨rfl, hb4⟩; have HS4 := HS.below hb4; obtain ⟨e0, e1, e2, e3, e4, e5, e6, e7, ef⟩ := eight_of HS4.box; have ef0 := ef 0; clear ef)))
  have HS5 := HS4.key
  have hbm1 : ¬ (b = w.heap.size) := by have := HS4.blt; omega
  have hbm2 : ¬ (w.heap.size = b) := by have := HS4.blt; omega
  simp only at HS5
  clear x0 x1 x2 x3 x4 x5 x6 x7 y0 y1 y2 y3 y4 y5 y6 y7 yf0 yf1 yf2 yf3 yf4 yf5 yf6 yf7 e0 e1 e2 e3 e4 e5 e6 e7 ef0 HS4 HS hb4 hb1 hb2 hbx1 hlt1 hBOX hMADE hb0 hcp hsc hch hm
  generalize w4.setCell ⟨w.heap.size, 0, none⟩ (.string gk) = V at *
  have hwi := fun (W : World) {n z : Nat} (hS : PSt w b N t v ⟨gk, gd, gf, ga, gn, gc, (g1, g2, g3, g4)⟩ x W n z) => with_any (N := fun k => N k ∨ w.heap.size < k) x t v ⟨gk, gd, gf, ga, gn, gc, (g1, g2, g3, g4)⟩ W (hS.lies.mono (fun _ h => .inl h)) (hS.item.mono (fun _ h => .inr h)) hU.out (by rw [← Hn.out]; omega)
  obtain ⟨wx, hwx'⟩ : ∃ wx, wx = Tn.wt x := ⟨_, rfl⟩
  have Hwx : Hid (wx = Tn.wt x) := hwx'
  have hwxl : wx ≤ 200 := by rw [hwx']; unfold Tn.wt; omega
  have hwx := fun (W : World) (hi : IsItem W ⟨gk, gd, gf, ga, gn, gc, (g1, g2, g3, g4)⟩ x) => hwx ⟨gk, gd, gf, ga, gn, gc, (g1, g2, g3, g4)⟩ W hi
  rw [← hwx'] at hwx
  clear hwx'
  obtain ⟨c0, c1, c2, c3, cf⟩ := HS5.head.cells
  have cf2 := cf 2
  obtain ⟨k0, k1, k2, k3, k4, k5, k6, k7, kf⟩ := eight_of HS5.box
  simp only at k0 k1 k2 k3 k4 k5 k6 k7
  clear cf kf
  cases hO : It.find t.list (kb gk) with
  | none =>
    have hf := find_no v t gk V.drew HS5.drew.lies hU.out hO
    rw [hkey.out] at hO
    obtain ⟨pn1, pn2⟩ := Tn.put_none hU.out hO
    obtain ⟨n1, hn1⟩ : ∃ n1, n1 = n + 1 := ⟨_, rfl⟩
    have i1 : IntKind.i64.wrap ((n : Int) + 1) = (n1 : Int) := by rw [IntKind.wrap_i64]; omega
    obtain ⟨z1, hz1⟩ : ∃ z1, z1 = z + wx := ⟨_, rfl⟩
    have i2 : IntKind.i64.wrap ((z : Int) + (wx : Int)) = (z1 : Int) := by rw [IntKind.wrap_i64]; omega
    have hn2 : Hid (n1 = (It.put t.list x).length) := (by rw [pn1, hn1, Hn.out] : n1 = (It.put t.list x).length)
    have hz2 : Hid (z1 = It.weight (It.put t.list x)) := (by rw [pn2, hz1, Hz.out, Hwx.out] : z1 = It.weight (It.put t.list x))
    clear hO pn1 pn2 hn1 hz1
    refine wp_region_still_lit hmx (by kernel_rfl) ?_
    repeat still_step
    still_call hf
    repeat still_step
    refine wpStill_nil ?_
    go_wp2_with fail
    have HS6 := (HS5.count n1).drew
    clear c0 c1 c2 c3 cf2 k0 k1 k2 k3 k4 k5 k6 k7 hf HS5
    generalize (V.setCell ⟨b, 2, none⟩ (.int .i64 (n1 : Nat))).drew = V6 at *
    obtain ⟨c0, c1, c2, c3, cf⟩ := HS6.head.cells
    have cf3 := cf 3
    obtain ⟨k0, k1, k2, k3, k4, k5, k6, k7, kf⟩ := eight_of HS6.box
    simp only at k0 k1 k2 k3 k4 k5 k6 k7
    clear cf kf
    refine wp_region_held_drew (S := (fun w' => w'.cell? ⟨w.heap.size, 0, none⟩ = some (.string gk) ∧ w'.cell? ⟨w.heap.size, 1, none⟩ = some (.bool gd) ∧ w'.cell? ⟨w.heap.size, 2, none⟩ = some (.bool gf) ∧ w'.cell? ⟨w.heap.size, 3, none⟩ = some (.slice ga gn gc) ∧ w'.cell? ⟨w.heap.size, 4, none⟩ = some (.int .i64 g1) ∧ w'.cell? ⟨w.heap.size, 5, none⟩ = some (.int .i64 g2) ∧ w'.cell? ⟨w.heap.size, 6, none⟩ = some (.int .i64 g3) ∧ w'.cell? ⟨w.heap.size, 7, none⟩ = some (.int .u32 (g4 : Nat)))) (by kernel_rfl) ⟨k0, k1, k2, k3, k4, k5, k6, k7⟩ (fun hHeld => ?_)
    refine wpAnyH_take (i := 0) (oi := ⟨some 48, _, _, _, _, _⟩) (v := ?_) rfl (by kernel_rfl) (by kernel_rfl) (by kernel_rfl) (fun _ _ _ h => h) (Or.inl ⟨by rfl, ?_⟩) (by assumption) ?_
    rotate_left
    · intro w hSw; (try dsimp only at hSw); go_simp <;> (try with_reducible rfl)
    go_frame
    refine wpAnyH_take (i := 1) (oi := ⟨some 49, _, _, _, _, _⟩) (v := ?_) rfl (by kernel_rfl) (by kernel_rfl) (by kernel_rfl) (fun _ _ _ h => h) (Or.inl ⟨by rfl, ?_⟩) (by assumption) ?_
    rotate_left
    · intro w hSw; (try dsimp only at hSw); go_simp <;> (try with_reducible rfl)
    go_frame
    refine wpAnyH_take (i := 2) (oi := ⟨some 50, _, _, _, _, _⟩) (v := ?_) rfl (by kernel_rfl) (by kernel_rfl) (by kernel_rfl) (fun _ _ _ h => h) (Or.inl ⟨by rfl, ?_⟩) (by assumption) ?_
    rotate_left
    · intro w hSw; (try dsimp only at hSw); go_simp <;> (try with_reducible rfl)
    go_frame
    refine wpAnyH_take (i := 4) (oi := ⟨some 52, _, _, _, _, _⟩) (v := ?_) rfl (by kernel_rfl) (by kernel_rfl) (by kernel_rfl) (fun _ _ _ h => h) (Or.inl ⟨by rfl, ?_⟩) (by assumption) ?_
    rotate_left
    · intro w hSw; (try dsimp only at hSw); go_simp <;> (try with_reducible rfl)
    go_frame
    refine wpAnyH_ready (rs := [3, 5]) (by kernel_rfl) (by simp) ?_
    refine AllReadyH.cons rfl (fun K hK => ?_) (AllReadyH.cons rfl (fun K hK => ?_) AllReadyH.nil)
    · skip
      go_simp
      refine hK.out _ _ ⟨k0, k1, k2, k3, k4, k5, k6, k7⟩ (fun hHeld => ?_)
      clear hK K
      refine wpAnyH_ready (rs := [5]) (by kernel_rfl) (by simp) ?_
      refine AllReadyH.cons rfl (fun K hK => ?_) AllReadyH.nil
      go_simp; go_at_call 38; refine (hwx _ HS6.drew.item.item).mono ?_; rintro e w8 ⟨rfl, hb8⟩; have HS8 := HS6.drew.below hb8; obtain ⟨u0, u1, u2, u3, u4, u5, u6, u7, uf⟩ := eight_of HS8.box; obtain ⟨a0, a1, a2, a3, af⟩ := HS8.head.cells; have af3 := af 3; simp only at u0 u1 u2 u3 u4 u5 u6 u7; clear af uf
      refine hK.out _ _ ⟨u0, u1, u2, u3, u4, u5, u6, u7⟩ (fun hHeld => ?_)
      clear hK K
      try go_frame
      refine wpAnyH_take (i := 6) (oi := ⟨some 54, _, _, _, _, _⟩) (v := ?_) rfl (by kernel_rfl) (by kernel_rfl) (by kernel_rfl) (fun _ _ _ h => h) (Or.inl ⟨by rfl, ?_⟩) (by assumption) ?_
      rotate_left
      · intro w hSw; (try dsimp only at hSw); go_simp <;> (try with_reducible rfl)
      go_frame
      refine wpAnyH_take (i := 7) (oi := ⟨some 55, _, _, _, _, _⟩) (v := ?_) rfl (by kernel_rfl) (by kernel_rfl) (by kernel_rfl) (fun _ _ _ h => h) (Or.inl ⟨by rfl, ?_⟩) (by assumption) ?_
      rotate_left
      · intro w hSw; (try dsimp only at hSw); go_simp <;> (try with_reducible rfl)
      go_frame
      refine wpAnyH_take (i := 8) (oi := ⟨some 56, _, _, _, _, _⟩) (v := ?_) rfl (by kernel_rfl) (by kernel_rfl) (by kernel_rfl) (fun _ _ _ h => h) (Or.inl ⟨by rfl, ?_⟩) (by assumption) ?_
      rotate_left
      · intro w hSw; (try dsimp only at hSw); go_simp <;> (try with_reducible rfl)
      go_frame
      refine wpAnyH_ready (rs := [9]) (by kernel_rfl) (by simp) ?_
      refine AllReadyH.cons rfl (fun K hK => ?_) AllReadyH.nil
      go_simp
      refine hK.out _ _ (by first | go_keep | (refine ⟨?_, ?_, ?_, ?_, ?_, ?_, ?_, ?_⟩ <;> assumption)) (fun hHeld => ?_)
      clear hK K
      refine wpAnyH_done (by kernel_rfl) ?_ _
      have HS9 := HS8.weight z1
      clear k0 k1 k2 k3 k4 k5 k6 k7 u0 u1 u2 u3 u4 u5 u6 u7 c0 c1 c2 c3 cf3 a0 a1 a2 a3 af3 HS8 hb8
      go_wp2_with fail
      generalize w8.setCell ⟨b, 3, none⟩ (.int .i64 (z1 : Nat)) = V9 at *
      obtain ⟨c0, c1, c2, c3, cf⟩ := HS9.head.cells
      obtain ⟨k0, k1, k2, k3, k4, k5, k6, k7, kf⟩ := eight_of HS9.box
      simp only at k0 k1 k2 k3 k4 k5 k6 k7
      clear cf kf
      refine wp_region_held_drew (S := (fun w' => w'.cell? ⟨w.heap.size, 0, none⟩ = some (.string gk) ∧ w'.cell? ⟨w.heap.size, 1, none⟩ = some (.bool gd) ∧ w'.cell? ⟨w.heap.size, 2, none⟩ = some (.bool gf) ∧ w'.cell? ⟨w.heap.size, 3, none⟩ = some (.slice ga gn gc) ∧ w'.cell? ⟨w.heap.size, 4, none⟩ = some (.int .i64 g1) ∧ w'.cell? ⟨w.heap.size, 5, none⟩ = some (.int .i64 g2) ∧ w'.cell? ⟨w.heap.size, 6, none⟩ = some (.int .i64 g3) ∧ w'.cell? ⟨w.heap.size, 7, none⟩ = some (.int .u32 (g4 : Nat)))) (by kernel_rfl) ⟨k0, k1, k2, k3, k4, k5, k6, k7⟩ (fun hHeld => ?_)
      refine wpAnyH_take (i := 0) (oi := ⟨some 57, _, _, _, _, _⟩) (v := ?_) rfl (by kernel_rfl) (by kernel_rfl) (by kernel_rfl) (fun _ _ _ h => h) (Or.inl ⟨by rfl, ?_⟩) (by assumption) ?_
      rotate_left
      · intro w hSw; (try dsimp only at hSw); go_simp <;> (try with_reducible rfl)
      go_frame
      refine wpAnyH_take (i := 1) (oi := ⟨some 58, _, _, _, _, _⟩) (v := ?_) rfl (by kernel_rfl) (by kernel_rfl) (by kernel_rfl) (fun _ _ _ h => h) (Or.inl ⟨by rfl, ?_⟩) (by assumption) ?_
      rotate_left
      · intro w hSw; (try dsimp only at hSw); go_simp <;> (try with_reducible rfl)
      go_frame
      refine wpAnyH_take (i := 2) (oi := ⟨some 59, _, _, _, _, _⟩) (v := ?_) rfl (by kernel_rfl) (by kernel_rfl) (by kernel_rfl) (fun _ _ _ h => h) (Or.inl ⟨by rfl, ?_⟩) (by assumption) ?_
      rotate_left
      · intro w hSw; (try dsimp only at hSw); go_simp <;> (try with_reducible rfl)
      go_frame
      refine wpAnyH_take (i := 3) (oi := ⟨some 60, _, _, _, _, _⟩) (v := ?_) rfl (by kernel_rfl) (by kernel_rfl) (by kernel_rfl) (fun _ _ _ h => h) (Or.inl ⟨by rfl, ?_⟩) (by assumption) ?_
      rotate_left
      · intro w hSw; (try dsimp only at hSw); go_simp <;> (try with_reducible rfl)
      go_frame
      refine wpAnyH_take (i := 5) (oi := ⟨some 62, _, _, _, _, _⟩) (v := ?_) rfl (by kernel_rfl) (by kernel_rfl) (by kernel_rfl) (fun _ _ _ h => h) (Or.inl ⟨by rfl, ?_⟩) (by assumption) ?_
      rotate_left
      · intro w hSw; (try dsimp only at hSw); go_simp <;> (try with_reducible rfl)
      go_frame
      refine wpAnyH_ready (rs := [4]) (by kernel_rfl) (by simp) ?_
      refine AllReadyH.cons rfl (fun K hK => ?_) AllReadyH.nil
      go_simp
      refine hK.out _ _ ⟨k0, k1, k2, k3, k4, k5, k6, k7⟩ (fun hHeld => ?_)
      clear hK K
      refine wpAnyH_ready (rs := [6]) (by kernel_rfl) (by simp) ?_
      refine AllReadyH.cons rfl (fun K hK => ?_) AllReadyH.nil
      go_simp; go_at_call 39; refine (hwi _ HS9.drew).mono ?_; rintro e w10 ⟨v', t', rfl, hL10, hl10, hb10⟩; have HS10 := HS9.drew.below hb10; obtain ⟨r0, r1, r2, r3, r4, r5, r6, r7, rf⟩ := eight_of HS10.box; obtain ⟨d0, d1, d2, d3, df⟩ := HS10.head.cells; have df1 := df 1; simp only at r0 r1 r2 r3 r4 r5 r6 r7; clear df rf
      refine hK.out _ _ ⟨r0, r1, r2, r3, r4, r5, r6, r7⟩ (fun hHeld => ?_)
      clear hK K
      try go_frame
      refine wpAnyH_take (i := 7) (oi := ⟨some 64, _, _, _, _, _⟩) (v := ?_) rfl (by kernel_rfl) (by kernel_rfl) (by kernel_rfl) (fun _ _ _ h => h) (Or.inl ⟨by rfl, ?_⟩) (by assumption) ?_
      rotate_left
      · intro w hSw; (try dsimp only at hSw); go_simp <;> (try with_reducible rfl)
      go_frame
      refine wpAnyH_take (i := 8) (oi := ⟨some 65, _, _, _, _, _⟩) (v := ?_) rfl (by kernel_rfl) (by kernel_rfl) (by kernel_rfl) (fun _ _ _ h => h) (Or.inl ⟨by rfl, ?_⟩) (by assumption) ?_
      rotate_left
      · intro w hSw; (try dsimp only at hSw); go_simp <;> (try with_reducible rfl)
      go_frame
      refine wpAnyH_ready (rs := [9]) (by kernel_rfl) (by simp) ?_
      refine AllReadyH.cons rfl (fun K hK => ?_) AllReadyH.nil
      go_simp
      refine hK.out _ _ (by first | go_keep | (refine ⟨?_, ?_, ?_, ?_, ?_, ?_, ?_, ?_⟩ <;> assumption)) (fun hHeld => ?_)
      clear hK K
      refine wpAnyH_done (by kernel_rfl) ?_ _
      clear k0 k1 k2 k3 k4 k5 k6 k7 r0 r1 r2 r3 r4 r5 r6 r7 c0 c1 c2 c3 d0 d1 d2 d3 df1
      go_wp2
      go_ret
      obtain ⟨S', hs1, hs2, hs3⟩ := HS9.drew.done hSb.out hNS.out hL10 hl10 hb10 hup.out hmy.out hn2.out hz2.out
      exact ⟨S', rfl, hs1, hs2, hs3⟩
    · skip
      go_simp; go_at_call 38; refine (hwx _ HS6.drew.item.item).mono ?_; rintro e w8 ⟨rfl, hb8⟩; have HS8 := HS6.drew.below hb8; obtain ⟨u0, u1, u2, u3, u4, u5, u6, u7, uf⟩ := eight_of HS8.box; obtain ⟨a0, a1, a2, a3, af⟩ := HS8.head.cells; have af3 := af 3; simp only at u0 u1 u2 u3 u4 u5 u6 u7; clear af uf
      refine hK.out _ _ ⟨u0, u1, u2, u3, u4, u5, u6, u7⟩ (fun hHeld => ?_)
      clear hK K
      try go_frame
      refine wpAnyH_ready (rs := [3]) (by kernel_rfl) (by simp) ?_
      refine AllReadyH.cons rfl (fun K hK => ?_) AllReadyH.nil
      go_simp
      refine hK.out _ _ ⟨u0, u1, u2, u3, u4, u5, u6, u7⟩ (fun hHeld => ?_)
      clear hK K
      refine wpAnyH_take (i := 6) (oi := ⟨some 54, _, _, _, _, _⟩) (v := ?_) rfl (by kernel_rfl) (by kernel_rfl) (by kernel_rfl) (fun _ _ _ h => h) (Or.inl ⟨by rfl, ?_⟩) (by assumption) ?_
      rotate_left
      · intro w hSw; (try dsimp only at hSw); go_simp <;> (try with_reducible rfl)
      go_frame
      refine wpAnyH_take (i := 7) (oi := ⟨some 55, _, _, _, _, _⟩) (v := ?_) rfl (by kernel_rfl) (by kernel_rfl) (by kernel_rfl) (fun _ _ _ h => h) (Or.inl ⟨by rfl, ?_⟩) (by assumption) ?_
      rotate_left
      · intro w hSw; (try dsimp only at hSw); go_simp <;> (try with_reducible rfl)
      go_frame
      refine wpAnyH_take (i := 8) (oi := ⟨some 56, _, _, _, _, _⟩) (v := ?_) rfl (by kernel_rfl) (by kernel_rfl) (by kernel_rfl) (fun _ _ _ h => h) (Or.inl ⟨by rfl, ?_⟩) (by assumption) ?_
      rotate_left
      · intro w hSw; (try dsimp only at hSw); go_simp <;> (try with_reducible rfl)
      go_frame
      refine wpAnyH_ready (rs := [9]) (by kernel_rfl) (by simp) ?_
      refine AllReadyH.cons rfl (fun K hK => ?_) AllReadyH.nil
      go_simp
      refine hK.out _ _ (by first | go_keep | (refine ⟨?_, ?_, ?_, ?_, ?_, ?_, ?_, ?_⟩ <;> assumption)) (fun hHeld => ?_)
      clear hK K
      refine wpAnyH_done (by kernel_rfl) ?_ _
      have HS9 := HS8.weight z1
      clear k0 k1 k2 k3 k4 k5 k6 k7 u0 u1 u2 u3 u4 u5 u6 u7 c0 c1 c2 c3 cf3 a0 a1 a2 a3 af3 HS8 hb8
      go_wp2_with fail
      generalize w8.setCell ⟨b, 3, none⟩ (.int .i64 (z1 : Nat)) = V9 at *
      obtain ⟨c0, c1, c2, c3, cf⟩ := HS9.head.cells
      obtain ⟨k0, k1, k2, k3, k4, k5, k6, k7, kf⟩ := eight_of HS9.box
      simp only at k0 k1 k2 k3 k4 k5 k6 k7
      clear cf kf
      refine wp_region_held_drew (S := (fun w' => w'.cell? ⟨w.heap.size, 0, none⟩ = some (.string gk) ∧ w'.cell? ⟨w.heap.size, 1, none⟩ = some (.bool gd) ∧ w'.cell? ⟨w.heap.size, 2, none⟩ = some (.bool gf) ∧ w'.cell? ⟨w.heap.size, 3, none⟩ = some (.slice ga gn gc) ∧ w'.cell? ⟨w.heap.size, 4, none⟩ = some (.int .i64 g1) ∧ w'.cell? ⟨w.heap.size, 5, none⟩ = some (.int .i64 g2) ∧ w'.cell? ⟨w.heap.size, 6, none⟩ = some (.int .i64 g3) ∧ w'.cell? ⟨w.heap.size, 7, none⟩ = some (.int .u32 (g4 : Nat)))) (by kernel_rfl) ⟨k0, k1, k2, k3, k4, k5, k6, k7⟩ (fun hHeld => ?_)
      refine wpAnyH_take (i := 0) (oi := ⟨some 57, _, _, _, _, _⟩) (v := ?_) rfl (by kernel_rfl) (by kernel_rfl) (by kernel_rfl) (fun _ _ _ h => h) (Or.inl ⟨by rfl, ?_⟩) (by assumption) ?_
      rotate_left
      · intro w hSw; (try dsimp only at hSw); go_simp <;> (try with_reducible rfl)
      go_frame
      refine wpAnyH_take (i := 1) (oi := ⟨some 58, _, _, _, _, _⟩) (v := ?_) rfl (by kernel_rfl) (by kernel_rfl) (by kernel_rfl) (fun _ _ _ h => h) (Or.inl ⟨by rfl, ?_⟩) (by assumption) ?_
      rotate_left
      · intro w hSw; (try dsimp only at hSw); go_simp <;> (try with_reducible rfl)
      go_frame
      refine wpAnyH_take (i := 2) (oi := ⟨some 59, _, _, _, _, _⟩) (v := ?_) rfl (by kernel_rfl) (by kernel_rfl) (by kernel_rfl) (fun _ _ _ h => h) (Or.inl ⟨by rfl, ?_⟩) (by assumption) ?_
      rotate_left
      · intro w hSw; (try dsimp only at hSw); go_simp <;> (try with_reducible rfl)
      go_frame
      refine wpAnyH_take (i := 3) (oi := ⟨some 60, _, _, _, _, _⟩) (v := ?_) rfl (by kernel_rfl) (by kernel_rfl) (by kernel_rfl) (fun _ _ _ h => h) (Or.inl ⟨by rfl, ?_⟩) (by assumption) ?_
      rotate_left
      · intro w hSw; (try dsimp only at hSw); go_simp <;> (try with_reducible rfl)
      go_frame
      refine wpAnyH_take (i := 5) (oi := ⟨some 62, _, _, _, _, _⟩) (v := ?_) rfl (by kernel_rfl) (by kernel_rfl) (by kernel_rfl) (fun _ _ _ h => h) (Or.inl ⟨by rfl, ?_⟩) (by assumption) ?_
      rotate_left
      · intro w hSw; (try dsimp only at hSw); go_simp <;> (try with_reducible rfl)
      go_frame
      refine wpAnyH_ready (rs := [4]) (by kernel_rfl) (by simp) ?_
      refine AllReadyH.cons rfl (fun K hK => ?_) AllReadyH.nil
      go_simp
      refine hK.out _ _ ⟨k0, k1, k2, k3, k4, k5, k6, k7⟩ (fun hHeld => ?_)
      clear hK K
      refine wpAnyH_ready (rs := [6]) (by kernel_rfl) (by simp) ?_
      refine AllReadyH.cons rfl (fun K hK => ?_) AllReadyH.nil
      go_simp; go_at_call 39; refine (hwi _ HS9.drew).mono ?_; rintro e w10 ⟨v', t', rfl, hL10, hl10, hb10⟩; have HS10 := HS9.drew.below hb10; obtain ⟨r0, r1, r2, r3, r4, r5, r6, r7, rf⟩ := eight_of HS10.box; obtain ⟨d0, d1, d2, d3, df⟩ := HS10.head.cells; have df1 := df 1; simp only at r0 r1 r2 r3 r4 r5 r6 r7; clear df rf
      refine hK.out _ _ ⟨r0, r1, r2, r3, r4, r5, r6, r7⟩ (fun hHeld => ?_)
      clear hK K
      try go_frame
      refine wpAnyH_take (i := 7) (oi := ⟨some 64, _, _, _, _, _⟩) (v := ?_) rfl (by kernel_rfl) (by kernel_rfl) (by kernel_rfl) (fun _ _ _ h => h) (Or.inl ⟨by rfl, ?_⟩) (by assumption) ?_
      rotate_left
      · intro w hSw; (try dsimp only at hSw); go_simp <;> (try with_reducible rfl)
      go_frame
      refine wpAnyH_take (i := 8) (oi := ⟨some 65, _, _, _, _, _⟩) (v := ?_) rfl (by kernel_rfl) (by kernel_rfl) (by kernel_rfl) (fun _ _ _ h => h) (Or.inl ⟨by rfl, ?_⟩) (by assumption) ?_
      rotate_left
      · intro w hSw; (try dsimp only at hSw); go_simp <;> (try with_reducible rfl)
      go_frame
      refine wpAnyH_ready (rs := [9]) (by kernel_rfl) (by simp) ?_
      refine AllReadyH.cons rfl (fun K hK => ?_) AllReadyH.nil
      go_simp
      refine hK.out _ _ (by first | go_keep | (refine ⟨?_, ?_, ?_, ?_, ?_, ?_, ?_, ?_⟩ <;> assumption)) (fun hHeld => ?_)
      clear hK K
      refine wpAnyH_done (by kernel_rfl) ?_ _
      clear k0 k1 k2 k3 k4 k5 k6 k7 r0 r1 r2 r3 r4 r5 r6 r7 c0 c1 c2 c3 d0 d1 d2 d3 df1
      go_wp2
      go_ret
      obtain ⟨S', hs1, hs2, hs3⟩ := HS9.drew.done hSb.out hNS.out hL10 hl10 hb10 hup.out hmy.out hn2.out hz2.out
      exact ⟨S', rfl, hs1, hs2, hs3⟩
  | some y =>
    obtain ⟨d, gy, vl, vr, gz, hNd, hcd, hid, hf⟩ := find_yes v t gk V.drew HS5.drew.lies hU.out hO
    rw [hkey.out] at hO
    obtain ⟨hmem, _⟩ := It.find_mem hO
    obtain ⟨_, my1, my2⟩ := Tn.may_small (hmo.out y hmem)
    obtain ⟨pn1, pn2⟩ := Tn.put_some hU.out hO
    have hwy := fun (W : World) (hi : IsItem W gy y) => weigh_any gy y W hi (by omega) (by omega)
    obtain ⟨wy, hwy'⟩ : ∃ wy, wy = Tn.wt y := ⟨_, rfl⟩
    have hyz : wy ≤ z := by
      obtain ⟨A, B, e⟩ := List.append_of_mem hmem
      rw [hwy', Hz.out, e, Tn.weight_append, Tn.weight_cons]
      omega
    rw [← hwy'] at hwy pn2
    obtain ⟨z7, hz7⟩ : ∃ z7, z7 = z - wy := ⟨_, rfl⟩
    have i1 : IntKind.i64.wrap ((z : Int) - (wy : Int)) = (z7 : Int) := by rw [IntKind.wrap_i64]; omega
    obtain ⟨z1, hz1⟩ : ∃ z1, z1 = z7 + wx := ⟨_, rfl⟩
    have i2 : IntKind.i64.wrap ((z7 : Int) + (wx : Int)) = (z1 : Int) := by rw [IntKind.wrap_i64]; omega
    have hn2 : Hid (n = (It.put t.list x).length) := (by rw [pn1, Hn.out] : n = (It.put t.list x).length)
    have hz2 : Hid (z1 = It.weight (It.put t.list x)) := (by rw [← Hz.out, ← Hwx.out] at pn2; omega : z1 = It.weight (It.put t.list x))
    have hdb1 : ¬ (b = d) := fun e => (HS5.sub d hNd).2 e.symm
    have hdb2 : ¬ (d = b) := (HS5.sub d hNd).2
    clear hO pn1 pn2 hz1 hz7 hmem my1 my2 hwy' hyz hmo
    refine wp_region_still_lit hmx (by kernel_rfl) ?_
    repeat still_step
    still_call hf
    repeat still_step
    refine wpStill_nil ?_
    go_wp2_with fail
    change Code.wp Try.prog _ _ _ V.drew
    have HS6 := HS5.drew
    clear c0 c1 c2 c3 cf2 k0 k1 k2 k3 k4 k5 k6 k7 hf HS5
    generalize V.drew = V6 at *
    have hcd2 := hcd
    have hid2 := hid
    obtain ⟨yk, yd, yf, ya, yn, yc, ⟨y1, y2, y3, y4⟩⟩ := gy
    obtain ⟨⟨k0, k1, k2, k3, k4, k5, k6, k7⟩, _, _, _⟩ := hcd
    simp only [Nat.zero_add] at k0 k1 k2 k3 k4 k5 k6 k7
    obtain ⟨c0, c1, c2, c3, cf⟩ := HS6.head.cells
    have cf3 := cf 3
    clear cf
    refine wp_region_held_drew (S := (fun w' => w'.cell? ⟨d, 0, none⟩ = some (.string yk) ∧ w'.cell? ⟨d, 1, none⟩ = some (.bool yd) ∧ w'.cell? ⟨d, 2, none⟩ = some (.bool yf) ∧ w'.cell? ⟨d, 3, none⟩ = some (.slice ya yn yc) ∧ w'.cell? ⟨d, 4, none⟩ = some (.int .i64 y1) ∧ w'.cell? ⟨d, 5, none⟩ = some (.int .i64 y2) ∧ w'.cell? ⟨d, 6, none⟩ = some (.int .i64 y3) ∧ w'.cell? ⟨d, 7, none⟩ = some (.int .u32 (y4 : Nat)))) (by kernel_rfl) ⟨k0, k1, k2, k3, k4, k5, k6, k7⟩ (fun hHeld => ?_)
    refine wpAnyH_take (i := 0) (oi := ⟨some 29, _, _, _, _, _⟩) (v := ?_) rfl (by kernel_rfl) (by kernel_rfl) (by kernel_rfl) (fun _ _ _ h => h) (Or.inl ⟨by rfl, ?_⟩) (by assumption) ?_
    rotate_left
    · intro w hSw; (try dsimp only at hSw); go_simp <;> (try with_reducible rfl)
    go_frame
    refine wpAnyH_take (i := 1) (oi := ⟨some 30, _, _, _, _, _⟩) (v := ?_) rfl (by kernel_rfl) (by kernel_rfl) (by kernel_rfl) (fun _ _ _ h => h) (Or.inl ⟨by rfl, ?_⟩) (by assumption) ?_
    rotate_left
    · intro w hSw; (try dsimp only at hSw); go_simp <;> (try with_reducible rfl)
    go_frame
    refine wpAnyH_take (i := 2) (oi := ⟨some 31, _, _, _, _, _⟩) (v := ?_) rfl (by kernel_rfl) (by kernel_rfl) (by kernel_rfl) (fun _ _ _ h => h) (Or.inl ⟨by rfl, ?_⟩) (by assumption) ?_
    rotate_left
    · intro w hSw; (try dsimp only at hSw); go_simp <;> (try with_reducible rfl)
    go_frame
    refine wpAnyH_take (i := 4) (oi := ⟨some 33, _, _, _, _, _⟩) (v := ?_) rfl (by kernel_rfl) (by kernel_rfl) (by kernel_rfl) (fun _ _ _ h => h) (Or.inl ⟨by rfl, ?_⟩) (by assumption) ?_
    rotate_left
    · intro w hSw; (try dsimp only at hSw); go_simp <;> (try with_reducible rfl)
    go_frame
    refine wpAnyH_take (i := 5) (oi := ⟨some 34, _, _, _, _, _⟩) (v := ?_) rfl (by kernel_rfl) (by kernel_rfl) (by kernel_rfl) (fun _ _ _ h => h) (Or.inl ⟨by rfl, ?_⟩) (by assumption) ?_
    rotate_left
    · intro w hSw; (try dsimp only at hSw); go_simp <;> (try with_reducible rfl)
    go_frame
    refine wpAnyH_take (i := 6) (oi := ⟨some 35, _, _, _, _, _⟩) (v := ?_) rfl (by kernel_rfl) (by kernel_rfl) (by kernel_rfl) (fun _ _ _ h => h) (Or.inl ⟨by rfl, ?_⟩) (by assumption) ?_
    rotate_left
    · intro w hSw; (try dsimp only at hSw); go_simp <;> (try with_reducible rfl)
    go_frame
    refine wpAnyH_take (i := 7) (oi := ⟨some 36, _, _, _, _, _⟩) (v := ?_) rfl (by kernel_rfl) (by kernel_rfl) (by kernel_rfl) (fun _ _ _ h => h) (Or.inl ⟨by rfl, ?_⟩) (by assumption) ?_
    rotate_left
    · intro w hSw; (try dsimp only at hSw); go_simp <;> (try with_reducible rfl)
    go_frame
    refine wpAnyH_ready (rs := [3, 8]) (by kernel_rfl) (by simp) ?_
    refine AllReadyH.cons rfl (fun K hK => ?_) (AllReadyH.cons rfl (fun K hK => ?_) AllReadyH.nil)
    · skip
      go_simp
      refine hK.out _ _ ⟨k0, k1, k2, k3, k4, k5, k6, k7⟩ (fun hHeld => ?_)
      clear hK K
      refine wpAnyH_ready (rs := [8]) (by kernel_rfl) (by simp) ?_
      refine AllReadyH.cons rfl (fun K hK => ?_) AllReadyH.nil
      go_simp; go_at_call 38; refine (hwy _ (hid2.item.below (Below.refl _ _).drew (Nat.le_refl _))).mono ?_; rintro e w7 ⟨rfl, hb7⟩; have HS7 := HS6.drew.below hb7; obtain ⟨⟨u0, u1, u2, u3, u4, u5, u6, u7⟩, _, _, _⟩ := hcd2.same ((hb7.block d hcd2.lt).trans rfl); obtain ⟨a0, a1, a2, a3, af⟩ := HS7.head.cells; have af3 := af 3; simp only [Nat.zero_add] at u0 u1 u2 u3 u4 u5 u6 u7; clear af
      refine hK.out _ _ ⟨u0, u1, u2, u3, u4, u5, u6, u7⟩ (fun hHeld => ?_)
      clear hK K
      try go_frame
      refine wpAnyH_take (i := 9) (oi := ⟨some 38, _, _, _, _, _⟩) (v := ?_) rfl (by kernel_rfl) (by kernel_rfl) (by kernel_rfl) (fun _ _ _ h => h) (Or.inl ⟨by rfl, ?_⟩) (by assumption) ?_
      rotate_left
      · intro w hSw; (try dsimp only at hSw); go_simp <;> (try with_reducible rfl)
      go_frame
      refine wpAnyH_take (i := 10) (oi := ⟨some 39, _, _, _, _, _⟩) (v := ?_) rfl (by kernel_rfl) (by kernel_rfl) (by kernel_rfl) (fun _ _ _ h => h) (Or.inl ⟨by rfl, ?_⟩) (by assumption) ?_
      rotate_left
      · intro w hSw; (try dsimp only at hSw); go_simp <;> (try with_reducible rfl)
      go_frame
      refine wpAnyH_take (i := 11) (oi := ⟨some 40, _, _, _, _, _⟩) (v := ?_) rfl (by kernel_rfl) (by kernel_rfl) (by kernel_rfl) (fun _ _ _ h => h) (Or.inl ⟨by rfl, ?_⟩) (by assumption) ?_
      rotate_left
      · intro w hSw; (try dsimp only at hSw); go_simp <;> (try with_reducible rfl)
      go_frame
      refine wpAnyH_ready (rs := [12]) (by kernel_rfl) (by simp) ?_
      refine AllReadyH.cons rfl (fun K hK => ?_) AllReadyH.nil
      go_simp
      refine hK.out _ _ (by first | go_keep | (refine ⟨?_, ?_, ?_, ?_, ?_, ?_, ?_, ?_⟩ <;> assumption)) (fun hHeld => ?_)
      clear hK K
      refine wpAnyH_done (by kernel_rfl) ?_ _
      have HSw := HS7.weight z7
      clear k0 k1 k2 k3 k4 k5 k6 k7 u0 u1 u2 u3 u4 u5 u6 u7 c0 c1 c2 c3 cf3 a0 a1 a2 a3 af3 HS7 hb7 hcd2 hid hid2 hwy HS6
      go_wp2_with fail
      generalize w7.setCell ⟨b, 3, none⟩ (.int .i64 (z7 : Nat)) = V7 at *
      obtain ⟨c0, c1, c2, c3, cf⟩ := HSw.head.cells
      have cf3 := cf 3
      obtain ⟨k0, k1, k2, k3, k4, k5, k6, k7, kf⟩ := eight_of HSw.box
      simp only at k0 k1 k2 k3 k4 k5 k6 k7
      clear cf kf
      refine wp_region_held_drew (S := (fun w' => w'.cell? ⟨w.heap.size, 0, none⟩ = some (.string gk) ∧ w'.cell? ⟨w.heap.size, 1, none⟩ = some (.bool gd) ∧ w'.cell? ⟨w.heap.size, 2, none⟩ = some (.bool gf) ∧ w'.cell? ⟨w.heap.size, 3, none⟩ = some (.slice ga gn gc) ∧ w'.cell? ⟨w.heap.size, 4, none⟩ = some (.int .i64 g1) ∧ w'.cell? ⟨w.heap.size, 5, none⟩ = some (.int .i64 g2) ∧ w'.cell? ⟨w.heap.size, 6, none⟩ = some (.int .i64 g3) ∧ w'.cell? ⟨w.heap.size, 7, none⟩ = some (.int .u32 (g4 : Nat)))) (by kernel_rfl) ⟨k0, k1, k2, k3, k4, k5, k6, k7⟩ (fun hHeld => ?_)
      refine wpAnyH_take (i := 0) (oi := ⟨some 48, _, _, _, _, _⟩) (v := ?_) rfl (by kernel_rfl) (by kernel_rfl) (by kernel_rfl) (fun _ _ _ h => h) (Or.inl ⟨by rfl, ?_⟩) (by assumption) ?_
      rotate_left
      · intro w hSw; (try dsimp only at hSw); go_simp <;> (try with_reducible rfl)
      go_frame
      refine wpAnyH_take (i := 1) (oi := ⟨some 49, _, _, _, _, _⟩) (v := ?_) rfl (by kernel_rfl) (by kernel_rfl) (by kernel_rfl) (fun _ _ _ h => h) (Or.inl ⟨by rfl, ?_⟩) (by assumption) ?_
      rotate_left
      · intro w hSw; (try dsimp only at hSw); go_simp <;> (try with_reducible rfl)
      go_frame
      refine wpAnyH_take (i := 2) (oi := ⟨some 50, _, _, _, _, _⟩) (v := ?_) rfl (by kernel_rfl) (by kernel_rfl) (by kernel_rfl) (fun _ _ _ h => h) (Or.inl ⟨by rfl, ?_⟩) (by assumption) ?_
      rotate_left
      · intro w hSw; (try dsimp only at hSw); go_simp <;> (try with_reducible rfl)
      go_frame
      refine wpAnyH_take (i := 4) (oi := ⟨some 52, _, _, _, _, _⟩) (v := ?_) rfl (by kernel_rfl) (by kernel_rfl) (by kernel_rfl) (fun _ _ _ h => h) (Or.inl ⟨by rfl, ?_⟩) (by assumption) ?_
      rotate_left
      · intro w hSw; (try dsimp only at hSw); go_simp <;> (try with_reducible rfl)
      go_frame
      refine wpAnyH_ready (rs := [3, 5]) (by kernel_rfl) (by simp) ?_
      refine AllReadyH.cons rfl (fun K hK => ?_) (AllReadyH.cons rfl (fun K hK => ?_) AllReadyH.nil)
      · skip
        go_simp
        refine hK.out _ _ ⟨k0, k1, k2, k3, k4, k5, k6, k7⟩ (fun hHeld => ?_)
        clear hK K
        refine wpAnyH_ready (rs := [5]) (by kernel_rfl) (by simp) ?_
        refine AllReadyH.cons rfl (fun K hK => ?_) AllReadyH.nil
        go_simp; go_at_call 38; refine (hwx _ HSw.drew.item.item).mono ?_; rintro e w8 ⟨rfl, hb8⟩; have HS8 := HSw.drew.below hb8; obtain ⟨u0, u1, u2, u3, u4, u5, u6, u7, uf⟩ := eight_of HS8.box; obtain ⟨a0, a1, a2, a3, af⟩ := HS8.head.cells; have af3 := af 3; simp only at u0 u1 u2 u3 u4 u5 u6 u7; clear af uf
        refine hK.out _ _ ⟨u0, u1, u2, u3, u4, u5, u6, u7⟩ (fun hHeld => ?_)
        clear hK K
        try go_frame
        refine wpAnyH_take (i := 6) (oi := ⟨some 54, _, _, _, _, _⟩) (v := ?_) rfl (by kernel_rfl) (by kernel_rfl) (by kernel_rfl) (fun _ _ _ h => h) (Or.inl ⟨by rfl, ?_⟩) (by assumption) ?_
        rotate_left
        · intro w hSw; (try dsimp only at hSw); go_simp <;> (try with_reducible rfl)
        go_frame
        refine wpAnyH_take (i := 7) (oi := ⟨some 55, _, _, _, _, _⟩) (v := ?_) rfl (by kernel_rfl) (by kernel_rfl) (by kernel_rfl) (fun _ _ _ h => h) (Or.inl ⟨by rfl, ?_⟩) (by assumption) ?_
        rotate_left
        · intro w hSw; (try dsimp only at hSw); go_simp <;> (try with_reducible rfl)
        go_frame
        refine wpAnyH_take (i := 8) (oi := ⟨some 56, _, _, _, _, _⟩) (v := ?_) rfl (by kernel_rfl) (by kernel_rfl) (by kernel_rfl) (fun _ _ _ h => h) (Or.inl ⟨by rfl, ?_⟩) (by assumption) ?_
        rotate_left
        · intro w hSw; (try dsimp only at hSw); go_simp <;> (try with_reducible rfl)
        go_frame
        refine wpAnyH_ready (rs := [9]) (by kernel_rfl) (by simp) ?_
        refine AllReadyH.cons rfl (fun K hK => ?_) AllReadyH.nil
        go_simp
        refine hK.out _ _ (by first | go_keep | (refine ⟨?_, ?_, ?_, ?_, ?_, ?_, ?_, ?_⟩ <;> assumption)) (fun hHeld => ?_)
        clear hK K
        refine wpAnyH_done (by kernel_rfl) ?_ _
        have HS9 := HS8.weight z1
        clear k0 k1 k2 k3 k4 k5 k6 k7 u0 u1 u2 u3 u4 u5 u6 u7 c0 c1 c2 c3 cf3 a0 a1 a2 a3 af3 HS8 hb8
        go_wp2_with fail
        generalize w8.setCell ⟨b, 3, none⟩ (.int .i64 (z1 : Nat)) = V9 at *
        obtain ⟨c0, c1, c2, c3, cf⟩ := HS9.head.cells
        obtain ⟨k0, k1, k2, k3, k4, k5, k6, k7, kf⟩ := eight_of HS9.box
        simp only at k0 k1 k2 k3 k4 k5 k6 k7
        clear cf kf
        refine wp_region_held_drew (S := (fun w' => w'.cell? ⟨w.heap.size, 0, none⟩ = some (.string gk) ∧ w'.cell? ⟨w.heap.size, 1, none⟩ = some (.bool gd) ∧ w'.cell? ⟨w.heap.size, 2, none⟩ = some (.bool gf) ∧ w'.cell? ⟨w.heap.size, 3, none⟩ = some (.slice ga gn gc) ∧ w'.cell? ⟨w.heap.size, 4, none⟩ = some (.int .i64 g1) ∧ w'.cell? ⟨w.heap.size, 5, none⟩ = some (.int .i64 g2) ∧ w'.cell? ⟨w.heap.size, 6, none⟩ = some (.int .i64 g3) ∧ w'.cell? ⟨w.heap.size, 7, none⟩ = some (.int .u32 (g4 : Nat)))) (by kernel_rfl) ⟨k0, k1, k2, k3, k4, k5, k6, k7⟩ (fun hHeld => ?_)
        refine wpAnyH_take (i := 0) (oi := ⟨some 57, _, _, _, _, _⟩) (v := ?_) rfl (by kernel_rfl) (by kernel_rfl) (by kernel_rfl) (fun _ _ _ h => h) (Or.inl ⟨by rfl, ?_⟩) (by assumption) ?_
        rotate_left
        · intro w hSw; (try dsimp only at hSw); go_simp <;> (try with_reducible rfl)
        go_frame
        refine wpAnyH_take (i := 1) (oi := ⟨some 58, _, _, _, _, _⟩) (v := ?_) rfl (by kernel_rfl) (by kernel_rfl) (by kernel_rfl) (fun _ _ _ h => h) (Or.inl ⟨by rfl, ?_⟩) (by assumption) ?_
        rotate_left
        · intro w hSw; (try dsimp only at hSw); go_simp <;> (try with_reducible rfl)
        go_frame
        refine wpAnyH_take (i := 2) (oi := ⟨some 59, _, _, _, _, _⟩) (v := ?_) rfl (by kernel_rfl) (by kernel_rfl) (by kernel_rfl) (fun _ _ _ h => h) (Or.inl ⟨by rfl, ?_⟩) (by assumption) ?_
        rotate_left
        · intro w hSw; (try dsimp only at hSw); go_simp <;> (try with_reducible rfl)
        go_frame
        refine wpAnyH_take (i := 3) (oi := ⟨some 60, _, _, _, _, _⟩) (v := ?_) rfl (by kernel_rfl) (by kernel_rfl) (by kernel_rfl) (fun _ _ _ h => h) (Or.inl ⟨by rfl, ?_⟩) (by assumption) ?_
        rotate_left
        · intro w hSw; (try dsimp only at hSw); go_simp <;> (try with_reducible rfl)
        go_frame
        refine wpAnyH_take (i := 5) (oi := ⟨some 62, _, _, _, _, _⟩) (v := ?_) rfl (by kernel_rfl) (by kernel_rfl) (by kernel_rfl) (fun _ _ _ h => h) (Or.inl ⟨by rfl, ?_⟩) (by assumption) ?_
        rotate_left
        · intro w hSw; (try dsimp only at hSw); go_simp <;> (try with_reducible rfl)
        go_frame
        refine wpAnyH_ready (rs := [4]) (by kernel_rfl) (by simp) ?_
        refine AllReadyH.cons rfl (fun K hK => ?_) AllReadyH.nil
        go_simp
        refine hK.out _ _ ⟨k0, k1, k2, k3, k4, k5, k6, k7⟩ (fun hHeld => ?_)
        clear hK K
        refine wpAnyH_ready (rs := [6]) (by kernel_rfl) (by simp) ?_
        refine AllReadyH.cons rfl (fun K hK => ?_) AllReadyH.nil
        go_simp; go_at_call 39; refine (hwi _ HS9.drew).mono ?_; rintro e w10 ⟨v', t', rfl, hL10, hl10, hb10⟩; have HS10 := HS9.drew.below hb10; obtain ⟨r0, r1, r2, r3, r4, r5, r6, r7, rf⟩ := eight_of HS10.box; obtain ⟨d0, d1, d2, d3, df⟩ := HS10.head.cells; have df1 := df 1; simp only at r0 r1 r2 r3 r4 r5 r6 r7; clear df rf
        refine hK.out _ _ ⟨r0, r1, r2, r3, r4, r5, r6, r7⟩ (fun hHeld => ?_)
        clear hK K
        try go_frame
        refine wpAnyH_take (i := 7) (oi := ⟨some 64, _, _, _, _, _⟩) (v := ?_) rfl (by kernel_rfl) (by kernel_rfl) (by kernel_rfl) (fun _ _ _ h => h) (Or.inl ⟨by rfl, ?_⟩) (by assumption) ?_
        rotate_left
        · intro w hSw; (try dsimp only at hSw); go_simp <;> (try with_reducible rfl)
        go_frame
        refine wpAnyH_take (i := 8) (oi := ⟨some 65, _, _, _, _, _⟩) (v := ?_) rfl (by kernel_rfl) (by kernel_rfl) (by kernel_rfl) (fun _ _ _ h => h) (Or.inl ⟨by rfl, ?_⟩) (by assumption) ?_
        rotate_left
        · intro w hSw; (try dsimp only at hSw); go_simp <;> (try with_reducible rfl)
        go_frame
        refine wpAnyH_ready (rs := [9]) (by kernel_rfl) (by simp) ?_
        refine AllReadyH.cons rfl (fun K hK => ?_) AllReadyH.nil
        go_simp
        refine hK.out _ _ (by first | go_keep | (refine ⟨?_, ?_, ?_, ?_, ?_, ?_, ?_, ?_⟩ <;> assumption)) (fun hHeld => ?_)
        clear hK K
        refine wpAnyH_done (by kernel_rfl) ?_ _
        clear k0 k1 k2 k3 k4 k5 k6 k7 r0 r1 r2 r3 r4 r5 r6 r7 c0 c1 c2 c3 d0 d1 d2 d3 df1
        go_wp2
        go_ret
        obtain ⟨S', hs1, hs2, hs3⟩ := HS9.drew.done hSb.out hNS.out hL10 hl10 hb10 hup.out hmy.out hn2.out hz2.out
        exact ⟨S', rfl, hs1, hs2, hs3⟩
      · skip
        go_simp; go_at_call 38; refine (hwx _ HSw.drew.item.item).mono ?_; rintro e w8 ⟨rfl, hb8⟩; have HS8 := HSw.drew.below hb8; obtain ⟨u0, u1, u2, u3, u4, u5, u6, u7, uf⟩ := eight_of HS8.box; obtain ⟨a0, a1, a2, a3, af⟩ := HS8.head.cells; have af3 := af 3; simp only at u0 u1 u2 u3 u4 u5 u6 u7; clear af uf
        refine hK.out _ _ ⟨u0, u1, u2, u3, u4, u5, u6, u7⟩ (fun hHeld => ?_)
        clear hK K
        try go_frame
        refine wpAnyH_ready (rs := [3]) (by kernel_rfl) (by simp) ?_
        refine AllReadyH.cons rfl (fun K hK => ?_) AllReadyH.nil
        go_simp
        refine hK.out _ _ ⟨u0, u1, u2, u3, u4, u5, u6, u7⟩ (fun hHeld => ?_)
        clear hK K
        refine wpAnyH_take (i := 6) (oi := ⟨some 54, _, _, _, _, _⟩) (v := ?_) rfl (by kernel_rfl) (by kernel_rfl) (by kernel_rfl) (fun _ _ _ h => h) (Or.inl ⟨by rfl, ?_⟩) (by assumption) ?_
        rotate_left
        · intro w hSw; (try dsimp only at hSw); go_simp <;> (try with_reducible rfl)
        go_frame
        refine wpAnyH_take (i := 7) (oi := ⟨some 55, _, _, _, _, _⟩) (v := ?_) rfl (by kernel_rfl) (by kernel_rfl) (by kernel_rfl) (fun _ _ _ h => h) (Or.inl ⟨by rfl, ?_⟩) (by assumption) ?_
        rotate_left
        · intro w hSw; (try dsimp only at hSw); go_simp <;> (try with_reducible rfl)
        go_frame
        refine wpAnyH_take (i := 8) (oi := ⟨some 56, _, _, _, _, _⟩) (v := ?_) rfl (by kernel_rfl) (by kernel_rfl) (by kernel_rfl) (fun _ _ _ h => h) (Or.inl ⟨by rfl, ?_⟩) (by assumption) ?_
        rotate_left
        · intro w hSw; (try dsimp only at hSw); go_simp <;> (try with_reducible rfl)
        go_frame
        refine wpAnyH_ready (rs := [9]) (by kernel_rfl) (by simp) ?_
        refine AllReadyH.cons rfl (fun K hK => ?_) AllReadyH.nil
        go_simp
        refine hK.out _ _ (by first | go_keep | (refine ⟨?_, ?_, ?_, ?_, ?_, ?_, ?_, ?_⟩ <;> assumption)) (fun hHeld => ?_)
        clear hK K
        refine wpAnyH_done (by kernel_rfl) ?_ _
        have HS9 := HS8.weight z1
        clear k0 k1 k2 k3 k4 k5 k6 k7 u0 u1 u2 u3 u4 u5 u6 u7 c0 c1 c2 c3 cf3 a0 a1 a2 a3 af3 HS8 hb8
        go_wp2_with fail
        generalize w8.setCell ⟨b, 3, none⟩ (.int .i64 (z1 : Nat)) = V9 at *
        obtain ⟨c0, c1, c2, c3, cf⟩ := HS9.head.cells
        obtain ⟨k0, k1, k2, k3, k4, k5, k6, k7, kf⟩ := eight_of HS9.box
        simp only at k0 k1 k2 k3 k4 k5 k6 k7
        clear cf kf
        refine wp_region_held_drew (S := (fun w' => w'.cell? ⟨w.heap.size, 0, none⟩ = some (.string gk) ∧ w'.cell? ⟨w.heap.size, 1, none⟩ = some (.bool gd) ∧ w'.cell? ⟨w.heap.size, 2, none⟩ = some (.bool gf) ∧ w'.cell? ⟨w.heap.size, 3, none⟩ = some (.slice ga gn gc) ∧ w'.cell? ⟨w.heap.size, 4, none⟩ = some (.int .i64 g1) ∧ w'.cell? ⟨w.heap.size, 5, none⟩ = some (.int .i64 g2) ∧ w'.cell? ⟨w.heap.size, 6, none⟩ = some (.int .i64 g3) ∧ w'.cell? ⟨w.heap.size, 7, none⟩ = some (.int .u32 (g4 : Nat)))) (by kernel_rfl) ⟨k0, k1, k2, k3, k4, k5, k6, k7⟩ (fun hHeld => ?_)
        refine wpAnyH_take (i := 0) (oi := ⟨some 57, _, _, _, _, _⟩) (v := ?_) rfl (by kernel_rfl) (by kernel_rfl) (by kernel_rfl) (fun _ _ _ h => h) (Or.inl ⟨by rfl, ?_⟩) (by assumption) ?_
        rotate_left
        · intro w hSw; (try dsimp only at hSw); go_simp <;> (try with_reducible rfl)
        go_frame
        refine wpAnyH_take (i := 1) (oi := ⟨some 58, _, _, _, _, _⟩) (v := ?_) rfl (by kernel_rfl) (by kernel_rfl) (by kernel_rfl) (fun _ _ _ h => h) (Or.inl ⟨by rfl, ?_⟩) (by assumption) ?_
        rotate_left
        · intro w hSw; (try dsimp only at hSw); go_simp <;> (try with_reducible rfl)
        go_frame
        refine wpAnyH_take (i := 2) (oi := ⟨some 59, _, _, _, _, _⟩) (v := ?_) rfl (by kernel_rfl) (by kernel_rfl) (by kernel_rfl) (fun _ _ _ h => h) (Or.inl ⟨by rfl, ?_⟩) (by assumption) ?_
        rotate_left
        · intro w hSw; (try dsimp only at hSw); go_simp <;> (try with_reducible rfl)
        go_frame
        refine wpAnyH_take (i := 3) (oi := ⟨some 60, _, _, _, _, _⟩) (v := ?_) rfl (by kernel_rfl) (by kernel_rfl) (by kernel_rfl) (fun _ _ _ h => h) (Or.inl ⟨by rfl, ?_⟩) (by assumption) ?_
        rotate_left
        · intro w hSw; (try dsimp only at hSw); go_simp <;> (try with_reducible rfl)
        go_frame
        refine wpAnyH_take (i := 5) (oi := ⟨some 62, _, _, _, _, _⟩) (v := ?_) rfl (by kernel_rfl) (by kernel_rfl) (by kernel_rfl) (fun _ _ _ h => h) (Or.inl ⟨by rfl, ?_⟩) (by assumption) ?_
        rotate_left
        · intro w hSw; (try dsimp only at hSw); go_simp <;> (try with_reducible rfl)
        go_frame
        refine wpAnyH_ready (rs := [4]) (by kernel_rfl) (by simp) ?_
        refine AllReadyH.cons rfl (fun K hK => ?_) AllReadyH.nil
        go_simp
        refine hK.out _ _ ⟨k0, k1, k2, k3, k4, k5, k6, k7⟩ (fun hHeld => ?_)
        clear hK K
        refine wpAnyH_ready (rs := [6]) (by kernel_rfl) (by simp) ?_
        refine AllReadyH.cons rfl (fun K hK => ?_) AllReadyH.nil
        go_simp; go_at_call 39; refine (hwi _ HS9.drew).mono ?_; rintro e w10 ⟨v', t', rfl, hL10, hl10, hb10⟩; have HS10 := HS9.drew.below hb10; obtain ⟨r0, r1, r2, r3, r4, r5, r6, r7, rf⟩ := eight_of HS10.box; obtain ⟨d0, d1, d2, d3, df⟩ := HS10.head.cells; have df1 := df 1; simp only at r0 r1 r2 r3 r4 r5 r6 r7; clear df rf
        refine hK.out _ _ ⟨r0, r1, r2, r3, r4, r5, r6, r7⟩ (fun hHeld => ?_)
        clear hK K
        try go_frame
        refine wpAnyH_take (i := 7) (oi := ⟨some 64, _, _, _, _, _⟩) (v := ?_) rfl (by kernel_rfl) (by kernel_rfl) (by kernel_rfl) (fun _ _ _ h => h) (Or.inl ⟨by rfl, ?_⟩) (by assumption) ?_
        rotate_left
        · intro w hSw; (try dsimp only at hSw); go_simp <;> (try with_reducible rfl)
        go_frame
        refine wpAnyH_take (i := 8) (oi := ⟨some 65, _, _, _, _, _⟩) (v := ?_) rfl (by kernel_rfl) (by kernel_rfl) (by kernel_rfl) (fun _ _ _ h => h) (Or.inl ⟨by rfl, ?_⟩) (by assumption) ?_
        rotate_left
        · intro w hSw; (try dsimp only at hSw); go_simp <;> (try with_reducible rfl)
        go_frame
        refine wpAnyH_ready (rs := [9]) (by kernel_rfl) (by simp) ?_
        refine AllReadyH.cons rfl (fun K hK => ?_) AllReadyH.nil
        go_simp
        refine hK.out _ _ (by first | go_keep | (refine ⟨?_, ?_, ?_, ?_, ?_, ?_, ?_, ?_⟩ <;> assumption)) (fun hHeld => ?_)
        clear hK K
        refine wpAnyH_done (by kernel_rfl) ?_ _
        clear k0 k1 k2 k3 k4 k5 k6 k7 r0 r1 r2 r3 r4 r5 r6 r7 c0 c1 c2 c3 d0 d1 d2 d3 df1
        go_wp2
        go_ret
        obtain ⟨S', hs1, hs2, hs3⟩ := HS9.drew.done hSb.out hNS.out hL10 hl10 hb10 hup.out hmy.out hn2.out hz2.out
        exact ⟨S', rfl, hs1, hs2, hs3⟩
    · skip
      go_simp; go_at_call 38; refine (hwy _ (hid2.item.below (Below.refl _ _).drew (Nat.le_refl _))).mono ?_; rintro e w7 ⟨rfl, hb7⟩; have HS7 := HS6.drew.below hb7; obtain ⟨⟨u0, u1, u2, u3, u4, u5, u6, u7⟩, _, _, _⟩ := hcd2.same ((hb7.block d hcd2.lt).trans rfl); obtain ⟨a0, a1, a2, a3, af⟩ := HS7.head.cells; have af3 := af 3; simp only [Nat.zero_add] at u0 u1 u2 u3 u4 u5 u6 u7; clear af
      refine hK.out _ _ ⟨u0, u1, u2, u3, u4, u5, u6, u7⟩ (fun hHeld => ?_)
      clear hK K
      try go_frame
      refine wpAnyH_ready (rs := [3]) (by kernel_rfl) (by simp) ?_
      refine AllReadyH.cons rfl (fun K hK => ?_) AllReadyH.nil
      go_simp
      refine hK.out _ _ ⟨u0, u1, u2, u3, u4, u5, u6, u7⟩ (fun hHeld => ?_)
      clear hK K
      refine wpAnyH_take (i := 9) (oi := ⟨some 38, _, _, _, _, _⟩) (v := ?_) rfl (by kernel_rfl) (by kernel_rfl) (by kernel_rfl) (fun _ _ _ h => h) (Or.inl ⟨by rfl, ?_⟩) (by assumption) ?_
      rotate_left
      · intro w hSw; (try dsimp only at hSw); go_simp <;> (try with_reducible rfl)
      go_frame
      refine wpAnyH_take (i := 10) (oi := ⟨some 39, _, _, _, _, _⟩) (v := ?_) rfl (by kernel_rfl) (by kernel_rfl) (by kernel_rfl) (fun _ _ _ h => h) (Or.inl ⟨by rfl, ?_⟩) (by assumption) ?_
      rotate_left
      · intro w hSw; (try dsimp only at hSw); go_simp <;> (try with_reducible rfl)
      go_frame
      refine wpAnyH_take (i := 11) (oi := ⟨some 40, _, _, _, _, _⟩) (v := ?_) rfl (by kernel_rfl) (by kernel_rfl) (by kernel_rfl) (fun _ _ _ h => h) (Or.inl ⟨by rfl, ?_⟩) (by assumption) ?_
      rotate_left
      · intro w hSw; (try dsimp only at hSw); go_simp <;> (try with_reducible rfl)
      go_frame
      refine wpAnyH_ready (rs := [12]) (by kernel_rfl) (by simp) ?_
      refine AllReadyH.cons rfl (fun K hK => ?_) AllReadyH.nil
      go_simp
      refine hK.out _ _ (by first | go_keep | (refine ⟨?_, ?_, ?_, ?_, ?_, ?_, ?_, ?_⟩ <;> assumption)) (fun hHeld => ?_)
      clear hK K
      refine wpAnyH_done (by kernel_rfl) ?_ _
      have HSw := HS7.weight z7
      clear k0 k1 k2 k3 k4 k5 k6 k7 u0 u1 u2 u3 u4 u5 u6 u7 c0 c1 c2 c3 cf3 a0 a1 a2 a3 af3 HS7 hb7 hcd2 hid hid2 hwy HS6
      go_wp2_with fail
      generalize w7.setCell ⟨b, 3, none⟩ (.int .i64 (z7 : Nat)) = V7 at *
      obtain ⟨c0, c1, c2, c3, cf⟩ := HSw.head.cells
      have cf3 := cf 3
      obtain ⟨k0, k1, k2, k3, k4, k5, k6, k7, kf⟩ := eight_of HSw.box
      simp only at k0 k1 k2 k3 k4 k5 k6 k7
      clear cf kf
      refine wp_region_held_drew (S := (fun w' => w'.cell? ⟨w.heap.size, 0, none⟩ = some (.string gk) ∧ w'.cell? ⟨w.heap.size, 1, none⟩ = some (.bool gd) ∧ w'.cell? ⟨w.heap.size, 2, none⟩ = some (.bool gf) ∧ w'.cell? ⟨w.heap.size, 3, none⟩ = some (.slice ga gn gc) ∧ w'.cell? ⟨w.heap.size, 4, none⟩ = some (.int .i64 g1) ∧ w'.cell? ⟨w.heap.size, 5, none⟩ = some (.int .i64 g2) ∧ w'.cell? ⟨w.heap.size, 6, none⟩ = some (.int .i64 g3) ∧ w'.cell? ⟨w.heap.size, 7, none⟩ = some (.int .u32 (g4 : Nat)))) (by kernel_rfl) ⟨k0, k1, k2, k3, k4, k5, k6, k7⟩ (fun hHeld => ?_)
      refine wpAnyH_take (i := 0) (oi := ⟨some 48, _, _, _, _, _⟩) (v := ?_) rfl (by kernel_rfl) (by kernel_rfl) (by kernel_rfl) (fun _ _ _ h => h) (Or.inl ⟨by rfl, ?_⟩) (by assumption) ?_
      rotate_left
      · intro w hSw; (try dsimp only at hSw); go_simp <;> (try with_reducible rfl)
      go_frame
      refine wpAnyH_take (i := 1) (oi := ⟨some 49, _, _, _, _, _⟩) (v := ?_) rfl (by kernel_rfl) (by kernel_rfl) (by kernel_rfl) (fun _ _ _ h => h) (Or.inl ⟨by rfl, ?_⟩) (by assumption) ?_
      rotate_left
      · intro w hSw; (try dsimp only at hSw); go_simp <;> (try with_reducible rfl)
      go_frame
      refine wpAnyH_take (i := 2) (oi := ⟨some 50, _, _, _, _, _⟩) (v := ?_) rfl (by kernel_rfl) (by kernel_rfl) (by kernel_rfl) (fun _ _ _ h => h) (Or.inl ⟨by rfl, ?_⟩) (by assumption) ?_
      rotate_left
      · intro w hSw; (try dsimp only at hSw); go_simp <;> (try with_reducible rfl)
      go_frame
      refine wpAnyH_take (i := 4) (oi := ⟨some 52, _, _, _, _, _⟩) (v := ?_) rfl (by kernel_rfl) (by kernel_rfl) (by kernel_rfl) (fun _ _ _ h => h) (Or.inl ⟨by rfl, ?_⟩) (by assumption) ?_
      rotate_left
      · intro w hSw; (try dsimp only at hSw); go_simp <;> (try with_reducible rfl)
      go_frame
      refine wpAnyH_ready (rs := [3, 5]) (by kernel_rfl) (by simp) ?_
      refine AllReadyH.cons rfl (fun K hK => ?_) (AllReadyH.cons rfl (fun K hK => ?_) AllReadyH.nil)
      · skip
        go_simp
        refine hK.out _ _ ⟨k0, k1, k2, k3, k4, k5, k6, k7⟩ (fun hHeld => ?_)
        clear hK K
        refine wpAnyH_ready (rs := [5]) (by kernel_rfl) (by simp) ?_
        refine AllReadyH.cons rfl (fun K hK => ?_) AllReadyH.nil
        go_simp; go_at_call 38; refine (hwx _ HSw.drew.item.item).mono ?_; rintro e w8 ⟨rfl, hb8⟩; have HS8 := HSw.drew.below hb8; obtain ⟨u0, u1, u2, u3, u4, u5, u6, u7, uf⟩ := eight_of HS8.box; obtain ⟨a0, a1, a2, a3, af⟩ := HS8.head.cells; have af3 := af 3; simp only at u0 u1 u2 u3 u4 u5 u6 u7; clear af uf
        refine hK.out _ _ ⟨u0, u1, u2, u3, u4, u5, u6, u7⟩ (fun hHeld => ?_)
        clear hK K
        try go_frame
        refine wpAnyH_take (i := 6) (oi := ⟨some 54, _, _, _, _, _⟩) (v := ?_) rfl (by kernel_rfl) (by kernel_rfl) (by kernel_rfl) (fun _ _ _ h => h) (Or.inl ⟨by rfl, ?_⟩) (by assumption) ?_
        rotate_left
        · intro w hSw; (try dsimp only at hSw); go_simp <;> (try with_reducible rfl)
        go_frame
        refine wpAnyH_take (i := 7) (oi := ⟨some 55, _, _, _, _, _⟩) (v := ?_) rfl (by kernel_rfl) (by kernel_rfl) (by kernel_rfl) (fun _ _ _ h => h) (Or.inl ⟨by rfl, ?_⟩) (by assumption) ?_
        rotate_left
        · intro w hSw; (try dsimp only at hSw); go_simp <;> (try with_reducible rfl)
        go_frame
        refine wpAnyH_take (i := 8) (oi := ⟨some 56, _, _, _, _, _⟩) (v := ?_) rfl (by kernel_rfl) (by kernel_rfl) (by kernel_rfl) (fun _ _ _ h => h) (Or.inl ⟨by rfl, ?_⟩) (by assumption) ?_
        rotate_left
        · intro w hSw; (try dsimp only at hSw); go_simp <;> (try with_reducible rfl)
        go_frame
        refine wpAnyH_ready (rs := [9]) (by kernel_rfl) (by simp) ?_
        refine AllReadyH.cons rfl (fun K hK => ?_) AllReadyH.nil
        go_simp
        refine hK.out _ _ (by first | go_keep | (refine ⟨?_, ?_, ?_, ?_, ?_, ?_, ?_, ?_⟩ <;> assumption)) (fun hHeld => ?_)
        clear hK K
        refine wpAnyH_done (by kernel_rfl) ?_ _
        have HS9 := HS8.weight z1
        clear k0 k1 k2 k3 k4 k5 k6 k7 u0 u1 u2 u3 u4 u5 u6 u7 c0 c1 c2 c3 cf3 a0 a1 a2 a3 af3 HS8 hb8
        go_wp2_with fail
        generalize w8.setCell ⟨b, 3, none⟩ (.int .i64 (z1 : Nat)) = V9 at *
        obtain ⟨c0, c1, c2, c3, cf⟩ := HS9.head.cells
        obtain ⟨k0, k1, k2, k3, k4, k5, k6, k7, kf⟩ := eight_of HS9.box
        simp only at k0 k1 k2 k3 k4 k5 k6 k7
        clear cf kf
        refine wp_region_held_drew (S := (fun w' => w'.cell? ⟨w.heap.size, 0, none⟩ = some (.string gk) ∧ w'.cell? ⟨w.heap.size, 1, none⟩ = some (.bool gd) ∧ w'.cell? ⟨w.heap.size, 2, none⟩ = some (.bool gf) ∧ w'.cell? ⟨w.heap.size, 3, none⟩ = some (.slice ga gn gc) ∧ w'.cell? ⟨w.heap.size, 4, none⟩ = some (.int .i64 g1) ∧ w'.cell? ⟨w.heap.size, 5, none⟩ = some (.int .i64 g2) ∧ w'.cell? ⟨w.heap.size, 6, none⟩ = some (.int .i64 g3) ∧ w'.cell? ⟨w.heap.size, 7, none⟩ = some (.int .u32 (g4 : Nat)))) (by kernel_rfl) ⟨k0, k1, k2, k3, k4, k5, k6, k7⟩ (fun hHeld => ?_)
        refine wpAnyH_take (i := 0) (oi := ⟨some 57, _, _, _, _, _⟩) (v := ?_) rfl (by kernel_rfl) (by kernel_rfl) (by kernel_rfl) (fun _ _ _ h => h) (Or.inl ⟨by rfl, ?_⟩) (by assumption) ?_
        rotate_left
        · intro w hSw; (try dsimp only at hSw); go_simp <;> (try with_reducible rfl)
        go_frame
        refine wpAnyH_take (i := 1) (oi := ⟨some 58, _, _, _, _, _⟩) (v := ?_) rfl (by kernel_rfl) (by kernel_rfl) (by kernel_rfl) (fun _ _ _ h => h) (Or.inl ⟨by rfl, ?_⟩) (by assumption) ?_
        rotate_left
        · intro w hSw; (try dsimp only at hSw); go_simp <;> (try with_reducible rfl)
        go_frame
        refine wpAnyH_take (i := 2) (oi := ⟨some 59, _, _, _, _, _⟩) (v := ?_) rfl (by kernel_rfl) (by kernel_rfl) (by kernel_rfl) (fun _ _ _ h => h) (Or.inl ⟨by rfl, ?_⟩) (by assumption) ?_
        rotate_left
        · intro w hSw; (try dsimp only at hSw); go_simp <;> (try with_reducible rfl)
        go_frame
        refine wpAnyH_take (i := 3) (oi := ⟨some 60, _, _, _, _, _⟩) (v := ?_) rfl (by kernel_rfl) (by kernel_rfl) (by kernel_rfl) (fun _ _ _ h => h) (Or.inl ⟨by rfl, ?_⟩) (by assumption) ?_
        rotate_left
        · intro w hSw; (try dsimp only at hSw); go_simp <;> (try with_reducible rfl)
        go_frame
        refine wpAnyH_take (i := 5) (oi := ⟨some 62, _, _, _, _, _⟩) (v := ?_) rfl (by kernel_rfl) (by kernel_rfl) (by kernel_rfl) (fun _ _ _ h => h) (Or.inl ⟨by rfl, ?_⟩) (by assumption) ?_
        rotate_left
        · intro w hSw; (try dsimp only at hSw); go_simp <;> (try with_reducible rfl)
        go_frame
        refine wpAnyH_ready (rs := [4]) (by kernel_rfl) (by simp) ?_
        refine AllReadyH.cons rfl (fun K hK => ?_) AllReadyH.nil
        go_simp
        refine hK.out _ _ ⟨k0, k1, k2, k3, k4, k5, k6, k7⟩ (fun hHeld => ?_)
        clear hK K
        refine wpAnyH_ready (rs := [6]) (by kernel_rfl) (by simp) ?_
        refine AllReadyH.cons rfl (fun K hK => ?_) AllReadyH.nil
        go_simp; go_at_call 39; refine (hwi _ HS9.drew).mono ?_; rintro e w10 ⟨v', t', rfl, hL10, hl10, hb10⟩; have HS10 := HS9.drew.below hb10; obtain ⟨r0, r1, r2, r3, r4, r5, r6, r7, rf⟩ := eight_of HS10.box; obtain ⟨d0, d1, d2, d3, df⟩ := HS10.head.cells; have df1 := df 1; simp only at r0 r1 r2 r3 r4 r5 r6 r7; clear df rf
        refine hK.out _ _ ⟨r0, r1, r2, r3, r4, r5, r6, r7⟩ (fun hHeld => ?_)
        clear hK K
        try go_frame
        refine wpAnyH_take (i := 7) (oi := ⟨some 64, _, _, _, _, _⟩) (v := ?_) rfl (by kernel_rfl) (by kernel_rfl) (by kernel_rfl) (fun _ _ _ h => h) (Or.inl ⟨by rfl, ?_⟩) (by assumption) ?_
        rotate_left
        · intro w hSw; (try dsimp only at hSw); go_simp <;> (try with_reducible rfl)
        go_frame
        refine wpAnyH_take (i := 8) (oi := ⟨some 65, _, _, _, _, _⟩) (v := ?_) rfl (by kernel_rfl) (by kernel_rfl) (by kernel_rfl) (fun _ _ _ h => h) (Or.inl ⟨by rfl, ?_⟩) (by assumption) ?_
        rotate_left
        · intro w hSw; (try dsimp only at hSw); go_simp <;> (try with_reducible rfl)
        go_frame
        refine wpAnyH_ready (rs := [9]) (by kernel_rfl) (by simp) ?_
        refine AllReadyH.cons rfl (fun K hK => ?_) AllReadyH.nil
        go_simp
        refine hK.out _ _ (by first | go_keep | (refine ⟨?_, ?_, ?_, ?_, ?_, ?_, ?_, ?_⟩ <;> assumption)) (fun hHeld => ?_)
        clear hK K
        refine wpAnyH_done (by kernel_rfl) ?_ _
        clear k0 k1 k2 k3 k4 k5 k6 k7 r0 r1 r2 r3 r4 r5 r6 r7 c0 c1 c2 c3 d0 d1 d2 d3 df1
        go_wp2
        go_ret
        obtain ⟨S', hs1, hs2, hs3⟩ := HS9.drew.done hSb.out hNS.out hL10 hl10 hb10 hup.out hmy.out hn2.out hz2.out
        exact ⟨S', rfl, hs1, hs2, hs3⟩
      · skip
        go_simp; go_at_call 38; refine (hwx _ HSw.drew.item.item).mono ?_; rintro e w8 ⟨rfl, hb8⟩; have HS8 := HSw.drew.below hb8; obtain ⟨u0, u1, u2, u3, u4, u5, u6, u7, uf⟩ := eight_of HS8.box; obtain ⟨a0, a1, a2, a3, af⟩ := HS8.head.cells; have af3 := af 3; simp only at u0 u1 u2 u3 u4 u5 u6 u7; clear af uf
        refine hK.out _ _ ⟨u0, u1, u2, u3, u4, u5, u6, u7⟩ (fun hHeld => ?_)
        clear hK K
        try go_frame
        refine wpAnyH_ready (rs := [3]) (by kernel_rfl) (by simp) ?_
        refine AllReadyH.cons rfl (fun K hK => ?_) AllReadyH.nil
        go_simp
        refine hK.out _ _ ⟨u0, u1, u2, u3, u4, u5, u6, u7⟩ (fun hHeld => ?_)
        clear hK K
        refine wpAnyH_take (i := 6) (oi := ⟨some 54, _, _, _, _, _⟩) (v := ?_) rfl (by kernel_rfl) (by kernel_rfl) (by kernel_rfl) (fun _ _ _ h => h) (Or.inl ⟨by rfl, ?_⟩) (by assumption) ?_
        rotate_left
        · intro w hSw; (try dsimp only at hSw); go_simp <;> (try with_reducible rfl)
        go_frame
        refine wpAnyH_take (i := 7) (oi := ⟨some 55, _, _, _, _, _⟩) (v := ?_) rfl (by kernel_rfl) (by kernel_rfl) (by kernel_rfl) (fun _ _ _ h => h) (Or.inl ⟨by rfl, ?_⟩) (by assumption) ?_
        rotate_left
        · intro w hSw; (try dsimp only at hSw); go_simp <;> (try with_reducible rfl)
        go_frame
        refine wpAnyH_take (i := 8) (oi := ⟨some 56, _, _, _, _, _⟩) (v := ?_) rfl (by kernel_rfl) (by kernel_rfl) (by kernel_rfl) (fun _ _ _ h => h) (Or.inl ⟨by rfl, ?_⟩) (by assumption) ?_
        rotate_left
        · intro w hSw; (try dsimp only at hSw); go_simp <;> (try with_reducible rfl)
        go_frame
        refine wpAnyH_ready (rs := [9]) (by kernel_rfl) (by simp) ?_
        refine AllReadyH.cons rfl (fun K hK => ?_) AllReadyH.nil
        go_simp
        refine hK.out _ _ (by first | go_keep | (refine ⟨?_, ?_, ?_, ?_, ?_, ?_, ?_, ?_⟩ <;> assumption)) (fun hHeld => ?_)
        clear hK K
        refine wpAnyH_done (by kernel_rfl) ?_ _
        have HS9 := HS8.weight z1
        clear k0 k1 k2 k3 k4 k5 k6 k7 u0 u1 u2 u3 u4 u5 u6 u7 c0 c1 c2 c3 cf3 a0 a1 a2 a3 af3 HS8 hb8
        go_wp2_with fail
        generalize w8.setCell ⟨b, 3, none⟩ (.int .i64 (z1 : Nat)) = V9 at *
        obtain ⟨c0, c1, c2, c3, cf⟩ := HS9.head.cells
        obtain ⟨k0, k1, k2, k3, k4, k5, k6, k7, kf⟩ := eight_of HS9.box
        simp only at k0 k1 k2 k3 k4 k5 k6 k7
        clear cf kf
        refine wp_region_held_drew (S := (fun w' => w'.cell? ⟨w.heap.size, 0, none⟩ = some (.string gk) ∧ w'.cell? ⟨w.heap.size, 1, none⟩ = some (.bool gd) ∧ w'.cell? ⟨w.heap.size, 2, none⟩ = some (.bool gf) ∧ w'.cell? ⟨w.heap.size, 3, none⟩ = some (.slice ga gn gc) ∧ w'.cell? ⟨w.heap.size, 4, none⟩ = some (.int .i64 g1) ∧ w'.cell? ⟨w.heap.size, 5, none⟩ = some (.int .i64 g2) ∧ w'.cell? ⟨w.heap.size, 6, none⟩ = some (.int .i64 g3) ∧ w'.cell? ⟨w.heap.size, 7, none⟩ = some (.int .u32 (g4 : Nat)))) (by kernel_rfl) ⟨k0, k1, k2, k3, k4, k5, k6, k7⟩ (fun hHeld => ?_)
        refine wpAnyH_take (i := 0) (oi := ⟨some 57, _, _, _, _, _⟩) (v := ?_) rfl (by kernel_rfl) (by kernel_rfl) (by kernel_rfl) (fun _ _ _ h => h) (Or.inl ⟨by rfl, ?_⟩) (by assumption) ?_
        rotate_left
        · intro w hSw; (try dsimp only at hSw); go_simp <;> (try with_reducible rfl)
        go_frame
        refine wpAnyH_take (i := 1) (oi := ⟨some 58, _, _, _, _, _⟩) (v := ?_) rfl (by kernel_rfl) (by kernel_rfl) (by kernel_rfl) (fun _ _ _ h => h) (Or.inl ⟨by rfl, ?_⟩) (by assumption) ?_
        rotate_left
        · intro w hSw; (try dsimp only at hSw); go_simp <;> (try with_reducible rfl)
        go_frame
        refine wpAnyH_take (i := 2) (oi := ⟨some 59, _, _, _, _, _⟩) (v := ?_) rfl (by kernel_rfl) (by kernel_rfl) (by kernel_rfl) (fun _ _ _ h => h) (Or.inl ⟨by rfl, ?_⟩) (by assumption) ?_
        rotate_left
        · intro w hSw; (try dsimp only at hSw); go_simp <;> (try with_reducible rfl)
        go_frame
        refine wpAnyH_take (i := 3) (oi := ⟨some 60, _, _, _, _, _⟩) (v := ?_) rfl (by kernel_rfl) (by kernel_rfl) (by kernel_rfl) (fun _ _ _ h => h) (Or.inl ⟨by rfl, ?_⟩) (by assumption) ?_
        rotate_left
        · intro w hSw; (try dsimp only at hSw); go_simp <;> (try with_reducible rfl)
        go_frame
        refine wpAnyH_take (i := 5) (oi := ⟨some 62, _, _, _, _, _⟩) (v := ?_) rfl (by kernel_rfl) (by kernel_rfl) (by kernel_rfl) (fun _ _ _ h => h) (Or.inl ⟨by rfl, ?_⟩) (by assumption) ?_
        rotate_left
        · intro w hSw; (try dsimp only at hSw); go_simp <;> (try with_reducible rfl)
        go_frame
        refine wpAnyH_ready (rs := [4]) (by kernel_rfl) (by simp) ?_
        refine AllReadyH.cons rfl (fun K hK => ?_) AllReadyH.nil
        go_simp
        refine hK.out _ _ ⟨k0, k1, k2, k3, k4, k5, k6, k7⟩ (fun hHeld => ?_)
        clear hK K
        refine wpAnyH_ready (rs := [6]) (by kernel_rfl) (by simp) ?_
        refine AllReadyH.cons rfl (fun K hK => ?_) AllReadyH.nil
        go_simp; go_at_call 39; refine (hwi _ HS9.drew).mono ?_; rintro e w10 ⟨v', t', rfl, hL10, hl10, hb10⟩; have HS10 := HS9.drew.below hb10; obtain ⟨r0, r1, r2, r3, r4, r5, r6, r7, rf⟩ := eight_of HS10.box; obtain ⟨d0, d1, d2, d3, df⟩ := HS10.head.cells; have df1 := df 1; simp only at r0 r1 r2 r3 r4 r5 r6 r7; clear df rf
        refine hK.out _ _ ⟨r0, r1, r2, r3, r4, r5, r6, r7⟩ (fun hHeld => ?_)
        clear hK K
        try go_frame
        refine wpAnyH_take (i := 7) (oi := ⟨some 64, _, _, _, _, _⟩) (v := ?_) rfl (by kernel_rfl) (by kernel_rfl) (by kernel_rfl) (fun _ _ _ h => h) (Or.inl ⟨by rfl, ?_⟩) (by assumption) ?_
        rotate_left
        · intro w hSw; (try dsimp only at hSw); go_simp <;> (try with_reducible rfl)
        go_frame
        refine wpAnyH_take (i := 8) (oi := ⟨some 65, _, _, _, _, _⟩) (v := ?_) rfl (by kernel_rfl) (by kernel_rfl) (by kernel_rfl) (fun _ _ _ h => h) (Or.inl ⟨by rfl, ?_⟩) (by assumption) ?_
        rotate_left
        · intro w hSw; (try dsimp only at hSw); go_simp <;> (try with_reducible rfl)
        go_frame
        refine wpAnyH_ready (rs := [9]) (by kernel_rfl) (by simp) ?_
        refine AllReadyH.cons rfl (fun K hK => ?_) AllReadyH.nil
        go_simp
        refine hK.out _ _ (by first | go_keep | (refine ⟨?_, ?_, ?_, ?_, ?_, ?_, ?_, ?_⟩ <;> assumption)) (fun hHeld => ?_)
        clear hK K
        refine wpAnyH_done (by kernel_rfl) ?_ _
        clear k0 k1 k2 k3 k4 k5 k6 k7 r0 r1 r2 r3 r4 r5 r6 r7 c0 c1 c2 c3 d0 d1 d2 d3 df1
        go_wp2
        go_ret
        obtain ⟨S', hs1, hs2, hs3⟩ := HS9.drew.done hSb.out hNS.out hL10 hl10 hb10 hup.out hmy.out hn2.out hz2.out
        exact ⟨S', rfl, hs1, hs2, hs3⟩
end Go.Proofs.Ytpoocjffkhjeaaa
