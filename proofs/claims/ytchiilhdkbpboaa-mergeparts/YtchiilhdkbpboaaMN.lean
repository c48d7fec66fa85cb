/- What the program's walks do: Next. -/
import Derived.Test.YtchiilhdkbpboaaMJ
namespace Go.Proofs.Ytchiilhdkbpboaa
open Go.RowKit

/-- a walk as it lies: what is left of it lies in an elder world W0 -/
structure WalkAt (W0 w : World) (b : Nat) (a : Option Addr) (n c : Nat) (os : List OH) (ys : List Mg.Y) : Prop where
  low : W0.heap.size ≤ b
  bel : Below W0.heap.size W0 w
  head : w.heap[b]? = some (.cells #[.slice a n c] 57 (0, 0))
  so : SO W0 W0 a n c os ys
/-- an item is told, and from which list it is; the walk's own block has turned -/
def NextRes (w : World) (b : Nat) (v : Value) (x : It.I) (f : Nat) (e : Ending) (w' : World) : Prop :=
  ∃ h, e = .returned (.tuple #[iv h, .int .i64 (f : Nat), .bool true]) ∧ IsItem w' h x ∧ w'.heap[b]? = some (.cells #[v] 57 (0, 0)) ∧ Only (fun k => k = b) w w'
theorem below_two {w : World} {b : Nat} (h : b < w.heap.size) (v : Value) (oz ox : Obj) : Below b w (((w.setCell ⟨b, 0, none⟩ v).alloc oz).alloc ox) := by
  have h1 : Below b w (w.setCell ⟨b, 0, none⟩ v) := (Below.refl b w).setCell (p := ⟨b, 0, none⟩) (Nat.le_refl _) v
  have h2 := h1.alloc (Nat.le_trans (Nat.le_of_lt h) h1.size) oz
  exact h2.alloc (Nat.le_trans (Nat.le_of_lt h) h2.size) ox
theorem nx_fin {w w4 V : World} {b : Nat} {v old : Value} {x : It.I} {f : Nat} {h : IH} {oz ox : Obj} (hb : w.heap[b]? = some (.cells #[old] 57 (0, 0))) (hV : V = ((w.setCell ⟨b, 0, none⟩ v).alloc oz).alloc ox) (h4 : Below V.heap.size V w4) (ho : OwnIt w4 V.heap.size h x) : NextRes w b v x f (.returned (.tuple #[iv h, .int .i64 (f : Nat), .bool true])) (set8 w4 w.heap.size h) := by
  have hlt : b < w.heap.size := (Array.getElem?_eq_some_iff.1 hb).1
  have hsz : V.heap.size = w.heap.size + 2 := by rw [hV]; simp
  have h1 := owns_same (w' := set8 w4 w.heap.size h) ho.2 (fun k hk _ => set8_other _ _ _ k (by omega))
  have h3 := row_of_owns h1 ho.1.row.2.2.1 (Nat.le_trans ho.1.row.2.1 (by decide))
  have e1 : (w.setCell ⟨b, 0, none⟩ v).heap[b]? = some (.cells #[v] 57 (0, 0)) := by
    have := Go.Joins.block_setCell (i := 0) hb v
    simpa using this
  have hs0 : (w.setCell ⟨b, 0, none⟩ v).heap.size = w.heap.size := by simp
  have hb1 : Below w.heap.size (w.setCell ⟨b, 0, none⟩ v) V := by
    rw [hV]
    exact ((Below.refl _ _).alloc (by omega) _).alloc (by simp) _
  have hb2 : Below w.heap.size (w.setCell ⟨b, 0, none⟩ v) (set8 w4 w.heap.size h) := set8_below (hb1.trans (h4.mono (by omega))) _ _ (Nat.le_refl _)
  refine ⟨h, rfl, ⟨ho.1.key, ho.1.dead, ho.1.far, ho.1.pt, h3.1, ho.1.nil, ho.1.le, ho.1.fits, ho.1.ksz⟩, (hb2.block b hlt).trans e1, ⟨hb2.os, hb2.tape, hb2.output, by have := hb2.size; omega, fun k hk hn => (hb2.block k hk).trans (Below.heap_setCell _ _ _ k hn)⟩⟩
theorem nine_of {w : World} {b : Nat} {q : OH} (h : w.heap[b]? = some (.cells #[.string q.h.key, .bool q.h.dead, .bool q.h.far, .slice q.h.a q.h.n q.h.c, .int .i64 q.h.p.1, .int .i64 q.h.p.2.1, .int .i64 q.h.p.2.2.1, .int .u32 (q.h.p.2.2.2 : Nat), .int .i64 (q.f : Nat)] 68 (0, 0))) : OCells w b 0 q := by
  have k : ∀ i, w.cell? ⟨b, i, none⟩ = #[.string q.h.key, .bool q.h.dead, .bool q.h.far, .slice q.h.a q.h.n q.h.c, .int .i64 q.h.p.1, .int .i64 q.h.p.2.1, .int .i64 q.h.p.2.2.1, .int .u32 (q.h.p.2.2.2 : Nat), .int .i64 (q.f : Nat)][i]? := fun i => Go.Joins.cell_of_block h _
  exact ⟨k 0, k 1, k 2, k 3, k 4, k 5, k 6, k 7, k 8⟩

set_option maxRecDepth 100000 in
set_option maxHeartbeats 2000000 in
theorem mnext_more (b : Nat) (a1 : Nat) (o1 : Nat) (n c : Nat) (q : OH) (x : It.I) (w : World) (hh : w.heap[b]? = some (.cells #[.slice (some ⟨a1, o1, none⟩) n c] 57 (0, 0))) (hn : 0 < n) (hnc : n ≤ c) (hc1 : ¬ (c = 1)) (hne : a1 < b) (hC : OCells w a1 o1 q) (hI : ∀ W, Below b w W → IsItem W q.h x) (hsm : Small x) :
    Calls Try.prog 19 #[.pointer (some ⟨b, 0, none⟩)] w (NextRes w b (.slice (some ⟨a1, o1 + 9, none⟩) (n - 1) (c - 1)) x q.f) := by
  have hb : b < w.heap.size := (Array.getElem?_eq_some_iff.1 hh).1
  have hc : w.cell? ⟨b, 0, none⟩ = some (.slice (some ⟨a1, o1, none⟩) n c) := Go.Joins.cell_of_block hh _
  have hfz : w.frozen? ⟨b, 0, none⟩ = false := Go.Joins.unfrozen_of_block hh _
  have Hh : Hid (w.heap[b]? = some (.cells #[.slice (some ⟨a1, o1, none⟩) n c] 57 (0, 0))) := hh
  have hcp := fun W (hW : Below b w W) => mcopied_any q.h x W (hI W hW) hsm.2 (by rw [← kb_len, (hI W hW).key]; exact hsm.1)
  clear hh hI
  obtain ⟨y0, y1, y2, y3, y4, y5, y6, y7, y8⟩ := hC
  obtain ⟨⟨key, dead, far, qa, qn, qc, ⟨p1, p2, p3, p4⟩⟩, fr⟩ := q
  simp only at y0 y1 y2 y3 y4 y5 y6 y7 y8 hcp ⊢
  have hl := cell_lt y0
  have n1 : ¬ (b = w.heap.size) := by omega
  have n2 : ¬ (a1 = w.heap.size) := by omega
  have n3 : ¬ (b = a1) := by omega
  have n4 : ¬ (a1 = b) := by omega
  have hz : ((n : Int) == 0) = false := by simp; omega
  have k1 : (0 : Int) < (n : Int) := by omega
  have k2 : (1 : Int) ≤ (n : Int) := by omega
  have k3 : (1 : Int) ≤ (c : Int) := by omega
  have k4 : (n : Int) ≤ (c : Int) := by omega
  go_enter Try.func19, Try.ntmps19
  go_wp2_with fail
  have hb5 : Below b w (((w.setCell ⟨b, 0, none⟩ (.slice (some ⟨a1, o1 + 9, none⟩) (n - 1) (c - 1))).alloc (.cells #[.string ⟨#[]⟩, .bool false, .bool false, .slice none 0 0, .int .i64 0, .int .i64 0, .int .i64 0, .int .u32 0] 37)).alloc (.cells #[.string key, .bool dead, .bool far, .slice qa qn qc, .int .i64 p1, .int .i64 p2, .int .i64 p3, .int .u32 (p4 : Nat), .int .i64 (fr : Nat)] 68)) := below_two hb _ _ _
  have B1 : Hid ((((w.setCell ⟨b, 0, none⟩ (.slice (some ⟨a1, o1 + 9, none⟩) (n - 1) (c - 1))).alloc (.cells #[.string ⟨#[]⟩, .bool false, .bool false, .slice none 0 0, .int .i64 0, .int .i64 0, .int .i64 0, .int .u32 0] 37)).alloc (.cells #[.string key, .bool dead, .bool far, .slice qa qn qc, .int .i64 p1, .int .i64 p2, .int .i64 p3, .int .u32 (p4 : Nat), .int .i64 (fr : Nat)] 68)).heap[w.heap.size]? = some (.cells #[.string ⟨#[]⟩, .bool false, .bool false, .slice none 0 0, .int .i64 0, .int .i64 0, .int .i64 0, .int .u32 0] 37 (0, 0)) ∧ (((w.setCell ⟨b, 0, none⟩ (.slice (some ⟨a1, o1 + 9, none⟩) (n - 1) (c - 1))).alloc (.cells #[.string ⟨#[]⟩, .bool false, .bool false, .slice none 0 0, .int .i64 0, .int .i64 0, .int .i64 0, .int .u32 0] 37)).alloc (.cells #[.string key, .bool dead, .bool far, .slice qa qn qc, .int .i64 p1, .int .i64 p2, .int .i64 p3, .int .u32 (p4 : Nat), .int .i64 (fr : Nat)] 68)).heap[w.heap.size + 1]? = some (.cells #[.string key, .bool dead, .bool far, .slice qa qn qc, .int .i64 p1, .int .i64 p2, .int .i64 p3, .int .u32 (p4 : Nat), .int .i64 (fr : Nat)] 68 (0, 0))) := (⟨(heap_alloc_old _ _ (by simp)).trans (by have h := heap_alloc_new (w.setCell ⟨b, 0, none⟩ (.slice (some ⟨a1, o1 + 9, none⟩) (n - 1) (c - 1))) (.cells #[.string ⟨#[]⟩, .bool false, .bool false, .slice none 0 0, .int .i64 0, .int .i64 0, .int .i64 0, .int .u32 0] 37); simpa using h), by have h := heap_alloc_new ((w.setCell ⟨b, 0, none⟩ (.slice (some ⟨a1, o1 + 9, none⟩) (n - 1) (c - 1))).alloc (.cells #[.string ⟨#[]⟩, .bool false, .bool false, .slice none 0 0, .int .i64 0, .int .i64 0, .int .i64 0, .int .u32 0] 37)) (.cells #[.string key, .bool dead, .bool far, .slice qa qn qc, .int .i64 p1, .int .i64 p2, .int .i64 p3, .int .u32 (p4 : Nat), .int .i64 (fr : Nat)] 68); simpa using h⟩ : (((w.setCell ⟨b, 0, none⟩ (.slice (some ⟨a1, o1 + 9, none⟩) (n - 1) (c - 1))).alloc (.cells #[.string ⟨#[]⟩, .bool false, .bool false, .slice none 0 0, .int .i64 0, .int .i64 0, .int .i64 0, .int .u32 0] 37)).alloc (.cells #[.string key, .bool dead, .bool far, .slice qa qn qc, .int .i64 p1, .int .i64 p2, .int .i64 p3, .int .u32 (p4 : Nat), .int .i64 (fr : Nat)] 68)).heap[w.heap.size]? = some (.cells #[.string ⟨#[]⟩, .bool false, .bool false, .slice none 0 0, .int .i64 0, .int .i64 0, .int .i64 0, .int .u32 0] 37 (0, 0)) ∧ (((w.setCell ⟨b, 0, none⟩ (.slice (some ⟨a1, o1 + 9, none⟩) (n - 1) (c - 1))).alloc (.cells #[.string ⟨#[]⟩, .bool false, .bool false, .slice none 0 0, .int .i64 0, .int .i64 0, .int .i64 0, .int .u32 0] 37)).alloc (.cells #[.string key, .bool dead, .bool far, .slice qa qn qc, .int .i64 p1, .int .i64 p2, .int .i64 p3, .int .u32 (p4 : Nat), .int .i64 (fr : Nat)] 68)).heap[w.heap.size + 1]? = some (.cells #[.string key, .bool dead, .bool far, .slice qa qn qc, .int .i64 p1, .int .i64 p2, .int .i64 p3, .int .u32 (p4 : Nat), .int .i64 (fr : Nat)] 68 (0, 0)))
  have hsz : (((w.setCell ⟨b, 0, none⟩ (.slice (some ⟨a1, o1 + 9, none⟩) (n - 1) (c - 1))).alloc (.cells #[.string ⟨#[]⟩, .bool false, .bool false, .slice none 0 0, .int .i64 0, .int .i64 0, .int .i64 0, .int .u32 0] 37)).alloc (.cells #[.string key, .bool dead, .bool far, .slice qa qn qc, .int .i64 p1, .int .i64 p2, .int .i64 p3, .int .u32 (p4 : Nat), .int .i64 (fr : Nat)] 68)).heap.size = w.heap.size + 2 := by simp
  generalize hVd : (((w.setCell ⟨b, 0, none⟩ (.slice (some ⟨a1, o1 + 9, none⟩) (n - 1) (c - 1))).alloc (.cells #[.string ⟨#[]⟩, .bool false, .bool false, .slice none 0 0, .int .i64 0, .int .i64 0, .int .i64 0, .int .u32 0] 37)).alloc (.cells #[.string key, .bool dead, .bool far, .slice qa qn qc, .int .i64 p1, .int .i64 p2, .int .i64 p3, .int .u32 (p4 : Nat), .int .i64 (fr : Nat)] 68)) = V at *
  have HV : Hid (V = (((w.setCell ⟨b, 0, none⟩ (.slice (some ⟨a1, o1 + 9, none⟩) (n - 1) (c - 1))).alloc (.cells #[.string ⟨#[]⟩, .bool false, .bool false, .slice none 0 0, .int .i64 0, .int .i64 0, .int .i64 0, .int .u32 0] 37)).alloc (.cells #[.string key, .bool dead, .bool far, .slice qa qn qc, .int .i64 p1, .int .i64 p2, .int .i64 p3, .int .u32 (p4 : Nat), .int .i64 (fr : Nat)] 68))) := hVd.symm
  have HZ : Hid (V.heap.size = w.heap.size + 2) := hsz
  clear hVd hsz y0 y1 y2 y3 y4 y5 y6 y7 y8 hc hfz
  obtain ⟨x0, x1, x2, x3, x4, x5, x6, x7, x8⟩ : OCells V (w.heap.size + 1) 0 ⟨⟨key, dead, far, qa, qn, qc, (p1, p2, p3, p4)⟩, fr⟩ := nine_of B1.out.2
  simp only [Nat.zero_add] at x0 x1 x2 x3 x4 x5 x6 x7 x8
  have m1 : ¬ (w.heap.size + 1 = w.heap.size) := by omega
  have m2 : ¬ (w.heap.size = w.heap.size + 1) := by omega
  go_region_with (go_at_call 28; refine (hcp _ hb5.drew).mono ?_; rintro e w4 ⟨⟨k4, d4, f4, a4, n4, c4, ⟨t1, t2, t3, t4⟩⟩, rfl, o4, -, hbel4d⟩; have hbel4 : Below V.heap.size V w4 := below_of_drew hbel4d; obtain ⟨u0, u1, u2, u3, u4, u5, u6, u7, u8⟩ : OCells w4 (w.heap.size + 1) 0 ⟨⟨key, dead, far, qa, qn, qc, (p1, p2, p3, p4)⟩, fr⟩ := nine_of ((hbel4.block (w.heap.size + 1) (by have := HZ.out; omega)).trans B1.out.2); simp only [Nat.zero_add] at u0 u1 u2 u3 u4 u5 u6 u7 u8; obtain ⟨z0, z1, z2, z3, z4, z5, z6, z7, zf⟩ := eight_of ((hbel4.block w.heap.size (by have := HZ.out; omega)).trans B1.out.1); have zf0 := zf 0; have zf1 := zf 1; have zf2 := zf 2; have zf3 := zf 3; have zf4 := zf 4; have zf5 := zf 5; have zf6 := zf 6; have zf7 := zf 7; clear zf)
  all_goals
    go_wp2
    have hP := nx_fin (f := fr) Hh.out HV.out hbel4 o4
    unfold set8 at hP
    simp only at hP
    refine bodyPost_ret (v := .tuple #[.agg #[.string k4, .bool d4, .bool f4, .slice a4 n4 c4, .int .i64 t1, .int .i64 t2, .int .i64 t3, .int .u32 (t4 : Nat)], .int .i64 (fr : Nat), .bool true]) ?_ rfl hP
    simp [results, Try.results19, go_sem, z0, z1, z2, z3, z4, z5, z6, z7]

set_option maxRecDepth 100000 in
set_option maxHeartbeats 2000000 in
theorem mnext_last (b : Nat) (a1 : Nat) (o1 : Nat) (q : OH) (x : It.I) (w : World) (hh : w.heap[b]? = some (.cells #[.slice (some ⟨a1, o1, none⟩) 1 1] 57 (0, 0))) (hne : a1 < b) (hC : OCells w a1 o1 q) (hI : ∀ W, Below b w W → IsItem W q.h x) (hsm : Small x) :
    Calls Try.prog 19 #[.pointer (some ⟨b, 0, none⟩)] w (NextRes w b (.slice (some ⟨a1, o1, none⟩) 0 0) x q.f) := by
  have hb : b < w.heap.size := (Array.getElem?_eq_some_iff.1 hh).1
  have hc : w.cell? ⟨b, 0, none⟩ = some (.slice (some ⟨a1, o1, none⟩) 1 1) := Go.Joins.cell_of_block hh _
  have hfz : w.frozen? ⟨b, 0, none⟩ = false := Go.Joins.unfrozen_of_block hh _
  have Hh : Hid (w.heap[b]? = some (.cells #[.slice (some ⟨a1, o1, none⟩) 1 1] 57 (0, 0))) := hh
  have hcp := fun W (hW : Below b w W) => mcopied_any q.h x W (hI W hW) hsm.2 (by rw [← kb_len, (hI W hW).key]; exact hsm.1)
  clear hh hI
  obtain ⟨y0, y1, y2, y3, y4, y5, y6, y7, y8⟩ := hC
  obtain ⟨⟨key, dead, far, qa, qn, qc, ⟨p1, p2, p3, p4⟩⟩, fr⟩ := q
  simp only at y0 y1 y2 y3 y4 y5 y6 y7 y8 hcp ⊢
  have hl := cell_lt y0
  have n1 : ¬ (b = w.heap.size) := by omega
  have n2 : ¬ (a1 = w.heap.size) := by omega
  have n3 : ¬ (b = a1) := by omega
  have n4 : ¬ (a1 = b) := by omega
  go_enter Try.func19, Try.ntmps19
  go_wp2_with fail
  have hb5 : Below b w (((w.setCell ⟨b, 0, none⟩ (.slice (some ⟨a1, o1, none⟩) 0 0)).alloc (.cells #[.string ⟨#[]⟩, .bool false, .bool false, .slice none 0 0, .int .i64 0, .int .i64 0, .int .i64 0, .int .u32 0] 37)).alloc (.cells #[.string key, .bool dead, .bool far, .slice qa qn qc, .int .i64 p1, .int .i64 p2, .int .i64 p3, .int .u32 (p4 : Nat), .int .i64 (fr : Nat)] 68)) := below_two hb _ _ _
  have B1 : Hid ((((w.setCell ⟨b, 0, none⟩ (.slice (some ⟨a1, o1, none⟩) 0 0)).alloc (.cells #[.string ⟨#[]⟩, .bool false, .bool false, .slice none 0 0, .int .i64 0, .int .i64 0, .int .i64 0, .int .u32 0] 37)).alloc (.cells #[.string key, .bool dead, .bool far, .slice qa qn qc, .int .i64 p1, .int .i64 p2, .int .i64 p3, .int .u32 (p4 : Nat), .int .i64 (fr : Nat)] 68)).heap[w.heap.size]? = some (.cells #[.string ⟨#[]⟩, .bool false, .bool false, .slice none 0 0, .int .i64 0, .int .i64 0, .int .i64 0, .int .u32 0] 37 (0, 0)) ∧ (((w.setCell ⟨b, 0, none⟩ (.slice (some ⟨a1, o1, none⟩) 0 0)).alloc (.cells #[.string ⟨#[]⟩, .bool false, .bool false, .slice none 0 0, .int .i64 0, .int .i64 0, .int .i64 0, .int .u32 0] 37)).alloc (.cells #[.string key, .bool dead, .bool far, .slice qa qn qc, .int .i64 p1, .int .i64 p2, .int .i64 p3, .int .u32 (p4 : Nat), .int .i64 (fr : Nat)] 68)).heap[w.heap.size + 1]? = some (.cells #[.string key, .bool dead, .bool far, .slice qa qn qc, .int .i64 p1, .int .i64 p2, .int .i64 p3, .int .u32 (p4 : Nat), .int .i64 (fr : Nat)] 68 (0, 0))) := (⟨(heap_alloc_old _ _ (by simp)).trans (by have h := heap_alloc_new (w.setCell ⟨b, 0, none⟩ (.slice (some ⟨a1, o1, none⟩) 0 0)) (.cells #[.string ⟨#[]⟩, .bool false, .bool false, .slice none 0 0, .int .i64 0, .int .i64 0, .int .i64 0, .int .u32 0] 37); simpa using h), by have h := heap_alloc_new ((w.setCell ⟨b, 0, none⟩ (.slice (some ⟨a1, o1, none⟩) 0 0)).alloc (.cells #[.string ⟨#[]⟩, .bool false, .bool false, .slice none 0 0, .int .i64 0, .int .i64 0, .int .i64 0, .int .u32 0] 37)) (.cells #[.string key, .bool dead, .bool far, .slice qa qn qc, .int .i64 p1, .int .i64 p2, .int .i64 p3, .int .u32 (p4 : Nat), .int .i64 (fr : Nat)] 68); simpa using h⟩ : (((w.setCell ⟨b, 0, none⟩ (.slice (some ⟨a1, o1, none⟩) 0 0)).alloc (.cells #[.string ⟨#[]⟩, .bool false, .bool false, .slice none 0 0, .int .i64 0, .int .i64 0, .int .i64 0, .int .u32 0] 37)).alloc (.cells #[.string key, .bool dead, .bool far, .slice qa qn qc, .int .i64 p1, .int .i64 p2, .int .i64 p3, .int .u32 (p4 : Nat), .int .i64 (fr : Nat)] 68)).heap[w.heap.size]? = some (.cells #[.string ⟨#[]⟩, .bool false, .bool false, .slice none 0 0, .int .i64 0, .int .i64 0, .int .i64 0, .int .u32 0] 37 (0, 0)) ∧ (((w.setCell ⟨b, 0, none⟩ (.slice (some ⟨a1, o1, none⟩) 0 0)).alloc (.cells #[.string ⟨#[]⟩, .bool false, .bool false, .slice none 0 0, .int .i64 0, .int .i64 0, .int .i64 0, .int .u32 0] 37)).alloc (.cells #[.string key, .bool dead, .bool far, .slice qa qn qc, .int .i64 p1, .int .i64 p2, .int .i64 p3, .int .u32 (p4 : Nat), .int .i64 (fr : Nat)] 68)).heap[w.heap.size + 1]? = some (.cells #[.string key, .bool dead, .bool far, .slice qa qn qc, .int .i64 p1, .int .i64 p2, .int .i64 p3, .int .u32 (p4 : Nat), .int .i64 (fr : Nat)] 68 (0, 0)))
  have hsz : (((w.setCell ⟨b, 0, none⟩ (.slice (some ⟨a1, o1, none⟩) 0 0)).alloc (.cells #[.string ⟨#[]⟩, .bool false, .bool false, .slice none 0 0, .int .i64 0, .int .i64 0, .int .i64 0, .int .u32 0] 37)).alloc (.cells #[.string key, .bool dead, .bool far, .slice qa qn qc, .int .i64 p1, .int .i64 p2, .int .i64 p3, .int .u32 (p4 : Nat), .int .i64 (fr : Nat)] 68)).heap.size = w.heap.size + 2 := by simp
  generalize hVd : (((w.setCell ⟨b, 0, none⟩ (.slice (some ⟨a1, o1, none⟩) 0 0)).alloc (.cells #[.string ⟨#[]⟩, .bool false, .bool false, .slice none 0 0, .int .i64 0, .int .i64 0, .int .i64 0, .int .u32 0] 37)).alloc (.cells #[.string key, .bool dead, .bool far, .slice qa qn qc, .int .i64 p1, .int .i64 p2, .int .i64 p3, .int .u32 (p4 : Nat), .int .i64 (fr : Nat)] 68)) = V at *
  have HV : Hid (V = (((w.setCell ⟨b, 0, none⟩ (.slice (some ⟨a1, o1, none⟩) 0 0)).alloc (.cells #[.string ⟨#[]⟩, .bool false, .bool false, .slice none 0 0, .int .i64 0, .int .i64 0, .int .i64 0, .int .u32 0] 37)).alloc (.cells #[.string key, .bool dead, .bool far, .slice qa qn qc, .int .i64 p1, .int .i64 p2, .int .i64 p3, .int .u32 (p4 : Nat), .int .i64 (fr : Nat)] 68))) := hVd.symm
  have HZ : Hid (V.heap.size = w.heap.size + 2) := hsz
  clear hVd hsz y0 y1 y2 y3 y4 y5 y6 y7 y8 hc hfz
  obtain ⟨x0, x1, x2, x3, x4, x5, x6, x7, x8⟩ : OCells V (w.heap.size + 1) 0 ⟨⟨key, dead, far, qa, qn, qc, (p1, p2, p3, p4)⟩, fr⟩ := nine_of B1.out.2
  simp only [Nat.zero_add] at x0 x1 x2 x3 x4 x5 x6 x7 x8
  have m1 : ¬ (w.heap.size + 1 = w.heap.size) := by omega
  have m2 : ¬ (w.heap.size = w.heap.size + 1) := by omega
  go_region_with (go_at_call 28; refine (hcp _ hb5.drew).mono ?_; rintro e w4 ⟨⟨k4, d4, f4, a4, n4, c4, ⟨t1, t2, t3, t4⟩⟩, rfl, o4, -, hbel4d⟩; have hbel4 : Below V.heap.size V w4 := below_of_drew hbel4d; obtain ⟨u0, u1, u2, u3, u4, u5, u6, u7, u8⟩ : OCells w4 (w.heap.size + 1) 0 ⟨⟨key, dead, far, qa, qn, qc, (p1, p2, p3, p4)⟩, fr⟩ := nine_of ((hbel4.block (w.heap.size + 1) (by have := HZ.out; omega)).trans B1.out.2); simp only [Nat.zero_add] at u0 u1 u2 u3 u4 u5 u6 u7 u8; obtain ⟨z0, z1, z2, z3, z4, z5, z6, z7, zf⟩ := eight_of ((hbel4.block w.heap.size (by have := HZ.out; omega)).trans B1.out.1); have zf0 := zf 0; have zf1 := zf 1; have zf2 := zf 2; have zf3 := zf 3; have zf4 := zf 4; have zf5 := zf 5; have zf6 := zf 6; have zf7 := zf 7; clear zf)
  all_goals
    go_wp2
    have hP := nx_fin (f := fr) Hh.out HV.out hbel4 o4
    unfold set8 at hP
    simp only at hP
    refine bodyPost_ret (v := .tuple #[.agg #[.string k4, .bool d4, .bool f4, .slice a4 n4 c4, .int .i64 t1, .int .i64 t2, .int .i64 t3, .int .u32 (t4 : Nat)], .int .i64 (fr : Nat), .bool true]) ?_ rfl hP
    simp [results, Try.results19, go_sem, z0, z1, z2, z3, z4, z5, z6, z7]
end Go.Proofs.Ytchiilhdkbpboaa
