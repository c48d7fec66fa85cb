/- What the program's find, isMade, weigh do, and bytes.Clone, copied. -/
import Derived.Test.YtpoocjffkhjeaaaTN1
import Derived.Test.YtpoocjffkhjeaaaXC
import Derived.Lib.Slices
namespace Go.Proofs.Ytpoocjffkhjeaaa
open Go.RowKit

/-- the height that is told at a place -/
def hAt (w : World) : Value → Nat
  | .pointer (some p) => match w.cell? ⟨p.block, 10, none⟩ with
    | some (.int _ z) => z.toNat
    | _ => 0
  | _ => 0
theorem Lies.hAt {N : Nat → Prop} {w : World} {v : Option Addr} {t : Tn.T} (h : Lies N w v t) : hAt w (.pointer v) = t.hgt := by
  cases t with
  | e => obtain rfl : v = none := h; rfl
  | n l x r =>
    obtain ⟨b, h, vl, vr, rfl, _, hc, _⟩ := h
    simp only [Go.Proofs.Ytpoocjffkhjeaaa.hAt, hc.height, Int.toNat_natCast]
/-- the way to a key's node -/
def Path (w : World) (k : List Nat) (q : Option Addr) : Option Addr → Tn.T → Prop
  | _, .e => q = none
  | v, .n l y r => ∃ (b : Nat) (vl vr : Option Addr), v = some ⟨b, 0, none⟩ ∧ w.cell? ⟨b, 8, none⟩ = some (.pointer vl) ∧ w.cell? ⟨b, 9, none⟩ = some (.pointer vr) ∧ (y.1 = k → q = v) ∧ (Na.lt k y.1 = true → Path w k q vl l) ∧ (Na.lt y.1 k = true → Path w k q vr r)
/-- a key's node, or none -/
def FindP (N : Nat → Prop) (w : World) (o : Option It.I) (q : Option Addr) : Prop :=
  (o = none ∧ q = none) ∨ ∃ (b : Nat) (h : IH) (x : It.I) (vl vr : Option Addr) (z : Nat), o = some x ∧ q = some ⟨b, 0, none⟩ ∧ N b ∧ NCells w b h vl vr z ∧ ItIn N w h x
theorem path_of {N : Nat → Prop} {w : World} (k : List Nat) : ∀ {v : Option Addr} {t : Tn.T}, Lies N w v t → It.Up t.list → ∃ q, Path w k q v t ∧ FindP N w (It.find t.list k) q
  | _, .e, _, _ => ⟨none, rfl, .inl ⟨rfl, rfl⟩⟩
  | v, .n l y r, ⟨b, h, vl, vr, e, hN, hc, hi, hl, hr⟩, hu => by
    obtain ⟨u1, u2, _, _⟩ := Tn.up_parts hu
    rcases It.lt_total k y.1 with h1 | h1 | h1
    · obtain ⟨q, h2, h3⟩ := path_of k hl u1
      refine ⟨q, ⟨b, vl, vr, e, hc.left, hc.right, fun e => absurd e.symm (It.lt_ne h1), fun _ => h2, fun h => ?_⟩, ?_⟩
      · rw [It.lt_asymm h1] at h; cases h
      · show FindP N w (It.find (l.list ++ y :: r.list) k) q
        rw [Tn.find_lt hu h1]; exact h3
    · refine ⟨v, ⟨b, vl, vr, e, hc.left, hc.right, fun _ => rfl, fun h => ?_, fun h => ?_⟩, ?_⟩
      · rw [h1, It.lt_irrefl] at h; cases h
      · rw [h1, It.lt_irrefl] at h; cases h
      · show FindP N w (It.find (l.list ++ y :: r.list) k) v
        rw [Tn.find_eq hu h1.symm]
        exact .inr ⟨b, h, y, vl, vr, _, rfl, e, hN, hc, hi⟩
    · obtain ⟨q, h2, h3⟩ := path_of k hr u2
      refine ⟨q, ⟨b, vl, vr, e, hc.left, hc.right, fun e => absurd e (It.lt_ne h1), fun h => ?_, fun _ => h2⟩, ?_⟩
      · rw [It.lt_asymm h1] at h; cases h
      · show FindP N w (It.find (l.list ++ y :: r.list) k) q
        rw [Tn.find_gt hu h1]; exact h3

set_option maxRecDepth 100000 in
set_option maxHeartbeats 1000000 in
theorem find_at {N : Nat → Prop} (v : Option Addr) (t : Tn.T) (s : ByteArray) (w : World) (h : Lies N w v t) (q : Option Addr) (hP : Path w (kb s) q v t) :
    Calls Try.prog 32 #[.pointer v, .string s] w fun e w' => e = .returned (.pointer q) ∧ w' = w := by
  have HP : Hid (Path w (kb s) q v t) := hP
  clear hP
  go_enter Try.func32, Try.ntmps32
  go_wp2_with fail
  go_loopw [0] (fun i wr => ∃ (v' : Option Addr) (t' : Tn.T), i = .pointer v' ∧ Lies N w v' t' ∧ Hid (Path w (kb s) q v' t') ∧ wr = w) (fun i wr => hAt wr i)
  case atStart => exact ⟨v, t, rfl, h, HP, rfl⟩
  case round =>
    obtain ⟨v', t', rfl, hL, HP', hwr⟩ := hrel
    subst hwr
    have hme := hL.hAt
    cases t' with
    | e =>
      obtain rfl : v' = none := hL
      obtain rfl : q = none := HP'.out
      go_wp2
      go_ret
      exact ⟨rfl, rfl⟩
    | n l y r =>
      obtain ⟨b, hy, vl, vr, rfl, hb, hc, hi, hl, hr⟩ := hL
      obtain ⟨⟨a0, _⟩, a8, a9, _⟩ := hc
      obtain ⟨b', vl', vr', e1, e2, e3, P1, P2, P3⟩ := HP'.out
      obtain rfl : b = b' := by simpa using e1
      obtain rfl : vl = vl' := by rw [a8] at e2; simpa using e2
      obtain rfl : vr = vr' := by rw [a9] at e3; simpa using e3
      have q1 : Op.bytesLess s.toList hy.key.toList = Na.lt (kb s) y.1 := by rw [less_kb, hi.item.key]
      have q3 : (hy.key.toList == s.toList) = decide (y.1 = kb s) := str_eq _ (by rw [decide_eq_true_eq, hi.item.key])
      have m1 : l.hgt < Tn.T.hgt (.n l y r) := by simp only [Tn.T.hgt]; omega
      have m2 : r.hgt < Tn.T.hgt (.n l y r) := by simp only [Tn.T.hgt]; omega
      have h1 := hl.hAt
      have h2 := hr.hAt
      clear e1 e2 e3
      rcases It.lt_total (kb s) y.1 with hlt | hk | hgt
      · rw [hlt] at q1
        rw [decide_eq_false (fun e => It.lt_ne hlt e.symm)] at q3
        have HM : Hid (hAt wr (.pointer vl) < hAt wr (.pointer (some ⟨b, 0, none⟩))) := (by rw [h1, hme]; exact m1 : hAt wr (.pointer vl) < hAt wr (.pointer (some ⟨b, 0, none⟩)))
        have HQ : Hid (Path wr (kb s) q vl l) := P2 hlt
        clear hi hme m1 m2 h1 h2 hlt P1 P2 P3 HP' HP
        go_wp2
        go_roundw
        case rel => exact ⟨vl, l, rfl, hl, HQ, by first | rfl | trivial⟩
        case measure => exact HM.out
      · rw [decide_eq_true hk.symm] at q3
        obtain rfl : q = some ⟨b, 0, none⟩ := P1 hk.symm
        clear q1 hk hi P1 P2 P3 HP' HP
        go_wp2
        go_ret
        exact ⟨rfl, rfl⟩
      · rw [It.lt_asymm hgt] at q1
        rw [decide_eq_false (It.lt_ne hgt)] at q3
        have HM : Hid (hAt wr (.pointer vr) < hAt wr (.pointer (some ⟨b, 0, none⟩))) := (by rw [h2, hme]; exact m2 : hAt wr (.pointer vr) < hAt wr (.pointer (some ⟨b, 0, none⟩)))
        have HQ : Hid (Path wr (kb s) q vr r) := P3 hgt
        clear hi hme m1 m2 h1 h2 hgt P1 P2 P3 HP' HP
        go_wp2
        go_roundw
        case rel => exact ⟨vr, r, rfl, hr, HQ, by first | rfl | trivial⟩
        case measure => exact HM.out
theorem find_no {N : Nat → Prop} (v : Option Addr) (t : Tn.T) (s : ByteArray) (w : World) (h : Lies N w v t) (hu : It.Up t.list) (hO : It.find t.list (kb s) = none) :
    Calls Try.prog 32 #[.pointer v, .string s] w fun e w' => e = .returned (.pointer none) ∧ w' = w := by
  obtain ⟨q, h1, h2⟩ := path_of (kb s) h hu
  rcases h2 with h2 | ⟨b, h, x, vl, vr, z, h2, _⟩
  · have := h2.2
    subst this
    exact find_at v t s w h none h1
  · rw [hO] at h2; cases h2
theorem find_yes {N : Nat → Prop} (v : Option Addr) (t : Tn.T) (s : ByteArray) (w : World) (h : Lies N w v t) (hu : It.Up t.list) {x : It.I} (hO : It.find t.list (kb s) = some x) :
    ∃ (b : Nat) (h : IH) (vl vr : Option Addr) (z : Nat), N b ∧ NCells w b h vl vr z ∧ ItIn N w h x ∧ Calls Try.prog 32 #[.pointer v, .string s] w fun e w' => e = .returned (.pointer (some ⟨b, 0, none⟩)) ∧ w' = w := by
  obtain ⟨q, h1, h2⟩ := path_of (kb s) h hu
  rcases h2 with h2 | ⟨b, g, y, vl, vr, z, h2, h3, h4, h5, h6⟩
  · rw [hO] at h2; cases h2.1
  · rw [hO] at h2
    obtain rfl : x = y := by simpa using h2
    subst h3
    exact ⟨b, g, vl, vr, z, h4, h5, h6, find_at v t s w h _ h1⟩

set_option maxRecDepth 100000 in
set_option maxHeartbeats 400000 in
/-- what an item weighs -/
theorem weigh_any (h : IH) (x : It.I) (w : World) (hx : IsItem w h x) (h1 : x.1.length ≤ 100000) (h2 : x.2.2.2.1.length ≤ 100000) :
    Calls Try.prog 38 #[iv h] w fun e w' => e = .returned (.int .i64 (Tn.wt x : Nat)) ∧ Below w.heap.size w w' := by
  have hb0 : Below w.heap.size w (w.alloc (.cells #[.string h.key, .bool h.dead, .bool h.far, .slice h.a h.n h.c, .int .i64 h.p.1, .int .i64 h.p.2.1, .int .i64 h.p.2.2.1, .int .u32 (h.p.2.2.2 : Nat)] 40)) := below_alloc w _
  have e1 : h.key.size = x.1.length := by rw [← hx.key, kb_len]
  have e2 : h.n = x.2.2.2.1.length := hx.row.1.symm
  have hw : (Tn.wt x : Int) = (h.key.size : Int) + 16 + (h.n : Int) := by unfold Tn.wt; omega
  rw [hw]
  clear hx hw
  obtain ⟨key, dead, far, qa, qn, qc, ⟨p1, p2, p3, p4⟩⟩ := h
  simp only at e1 e2 hb0 ⊢
  have i1 : IntKind.i64.wrap ((key.size : Int) + 16) = (key.size : Int) + 16 := by rw [IntKind.wrap_i64]; omega
  have i2 : IntKind.i64.wrap ((key.size : Int) + 16 + (qn : Int)) = (key.size : Int) + 16 + (qn : Int) := by rw [IntKind.wrap_i64]; omega
  clear e1 e2
  go_enter Try.func38, Try.ntmps38
  go_wp2
  go_ret
  exact ⟨rfl, hb0⟩

set_option maxRecDepth 100000 in
set_option maxHeartbeats 400000 in
theorem bclone_any (a : Option Addr) (n c : Nat) (bs : List Nat) (w : World) (hr : Row .u8 w a n bs) (hn : a = none → n = 0 ∧ c = 0) (hsm : n ≤ 1000000) :
    Calls Try.prog 43 #[.slice a n c] w fun e w' => ∃ a' c', e = .returned (.slice a' n c') ∧ w'.ownsRow w.heap.size 5 1 (.slice a' n c') n (kcells .u8 bs) ∧ Below w.heap.size w w' := by
  cases a with
  | none =>
    obtain ⟨rfl, rfl⟩ := hn rfl
    obtain rfl : bs = [] := List.length_eq_zero_iff.mp hr.1
    go_enter Try.func43, Try.ntmps43
    go_wp2_with fail
    rw [Lib.run_eql_slice_nil _ 33 5 none 0 0 0 0 Try.underlying33]
    go_wp2
    go_ret
    exact ⟨none, 0, rfl, ⟨rfl, .inl ⟨rfl, rfl⟩⟩, Below.refl _ _⟩
  | some p =>
    have hb0 : Below w.heap.size w (w.alloc (.cells #[] 5)) := below_alloc w _
    have ho := made_at w 5 w.heap.size rfl (Nat.le_refl _)
    go_enter Try.func43, Try.ntmps43
    go_wp2_with fail
    rw [Lib.run_eql_slice_nil _ 33 5 (some p) n c 0 0 Try.underlying33]
    go_wp2_with (at_builtin; go_must (refine append_u8 (w0 := w) rfl (.tmp 5) (.tmp 6) rfl _ 0 [] rfl ho (some p) n c bs rfl (hr.below hb0 (Nat.le_refl _)) hn (by omega) hb0 (by simp) ?_; intro a' c' w1 hown1 hbel1 hB1; rw [Nat.zero_add, List.nil_append] at hown1))
    go_ret
    exact ⟨a', c', by simp, hown1, hbel1⟩

theorem owns_same {w w' : World} {B e size n : Nat} {v : Value} {xs : List Value} (h : w.ownsRow B e size v n xs) (hk : ∀ k, B ≤ k → k < w.heap.size → w'.heap[k]? = w.heap[k]?) : w'.ownsRow B e size v n xs := by
  refine ⟨h.1, ?_⟩
  rcases h.2 with hn | ⟨g, cap, cur, rfl, hg, hgg, rest⟩
  · exact .inl hn
  · exact .inr ⟨g, cap, cur, rfl, hg, by rw [hk g hg (Array.getElem?_eq_some_iff.1 hgg).1]; exact hgg, rest⟩
theorem owns_base {w : World} {B B' e size n : Nat} {v : Value} {xs : List Value} (h : w.ownsRow B e size v n xs) (hB : B' ≤ B) : w.ownsRow B' e size v n xs := by
  refine ⟨h.1, ?_⟩
  rcases h.2 with hn | ⟨g, cap, cur, rfl, hg, rest⟩
  · exact .inl hn
  · exact .inr ⟨g, cap, cur, rfl, Nat.le_trans hB hg, rest⟩
/-- eight cells are written -/
def set8 (w : World) (b : Nat) (h : IH) : World := (((((((w.setCell ⟨b, 0, none⟩ (.string h.key)).setCell ⟨b, 1, none⟩ (.bool h.dead)).setCell ⟨b, 2, none⟩ (.bool h.far)).setCell ⟨b, 3, none⟩ (.slice h.a h.n h.c)).setCell ⟨b, 4, none⟩ (.int .i64 h.p.1)).setCell ⟨b, 5, none⟩ (.int .i64 h.p.2.1)).setCell ⟨b, 6, none⟩ (.int .i64 h.p.2.2.1)).setCell ⟨b, 7, none⟩ (.int .u32 (h.p.2.2.2 : Nat))
theorem set8_other (w : World) (b : Nat) (h : IH) (k : Nat) (hk : k ≠ b) : (set8 w b h).heap[k]? = w.heap[k]? := by
  unfold set8
  rw [Below.heap_setCell _ _ _ k hk, Below.heap_setCell _ _ _ k hk, Below.heap_setCell _ _ _ k hk, Below.heap_setCell _ _ _ k hk, Below.heap_setCell _ _ _ k hk, Below.heap_setCell _ _ _ k hk, Below.heap_setCell _ _ _ k hk, Below.heap_setCell _ _ _ k hk]
theorem set8_below {w0 w : World} {B : Nat} (hb : Below B w0 w) (b : Nat) (h : IH) (hB : B ≤ b) : Below B w0 (set8 w b h) :=
  (((((((hb.setCell hB _).setCell hB _).setCell hB _).setCell hB _).setCell hB _).setCell hB _).setCell hB _).setCell hB _
/-- eight cells as they lie, to be written -/
structure Eight (w : World) (b : Nat) (c0 c1 c2 c3 c4 c5 c6 c7 : Value) : Prop where
  k0 : w.cell? ⟨b, 0, none⟩ = some c0
  k1 : w.cell? ⟨b, 1, none⟩ = some c1
  k2 : w.cell? ⟨b, 2, none⟩ = some c2
  k3 : w.cell? ⟨b, 3, none⟩ = some c3
  k4 : w.cell? ⟨b, 4, none⟩ = some c4
  k5 : w.cell? ⟨b, 5, none⟩ = some c5
  k6 : w.cell? ⟨b, 6, none⟩ = some c6
  k7 : w.cell? ⟨b, 7, none⟩ = some c7
  fz : ∀ i, w.frozen? ⟨b, i, none⟩ = false
theorem eight_of {w : World} {b : Nat} {c0 c1 c2 c3 c4 c5 c6 c7 : Value} {e : TypeId} (h : w.heap[b]? = some (.cells #[c0, c1, c2, c3, c4, c5, c6, c7] e (0, 0))) : Eight w b c0 c1 c2 c3 c4 c5 c6 c7 :=
  ⟨(Go.Joins.cell_of_block h _).trans rfl, (Go.Joins.cell_of_block h _).trans rfl, (Go.Joins.cell_of_block h _).trans rfl, (Go.Joins.cell_of_block h _).trans rfl, (Go.Joins.cell_of_block h _).trans rfl, (Go.Joins.cell_of_block h _).trans rfl, (Go.Joins.cell_of_block h _).trans rfl, (Go.Joins.cell_of_block h _).trans rfl, fun i => Go.Joins.unfrozen_of_block h i⟩

set_option maxRecDepth 100000 in
set_option maxHeartbeats 1000000 in
/-- an item whose bytes are nobody else's -/
theorem copied_any (h : IH) (x : It.I) (w : World) (hx : IsItem w h x) (h2 : x.2.2.2.1.length ≤ 100000) :
    Calls Try.prog 33 #[iv h] w fun e w' => ∃ h', e = .returned (iv h') ∧ OwnIt w' w.heap.size h' x ∧ h'.key = h.key ∧ Below w.heap.size w w' := by
  have hb0 : Below w.heap.size w ((w.alloc (.cells #[.string h.key, .bool h.dead, .bool h.far, .slice h.a h.n h.c, .int .i64 h.p.1, .int .i64 h.p.2.1, .int .i64 h.p.2.2.1, .int .u32 (h.p.2.2.2 : Nat)] 40)).alloc (.cells #[.string ⟨#[]⟩, .bool false, .bool false, .slice none 0 0, .int .i64 0, .int .i64 0, .int .i64 0, .int .u32 0] 40)) := (below_alloc _ _).alloc (by simp) _
  have hcl := bclone_any h.a h.n h.c _ _ (hx.row.below hb0 (Nat.le_refl _)) hx.nil (by rw [← hx.row.1]; omega)
  have Hx : Hid (IsItem w h x) := hx
  clear hx
  obtain ⟨key, dead, far, qa, qn, qc, ⟨p1, p2, p3, p4⟩⟩ := h
  simp only at hcl hb0
  have HB : Hid (∀ W, Below ((w.alloc (.cells #[.string key, .bool dead, .bool far, .slice qa qn qc, .int .i64 p1, .int .i64 p2, .int .i64 p3, .int .u32 (p4 : Nat)] 40)).alloc (.cells #[.string ⟨#[]⟩, .bool false, .bool false, .slice none 0 0, .int .i64 0, .int .i64 0, .int .i64 0, .int .u32 0] 40)).heap.size ((w.alloc (.cells #[.string key, .bool dead, .bool far, .slice qa qn qc, .int .i64 p1, .int .i64 p2, .int .i64 p3, .int .u32 (p4 : Nat)] 40)).alloc (.cells #[.string ⟨#[]⟩, .bool false, .bool false, .slice none 0 0, .int .i64 0, .int .i64 0, .int .i64 0, .int .u32 0] 40)) W → Eight W w.heap.size (.string key) (.bool dead) (.bool far) (.slice qa qn qc) (.int .i64 p1) (.int .i64 p2) (.int .i64 p3) (.int .u32 (p4 : Nat)) ∧ Eight W (w.heap.size + 1) (.string ⟨#[]⟩) (.bool false) (.bool false) (.slice none 0 0) (.int .i64 0) (.int .i64 0) (.int .i64 0) (.int .u32 0)) := (fun W hW => ⟨eight_of ((hW.block _ (by simp; omega)).trans ((heap_alloc_old _ _ (by simp)).trans (heap_alloc_new w _))), eight_of ((hW.block _ (by simp)).trans (by rw [show w.heap.size + 1 = (w.alloc (.cells #[.string key, .bool dead, .bool far, .slice qa qn qc, .int .i64 p1, .int .i64 p2, .int .i64 p3, .int .u32 (p4 : Nat)] 40)).heap.size by simp]; exact heap_alloc_new _ _))⟩ : _)
  go_enter Try.func33, Try.ntmps33
  go_wp2_with (go_at_call 43; go_must (refine hcl.mono ?_; rintro e w1 ⟨a1, c1, rfl, ho1, hb1⟩; obtain ⟨⟨x0, x1, x2, x3, x4, x5, x6, x7, xf⟩, ⟨z0, z1, z2, z3, z4, z5, z6, z7, zf⟩⟩ := HB.out w1 hb1; have xf3 := xf 3; have zf0 := zf 0; have zf1 := zf 1; have zf2 := zf 2; have zf3 := zf 3; have zf4 := zf 4; have zf5 := zf 5; have zf6 := zf 6; have zf7 := zf 7; clear xf zf))
  have hx := Hx.out
  have hqn : qn ≤ 100000 := by have h := hx.row.1; simp only at h; omega
  have hsz : ((w.alloc (.cells #[.string key, .bool dead, .bool far, .slice qa qn qc, .int .i64 p1, .int .i64 p2, .int .i64 p3, .int .u32 (p4 : Nat)] 40)).alloc (.cells #[.string ⟨#[]⟩, .bool false, .bool false, .slice none 0 0, .int .i64 0, .int .i64 0, .int .i64 0, .int .u32 0] 40)).heap.size = w.heap.size + 2 := by simp
  have ho2 := owns_same (w' := set8 (w1.setCell ⟨w.heap.size, 3, none⟩ (.slice a1 qn c1)) (w.heap.size + 1) ⟨key, dead, far, a1, qn, c1, (p1, p2, p3, p4)⟩) ho1 (fun k hk _ => by rw [hsz] at hk; rw [set8_other _ _ _ k (by omega), Below.heap_setCell _ _ _ k (by show k ≠ w.heap.size; omega)])
  have ho3 := owns_base ho2 (show w.heap.size ≤ _ by rw [hsz]; omega)
  obtain ⟨r1, r2, r3⟩ := row_of_owns ho3 hx.row.2.2.1 (by omega)
  have hb2 : Below w.heap.size w w1 := hb0.trans (hb1.mono hb0.size)
  have hP : OwnIt (set8 (w1.setCell ⟨w.heap.size, 3, none⟩ (.slice a1 qn c1)) (w.heap.size + 1) ⟨key, dead, far, a1, qn, c1, (p1, p2, p3, p4)⟩) w.heap.size ⟨key, dead, far, a1, qn, c1, (p1, p2, p3, p4)⟩ x := ⟨⟨hx.key, hx.dead, hx.far, hx.pt, r1, r2, r3, hx.fits, hx.ksz⟩, ho3⟩
  have hQ : Below w.heap.size w (set8 (w1.setCell ⟨w.heap.size, 3, none⟩ (.slice a1 qn c1)) (w.heap.size + 1) ⟨key, dead, far, a1, qn, c1, (p1, p2, p3, p4)⟩) := set8_below (hb2.setCell (Nat.le_refl _) _) _ _ (by omega)
  unfold set8 at hP hQ
  simp only at hP hQ
  clear ho1 ho2 ho3 r1 r2 r3 hb0 hb1 hb2 hcl HB hsz hx
  refine bodyPost_ret (v := iv ⟨key, dead, far, a1, qn, c1, (p1, p2, p3, p4)⟩) ?_ rfl ?_
  · simp [results, Try.results33, go_sem, z0, z1, z2, z3, z4, z5, z6, z7]
  · exact ⟨_, rfl, hP, rfl, hQ⟩
end Go.Proofs.Ytpoocjffkhjeaaa
