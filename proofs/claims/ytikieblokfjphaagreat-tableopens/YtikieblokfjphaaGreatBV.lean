/- What the reference's Put of a cell does. -/
import Derived.Test.YtikieblokfjphaaGreatV1
import Derived.Laws.OwnMore
namespace Go.Proofs.YtikieblokfjphaaGreat
open Go.RowKit

/-- append at a step of a region that draws: any row of bytes, nil too, behind an own one -/
theorem step_u8a {w0 w : World} {B : Nat} {ops : Array Oper} {o : Oper} {a : Act} {K : Act → World → Prop} {Q : Exit → Act → World → Prop} {E : Prop} (hgd : o.guard = none) (s x : Operand)
    (ho : o.op = .call { callee := .builtin .append, args := #[s, x], argTypes := #[22, 22] })
    (v : Value) (n : Nat) (xs : List Nat) (hs : a.eval s = v) (hown : w.ownsRow B 5 1 v n (kcells .u8 xs))
    (ad : Option Addr) (m c : Nat) (bs : List Nat) (hx : a.eval x = .slice ad m c) (hrow : Row .u8 w ad m bs) (hnil : ad = none → m = 0 ∧ c = 0)
    (hnm : n + m ≤ 1000000000000) (hbel : Below B w0 w) (hB : B ≤ w.heap.size)
    (h : ∀ a' c' w', w'.ownsRow B 5 1 (.slice a' (n + m) c') (n + m) (kcells .u8 (xs ++ bs)) → Below B w0 w' → B ≤ w'.heap.size → K (a.put o.dst (.slice a' (n + m) c')) w') :
    if Region.wanted o (yielded ops a.tmps) = true then Oper.wp Tryz.prog o a w K Q else E := by
  have hw : Region.wanted o (yielded ops a.tmps) = true := by simp [Region.wanted, hgd]
  rw [if_pos hw]
  obtain ⟨i0, hi, hz0, hz1, hz2⟩ := info_parts Tryz.info5
  obtain ⟨h1, h2, h3, h4⟩ := hrow
  cases ad with
  | none =>
    obtain ⟨rfl, rfl⟩ := hnil rfl
    obtain rfl : bs = [] := List.length_eq_zero_iff.mp h1
    have hrun := run_append_owned_none (P := Tryz.prog) (w := w) B 22 o.type 5 i0 1 Tryz.underlying22 hi v n (kcells .u8 xs) hown
    obtain ⟨a', c', rfl⟩ := slice_of_owns hown
    unfold Oper.wp
    simp [execOp, ho, resolve, invoke, builtin, hs, hx, hrun, Result.andThen]
    exact h a' c' w (by simpa using hown) hbel hB
  | some ad =>
    refine wp_append_own w s x 22 ho B 5 i0 (.int .u8 0) 1 1 Tryz.underlying22 hi hz0 hz1 hz2 rfl (by decide) v n (kcells .u8 xs) hs hown ad m c (kcells .u8 bs) hx (by rw [kcells_length]; omega) ?_ ?_ (by unfold maxLen; omega) (by omega) hB ?_
    · intro j u hj
      obtain ⟨hlt, rfl⟩ := kcells_get .u8 bs j u hj
      rcases h4 with h0 | ⟨b, off, e, hc⟩
      · omega
      · obtain rfl : ad = ⟨b, off, none⟩ := by simpa using e
        rw [add_at]; exact hc j (by omega)
    · intro u hu
      simp only [kcells, List.mem_map] at hu
      obtain ⟨n, _, rfl⟩ := hu
      rfl
    · intro v' w' hown' hg _
      obtain ⟨a', c', rfl⟩ := slice_of_owns hown'
      exact h a' c' w' (by rw [kcells_append]; exact hown') (hbel.grown hg hB (fun k hk => (hown.lt k hk).1)) (Nat.le_trans hB hg.size)

theorem owns_one (w : World) (x : Nat) {b : Nat} (hb : w.heap.size = b) {B : Nat} (hB : B ≤ b) : (w.alloc (.cells #[.int .u8 (x : Nat)] 5)).ownsRow B 5 1 (.slice (some ⟨b, 0, none⟩) 1 1) 1 (kcells .u8 [x]) := by
  subst hb
  exact owns_lit w B 5 [.int .u8 (x : Nat)] 1 rfl hB (by omega)

set_option maxRecDepth 100000 in
set_option maxHeartbeats 1000000 in
theorem ceput_far (a : Option Addr) (c : Nat) (p : Po.P) (w : World) (hp : Po.may p = true) (hf : Po.Fits p) :
    Calls Tryz.prog 74 #[cv true a 0 c p] w (Made .u8 5 w (1 :: Po.put p)) := by
  have hsm : ∀ u ∈ Po.put p, u < lim .u8 := Po.put_small
  have hql := Po.put_len hp
  have hb := (Po.may_iff _).mp hp
  have hm4 := hf.2.2.2
  have hrp : ∀ W, Calls Tryz.prog 92 #[pv p] W (Made .u8 5 W (Po.put p)) := fun W => by
    obtain ⟨s, y, l, m⟩ := p
    simp only at hb hm4
    obtain ⟨x, rfl⟩ : ∃ x : Nat, s = (x : Int) := ⟨s.toNat, by omega⟩
    obtain ⟨y', rfl⟩ : ∃ x : Nat, y = (x : Int) := ⟨y.toNat, by omega⟩
    obtain ⟨z, rfl⟩ : ∃ x : Nat, l = (x : Int) := ⟨l.toNat, by omega⟩
    exact porefput_any x y' z m W (by omega) (by omega) (by omega) hm4
  generalize Po.put p = q at *
  obtain ⟨s, y, l, m⟩ := p
  simp only [cv]
  simp only [pv] at hrp
  clear hb hm4 hf hp
  have hb0 := below_alloc w (.cells #[.bool true, .slice a 0 c, .int .i64 s, .int .i64 y, .int .i64 l, .int .u32 (m : Nat)] 38)
  have hb1 := hb0.alloc hb0.size (.cells #[.int .u8 1] 5)
  have hone := owns_one (w.alloc (.cells #[.bool true, .slice a 0 c, .int .i64 s, .int .i64 y, .int .i64 l, .int .u32 (m : Nat)] 38)) 1 (b := w.heap.size + 1) (by simp) (B := w.heap.size) (by omega)
  go_enter Tryz.func74, Tryz.ntmps74
  go_wp2_with (first
    | (at_builtin; have := hown2; go_must (refine append_u8 (w0 := w) (B := w.heap.size) rfl (.tmp 5) (.tmp 8) rfl _ 1 [1] rfl (owns_below hone hbel2) a2 q.length c2 q rfl ((row_of_owns hown2 hsm (by omega)).1) ((row_of_owns hown2 hsm (by omega)).2.1) (by omega) (hb1.trans (hbel2.mono hb1.size)) (Nat.le_trans hb1.size hbel2.size) ?_; intro a3 c3 w3 hown3 hbel3 hsz3))
    | (go_at_call 92; go_must (refine (hrp _).mono ?_; rintro e w2 ⟨a2, c2, rfl, hown2, hbel2⟩)))
  go_ret
  exact ⟨a3, c3, by rw [List.length_cons, Nat.add_comm]; rfl, by rw [List.length_cons, Nat.add_comm]; exact hown3, hbel3⟩

set_option maxRecDepth 100000 in
set_option maxHeartbeats 1000000 in
theorem ceput_near (a : Option Addr) (n c : Nat) (bs : List Nat) (p : Po.P) (w : World) (hn : n ≤ 32) (hr : Row .u8 w a n bs) (hnil : a = none → n = 0 ∧ c = 0) :
    Calls Tryz.prog 74 #[cv false a n c p] w (Made .u8 5 w (0 :: (Va.one n ++ bs))) := by
  have hone1 := fun W => one_any n n W (Nat.le_refl _) (by omega)
  have hbl : Hid (bs.length = n) := hr.1
  have hsm1 : ∀ u ∈ Va.one n, u < lim .u8 := Va.one_small n
  have hl1 := Va.one_len10 (u := n) (by omega)
  have hp1 := Va.one_pos n
  generalize Va.one n = o at *
  obtain ⟨s, y, l, m⟩ := p
  simp only [cv]
  have hb0 := below_alloc w (.cells #[.bool false, .slice a n c, .int .i64 s, .int .i64 y, .int .i64 l, .int .u32 (m : Nat)] 38)
  have hk : Hid (∀ W, Below (w.alloc (.cells #[.bool false, .slice a n c, .int .i64 s, .int .i64 y, .int .i64 l, .int .u32 (m : Nat)] 38)).heap.size (w.alloc (.cells #[.bool false, .slice a n c, .int .i64 s, .int .i64 y, .int .i64 l, .int .u32 (m : Nat)] 38)) W → W.cell? ⟨w.heap.size, 1, none⟩ = some (.slice a n c) ∧ Below w.heap.size w W) := (fun W h => ⟨(six_keep h).1.2.1, (six_keep h).2.2⟩ : ∀ W, Below (w.alloc (.cells #[.bool false, .slice a n c, .int .i64 s, .int .i64 y, .int .i64 l, .int .u32 (m : Nat)] 38)).heap.size (w.alloc (.cells #[.bool false, .slice a n c, .int .i64 s, .int .i64 y, .int .i64 l, .int .u32 (m : Nat)] 38)) W → W.cell? ⟨w.heap.size, 1, none⟩ = some (.slice a n c) ∧ Below w.heap.size w W)
  have i1 : IntKind.u64.wrap (n : Int) = n := by simp only [IntKind.wrap_u64]; omega
  go_enter Tryz.func74, Tryz.ntmps74
  go_wp2_with fail
  obtain ⟨k1, _⟩ := hk.out _ (Below.refl _ _)
  generalize w.alloc (.cells #[.bool false, .slice a n c, .int .i64 s, .int .i64 y, .int .i64 l, .int .u32 (m : Nat)] 38) = W0 at *
  have hne := World.new_ne W0 ⟨w.heap.size, 1, none⟩ k1
  have hz0 : (W0.alloc (.cells #[.int .u8 0] 5)).ownsRow W0.heap.size 5 1 (.slice (some ⟨W0.heap.size, 0, none⟩) 1 1) 1 (kcells .u8 [0]) := owns_one W0 0 rfl (Nat.le_refl _)
  have hba := below_alloc W0 (.cells #[.int .u8 0] 5)
  go_region_held3 (fun w' => w'.cell? ⟨w.heap.size, 1, none⟩ = some (.slice a n c)) (first | go_keep | assumption)
    (first
      | ((go_at_call 48; refine (hone1 _).mono ?_; rintro e w2 ⟨a2, c2, rfl, hown2, hbel2⟩; have hb2d := below_of_drew hbel2; have hB2 : Below W0.heap.size W0 w2 := hba.trans (hb2d.mono hba.size); obtain ⟨t1, hw2⟩ := hk.out w2 hB2; have hz2 := owns_below hz0 hb2d; obtain ⟨r2, n2, _⟩ := row_of_owns hown2 hsm1 (by omega)))
      | ((go_at_call 48; refine (hone1 _).mono ?_; rintro e w2 ⟨a2, c2, rfl, hown2, hbel2⟩; have hB2 : Below W0.heap.size W0 w2 := below_of_drew hbel2; obtain ⟨t1, hw2⟩ := hk.out w2 hB2; have hfirst := hB2.alloc hB2.size (.cells #[.int .u8 0] 5); have hne2 := World.new_ne w2 ⟨w.heap.size, 1, none⟩ t1; obtain ⟨r2, n2, _⟩ := row_of_owns hown2 hsm1 (by omega)))
      | ((have := hown3; refine step_u8a (w0 := W0) (B := W0.heap.size) (by rfl) _ _ (by rfl) _ (1 + o.length) ([0] ++ o) (by rfl) hown3 a n c bs (by rfl) (hr.below hw3 (Nat.le_refl _)) hnil (by omega) hB3 hB3.size ?_; intro a4 c4 w4 hown4 hB4 hsz4; obtain ⟨t3, hw4⟩ := hk.out w4 hB4))
      | ((have := hz2; refine step_u8a (w0 := W0) (B := W0.heap.size) (by rfl) _ _ (by rfl) _ 1 [0] (by rfl) hz2 a2 o.length c2 o (by rfl) r2 n2 (by omega) hB2 hB2.size ?_; intro a3 c3 w3 hown3 hB3 hsz3; obtain ⟨t2, hw3⟩ := hk.out w3 hB3))
      | ((have := hfirst; refine step_u8a (w0 := W0) (B := W0.heap.size) (by rfl) _ _ (by rfl) _ 1 [0] (by rfl) (owns_one w2 0 rfl hB2.size) a2 o.length c2 o (by rfl) (r2.below (below_alloc _ _) (Nat.le_refl _)) n2 (by omega) hfirst hfirst.size ?_; intro a3 c3 w3 hown3 hB3 hsz3; obtain ⟨t2, hw3⟩ := hk.out w3 hB3)))
  all_goals
    go_wp2
    go_ret
    refine ⟨a4, c4, ?_, ?_, hw4⟩
    · rw [List.length_cons, List.length_append, hbl.out, show o.length + n + 1 = 1 + o.length + n by omega]; rfl
    · rw [List.length_cons, List.length_append, hbl.out, show o.length + n + 1 = 1 + o.length + n by omega]
      exact hown4.mono hb0.size
end Go.Proofs.YtikieblokfjphaaGreat

/- What the reference's Get of a cell does. -/
namespace Go.Proofs.YtikieblokfjphaaGreat
open Go.RowKit

def RCGet (w : World) (R : Ce.C × Nat) (e : Ending) (w' : World) : Prop :=
  ∃ a c, e = .returned (.tuple #[cv R.1.1 a R.1.2.1.length c R.1.2.2, .int .i64 (R.2 : Nat)]) ∧ Row .u8 w' a R.1.2.1.length R.1.2.1 ∧ ((a = none → R.1.2.1.length = 0 ∧ c = 0) ∧ w'.ownsRow w.heap.size 5 1 (.slice a R.1.2.1.length c) R.1.2.1.length (kcells .u8 R.1.2.1)) ∧ Below w.heap.size w w'
theorem rcget_zero {w W : World} {G : Ce.C × Nat} (hG : G = (Ce.zero, 0)) (hb : Below w.heap.size w W) : RCGet w G (.returned (.tuple #[cv false none 0 0 Po.zero, .int .i64 0])) W := by
  subst hG
  exact ⟨none, 0, rfl, ⟨rfl, by simp [Ce.zero], by simp [Ce.zero], .inl rfl⟩, ⟨fun _ => ⟨rfl, rfl⟩, ⟨rfl, .inl ⟨rfl, rfl⟩⟩⟩, hb⟩
theorem rcget_far {w W : World} {G : Ce.C × Nat} {p : Po.P} {n : Nat} (hG : G = ((true, [], p), n + 1)) (hb : Below w.heap.size w W) : RCGet w G (.returned (.tuple #[cv true none 0 0 p, .int .i64 ((n + 1 : Nat) : Int)])) W := by
  subst hG
  exact ⟨none, 0, rfl, ⟨rfl, by simp, by simp, .inl rfl⟩, ⟨fun _ => ⟨rfl, rfl⟩, ⟨rfl, .inl ⟨rfl, rfl⟩⟩⟩, hb⟩
theorem rcget_near {w W : World} {G : Ce.C × Nat} {v : List Nat} {k n c : Nat} {a : Option Addr} (hG : G = ((false, v, Po.zero), k)) (hn : v.length = n) (hr : Row .u8 W a n v) (hnil : a = none → n = 0 ∧ c = 0) (hnew : W.ownsRow w.heap.size 5 1 (.slice a n c) n (kcells .u8 v)) (hb : Below w.heap.size w W) : RCGet w G (.returned (.tuple #[cv false a n c Po.zero, .int .i64 (k : Nat)])) W := by
  subst hG; subst hn
  exact ⟨a, c, rfl, hr, ⟨hnil, hnew⟩, hb⟩
theorem below_six {w W : World} (h : Below w.heap.size w W) (v0 v1 v2 v3 v4 v5 : Value) : Below w.heap.size w ((((((W.setCell ⟨w.heap.size, 0, none⟩ v0).setCell ⟨w.heap.size, 1, none⟩ v1).setCell ⟨w.heap.size, 2, none⟩ v2).setCell ⟨w.heap.size, 3, none⟩ v3).setCell ⟨w.heap.size, 4, none⟩ v4).setCell ⟨w.heap.size, 5, none⟩ v5) :=
  (((((h.setCell (Nat.le_refl _) _).setCell (Nat.le_refl _) _).setCell (Nat.le_refl _) _).setCell (Nat.le_refl _) _).setCell (Nat.le_refl _) _).setCell (Nat.le_refl _) _
theorem below_six_alloc {w W : World} (h : Below w.heap.size w W) (v0 v1 v2 v3 v4 v5 : Value) (o : Obj) : Below w.heap.size w (((((((W.setCell ⟨w.heap.size, 0, none⟩ v0).setCell ⟨w.heap.size, 1, none⟩ v1).setCell ⟨w.heap.size, 2, none⟩ v2).setCell ⟨w.heap.size, 3, none⟩ v3).setCell ⟨w.heap.size, 4, none⟩ v4).setCell ⟨w.heap.size, 5, none⟩ v5).alloc o) :=
  (below_six h v0 v1 v2 v3 v4 v5).alloc (below_six h v0 v1 v2 v3 v4 v5).size o
theorem Row.set {k : IntKind} {W : World} {a : Option Addr} {n : Nat} {bs : List Nat} (h : Row k W a n bs) (B : Nat) (hne : ∀ b off, a = some ⟨b, off, none⟩ → B < b) (i : Nat) (v : Value) : Row k (W.setCell ⟨B, i, none⟩ v) a n bs := by
  obtain ⟨h1, h2, h3, h4⟩ := h
  refine ⟨h1, h2, h3, ?_⟩
  rcases h4 with h0 | ⟨b, off, e, hc⟩
  · exact .inl h0
  · refine .inr ⟨b, off, e, fun j hj => ?_⟩
    have := hne b off e
    rw [World.cell?_setCell_other W ⟨B, i, none⟩ ⟨b, off + j, none⟩ v (by intro e; simp only [Addr.mk.injEq] at e; omega)]
    exact hc j hj
theorem row_six {k : IntKind} {w W : World} {a : Option Addr} {n : Nat} {bs : List Nat} (h : Row k W a n bs) (hne : ∀ b off, a = some ⟨b, off, none⟩ → w.heap.size < b) (v0 v1 v2 v3 v4 v5 : Value) : Row k ((((((W.setCell ⟨w.heap.size, 0, none⟩ v0).setCell ⟨w.heap.size, 1, none⟩ v1).setCell ⟨w.heap.size, 2, none⟩ v2).setCell ⟨w.heap.size, 3, none⟩ v3).setCell ⟨w.heap.size, 4, none⟩ v4).setCell ⟨w.heap.size, 5, none⟩ v5) a n bs :=
  (((((h.set _ hne _ _).set _ hne _ _).set _ hne _ _).set _ hne _ _).set _ hne _ _).set _ hne _ _
theorem own_above {W : World} {B n c : Nat} {a : Option Addr} {xs : List Value} {e : TypeId} (h : W.ownsRow B e 1 (.slice a n c) n xs) : ∀ b off, a = some ⟨b, off, none⟩ → B ≤ b := by
  intro b off e
  subst e
  exact (h.lt b rfl).1
theorem own_set {W : World} {B n c s : Nat} {a : Option Addr} {xs : List Value} {e : TypeId} (h : W.ownsRow B e s (.slice a n c) n xs) (g : Nat) (hne : ∀ b off, a = some ⟨b, off, none⟩ → g < b) (i : Nat) (v : Value) : (W.setCell ⟨g, i, none⟩ v).ownsRow B e s (.slice a n c) n xs := by
  refine ⟨h.1, ?_⟩
  rcases h.2 with h0 | ⟨k, cap, cur, e1, h1, h2, h3⟩
  · exact .inl h0
  · refine .inr ⟨k, cap, cur, e1, h1, ?_, h3⟩
    simp only [Value.slice.injEq] at e1
    have := hne k 0 e1.1
    rw [Below.heap_setCell _ _ _ _ (by show k ≠ g; omega)]
    exact h2
theorem own_six {w W : World} {B n c s : Nat} {a : Option Addr} {xs : List Value} {e : TypeId} (h : W.ownsRow B e s (.slice a n c) n xs) (hne : ∀ b off, a = some ⟨b, off, none⟩ → w.heap.size < b) (v0 v1 v2 v3 v4 v5 : Value) : ((((((W.setCell ⟨w.heap.size, 0, none⟩ v0).setCell ⟨w.heap.size, 1, none⟩ v1).setCell ⟨w.heap.size, 2, none⟩ v2).setCell ⟨w.heap.size, 3, none⟩ v3).setCell ⟨w.heap.size, 4, none⟩ v4).setCell ⟨w.heap.size, 5, none⟩ v5).ownsRow B e s (.slice a n c) n xs :=
  own_set (own_set (own_set (own_set (own_set (own_set h _ hne _ _) _ hne _ _) _ hne _ _) _ hne _ _) _ hne _ _) _ hne _ _
/-- a result's block: its cells, and that they may be written -/
theorem res_keep {w W : World} {c0 c1 c2 c3 c4 c5 : Value} {e : TypeId} (h : Below (w.alloc (.cells #[c0, c1, c2, c3, c4, c5] e)).heap.size (w.alloc (.cells #[c0, c1, c2, c3, c4, c5] e)) W) :
    (W.cell? ⟨w.heap.size, 0, none⟩ = some c0 ∧ W.cell? ⟨w.heap.size, 1, none⟩ = some c1 ∧ W.cell? ⟨w.heap.size, 2, none⟩ = some c2 ∧ W.cell? ⟨w.heap.size, 3, none⟩ = some c3 ∧ W.cell? ⟨w.heap.size, 4, none⟩ = some c4 ∧ W.cell? ⟨w.heap.size, 5, none⟩ = some c5) ∧
    (W.frozen? ⟨w.heap.size, 0, none⟩ = false ∧ W.frozen? ⟨w.heap.size, 1, none⟩ = false ∧ W.frozen? ⟨w.heap.size, 2, none⟩ = false ∧ W.frozen? ⟨w.heap.size, 3, none⟩ = false ∧ W.frozen? ⟨w.heap.size, 4, none⟩ = false ∧ W.frozen? ⟨w.heap.size, 5, none⟩ = false) ∧ Below w.heap.size w W ∧ w.heap.size < W.heap.size := by
  have hl : w.heap.size < (w.alloc (.cells #[c0, c1, c2, c3, c4, c5] e)).heap.size := by simp
  have k : ∀ i, W.frozen? ⟨w.heap.size, i, none⟩ = false := fun i => (h.frozen (p := ⟨w.heap.size, i, none⟩) hl).trans (frozen_new w _ e i)
  exact ⟨(six_keep h).1, ⟨k 0, k 1, k 2, k 3, k 4, k 5⟩, (six_keep h).2.2, (six_keep h).2.1⟩

set_option maxRecDepth 100000 in
set_option maxHeartbeats 2000000 in
theorem cerefget_any (a : Option Addr) (len cap : Nat) (bs : List Nat) (w : World) (hbig : len ≤ 100000) (hshape : Shape a len cap) (hr : Row .u8 w a len bs) :
    Calls Tryz.prog 42 #[.slice a len cap] w (RCGet w (Ce.get bs)) := by
  have hlen : Hid (bs.length = len) := hr.1
  have hb0 := below_alloc w (.cells #[.bool false, .slice none 0 0, .int .i64 0, .int .i64 0, .int .i64 0, .int .u32 0] 38)
  have hkeep : Hid (∀ W, Below (w.alloc (.cells #[.bool false, .slice none 0 0, .int .i64 0, .int .i64 0, .int .i64 0, .int .u32 0] 38)).heap.size (w.alloc (.cells #[.bool false, .slice none 0 0, .int .i64 0, .int .i64 0, .int .i64 0, .int .u32 0] 38)) W → _) := (fun W h => res_keep (w := w) (W := W) h)
  have hr0 := hr.below hb0 (Nat.le_refl _)
  obtain ⟨G, hG⟩ : ∃ G, G = Ce.get bs := ⟨_, rfl⟩
  rw [← hG]
  have HG : Hid (G = Ce.get bs) := hG
  clear hG
  rcases Nat.eq_zero_or_pos len with h0 | h0
  · subst h0
    have H : Hid (G = (Ce.zero, 0)) := (by rw [HG.out, Ce.get, if_pos (.inl hlen.out)] : G = (Ce.zero, 0))
    clear HG
    obtain ⟨⟨n0, n1, n2, n3, n4, n5⟩, ⟨f0, f1, f2, f3, f4, f5⟩, hb1, hs1⟩ := hkeep.out _ (Below.refl _ _)
    go_enter Tryz.func42, Tryz.ntmps42
    go_wp2
    exact bodyPost_ret (v := .tuple #[cv false none 0 0 Po.zero, .int .i64 0]) (by simp [cv, Po.zero, results, Tryz.results42, go_sem, n0, n1, n2, n3, n4, n5]) rfl (rcget_zero H.out hb0)
  · have hd0 : ((len : Int) == 0) = false := by simp; omega
    obtain ⟨b, off, rfl, _⟩ := hr.at h0
    have hcap : len ≤ cap := by
      rcases hshape with h | ⟨_, _, _, h⟩
      · omega
      · exact h
    have hx := hr0.cell 0 (by omega)
    rw [Nat.add_zero] at hx
    have hx8 := getD_lt8 hr.2.2.1 0
    have HG1 : Hid (G = if 1 < bs.getD 0 0 then (Ce.zero, 0) else if bs.getD 0 0 = 1 then (if (Po.get (bs.drop 1)).2 = 0 then (Ce.zero, 0) else ((true, [], (Po.get (bs.drop 1)).1), (Po.get (bs.drop 1)).2 + 1)) else if (Va.get (bs.drop 1)).2 = 0 ∨ 32 < (Va.get (bs.drop 1)).1 ∨ len < 1 + (Va.get (bs.drop 1)).2 + (Va.get (bs.drop 1)).1 then (Ce.zero, 0) else ((false, (bs.drop (1 + (Va.get (bs.drop 1)).2)).take (Va.get (bs.drop 1)).1, Po.zero), 1 + (Va.get (bs.drop 1)).2 + (Va.get (bs.drop 1)).1)) := by
      have : G = if 1 < bs.getD 0 0 then (Ce.zero, 0) else if bs.getD 0 0 = 1 then (if (Po.get (bs.drop 1)).2 = 0 then (Ce.zero, 0) else ((true, [], (Po.get (bs.drop 1)).1), (Po.get (bs.drop 1)).2 + 1)) else if (Va.get (bs.drop 1)).2 = 0 ∨ 32 < (Va.get (bs.drop 1)).1 ∨ len < 1 + (Va.get (bs.drop 1)).2 + (Va.get (bs.drop 1)).1 then (Ce.zero, 0) else ((false, (bs.drop (1 + (Va.get (bs.drop 1)).2)).take (Va.get (bs.drop 1)).1, Po.zero), 1 + (Va.get (bs.drop 1)).2 + (Va.get (bs.drop 1)).1) := by
        rw [HG.out]; unfold Ce.get; rw [hlen.out]
        have e : (len = 0 ∨ 1 < bs.getD 0 0) = (1 < bs.getD 0 0) := by simp; omega
        simp only [e]
      exact this
    clear HG
    generalize bs.getD 0 0 = x at *
    by_cases hx1 : 1 < x
    · have H : Hid (G = (Ce.zero, 0)) := (by rw [HG1.out, if_pos hx1] : G = (Ce.zero, 0))
      clear HG1
      obtain ⟨⟨n0, n1, n2, n3, n4, n5⟩, ⟨f0, f1, f2, f3, f4, f5⟩, hb1, hs1⟩ := hkeep.out _ (Below.refl _ _)
      go_enter Tryz.func42, Tryz.ntmps42
      go_wp2
      exact bodyPost_ret (v := .tuple #[cv false none 0 0 Po.zero, .int .i64 0]) (by simp [cv, Po.zero, results, Tryz.results42, go_sem, n0, n1, n2, n3, n4, n5]) rfl (rcget_zero H.out hb0)
    · have hrow1 : ∀ W a' l' c', Below w.heap.size w W → l' = len - 1 → ((l' = 0 ∧ c' = 0) ∨ (a' = some ⟨b, off + 1, none⟩ ∧ c' = cap - 1)) → Row .u8 W a' l' (bs.drop 1) ∧ Shape a' l' c' ∧ l' ≤ c' := fun W a' l' c' hW hl hc => by
        have h1 := (hr.below hW (Nat.le_refl _)).drop 1 (by omega)
        rcases hc with ⟨rfl, rfl⟩ | ⟨rfl, rfl⟩
        · exact ⟨⟨by rw [List.length_drop, hlen.out]; omega, by omega, h1.2.2.1, .inl rfl⟩, .inl ⟨rfl, rfl⟩, Nat.le_refl _⟩
        · subst hl
          exact ⟨h1, .inr ⟨b, off + 1, rfl, by omega⟩, by omega⟩
      by_cases hx2 : x = 1
      · subst hx2
        have hgp : ∀ W a' l' c', Below w.heap.size w W → l' = len - 1 → ((l' = 0 ∧ c' = 0) ∨ (a' = some ⟨b, off + 1, none⟩ ∧ c' = cap - 1)) → Calls Tryz.prog 72 #[.slice a' l' c'] W (RGetRes W (Po.get (bs.drop 1))) := fun W a' l' c' hW hl hc => by
          obtain ⟨h1, h2, h3⟩ := hrow1 W a' l' c' hW hl hc
          exact porefget_any a' l' c' _ W (by omega) h2 h1
        have HG2 : Hid (G = if (Po.get (bs.drop 1)).2 = 0 then (Ce.zero, 0) else ((true, [], (Po.get (bs.drop 1)).1), (Po.get (bs.drop 1)).2 + 1)) := (by rw [HG1.out, if_neg hx1, if_pos rfl] : G = if (Po.get (bs.drop 1)).2 = 0 then (Ce.zero, 0) else ((true, [], (Po.get (bs.drop 1)).1), (Po.get (bs.drop 1)).2 + 1))
        have hple := Po.get_le (bs.drop 1)
        rw [List.length_drop, hlen.out] at hple
        unfold RGetRes at hgp
        clear HG1 hrow1
        generalize Po.get (bs.drop 1) = R at *
        obtain ⟨⟨s, y, l, m⟩, n⟩ := R
        simp only [pv] at hgp hple
        have H0 : Hid (n = 0 → G = (Ce.zero, 0)) := (fun h => by rw [HG2.out, if_pos h] : n = 0 → G = (Ce.zero, 0))
        have H1 : Hid (n ≠ 0 → G = ((true, [], (s, y, l, m)), n + 1)) := (fun h => by rw [HG2.out, if_neg h] : n ≠ 0 → G = ((true, [], (s, y, l, m)), n + 1))
        clear HG2
        by_cases hc1 : cap = 1
        · subst hc1
          obtain rfl : len = 1 := by omega
          rcases Nat.eq_zero_or_pos n with hn | hn
          · subst hn
            have H : Hid (G = (Ce.zero, 0)) := H0.out rfl
            clear H0 H1
            go_enter Tryz.func42, Tryz.ntmps42
            go_wp2_with (go_at_call 72; go_must (refine (hgp _ _ 0 0 hb0 rfl (.inl ⟨rfl, rfl⟩)).mono ?_; rintro e w1 ⟨rfl, hbel1⟩; obtain ⟨⟨n0, n1, n2, n3, n4, n5⟩, ⟨f0, f1, f2, f3, f4, f5⟩, hb1, hs1⟩ := hkeep.out w1 hbel1))
            exact bodyPost_ret (v := .tuple #[cv false none 0 0 Po.zero, .int .i64 0]) (by simp [cv, Po.zero, results, Tryz.results42, go_sem, n0, n1, n2, n3, n4, n5, hs1]) rfl (rcget_zero H.out (below_six_alloc hb1 _ _ _ _ _ _ _))
          · omega
        · have hl1 : (1 : Int) ≤ (len : Int) := by omega
          have hl2 : (len : Int) ≤ (cap : Int) := by omega
          have hl3 : (1 : Int) ≤ (cap : Int) := by omega
          rcases Nat.eq_zero_or_pos n with hn | hn
          · subst hn
            have H : Hid (G = (Ce.zero, 0)) := H0.out rfl
            clear H0 H1
            go_enter Tryz.func42, Tryz.ntmps42
            go_wp2_with (go_at_call 72; go_must (refine (hgp _ _ _ _ hb0 (by omega) (.inr ⟨rfl, by omega⟩)).mono ?_; rintro e w1 ⟨rfl, hbel1⟩; obtain ⟨⟨n0, n1, n2, n3, n4, n5⟩, ⟨f0, f1, f2, f3, f4, f5⟩, hb1, hs1⟩ := hkeep.out w1 hbel1))
            exact bodyPost_ret (v := .tuple #[cv false none 0 0 Po.zero, .int .i64 0]) (by simp [cv, Po.zero, results, Tryz.results42, go_sem, n0, n1, n2, n3, n4, n5, hs1]) rfl (rcget_zero H.out (below_six_alloc hb1 _ _ _ _ _ _ _))
          · have H : Hid (G = ((true, [], (s, y, l, m)), n + 1)) := H1.out (by omega)
            have hdn : ((n : Int) == 0) = false := by simp; omega
            clear H0 H1
            go_enter Tryz.func42, Tryz.ntmps42
            go_wp2_with (go_at_call 72; go_must (refine (hgp _ _ _ _ hb0 (by omega) (.inr ⟨rfl, by omega⟩)).mono ?_; rintro e w1 ⟨rfl, hbel1⟩; obtain ⟨⟨n0, n1, n2, n3, n4, n5⟩, ⟨f0, f1, f2, f3, f4, f5⟩, hb1, hs1⟩ := hkeep.out w1 hbel1))
            exact bodyPost_ret (v := .tuple #[cv true none 0 0 (s, y, l, m), .int .i64 ((n + 1 : Nat) : Int)]) (by simp [cv, results, Tryz.results42, go_sem, n0, n1, n2, n3, n4, n5, hs1]) rfl (rcget_far H.out (below_six_alloc hb1 _ _ _ _ _ _ _))
      · obtain rfl : x = 0 := by omega
        have hgv : ∀ W a' l' c', Below w.heap.size w W → l' = len - 1 → ((l' = 0 ∧ c' = 0) ∨ (a' = some ⟨b, off + 1, none⟩ ∧ c' = cap - 1)) → Calls Tryz.prog 41 #[.slice a' l' c'] W fun e w' => e = .returned (.tuple #[.int .u64 ((Va.get (bs.drop 1)).1 : Nat), .int .i64 ((Va.get (bs.drop 1)).2 : Nat)]) ∧ Below W.heap.size W w' := fun W a' l' c' hW hl hc => by
          obtain ⟨h1, h2, h3⟩ := hrow1 W a' l' c' hW hl hc
          exact refget_any a' l' c' _ W h3 (by omega) h1
        have HG2 : Hid (G = if (Va.get (bs.drop 1)).2 = 0 ∨ 32 < (Va.get (bs.drop 1)).1 ∨ len < 1 + (Va.get (bs.drop 1)).2 + (Va.get (bs.drop 1)).1 then (Ce.zero, 0) else ((false, (bs.drop (1 + (Va.get (bs.drop 1)).2)).take (Va.get (bs.drop 1)).1, Po.zero), 1 + (Va.get (bs.drop 1)).2 + (Va.get (bs.drop 1)).1)) := (by rw [HG1.out, if_neg hx1, if_neg (by decide)] : G = if (Va.get (bs.drop 1)).2 = 0 ∨ 32 < (Va.get (bs.drop 1)).1 ∨ len < 1 + (Va.get (bs.drop 1)).2 + (Va.get (bs.drop 1)).1 then (Ce.zero, 0) else ((false, (bs.drop (1 + (Va.get (bs.drop 1)).2)).take (Va.get (bs.drop 1)).1, Po.zero), 1 + (Va.get (bs.drop 1)).2 + (Va.get (bs.drop 1)).1))
        have hvle := Va.get_le (bs := bs.drop 1)
        have hvlt := Va.get_lt (bs.drop 1)
        rw [List.length_drop, hlen.out] at hvle
        clear HG1 hrow1
        generalize Va.get (bs.drop 1) = R at *
        obtain ⟨u, n⟩ := R
        simp only at hgv hvle hvlt
        have H0 : Hid ((n = 0 ∨ 32 < u ∨ len < 1 + n + u) → G = (Ce.zero, 0)) := (fun h => by rw [HG2.out, if_pos h] : (n = 0 ∨ 32 < u ∨ len < 1 + n + u) → G = (Ce.zero, 0))
        have H1 : Hid (¬ (n = 0 ∨ 32 < u ∨ len < 1 + n + u) → G = ((false, (bs.drop (1 + n)).take u, Po.zero), 1 + n + u)) := (fun h => by rw [HG2.out, if_neg h] : ¬ (n = 0 ∨ 32 < u ∨ len < 1 + n + u) → G = ((false, (bs.drop (1 + n)).take u, Po.zero), 1 + n + u))
        clear HG2
        by_cases hc1 : cap = 1
        · subst hc1
          obtain rfl : len = 1 := by omega
          obtain rfl : n = 0 := by omega
          have H : Hid (G = (Ce.zero, 0)) := H0.out (.inl rfl)
          clear H0 H1
          go_enter Tryz.func42, Tryz.ntmps42
          go_wp2_with (go_at_call 41; go_must (refine (hgv _ _ 0 0 hb0 rfl (.inl ⟨rfl, rfl⟩)).mono ?_; rintro e w1 ⟨rfl, hbel1⟩; obtain ⟨⟨n0, n1, n2, n3, n4, n5⟩, ⟨f0, f1, f2, f3, f4, f5⟩, hb1, hs1⟩ := hkeep.out w1 hbel1))
          exact bodyPost_ret (v := .tuple #[cv false none 0 0 Po.zero, .int .i64 0]) (by simp [cv, Po.zero, results, Tryz.results42, go_sem, n0, n1, n2, n3, n4, n5]) rfl (rcget_zero H.out (below_six hb1 _ _ _ _ _ _))
        · have hl1 : (1 : Int) ≤ (len : Int) := by omega
          have hl2 : (len : Int) ≤ (cap : Int) := by omega
          have hl3 : (1 : Int) ≤ (cap : Int) := by omega
          by_cases hn : n = 0
          · subst hn
            have H : Hid (G = (Ce.zero, 0)) := H0.out (.inl rfl)
            clear H0 H1
            go_enter Tryz.func42, Tryz.ntmps42
            go_wp2_with (go_at_call 41; go_must (refine (hgv _ _ _ _ hb0 (by omega) (.inr ⟨rfl, by omega⟩)).mono ?_; rintro e w1 ⟨rfl, hbel1⟩; obtain ⟨⟨n0, n1, n2, n3, n4, n5⟩, ⟨f0, f1, f2, f3, f4, f5⟩, hb1, hs1⟩ := hkeep.out w1 hbel1))
            exact bodyPost_ret (v := .tuple #[cv false none 0 0 Po.zero, .int .i64 0]) (by simp [cv, Po.zero, results, Tryz.results42, go_sem, n0, n1, n2, n3, n4, n5]) rfl (rcget_zero H.out (below_six hb1 _ _ _ _ _ _))
          · have hdn : ((n : Int) == 0) = false := by simp; omega
            by_cases hu : 32 < u
            · have hdu : decide (32 < (u : Int)) = true := by simp; omega
              have H : Hid (G = (Ce.zero, 0)) := H0.out (.inr (.inl hu))
              clear H0 H1
              go_enter Tryz.func42, Tryz.ntmps42
              go_wp2_with (go_at_call 41; go_must (refine (hgv _ _ _ _ hb0 (by omega) (.inr ⟨rfl, by omega⟩)).mono ?_; rintro e w1 ⟨rfl, hbel1⟩; obtain ⟨⟨n0, n1, n2, n3, n4, n5⟩, ⟨f0, f1, f2, f3, f4, f5⟩, hb1, hs1⟩ := hkeep.out w1 hbel1))
              exact bodyPost_ret (v := .tuple #[cv false none 0 0 Po.zero, .int .i64 0]) (by simp [cv, Po.zero, results, Tryz.results42, go_sem, n0, n1, n2, n3, n4, n5]) rfl (rcget_zero H.out (below_six hb1 _ _ _ _ _ _))
            · have hdu : decide (32 < (u : Int)) = false := by simp; omega
              have j1 : IntKind.i64.wrap (u : Int) = (u : Int) := by rw [IntKind.wrap_i64]; omega
              have j2 : IntKind.i64.wrap (1 + (n : Int)) = 1 + (n : Int) := by rw [IntKind.wrap_i64]; omega
              have j3 : IntKind.i64.wrap (1 + (n : Int) + (u : Int)) = 1 + (n : Int) + (u : Int) := by rw [IntKind.wrap_i64]; omega
              by_cases hs : len < 1 + n + u
              · have hds : decide ((len : Int) < 1 + (n : Int) + (u : Int)) = true := by simp; omega
                have H : Hid (G = (Ce.zero, 0)) := H0.out (.inr (.inr hs))
                clear H0 H1
                go_enter Tryz.func42, Tryz.ntmps42
                go_wp2_with (go_at_call 41; go_must (refine (hgv _ _ _ _ hb0 (by omega) (.inr ⟨rfl, by omega⟩)).mono ?_; rintro e w1 ⟨rfl, hbel1⟩; obtain ⟨⟨n0, n1, n2, n3, n4, n5⟩, ⟨f0, f1, f2, f3, f4, f5⟩, hb1, hs1⟩ := hkeep.out w1 hbel1))
                exact bodyPost_ret (v := .tuple #[cv false none 0 0 Po.zero, .int .i64 0]) (by simp [cv, Po.zero, results, Tryz.results42, go_sem, n0, n1, n2, n3, n4, n5]) rfl (rcget_zero H.out (below_six hb1 _ _ _ _ _ _))
              · have hds : decide ((len : Int) < 1 + (n : Int) + (u : Int)) = false := by simp; omega
                have H : Hid (G = ((false, (bs.drop (1 + n)).take u, Po.zero), 1 + n + u)) := H1.out (by omega)
                have hvl : Hid (((bs.drop (1 + n)).take u).length = u) := (by rw [List.length_take, List.length_drop, hlen.out]; omega : ((bs.drop (1 + n)).take u).length = u)
                have hvr : ∀ W, Below w.heap.size w W → Row .u8 W (some ⟨b, off + (1 + n), none⟩) u ((bs.drop (1 + n)).take u) := fun W hW => ((hr.below hW (Nat.le_refl _)).drop (1 + n) (by omega)).take u (by omega)
                clear H0 H1
                have k1 : (0 : Int) ≤ 1 + (n : Int) := by omega
                have k2 : 1 + (n : Int) ≤ 1 + (n : Int) + (u : Int) := by omega
                have k3 : 1 + (n : Int) + (u : Int) ≤ (cap : Int) := by omega
                generalize (bs.drop (1 + n)).take u = v at *
                have t1 : (1 + (n : Int)).toNat = 1 + n := by omega
                have t2 : (1 + (n : Int) + (u : Int)).toNat = 1 + n + u := by omega
                have t3 : 1 + n + u - (1 + n) = u := by omega
                by_cases hcn : cap = 1 + n
                · obtain rfl : u = 0 := by omega
                  obtain rfl : len = cap := by omega
                  obtain rfl : v = [] := List.length_eq_zero_iff.mp hvl.out
                  go_enter Tryz.func42, Tryz.ntmps42
                  go_wp2_with (go_at_call 41; go_must (refine (hgv _ _ _ _ hb0 (by omega) (.inr ⟨rfl, by omega⟩)).mono ?_; rintro e w1 ⟨rfl, hbel1⟩; obtain ⟨⟨n0, n1, n2, n3, n4, n5⟩, ⟨f0, f1, f2, f3, f4, f5⟩, hb1, hs1⟩ := hkeep.out w1 hbel1))
                  exact bodyPost_ret (v := .tuple #[cv false (some ⟨w1.heap.size, 0, none⟩) 0 0 Po.zero, .int .i64 ((1 + n + 0 : Nat) : Int)]) (by simp [cv, Po.zero, results, Tryz.results42, go_sem, n0, n1, n2, n3, n4, n5, hs1]) rfl (rcget_near H.out rfl ⟨rfl, by omega, by simp, .inl rfl⟩ (fun h => by cases h) (made_at _ 5 w.heap.size (by simp) (Nat.le_of_lt hs1)) (below_six_alloc hb1 _ _ _ _ _ _ _))
                · clear hr0 hr
                  go_enter Tryz.func42, Tryz.ntmps42
                  go_wp2_with (first
                    | (go_at_call 41; go_must (refine (hgv _ _ _ _ hb0 (by omega) (.inr ⟨rfl, by omega⟩)).mono ?_; rintro e w1 ⟨rfl, hbel1⟩; obtain ⟨⟨n0, n1, n2, n3, n4, n5⟩, ⟨f0, f1, f2, f3, f4, f5⟩, hb1, hs1⟩ := hkeep.out w1 hbel1))
                    | (at_builtin; have := hbel1; go_must (refine append_u8 (w0 := w1) (B := w1.heap.size) rfl (.tmp 58) (.tmp 67) rfl _ 0 [] rfl (made_at w1 5 w1.heap.size rfl (Nat.le_refl _)) (some ⟨b, off + (1 + n), none⟩) u _ v rfl (hvr _ (hb1.alloc hb1.size _)) (fun h => by cases h) (by omega) (below_alloc _ _) (by simp) ?_; intro a2 c2 w2 hown2 hbel2 hsz2; rw [Nat.zero_add, List.nil_append] at hown2; rw [Nat.zero_add]; have hB2 := hbel1.trans (hbel2.mono hbel1.size); obtain ⟨⟨m0, m1, m2, m3, m4, m5⟩, ⟨g0, g1, g2, g3, g4, g5⟩, hb2, hs2⟩ := hkeep.out w2 hB2)))
                  have hsv := (hvr _ (Below.refl _ _)).2.2.1
                  obtain ⟨r2, nil2, _⟩ := row_of_owns hown2 hsv (by omega)
                  have hab := own_above hown2
                  exact bodyPost_ret (v := .tuple #[cv false a2 u c2 Po.zero, .int .i64 ((1 + n + u : Nat) : Int)]) (by simp [cv, Po.zero, results, Tryz.results42, go_sem, m0, m1, m2, m3, m4, m5]) rfl (rcget_near H.out hvl.out (row_six r2 (fun b o e => Nat.lt_of_lt_of_le hs1 (hab b o e)) _ _ _ _ _ _) nil2 (own_six (hown2.mono (Nat.le_of_lt hs1)) (fun b o e => Nat.lt_of_lt_of_le hs1 (hab b o e)) _ _ _ _ _ _) (below_six hb2 _ _ _ _ _ _))
end Go.Proofs.YtikieblokfjphaaGreat

/- What is asked of the program's own functions over cells; the laws CellGets and CellReads, given that. -/
namespace Go.Proofs.YtikieblokfjphaaGreat
open Go.RowKit

def CPutRes (w : World) (x : Ce.C) (e : Ending) (w' : World) : Prop :=
  (Ce.may x = true ∧ ∃ a c, e = .returned (.tuple #[.slice a (Ce.put x).length c, .int .i64 0]) ∧ w'.ownsRow w.heap.size 5 1 (.slice a (Ce.put x).length c) (Ce.put x).length (kcells .u8 (Ce.put x)) ∧ Below w.heap.size w w') ∨
  (Ce.may x = false ∧ ∃ a c, e = .returned (.tuple #[.slice a 0 c, .int .i64 1]) ∧ Below w.heap.size w w')
def CCheckC : Prop := ∀ (f : Bool) (a : Option Addr) (n c : Nat) (bs : List Nat) (p : Po.P) (w : World), Row .u8 w a n bs → Po.Fits p → Calls Tryz.prog 82 #[cv f a n c p] w fun e w' => e = .returned (.int .i64 (if Ce.may (f, bs, p) = true then 0 else 1 : Nat)) ∧ Below w.heap.size w w'
def CPutC : Prop := ∀ (f : Bool) (a : Option Addr) (n c : Nat) (bs : List Nat) (p : Po.P) (w : World), Row .u8 w a n bs → (a = none → n = 0 ∧ c = 0) → Po.Fits p → Calls Tryz.prog 102 #[cv f a n c p] w (CPutRes w (f, bs, p))
def CGetRes (w : World) (R : Ce.C × Nat) (e : Ending) (w' : World) : Prop :=
  ∃ a c, e = .returned (.tuple #[cv R.1.1 a R.1.2.1.length c R.1.2.2, .int .i64 (R.2 : Nat), .int .i64 (code R.2 : Nat)]) ∧ Row .u8 w' a R.1.2.1.length R.1.2.1 ∧ (a = none → R.1.2.1.length = 0 ∧ c = 0) ∧ Below w.heap.size w w'
def CGetC : Prop := ∀ (a : Option Addr) (len cap : Nat) (bs : List Nat) (w : World), Shape a len cap → len ≤ cap → len ≤ 100000 → Row .u8 w a len bs → Calls Tryz.prog 88 #[.slice a len cap] w (CGetRes w (Ce.get bs))

def CSameC : Prop := ∀ (f : Bool) (a : Option Addr) (n c : Nat) (bs : List Nat) (p : Po.P) (f' : Bool) (a' : Option Addr) (n' c' : Nat) (bs' : List Nat) (p' : Po.P) (w : World), n ≤ 5000 → n' ≤ 5000 → Row .u8 w a n bs → Row .u8 w a' n' bs' → Calls Tryz.prog 81 #[cv f a n c p, cv f' a' n' c' p'] w fun e w' => e = .returned (.bool (Ce.same (f, bs, p) (f', bs', p'))) ∧ Below w.heap.size w w'

theorem row_nil (k : IntKind) (w : World) (a : Option Addr) : Row k w a 0 [] := ⟨rfl, by omega, by simp, .inl rfl⟩
theorem ce78 : Ce.put (false, [7, 8], Po.zero) = [0, 2, 7, 8] := by
  have h2 : Va.one 2 = [2] := Va.one_lo (by omega)
  simp [Ce.put, h2]

theorem ce_same_self (x : Ce.C) : Ce.same x x = true := by simp [Ce.same]

end Go.Proofs.YtikieblokfjphaaGreat
