/- What the reference's Put of a cell does. -/
import Derived.Test.YtgdefibgifcbaaaV1
import Derived.Laws.OwnMore
namespace Go.Proofs.Ytgdefibgifcbaaa
open Go.RowKit

/-- append at a step of a region that draws: any row of bytes, nil too, behind an own one -/
theorem step_u8a {w0 w : World} {B : Nat} {ops : Array Oper} {o : Oper} {a : Act} {K : Act → World → Prop} {Q : Exit → Act → World → Prop} {E : Prop} (hgd : o.guard = none) (s x : Operand)
    (ho : o.op = .call { callee := .builtin .append, args := #[s, x], argTypes := #[23, 23] })
    (v : Value) (n : Nat) (xs : List Nat) (hs : a.eval s = v) (hown : w.ownsRow B 5 1 v n (kcells .u8 xs))
    (ad : Option Addr) (m c : Nat) (bs : List Nat) (hx : a.eval x = .slice ad m c) (hrow : Row .u8 w ad m bs) (hnil : ad = none → m = 0 ∧ c = 0)
    (hnm : n + m ≤ 1000000000000) (hbel : Below B w0 w) (hB : B ≤ w.heap.size)
    (h : ∀ a' c' w', w'.ownsRow B 5 1 (.slice a' (n + m) c') (n + m) (kcells .u8 (xs ++ bs)) → Below B w0 w' → B ≤ w'.heap.size → K (a.put o.dst (.slice a' (n + m) c')) w') :
    if Region.wanted o (yielded ops a.tmps) = true then Oper.wp Try.prog o a w K Q else E := by
  have hw : Region.wanted o (yielded ops a.tmps) = true := by simp [Region.wanted, hgd]
  rw [if_pos hw]
  obtain ⟨i0, hi, hz0, hz1, hz2⟩ := info_parts Try.info5
  obtain ⟨h1, h2, h3, h4⟩ := hrow
  cases ad with
  | none =>
    obtain ⟨rfl, rfl⟩ := hnil rfl
    obtain rfl : bs = [] := List.length_eq_zero_iff.mp h1
    have hrun := run_append_owned_none (P := Try.prog) (w := w) B 23 o.type 5 i0 1 Try.underlying23 hi v n (kcells .u8 xs) hown
    obtain ⟨a', c', rfl⟩ := slice_of_owns hown
    unfold Oper.wp
    simp [execOp, ho, resolve, invoke, builtin, hs, hx, hrun, Result.andThen]
    exact h a' c' w (by simpa using hown) hbel hB
  | some ad =>
    refine wp_append_own w s x 23 ho B 5 i0 (.int .u8 0) 1 1 Try.underlying23 hi hz0 hz1 hz2 rfl (by decide) v n (kcells .u8 xs) hs hown ad m c (kcells .u8 bs) hx (by rw [kcells_length]; omega) ?_ ?_ (by unfold maxLen; omega) (by omega) hB ?_
    · intro j u hj
      obtain ⟨hlt, rfl⟩ := kcells_get .u8 bs j u hj
      rcases h4 with h0 | ⟨b, off, e, hc⟩
      · omega
      · obtain rfl : ad = ⟨b, off, none⟩ := by simpa using e
        rw [add_at]; exact hc j (by omega)
    · intro u hu
      simp only [kcells, List.mem_map] at hu
      obtain ⟨n, _, rfl⟩ := hu
      rfl
    · intro v' w' hown' hg _
      obtain ⟨a', c', rfl⟩ := slice_of_owns hown'
      exact h a' c' w' (by rw [kcells_append]; exact hown') (hbel.grown hg hB (fun k hk => (hown.lt k hk).1)) (Nat.le_trans hB hg.size)

theorem owns_one (w : World) (x : Nat) {b : Nat} (hb : w.heap.size = b) {B : Nat} (hB : B ≤ b) : (w.alloc (.cells #[.int .u8 (x : Nat)] 5)).ownsRow B 5 1 (.slice (some ⟨b, 0, none⟩) 1 1) 1 (kcells .u8 [x]) := by
  subst hb
  exact owns_lit w B 5 [.int .u8 (x : Nat)] 1 rfl hB (by omega)

end Go.Proofs.Ytgdefibgifcbaaa


/- What the reference's Get of a cell does. -/
namespace Go.Proofs.Ytgdefibgifcbaaa
open Go.RowKit

def RCGet (w : World) (R : Ce.C × Nat) (e : Ending) (w' : World) : Prop :=
  ∃ a c, e = .returned (.tuple #[cv R.1.1 a R.1.2.1.length c R.1.2.2, .int .i64 (R.2 : Nat)]) ∧ Row .u8 w' a R.1.2.1.length R.1.2.1 ∧ ((a = none → R.1.2.1.length = 0 ∧ c = 0) ∧ w'.ownsRow w.heap.size 5 1 (.slice a R.1.2.1.length c) R.1.2.1.length (kcells .u8 R.1.2.1)) ∧ Below w.heap.size w w'
theorem rcget_zero {w W : World} {G : Ce.C × Nat} (hG : G = (Ce.zero, 0)) (hb : Below w.heap.size w W) : RCGet w G (.returned (.tuple #[cv false none 0 0 Po.zero, .int .i64 0])) W := by
  subst hG
  exact ⟨none, 0, rfl, ⟨rfl, by simp [Ce.zero], by simp [Ce.zero], .inl rfl⟩, ⟨fun _ => ⟨rfl, rfl⟩, ⟨rfl, .inl ⟨rfl, rfl⟩⟩⟩, hb⟩
theorem rcget_far {w W : World} {G : Ce.C × Nat} {p : Po.P} {n : Nat} (hG : G = ((true, [], p), n + 1)) (hb : Below w.heap.size w W) : RCGet w G (.returned (.tuple #[cv true none 0 0 p, .int .i64 ((n + 1 : Nat) : Int)])) W := by
  subst hG
  exact ⟨none, 0, rfl, ⟨rfl, by simp, by simp, .inl rfl⟩, ⟨fun _ => ⟨rfl, rfl⟩, ⟨rfl, .inl ⟨rfl, rfl⟩⟩⟩, hb⟩
theorem rcget_near {w W : World} {G : Ce.C × Nat} {v : List Nat} {k n c : Nat} {a : Option Addr} (hG : G = ((false, v, Po.zero), k)) (hn : v.length = n) (hr : Row .u8 W a n v) (hnil : a = none → n = 0 ∧ c = 0) (hnew : W.ownsRow w.heap.size 5 1 (.slice a n c) n (kcells .u8 v)) (hb : Below w.heap.size w W) : RCGet w G (.returned (.tuple #[cv false a n c Po.zero, .int .i64 (k : Nat)])) W := by
  subst hG; subst hn
  exact ⟨a, c, rfl, hr, ⟨hnil, hnew⟩, hb⟩
theorem below_six {w W : World} (h : Below w.heap.size w W) (v0 v1 v2 v3 v4 v5 : Value) : Below w.heap.size w ((((((W.setCell ⟨w.heap.size, 0, none⟩ v0).setCell ⟨w.heap.size, 1, none⟩ v1).setCell ⟨w.heap.size, 2, none⟩ v2).setCell ⟨w.heap.size, 3, none⟩ v3).setCell ⟨w.heap.size, 4, none⟩ v4).setCell ⟨w.heap.size, 5, none⟩ v5) :=
  (((((h.setCell (Nat.le_refl _) _).setCell (Nat.le_refl _) _).setCell (Nat.le_refl _) _).setCell (Nat.le_refl _) _).setCell (Nat.le_refl _) _).setCell (Nat.le_refl _) _
theorem below_six_alloc {w W : World} (h : Below w.heap.size w W) (v0 v1 v2 v3 v4 v5 : Value) (o : Obj) : Below w.heap.size w (((((((W.setCell ⟨w.heap.size, 0, none⟩ v0).setCell ⟨w.heap.size, 1, none⟩ v1).setCell ⟨w.heap.size, 2, none⟩ v2).setCell ⟨w.heap.size, 3, none⟩ v3).setCell ⟨w.heap.size, 4, none⟩ v4).setCell ⟨w.heap.size, 5, none⟩ v5).alloc o) :=
  (below_six h v0 v1 v2 v3 v4 v5).alloc (below_six h v0 v1 v2 v3 v4 v5).size o
theorem Row.set {k : IntKind} {W : World} {a : Option Addr} {n : Nat} {bs : List Nat} (h : Row k W a n bs) (B : Nat) (hne : ∀ b off, a = some ⟨b, off, none⟩ → B < b) (i : Nat) (v : Value) : Row k (W.setCell ⟨B, i, none⟩ v) a n bs := by
  obtain ⟨h1, h2, h3, h4⟩ := h
  refine ⟨h1, h2, h3, ?_⟩
  rcases h4 with h0 | ⟨b, off, e, hc⟩
  · exact .inl h0
  · refine .inr ⟨b, off, e, fun j hj => ?_⟩
    have := hne b off e
    rw [World.cell?_setCell_other W ⟨B, i, none⟩ ⟨b, off + j, none⟩ v (by intro e; simp only [Addr.mk.injEq] at e; omega)]
    exact hc j hj
theorem row_six {k : IntKind} {w W : World} {a : Option Addr} {n : Nat} {bs : List Nat} (h : Row k W a n bs) (hne : ∀ b off, a = some ⟨b, off, none⟩ → w.heap.size < b) (v0 v1 v2 v3 v4 v5 : Value) : Row k ((((((W.setCell ⟨w.heap.size, 0, none⟩ v0).setCell ⟨w.heap.size, 1, none⟩ v1).setCell ⟨w.heap.size, 2, none⟩ v2).setCell ⟨w.heap.size, 3, none⟩ v3).setCell ⟨w.heap.size, 4, none⟩ v4).setCell ⟨w.heap.size, 5, none⟩ v5) a n bs :=
  (((((h.set _ hne _ _).set _ hne _ _).set _ hne _ _).set _ hne _ _).set _ hne _ _).set _ hne _ _
theorem own_above {W : World} {B n c : Nat} {a : Option Addr} {xs : List Value} {e : TypeId} (h : W.ownsRow B e 1 (.slice a n c) n xs) : ∀ b off, a = some ⟨b, off, none⟩ → B ≤ b := by
  intro b off e
  subst e
  exact (h.lt b rfl).1
theorem own_set {W : World} {B n c s : Nat} {a : Option Addr} {xs : List Value} {e : TypeId} (h : W.ownsRow B e s (.slice a n c) n xs) (g : Nat) (hne : ∀ b off, a = some ⟨b, off, none⟩ → g < b) (i : Nat) (v : Value) : (W.setCell ⟨g, i, none⟩ v).ownsRow B e s (.slice a n c) n xs := by
  refine ⟨h.1, ?_⟩
  rcases h.2 with h0 | ⟨k, cap, cur, e1, h1, h2, h3⟩
  · exact .inl h0
  · refine .inr ⟨k, cap, cur, e1, h1, ?_, h3⟩
    simp only [Value.slice.injEq] at e1
    have := hne k 0 e1.1
    rw [Below.heap_setCell _ _ _ _ (by show k ≠ g; omega)]
    exact h2
theorem own_six {w W : World} {B n c s : Nat} {a : Option Addr} {xs : List Value} {e : TypeId} (h : W.ownsRow B e s (.slice a n c) n xs) (hne : ∀ b off, a = some ⟨b, off, none⟩ → w.heap.size < b) (v0 v1 v2 v3 v4 v5 : Value) : ((((((W.setCell ⟨w.heap.size, 0, none⟩ v0).setCell ⟨w.heap.size, 1, none⟩ v1).setCell ⟨w.heap.size, 2, none⟩ v2).setCell ⟨w.heap.size, 3, none⟩ v3).setCell ⟨w.heap.size, 4, none⟩ v4).setCell ⟨w.heap.size, 5, none⟩ v5).ownsRow B e s (.slice a n c) n xs :=
  own_set (own_set (own_set (own_set (own_set (own_set h _ hne _ _) _ hne _ _) _ hne _ _) _ hne _ _) _ hne _ _) _ hne _ _
/-- a result's block: its cells, and that they may be written -/
theorem res_keep {w W : World} {c0 c1 c2 c3 c4 c5 : Value} {e : TypeId} (h : Below (w.alloc (.cells #[c0, c1, c2, c3, c4, c5] e)).heap.size (w.alloc (.cells #[c0, c1, c2, c3, c4, c5] e)) W) :
    (W.cell? ⟨w.heap.size, 0, none⟩ = some c0 ∧ W.cell? ⟨w.heap.size, 1, none⟩ = some c1 ∧ W.cell? ⟨w.heap.size, 2, none⟩ = some c2 ∧ W.cell? ⟨w.heap.size, 3, none⟩ = some c3 ∧ W.cell? ⟨w.heap.size, 4, none⟩ = some c4 ∧ W.cell? ⟨w.heap.size, 5, none⟩ = some c5) ∧
    (W.frozen? ⟨w.heap.size, 0, none⟩ = false ∧ W.frozen? ⟨w.heap.size, 1, none⟩ = false ∧ W.frozen? ⟨w.heap.size, 2, none⟩ = false ∧ W.frozen? ⟨w.heap.size, 3, none⟩ = false ∧ W.frozen? ⟨w.heap.size, 4, none⟩ = false ∧ W.frozen? ⟨w.heap.size, 5, none⟩ = false) ∧ Below w.heap.size w W ∧ w.heap.size < W.heap.size := by
  have hl : w.heap.size < (w.alloc (.cells #[c0, c1, c2, c3, c4, c5] e)).heap.size := by simp
  have k : ∀ i, W.frozen? ⟨w.heap.size, i, none⟩ = false := fun i => (h.frozen (p := ⟨w.heap.size, i, none⟩) hl).trans (frozen_new w _ e i)
  exact ⟨(six_keep h).1, ⟨k 0, k 1, k 2, k 3, k 4, k 5⟩, (six_keep h).2.2, (six_keep h).2.1⟩

end Go.Proofs.Ytgdefibgifcbaaa


/- What is asked of the program's own functions over cells; the laws CellGets and CellReads, given that. -/
namespace Go.Proofs.Ytgdefibgifcbaaa
open Go.RowKit

def CFitsC : Prop := ∀ (p : Po.P) (a : Option Addr) (n c : Nat) (vs : List Nat) (w : World), Po.Fits p → Row .u8 w a n vs → Calls Try.prog 31 #[pv p, .slice a n c] w fun e w' => e = .returned (.bool (Ce.fits p vs)) ∧ Below w.heap.size w w'

def CFarC : Prop := ∀ (s y : Int) (a : Option Addr) (n c : Nat) (vs : List Nat) (w : World), n ≤ 5000 → (-9223372036854775808 ≤ s ∧ s ≤ 9223372036854775807) → (-9223372036854775808 ≤ y ∧ y ≤ 9223372036854775807) → Row .u8 w a n vs → Calls Try.prog 24 #[.int .i64 s, .int .i64 y, .slice a n c] w fun e w' =>
  (Po.may (s, y, (n : Int), 0) = true ∧ ∃ a' c', e = .returned (.tuple #[cv true a' 0 c' (s, y, (n : Int), Crc.more 0 vs), .int .i64 0]) ∧ Below w.heap.size w w') ∨
  (Po.may (s, y, (n : Int), 0) = false ∧ ∃ a' c', e = .returned (.tuple #[cv false a' 0 c' Po.zero, .int .i64 1]) ∧ Below w.heap.size w w')

theorem row_nil (k : IntKind) (w : World) (a : Option Addr) : Row k w a 0 [] := ⟨rfl, by omega, by simp, .inl rfl⟩
theorem ce78 : Ce.put (false, [7, 8], Po.zero) = [0, 2, 7, 8] := by
  have h2 : Va.one 2 = [2] := Va.one_lo (by omega)
  simp [Ce.put, h2]

theorem ce_same_self (x : Ce.C) : Ce.same x x = true := by simp [Ce.same]

end Go.Proofs.Ytgdefibgifcbaaa
