/- What the reference's Get of a cell does. -/
import Derived.Test.YtgmcjalcpgldhaaV2
namespace Go.Proofs.Ytgmcjalcpgldhaa
open Go.RowKit

def RCGet (w : World) (R : Ce.C × Nat) (e : Ending) (w' : World) : Prop :=
  ∃ a c, e = .returned (.tuple #[cv R.1.1 a R.1.2.1.length c R.1.2.2, .int .i64 (R.2 : Nat)]) ∧ Row .u8 w' a R.1.2.1.length R.1.2.1 ∧ ((a = none → R.1.2.1.length = 0 ∧ c = 0) ∧ ∀ b o, a = some ⟨b, o, none⟩ → w.heap.size ≤ b) ∧ Below w.heap.size w w'
theorem rcget_zero {w W : World} {G : Ce.C × Nat} (hG : G = (Ce.zero, 0)) (hb : Below w.heap.size w W) : RCGet w G (.returned (.tuple #[cv false none 0 0 Po.zero, .int .i64 0])) W := by
  subst hG
  exact ⟨none, 0, rfl, ⟨rfl, by simp [Ce.zero], by simp [Ce.zero], .inl rfl⟩, ⟨fun _ => ⟨rfl, rfl⟩, fun _ _ h => by cases h⟩, hb⟩
theorem rcget_far {w W : World} {G : Ce.C × Nat} {p : Po.P} {n : Nat} (hG : G = ((true, [], p), n + 1)) (hb : Below w.heap.size w W) : RCGet w G (.returned (.tuple #[cv true none 0 0 p, .int .i64 ((n + 1 : Nat) : Int)])) W := by
  subst hG
  exact ⟨none, 0, rfl, ⟨rfl, by simp, by simp, .inl rfl⟩, ⟨fun _ => ⟨rfl, rfl⟩, fun _ _ h => by cases h⟩, hb⟩
theorem rcget_near {w W : World} {G : Ce.C × Nat} {v : List Nat} {k n c : Nat} {a : Option Addr} (hG : G = ((false, v, Po.zero), k)) (hn : v.length = n) (hr : Row .u8 W a n v) (hnil : a = none → n = 0 ∧ c = 0) (hnew : ∀ b o, a = some ⟨b, o, none⟩ → w.heap.size ≤ b) (hb : Below w.heap.size w W) : RCGet w G (.returned (.tuple #[cv false a n c Po.zero, .int .i64 (k : Nat)])) W := by
  subst hG; subst hn
  exact ⟨a, c, rfl, hr, ⟨hnil, hnew⟩, hb⟩
theorem below_six {w W : World} (h : Below w.heap.size w W) (v0 v1 v2 v3 v4 v5 : Value) : Below w.heap.size w ((((((W.setCell ⟨w.heap.size, 0, none⟩ v0).setCell ⟨w.heap.size, 1, none⟩ v1).setCell ⟨w.heap.size, 2, none⟩ v2).setCell ⟨w.heap.size, 3, none⟩ v3).setCell ⟨w.heap.size, 4, none⟩ v4).setCell ⟨w.heap.size, 5, none⟩ v5) :=
  (((((h.setCell (Nat.le_refl _) _).setCell (Nat.le_refl _) _).setCell (Nat.le_refl _) _).setCell (Nat.le_refl _) _).setCell (Nat.le_refl _) _).setCell (Nat.le_refl _) _
theorem below_six_alloc {w W : World} (h : Below w.heap.size w W) (v0 v1 v2 v3 v4 v5 : Value) (o : Obj) : Below w.heap.size w (((((((W.setCell ⟨w.heap.size, 0, none⟩ v0).setCell ⟨w.heap.size, 1, none⟩ v1).setCell ⟨w.heap.size, 2, none⟩ v2).setCell ⟨w.heap.size, 3, none⟩ v3).setCell ⟨w.heap.size, 4, none⟩ v4).setCell ⟨w.heap.size, 5, none⟩ v5).alloc o) :=
  (below_six h v0 v1 v2 v3 v4 v5).alloc (below_six h v0 v1 v2 v3 v4 v5).size o
theorem Row.set {k : IntKind} {W : World} {a : Option Addr} {n : Nat} {bs : List Nat} (h : Row k W a n bs) (B : Nat) (hne : ∀ b off, a = some ⟨b, off, none⟩ → B < b) (i : Nat) (v : Value) : Row k (W.setCell ⟨B, i, none⟩ v) a n bs := by
  obtain ⟨h1, h2, h3, h4⟩ := h
  refine ⟨h1, h2, h3, ?_⟩
  rcases h4 with h0 | ⟨b, off, e, hc⟩
  · exact .inl h0
  · refine .inr ⟨b, off, e, fun j hj => ?_⟩
    have := hne b off e
    rw [World.cell?_setCell_other W ⟨B, i, none⟩ ⟨b, off + j, none⟩ v (by intro e; simp only [Addr.mk.injEq] at e; omega)]
    exact hc j hj
theorem row_six {k : IntKind} {w W : World} {a : Option Addr} {n : Nat} {bs : List Nat} (h : Row k W a n bs) (hne : ∀ b off, a = some ⟨b, off, none⟩ → w.heap.size < b) (v0 v1 v2 v3 v4 v5 : Value) : Row k ((((((W.setCell ⟨w.heap.size, 0, none⟩ v0).setCell ⟨w.heap.size, 1, none⟩ v1).setCell ⟨w.heap.size, 2, none⟩ v2).setCell ⟨w.heap.size, 3, none⟩ v3).setCell ⟨w.heap.size, 4, none⟩ v4).setCell ⟨w.heap.size, 5, none⟩ v5) a n bs :=
  (((((h.set _ hne _ _).set _ hne _ _).set _ hne _ _).set _ hne _ _).set _ hne _ _).set _ hne _ _
theorem own_above {W : World} {B n c : Nat} {a : Option Addr} {xs : List Value} {e : TypeId} (h : W.ownsRow B e 1 (.slice a n c) n xs) : ∀ b off, a = some ⟨b, off, none⟩ → B ≤ b := by
  intro b off e
  subst e
  exact (h.lt b rfl).1
/-- a result's block: its cells, and that they may be written -/
theorem res_keep {w W : World} {c0 c1 c2 c3 c4 c5 : Value} {e : TypeId} (h : Below (w.alloc (.cells #[c0, c1, c2, c3, c4, c5] e)).heap.size (w.alloc (.cells #[c0, c1, c2, c3, c4, c5] e)) W) :
    (W.cell? ⟨w.heap.size, 0, none⟩ = some c0 ∧ W.cell? ⟨w.heap.size, 1, none⟩ = some c1 ∧ W.cell? ⟨w.heap.size, 2, none⟩ = some c2 ∧ W.cell? ⟨w.heap.size, 3, none⟩ = some c3 ∧ W.cell? ⟨w.heap.size, 4, none⟩ = some c4 ∧ W.cell? ⟨w.heap.size, 5, none⟩ = some c5) ∧
    (W.frozen? ⟨w.heap.size, 0, none⟩ = false ∧ W.frozen? ⟨w.heap.size, 1, none⟩ = false ∧ W.frozen? ⟨w.heap.size, 2, none⟩ = false ∧ W.frozen? ⟨w.heap.size, 3, none⟩ = false ∧ W.frozen? ⟨w.heap.size, 4, none⟩ = false ∧ W.frozen? ⟨w.heap.size, 5, none⟩ = false) ∧ Below w.heap.size w W ∧ w.heap.size < W.heap.size := by
  have hl : w.heap.size < (w.alloc (.cells #[c0, c1, c2, c3, c4, c5] e)).heap.size := by simp
  have k : ∀ i, W.frozen? ⟨w.heap.size, i, none⟩ = false := fun i => (h.frozen (p := ⟨w.heap.size, i, none⟩) hl).trans (frozen_new w _ e i)
  exact ⟨(six_keep h).1, ⟨k 0, k 1, k 2, k 3, k 4, k 5⟩, (six_keep h).2.2, (six_keep h).2.1⟩

set_option maxRecDepth 100000 in
set_option maxHeartbeats 2000000 in
theorem cerefget_any (a : Option Addr) (len cap : Nat) (bs : List Nat) (w : World) (hbig : len ≤ 100000) (hshape : Shape a len cap) (hr : Row .u8 w a len bs) :
    Calls Try.prog 16 #[.slice a len cap] w (RCGet w (Ce.get bs)) := by
  have hlen : Hid (bs.length = len) := hr.1
  have hb0 := below_alloc w (.cells #[.bool false, .slice none 0 0, .int .i64 0, .int .i64 0, .int .i64 0, .int .u32 0] 27)
  have hkeep : Hid (∀ W, Below (w.alloc (.cells #[.bool false, .slice none 0 0, .int .i64 0, .int .i64 0, .int .i64 0, .int .u32 0] 27)).heap.size (w.alloc (.cells #[.bool false, .slice none 0 0, .int .i64 0, .int .i64 0, .int .i64 0, .int .u32 0] 27)) W → _) := (fun W h => res_keep (w := w) (W := W) h)
  have hr0 := hr.below hb0 (Nat.le_refl _)
  obtain ⟨G, hG⟩ : ∃ G, G = Ce.get bs := ⟨_, rfl⟩
  rw [← hG]
  have HG : Hid (G = Ce.get bs) := hG
  clear hG
  rcases Nat.eq_zero_or_pos len with h0 | h0
  · subst h0
    have H : Hid (G = (Ce.zero, 0)) := (by rw [HG.out, Ce.get, if_pos (.inl hlen.out)] : G = (Ce.zero, 0))
    clear HG
    obtain ⟨⟨n0, n1, n2, n3, n4, n5⟩, ⟨f0, f1, f2, f3, f4, f5⟩, hb1, hs1⟩ := hkeep.out _ (Below.refl _ _)
    go_enter Try.func16, Try.ntmps16
    go_wp2
    exact bodyPost_ret (v := .tuple #[cv false none 0 0 Po.zero, .int .i64 0]) (by simp [cv, Po.zero, results, Try.results16, go_sem, n0, n1, n2, n3, n4, n5]) rfl (rcget_zero H.out hb0)
  · have hd0 : ((len : Int) == 0) = false := by simp; omega
    obtain ⟨b, off, rfl, _⟩ := hr.at h0
    have hcap : len ≤ cap := by
      rcases hshape with h | ⟨_, _, _, h⟩
      · omega
      · exact h
    have hx := hr0.cell 0 (by omega)
    rw [Nat.add_zero] at hx
    have hx8 := getD_lt8 hr.2.2.1 0
    have HG1 : Hid (G = if 1 < bs.getD 0 0 then (Ce.zero, 0) else if bs.getD 0 0 = 1 then (if (Po.get (bs.drop 1)).2 = 0 then (Ce.zero, 0) else ((true, [], (Po.get (bs.drop 1)).1), (Po.get (bs.drop 1)).2 + 1)) else if (Va.get (bs.drop 1)).2 = 0 ∨ 32 < (Va.get (bs.drop 1)).1 ∨ len < 1 + (Va.get (bs.drop 1)).2 + (Va.get (bs.drop 1)).1 then (Ce.zero, 0) else ((false, (bs.drop (1 + (Va.get (bs.drop 1)).2)).take (Va.get (bs.drop 1)).1, Po.zero), 1 + (Va.get (bs.drop 1)).2 + (Va.get (bs.drop 1)).1)) := by
      have : G = if 1 < bs.getD 0 0 then (Ce.zero, 0) else if bs.getD 0 0 = 1 then (if (Po.get (bs.drop 1)).2 = 0 then (Ce.zero, 0) else ((true, [], (Po.get (bs.drop 1)).1), (Po.get (bs.drop 1)).2 + 1)) else if (Va.get (bs.drop 1)).2 = 0 ∨ 32 < (Va.get (bs.drop 1)).1 ∨ len < 1 + (Va.get (bs.drop 1)).2 + (Va.get (bs.drop 1)).1 then (Ce.zero, 0) else ((false, (bs.drop (1 + (Va.get (bs.drop 1)).2)).take (Va.get (bs.drop 1)).1, Po.zero), 1 + (Va.get (bs.drop 1)).2 + (Va.get (bs.drop 1)).1) := by
        rw [HG.out]; unfold Ce.get; rw [hlen.out]
        have e : (len = 0 ∨ 1 < bs.getD 0 0) = (1 < bs.getD 0 0) := by simp; omega
        simp only [e]
      exact this
    clear HG
    generalize bs.getD 0 0 = x at *
    by_cases hx1 : 1 < x
    · have H : Hid (G = (Ce.zero, 0)) := (by rw [HG1.out, if_pos hx1] : G = (Ce.zero, 0))
      clear HG1
      obtain ⟨⟨n0, n1, n2, n3, n4, n5⟩, ⟨f0, f1, f2, f3, f4, f5⟩, hb1, hs1⟩ := hkeep.out _ (Below.refl _ _)
      go_enter Try.func16, Try.ntmps16
      go_wp2
      exact bodyPost_ret (v := .tuple #[cv false none 0 0 Po.zero, .int .i64 0]) (by simp [cv, Po.zero, results, Try.results16, go_sem, n0, n1, n2, n3, n4, n5]) rfl (rcget_zero H.out hb0)
    · have hrow1 : ∀ W a' l' c', Below w.heap.size w W → l' = len - 1 → ((l' = 0 ∧ c' = 0) ∨ (a' = some ⟨b, off + 1, none⟩ ∧ c' = cap - 1)) → Row .u8 W a' l' (bs.drop 1) ∧ Shape a' l' c' ∧ l' ≤ c' := fun W a' l' c' hW hl hc => by
        have h1 := (hr.below hW (Nat.le_refl _)).drop 1 (by omega)
        rcases hc with ⟨rfl, rfl⟩ | ⟨rfl, rfl⟩
        · exact ⟨⟨by rw [List.length_drop, hlen.out]; omega, by omega, h1.2.2.1, .inl rfl⟩, .inl ⟨rfl, rfl⟩, Nat.le_refl _⟩
        · subst hl
          exact ⟨h1, .inr ⟨b, off + 1, rfl, by omega⟩, by omega⟩
      by_cases hx2 : x = 1
      · subst hx2
        have hgp : ∀ W a' l' c', Below w.heap.size w W → l' = len - 1 → ((l' = 0 ∧ c' = 0) ∨ (a' = some ⟨b, off + 1, none⟩ ∧ c' = cap - 1)) → Calls Try.prog 32 #[.slice a' l' c'] W (RGetRes W (Po.get (bs.drop 1))) := fun W a' l' c' hW hl hc => by
          obtain ⟨h1, h2, h3⟩ := hrow1 W a' l' c' hW hl hc
          exact porefget_any a' l' c' _ W (by omega) h2 h1
        have HG2 : Hid (G = if (Po.get (bs.drop 1)).2 = 0 then (Ce.zero, 0) else ((true, [], (Po.get (bs.drop 1)).1), (Po.get (bs.drop 1)).2 + 1)) := (by rw [HG1.out, if_neg hx1, if_pos rfl] : G = if (Po.get (bs.drop 1)).2 = 0 then (Ce.zero, 0) else ((true, [], (Po.get (bs.drop 1)).1), (Po.get (bs.drop 1)).2 + 1))
        have hple := Po.get_le (bs.drop 1)
        rw [List.length_drop, hlen.out] at hple
        unfold RGetRes at hgp
        clear HG1 hrow1
        generalize Po.get (bs.drop 1) = R at *
        obtain ⟨⟨s, y, l, m⟩, n⟩ := R
        simp only [pv] at hgp hple
        have H0 : Hid (n = 0 → G = (Ce.zero, 0)) := (fun h => by rw [HG2.out, if_pos h] : n = 0 → G = (Ce.zero, 0))
        have H1 : Hid (n ≠ 0 → G = ((true, [], (s, y, l, m)), n + 1)) := (fun h => by rw [HG2.out, if_neg h] : n ≠ 0 → G = ((true, [], (s, y, l, m)), n + 1))
        clear HG2
        by_cases hc1 : cap = 1
        · subst hc1
          obtain rfl : len = 1 := by omega
          rcases Nat.eq_zero_or_pos n with hn | hn
          · subst hn
            have H : Hid (G = (Ce.zero, 0)) := H0.out rfl
            clear H0 H1
            go_enter Try.func16, Try.ntmps16
            go_wp2_with (go_at_call 32; go_must (refine (hgp _ _ 0 0 hb0 rfl (.inl ⟨rfl, rfl⟩)).mono ?_; rintro e w1 ⟨rfl, hbel1⟩; obtain ⟨⟨n0, n1, n2, n3, n4, n5⟩, ⟨f0, f1, f2, f3, f4, f5⟩, hb1, hs1⟩ := hkeep.out w1 hbel1))
            exact bodyPost_ret (v := .tuple #[cv false none 0 0 Po.zero, .int .i64 0]) (by simp [cv, Po.zero, results, Try.results16, go_sem, n0, n1, n2, n3, n4, n5, hs1]) rfl (rcget_zero H.out (below_six_alloc hb1 _ _ _ _ _ _ _))
          · omega
        · have hl1 : (1 : Int) ≤ (len : Int) := by omega
          have hl2 : (len : Int) ≤ (cap : Int) := by omega
          have hl3 : (1 : Int) ≤ (cap : Int) := by omega
          rcases Nat.eq_zero_or_pos n with hn | hn
          · subst hn
            have H : Hid (G = (Ce.zero, 0)) := H0.out rfl
            clear H0 H1
            go_enter Try.func16, Try.ntmps16
            go_wp2_with (go_at_call 32; go_must (refine (hgp _ _ _ _ hb0 (by omega) (.inr ⟨rfl, by omega⟩)).mono ?_; rintro e w1 ⟨rfl, hbel1⟩; obtain ⟨⟨n0, n1, n2, n3, n4, n5⟩, ⟨f0, f1, f2, f3, f4, f5⟩, hb1, hs1⟩ := hkeep.out w1 hbel1))
            exact bodyPost_ret (v := .tuple #[cv false none 0 0 Po.zero, .int .i64 0]) (by simp [cv, Po.zero, results, Try.results16, go_sem, n0, n1, n2, n3, n4, n5, hs1]) rfl (rcget_zero H.out (below_six_alloc hb1 _ _ _ _ _ _ _))
          · have H : Hid (G = ((true, [], (s, y, l, m)), n + 1)) := H1.out (by omega)
            have hdn : ((n : Int) == 0) = false := by simp; omega
            clear H0 H1
            go_enter Try.func16, Try.ntmps16
            go_wp2_with (go_at_call 32; go_must (refine (hgp _ _ _ _ hb0 (by omega) (.inr ⟨rfl, by omega⟩)).mono ?_; rintro e w1 ⟨rfl, hbel1⟩; obtain ⟨⟨n0, n1, n2, n3, n4, n5⟩, ⟨f0, f1, f2, f3, f4, f5⟩, hb1, hs1⟩ := hkeep.out w1 hbel1))
            exact bodyPost_ret (v := .tuple #[cv true none 0 0 (s, y, l, m), .int .i64 ((n + 1 : Nat) : Int)]) (by simp [cv, results, Try.results16, go_sem, n0, n1, n2, n3, n4, n5, hs1]) rfl (rcget_far H.out (below_six_alloc hb1 _ _ _ _ _ _ _))
      · obtain rfl : x = 0 := by omega
        have hgv : ∀ W a' l' c', Below w.heap.size w W → l' = len - 1 → ((l' = 0 ∧ c' = 0) ∨ (a' = some ⟨b, off + 1, none⟩ ∧ c' = cap - 1)) → Calls Try.prog 33 #[.slice a' l' c'] W fun e w' => e = .returned (.tuple #[.int .u64 ((Va.get (bs.drop 1)).1 : Nat), .int .i64 ((Va.get (bs.drop 1)).2 : Nat)]) ∧ Below W.heap.size W w' := fun W a' l' c' hW hl hc => by
          obtain ⟨h1, h2, h3⟩ := hrow1 W a' l' c' hW hl hc
          exact refget_any a' l' c' _ W h3 (by omega) h1
        have HG2 : Hid (G = if (Va.get (bs.drop 1)).2 = 0 ∨ 32 < (Va.get (bs.drop 1)).1 ∨ len < 1 + (Va.get (bs.drop 1)).2 + (Va.get (bs.drop 1)).1 then (Ce.zero, 0) else ((false, (bs.drop (1 + (Va.get (bs.drop 1)).2)).take (Va.get (bs.drop 1)).1, Po.zero), 1 + (Va.get (bs.drop 1)).2 + (Va.get (bs.drop 1)).1)) := (by rw [HG1.out, if_neg hx1, if_neg (by decide)] : G = if (Va.get (bs.drop 1)).2 = 0 ∨ 32 < (Va.get (bs.drop 1)).1 ∨ len < 1 + (Va.get (bs.drop 1)).2 + (Va.get (bs.drop 1)).1 then (Ce.zero, 0) else ((false, (bs.drop (1 + (Va.get (bs.drop 1)).2)).take (Va.get (bs.drop 1)).1, Po.zero), 1 + (Va.get (bs.drop 1)).2 + (Va.get (bs.drop 1)).1))
        have hvle := Va.get_le (bs := bs.drop 1)
        have hvlt := Va.get_lt (bs.drop 1)
        rw [List.length_drop, hlen.out] at hvle
        clear HG1 hrow1
        generalize Va.get (bs.drop 1) = R at *
        obtain ⟨u, n⟩ := R
        simp only at hgv hvle hvlt
        have H0 : Hid ((n = 0 ∨ 32 < u ∨ len < 1 + n + u) → G = (Ce.zero, 0)) := (fun h => by rw [HG2.out, if_pos h] : (n = 0 ∨ 32 < u ∨ len < 1 + n + u) → G = (Ce.zero, 0))
        have H1 : Hid (¬ (n = 0 ∨ 32 < u ∨ len < 1 + n + u) → G = ((false, (bs.drop (1 + n)).take u, Po.zero), 1 + n + u)) := (fun h => by rw [HG2.out, if_neg h] : ¬ (n = 0 ∨ 32 < u ∨ len < 1 + n + u) → G = ((false, (bs.drop (1 + n)).take u, Po.zero), 1 + n + u))
        clear HG2
        by_cases hc1 : cap = 1
        · subst hc1
          obtain rfl : len = 1 := by omega
          obtain rfl : n = 0 := by omega
          have H : Hid (G = (Ce.zero, 0)) := H0.out (.inl rfl)
          clear H0 H1
          go_enter Try.func16, Try.ntmps16
          go_wp2_with (go_at_call 33; go_must (refine (hgv _ _ 0 0 hb0 rfl (.inl ⟨rfl, rfl⟩)).mono ?_; rintro e w1 ⟨rfl, hbel1⟩; obtain ⟨⟨n0, n1, n2, n3, n4, n5⟩, ⟨f0, f1, f2, f3, f4, f5⟩, hb1, hs1⟩ := hkeep.out w1 hbel1))
          exact bodyPost_ret (v := .tuple #[cv false none 0 0 Po.zero, .int .i64 0]) (by simp [cv, Po.zero, results, Try.results16, go_sem, n0, n1, n2, n3, n4, n5]) rfl (rcget_zero H.out (below_six hb1 _ _ _ _ _ _))
        · have hl1 : (1 : Int) ≤ (len : Int) := by omega
          have hl2 : (len : Int) ≤ (cap : Int) := by omega
          have hl3 : (1 : Int) ≤ (cap : Int) := by omega
          by_cases hn : n = 0
          · subst hn
            have H : Hid (G = (Ce.zero, 0)) := H0.out (.inl rfl)
            clear H0 H1
            go_enter Try.func16, Try.ntmps16
            go_wp2_with (go_at_call 33; go_must (refine (hgv _ _ _ _ hb0 (by omega) (.inr ⟨rfl, by omega⟩)).mono ?_; rintro e w1 ⟨rfl, hbel1⟩; obtain ⟨⟨n0, n1, n2, n3, n4, n5⟩, ⟨f0, f1, f2, f3, f4, f5⟩, hb1, hs1⟩ := hkeep.out w1 hbel1))
            exact bodyPost_ret (v := .tuple #[cv false none 0 0 Po.zero, .int .i64 0]) (by simp [cv, Po.zero, results, Try.results16, go_sem, n0, n1, n2, n3, n4, n5]) rfl (rcget_zero H.out (below_six hb1 _ _ _ _ _ _))
          · have hdn : ((n : Int) == 0) = false := by simp; omega
            by_cases hu : 32 < u
            · have hdu : decide (32 < (u : Int)) = true := by simp; omega
              have H : Hid (G = (Ce.zero, 0)) := H0.out (.inr (.inl hu))
              clear H0 H1
              go_enter Try.func16, Try.ntmps16
              go_wp2_with (go_at_call 33; go_must (refine (hgv _ _ _ _ hb0 (by omega) (.inr ⟨rfl, by omega⟩)).mono ?_; rintro e w1 ⟨rfl, hbel1⟩; obtain ⟨⟨n0, n1, n2, n3, n4, n5⟩, ⟨f0, f1, f2, f3, f4, f5⟩, hb1, hs1⟩ := hkeep.out w1 hbel1))
              exact bodyPost_ret (v := .tuple #[cv false none 0 0 Po.zero, .int .i64 0]) (by simp [cv, Po.zero, results, Try.results16, go_sem, n0, n1, n2, n3, n4, n5]) rfl (rcget_zero H.out (below_six hb1 _ _ _ _ _ _))
            · have hdu : decide (32 < (u : Int)) = false := by simp; omega
              have j1 : IntKind.i64.wrap (u : Int) = (u : Int) := by rw [IntKind.wrap_i64]; omega
              have j2 : IntKind.i64.wrap (1 + (n : Int)) = 1 + (n : Int) := by rw [IntKind.wrap_i64]; omega
              have j3 : IntKind.i64.wrap (1 + (n : Int) + (u : Int)) = 1 + (n : Int) + (u : Int) := by rw [IntKind.wrap_i64]; omega
              by_cases hs : len < 1 + n + u
              · have hds : decide ((len : Int) < 1 + (n : Int) + (u : Int)) = true := by simp; omega
                have H : Hid (G = (Ce.zero, 0)) := H0.out (.inr (.inr hs))
                clear H0 H1
                go_enter Try.func16, Try.ntmps16
                go_wp2_with (go_at_call 33; go_must (refine (hgv _ _ _ _ hb0 (by omega) (.inr ⟨rfl, by omega⟩)).mono ?_; rintro e w1 ⟨rfl, hbel1⟩; obtain ⟨⟨n0, n1, n2, n3, n4, n5⟩, ⟨f0, f1, f2, f3, f4, f5⟩, hb1, hs1⟩ := hkeep.out w1 hbel1))
                exact bodyPost_ret (v := .tuple #[cv false none 0 0 Po.zero, .int .i64 0]) (by simp [cv, Po.zero, results, Try.results16, go_sem, n0, n1, n2, n3, n4, n5]) rfl (rcget_zero H.out (below_six hb1 _ _ _ _ _ _))
              · have hds : decide ((len : Int) < 1 + (n : Int) + (u : Int)) = false := by simp; omega
                have H : Hid (G = ((false, (bs.drop (1 + n)).take u, Po.zero), 1 + n + u)) := H1.out (by omega)
                have hvl : Hid (((bs.drop (1 + n)).take u).length = u) := (by rw [List.length_take, List.length_drop, hlen.out]; omega : ((bs.drop (1 + n)).take u).length = u)
                have hvr : ∀ W, Below w.heap.size w W → Row .u8 W (some ⟨b, off + (1 + n), none⟩) u ((bs.drop (1 + n)).take u) := fun W hW => ((hr.below hW (Nat.le_refl _)).drop (1 + n) (by omega)).take u (by omega)
                clear H0 H1
                have k1 : (0 : Int) ≤ 1 + (n : Int) := by omega
                have k2 : 1 + (n : Int) ≤ 1 + (n : Int) + (u : Int) := by omega
                have k3 : 1 + (n : Int) + (u : Int) ≤ (cap : Int) := by omega
                generalize (bs.drop (1 + n)).take u = v at *
                have t1 : (1 + (n : Int)).toNat = 1 + n := by omega
                have t2 : (1 + (n : Int) + (u : Int)).toNat = 1 + n + u := by omega
                have t3 : 1 + n + u - (1 + n) = u := by omega
                by_cases hcn : cap = 1 + n
                · obtain rfl : u = 0 := by omega
                  obtain rfl : len = cap := by omega
                  obtain rfl : v = [] := List.length_eq_zero_iff.mp hvl.out
                  go_enter Try.func16, Try.ntmps16
                  go_wp2_with (go_at_call 33; go_must (refine (hgv _ _ _ _ hb0 (by omega) (.inr ⟨rfl, by omega⟩)).mono ?_; rintro e w1 ⟨rfl, hbel1⟩; obtain ⟨⟨n0, n1, n2, n3, n4, n5⟩, ⟨f0, f1, f2, f3, f4, f5⟩, hb1, hs1⟩ := hkeep.out w1 hbel1))
                  exact bodyPost_ret (v := .tuple #[cv false (some ⟨w1.heap.size, 0, none⟩) 0 0 Po.zero, .int .i64 ((1 + n + 0 : Nat) : Int)]) (by simp [cv, Po.zero, results, Try.results16, go_sem, n0, n1, n2, n3, n4, n5, hs1]) rfl (rcget_near H.out rfl ⟨rfl, by omega, by simp, .inl rfl⟩ (fun h => by cases h) (fun _ _ h => by cases h; exact Nat.le_of_lt hs1) (below_six_alloc hb1 _ _ _ _ _ _ _))
                · clear hr0 hr
                  go_enter Try.func16, Try.ntmps16
                  go_wp2_with (first
                    | (go_at_call 33; go_must (refine (hgv _ _ _ _ hb0 (by omega) (.inr ⟨rfl, by omega⟩)).mono ?_; rintro e w1 ⟨rfl, hbel1⟩; obtain ⟨⟨n0, n1, n2, n3, n4, n5⟩, ⟨f0, f1, f2, f3, f4, f5⟩, hb1, hs1⟩ := hkeep.out w1 hbel1))
                    | (at_builtin; have := hbel1; go_must (refine append_u8 (w0 := w1) (B := w1.heap.size) rfl (.tmp 58) (.tmp 67) rfl _ 0 [] rfl (made_at w1 5 w1.heap.size rfl (Nat.le_refl _)) (some ⟨b, off + (1 + n), none⟩) u _ v rfl (hvr _ (hb1.alloc hb1.size _)) (fun h => by cases h) (by omega) (below_alloc _ _) (by simp) ?_; intro a2 c2 w2 hown2 hbel2 hsz2; rw [Nat.zero_add, List.nil_append] at hown2; rw [Nat.zero_add]; have hB2 := hbel1.trans (hbel2.mono hbel1.size); obtain ⟨⟨m0, m1, m2, m3, m4, m5⟩, ⟨g0, g1, g2, g3, g4, g5⟩, hb2, hs2⟩ := hkeep.out w2 hB2)))
                  have hsv := (hvr _ (Below.refl _ _)).2.2.1
                  obtain ⟨r2, nil2, _⟩ := row_of_owns hown2 hsv (by omega)
                  have hab := own_above hown2
                  exact bodyPost_ret (v := .tuple #[cv false a2 u c2 Po.zero, .int .i64 ((1 + n + u : Nat) : Int)]) (by simp [cv, Po.zero, results, Try.results16, go_sem, m0, m1, m2, m3, m4, m5]) rfl (rcget_near H.out hvl.out (row_six r2 (fun b o e => Nat.lt_of_lt_of_le hs1 (hab b o e)) _ _ _ _ _ _) nil2 (fun b o e => Nat.le_trans (Nat.le_of_lt hs1) (hab b o e)) (below_six hb2 _ _ _ _ _ _))
end Go.Proofs.Ytgmcjalcpgldhaa
