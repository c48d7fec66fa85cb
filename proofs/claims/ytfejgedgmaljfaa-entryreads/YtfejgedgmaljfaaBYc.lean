/- Get of entries in the order in which the program asks; a row that is made whole, and written in place. -/
import Derived.Test.YtfejgedgmaljfaaBYb
import Derived.Test.YtfejgedgmaljfaaBEd
import Derived.Lib.SmallJoins
import Derived.Maps.AppendAt
import Derived.Test.YtfejgedgmaljfaaY5
namespace Go.Proofs.Ytfejgedgmaljfaa
open Go.RowKit

theorem En.one_ix (bs : List Nat) (ix : Int) : En.one bs ix = if (En.one bs 0).2 = 0 then (En.zero, 0) else ((ix, (En.one bs 0).1.2), (En.one bs 0).2) := by
  unfold En.one
  split
  · rfl
  · split
    · rfl
    · split
      · rw [if_neg (by simp only []; omega)]
      · split
        · rfl
        · rw [if_neg (by simp only []; omega)]
theorem Va.all_two {bs : List Nat} {u k f m : Nat} (h1 : Va.get bs = (u, k)) (h2 : Va.get (bs.drop k) = (f, m)) : (k = 0 ∨ m = 0 → (Va.all bs 2).2.2 = 2 ∧ (Va.all bs 2).1 = []) ∧ (¬ (k = 0 ∨ m = 0) → Va.all bs 2 = ([u, f], k + m, 0)) := by
  unfold Va.all
  by_cases hk : k = 0
  · refine ⟨fun _ => ?_, fun h => absurd (.inl hk) h⟩
    rw [Va.al_none (by rw [List.drop_zero, h1]; exact hk)]
    exact ⟨rfl, rfl⟩
  · rw [Va.al_some (by rw [List.drop_zero, h1]; exact hk)]
    rw [List.drop_zero, h1]
    simp only [Nat.zero_add, List.nil_append]
    by_cases hm : m = 0
    · refine ⟨fun _ => ?_, fun h => absurd (.inr hm) h⟩
      rw [Va.al_none (by rw [h2]; exact hm)]
      exact ⟨rfl, rfl⟩
    · refine ⟨fun h => by omega, fun _ => ?_⟩
      rw [Va.al_some (by rw [h2]; exact hm), h2]
      rfl
theorem En.get_prog {bs : List Nat} {u k f m : Nat} (h1 : Va.get bs = (u, k)) (h2 : Va.get (bs.drop k) = (f, m)) :
    ((k = 0 ∨ m = 0 ∨ 16 < u ∨ 2147483647 < f) → En.get bs = []) ∧ (¬ (k = 0 ∨ m = 0 ∨ 16 < u ∨ 2147483647 < f) → En.get bs = match En.sc u bs (k + m) (f : Int) [] with | none => [] | some (l, at') => if at' = bs.length ∧ En.batch l = true then l else []) := by
  unfold En.get En.scan
  by_cases c1 : k = 0 ∨ 16 < u
  · have e : En.number bs 16 = (0, 0) := by unfold En.number; rw [h1, if_pos c1]
    refine ⟨fun _ => ?_, fun h => by omega⟩
    rw [e, if_pos (.inl rfl)]
  · have e : En.number bs 16 = (u, k) := by unfold En.number; rw [h1, if_neg c1]
    rw [e]
    simp only
    by_cases c2 : m = 0 ∨ 2147483647 < f
    · have e2 : En.number (bs.drop k) 2147483647 = (0, 0) := by unfold En.number; rw [h2, if_pos c2]
      refine ⟨fun _ => ?_, fun h => by omega⟩
      rw [e2, if_pos (.inr rfl)]
    · have e2 : En.number (bs.drop k) 2147483647 = (f, m) := by unfold En.number; rw [h2, if_neg c2]
      refine ⟨fun h => by omega, fun _ => ?_⟩
      rw [e2, if_neg (by simp only; omega)]
      rfl

/-- make of a whole row -/
theorem make_full {P : Program} (w : World) {ops : Array Oper} {rest : List Oper} {o : Oper} {a : Act} {Q : Exit → Act → World → Prop}
    (hg : o.guard = none) (l c : Operand) (t : TypeId) (hop : o.op = Op.makeSlice t l c)
    (base : Nat) (e : TypeId) (i : TypeInfo) (z : Value) (size : Nat) (h1 : P.underlying t = some (.slice e)) (h2 : P.info? e = some i) (h3 : i.zero = some z) (h4 : i.size = size)
    (kl kc : IntKind) (n : Nat) (hl : a.eval l = .int kl (n : Int)) (hc : a.eval c = .int kc (n : Int)) (b2 : i.bytes * n ≤ 281474976710656) (b3 : n ≤ maxLen) (b4 : base ≤ w.heap.size)
    (hK : ∀ w', w'.ownsRow base e size (.slice (some ⟨w.heap.size, 0, none⟩) n n) n (madeCells z.cells (n * size)).toList → Below w.heap.size w w' → wpList P ops Q rest (a.put o.dst (.slice (some ⟨w.heap.size, 0, none⟩) n n)) w') :
    wpList P ops Q (o :: rest) a w := by
  subst h4
  refine wpList_plain hg fun K hK' => ?_
  have h63 : (n : Int) ≤ 9223372036854775807 := by simp [maxLen] at b3; omega
  have hb' : (i.bytes : Int) * (n : Int) ≤ 281474976710656 := by
    have h : ((i.bytes * n : Nat) : Int) ≤ 281474976710656 := by omega
    rwa [Int.natCast_mul] at h
  have hrun := run_make (P := P) w t e i z h1 h2 h3 kl kc n n (by omega) (Int.le_refl _) hb' h63
  simp only [Int.toNat_natCast] at hrun
  unfold Oper.wp
  simp [execOp, hop, hl, hc, hrun, Result.andThen]
  refine hK' _ _ (hK _ ?_ (below_alloc _ _))
  refine ⟨by simp [size_madeCells], .inr ⟨w.heap.size, n, madeCells z.cells (n * i.size), rfl, b4, heap_alloc_new _ _, Nat.le_refl _, b3, size_madeCells _ _, ?_⟩⟩
  rw [List.take_of_length_le (by simp [size_madeCells])]

/-- a store into a row of the call's own -/
theorem own_store {w : World} {B e s g n c : Nat} {xs : List Value} (h : w.ownsRow B e s (.slice (some ⟨g, 0, none⟩) n c) n xs) (j : Nat) (v : Value) : (w.setCell ⟨g, j, none⟩ v).ownsRow B e s (.slice (some ⟨g, 0, none⟩) n c) n (xs.set j v) := by
  obtain ⟨h1, h2⟩ := h
  refine ⟨by rw [List.length_set]; exact h1, ?_⟩
  rcases h2 with ⟨e, _⟩ | ⟨g', cap, cur, e, hB, hg, hn, hm, hs, ht⟩
  · cases e
  · simp only [Value.slice.injEq, Option.some.injEq, Addr.mk.injEq] at e
    obtain ⟨⟨rfl, _⟩, _, rfl⟩ := e
    refine .inr ⟨g, c, _, rfl, hB, Go.Joins.block_setCell (i := j) hg v, hn, hm, by simpa using hs, ?_⟩
    rw [← ht]
    simp only [Array.toList_setIfInBounds, List.take_set]
theorem own_cells {w : World} {B e s g n c : Nat} {xs : List Value} (h : w.ownsRow B e s (.slice (some ⟨g, 0, none⟩) n c) n xs) {j : Nat} {v : Value} (hj : xs[j]? = some v) : w.cell? ⟨g, j, none⟩ = some v ∧ w.frozen? ⟨g, j, none⟩ = false := by
  rcases h.2 with ⟨e, _⟩ | ⟨g', cap, cur, e, hB, hg, hn, hm, hs, ht⟩
  · cases e
  · simp only [Value.slice.injEq, Option.some.injEq, Addr.mk.injEq] at e
    obtain ⟨⟨rfl, _⟩, _, rfl⟩ := e
    refine ⟨?_, Go.Joins.unfrozen_of_block hg _⟩
    rw [Go.Joins.cell_of_block hg]
    rw [← ht, List.getElem?_take] at hj
    split at hj
    · simpa using hj
    · cases hj
theorem own_lt {w : World} {B e s g n c : Nat} {xs : List Value} (h : w.ownsRow B e s (.slice (some ⟨g, 0, none⟩) n c) n xs) : g < w.heap.size ∧ B ≤ g := by
  rcases h.2 with ⟨e, _⟩ | ⟨g', cap, cur, e, hB, hg, hn, hm, hs, ht⟩
  · cases e
  · simp only [Value.slice.injEq, Option.some.injEq, Addr.mk.injEq] at e
    obtain ⟨⟨rfl, _⟩, _, rfl⟩ := e
    exact ⟨(Array.getElem?_eq_some_iff.1 hg).1, hB⟩
end Go.Proofs.Ytfejgedgmaljfaa

/- What the program's Get of entries does. -/
namespace Go.Proofs.Ytfejgedgmaljfaa
open Go.RowKit

theorem turned_set (w : World) (g o : Nat) (v : Value) : w.grownBy (w.setCell ⟨g, o, none⟩ v) (some g) :=
  ⟨rfl, rfl, rfl, by simp, fun k _ hne => Below.heap_setCell w ⟨g, o, none⟩ v k (fun e => hne (by rw [e]))⟩
/-- ten cells at the front of what is left are written -/
theorem set_ten (cs rest : List Value) (j : Nat) (hcs : cs.length = j * 10) (hr : 10 ≤ rest.length) (v0 v1 v2 v3 v4 v5 v6 v7 v8 v9 : Value) :
    (((((((((((cs ++ rest).set (j * 10) v0).set (j * 10 + 1) v1).set (j * 10 + 2) v2).set (j * 10 + 3) v3).set (j * 10 + 4) v4).set (j * 10 + 5) v5).set (j * 10 + 6) v6).set (j * 10 + 7) v7).set (j * 10 + 8) v8).set (j * 10 + 9) v9) = (cs ++ [v0, v1, v2, v3, v4, v5, v6, v7, v8, v9]) ++ rest.drop 10 := by
  rw [← hcs]
  obtain ⟨r0, r1, r2, r3, r4, r5, r6, r7, r8, r9, t, rfl⟩ : ∃ r0 r1 r2 r3 r4 r5 r6 r7 r8 r9 t, rest = r0 :: r1 :: r2 :: r3 :: r4 :: r5 :: r6 :: r7 :: r8 :: r9 :: t := by
    match rest, hr with
    | r0 :: r1 :: r2 :: r3 :: r4 :: r5 :: r6 :: r7 :: r8 :: r9 :: t, _ => exact ⟨r0, r1, r2, r3, r4, r5, r6, r7, r8, r9, t, rfl⟩
  simp [List.set_append_right]
theorem ten_of {cs rest : List Value} {j : Nat} (hcs : cs.length = j * 10) (hr : 10 ≤ rest.length) : ∃ c0 c1 c2 c3 c4 c5 c6 c7 c8 c9, (cs ++ rest)[j * 10]? = some c0 ∧ (cs ++ rest)[j * 10 + 1]? = some c1 ∧ (cs ++ rest)[j * 10 + 2]? = some c2 ∧ (cs ++ rest)[j * 10 + 3]? = some c3 ∧ (cs ++ rest)[j * 10 + 4]? = some c4 ∧ (cs ++ rest)[j * 10 + 5]? = some c5 ∧ (cs ++ rest)[j * 10 + 6]? = some c6 ∧ (cs ++ rest)[j * 10 + 7]? = some c7 ∧ (cs ++ rest)[j * 10 + 8]? = some c8 ∧ (cs ++ rest)[j * 10 + 9]? = some c9 := by
  rw [← hcs]
  match rest, hr with
  | r0 :: r1 :: r2 :: r3 :: r4 :: r5 :: r6 :: r7 :: r8 :: r9 :: t, _ => exact ⟨r0, r1, r2, r3, r4, r5, r6, r7, r8, r9, by simp, by simp, by simp, by simp, by simp, by simp, by simp, by simp, by simp, by simp⟩

theorem eget_nil {w W : World} {es : List En.E} (h : es = []) (hb : Below w.heap.size w W) : EGetRes w es (.returned (.tuple #[.slice none 0 0, .int .i64 2])) W := by
  subst h
  exact ⟨none, 0, rfl, ⟨rfl, by simp, .inl rfl⟩, fun _ => ⟨rfl, rfl⟩, hb⟩
theorem eget_some {w W : World} {es : List En.E} {a : Option Addr} {n c : Nat} {l : List En.E} (h : es = l) (hl : l.length = n) (h0 : 0 < n) (hr : ERow W a n l) (hn : a = none → n = 0 ∧ c = 0) (hb : Below w.heap.size w W) : EGetRes w es (.returned (.tuple #[.slice a n c, .int .i64 0])) W := by
  subst h; subst hl
  have hg : gcode es = 0 := by unfold gcode; rw [if_neg (by omega)]
  refine ⟨a, c, ?_, hr, hn, hb⟩
  rw [hg]; rfl

set_option maxRecDepth 100000 in
set_option maxHeartbeats 4000000 in
theorem eget_none (a : Option Addr) (len cap u k f m : Nat) (R : List Nat × Nat × Nat) (w : World) (out : List En.E) (HO : Hid (out = []))
    (hall : Calls Try.prog 32 #[.slice a len cap, .int .i64 2] w (AllRes w R))
    (H0 : Hid (k = 0 ∨ m = 0 → R.2.2 = 2 ∧ R.1 = [])) (H1 : Hid (¬ (k = 0 ∨ m = 0) → R = ([u, f], k + m, 0))) (hu : u < 18446744073709551616) (hf : f < 18446744073709551616)
    (h : k = 0 ∨ m = 0 ∨ 16 < u ∨ 2147483647 < f) :
    Calls Try.prog 15 #[.slice a len cap] w (EGetRes w out) := by
  unfold AllRes at hall
  by_cases hk : k = 0 ∨ m = 0
  · obtain ⟨e1, e2⟩ := H0.out hk
    obtain ⟨r1, r2, r3⟩ := R
    simp only at e1 e2 hall
    subst e1; subst e2
    clear H0 H1 h hk
    go_enter Try.func15, Try.ntmps15
    go_wp2_with (go_at_call 32; go_must (refine hall.mono ?_; rintro e w1 ⟨a1, c1, rfl, hown1, hbel1⟩))
    go_ret2
    exact eget_nil HO.out hbel1
  · have e1 := H1.out hk
    subst e1
    simp only [List.length_cons, List.length_nil, Nat.zero_add] at hall
    have hsm : ∀ x ∈ [u, f], x < lim .u64 := by intro x hx; simp only [List.mem_cons, List.not_mem_nil, or_false] at hx; show x < 18446744073709551616; omega
    have hh : 16 < u ∨ 2147483647 < f := by omega
    clear H0 H1 h hk
    by_cases hu16 : 16 < u
    · have hd : decide (16 < (u : Int)) = true := by simp; omega
      go_enter Try.func15, Try.ntmps15
      go_wp2_with (go_at_call 32; go_must (refine hall.mono ?_; rintro e w1 ⟨a1, c1, rfl, hown1, hbel1⟩; obtain ⟨b1, o1, rfl, hc1⟩ := (row_of_owns hown1 hsm (by omega)).1.at (by omega); have hx0 := hc1 0 (by omega); rw [Nat.add_zero] at hx0; simp only [List.getD_cons_zero] at hx0))
      go_ret2
      exact eget_nil HO.out hbel1
    · have hd : decide (16 < (u : Int)) = false := by simp; omega
      have hd2 : decide (2147483647 < (f : Int)) = true := by simp; omega
      go_enter Try.func15, Try.ntmps15
      go_wp2_with (go_at_call 32; go_must (refine hall.mono ?_; rintro e w1 ⟨a1, c1, rfl, hown1, hbel1⟩; obtain ⟨b1, o1, rfl, hc1⟩ := (row_of_owns hown1 hsm (by omega)).1.at (by omega); have hx0 := hc1 0 (by omega); rw [Nat.add_zero] at hx0; simp only [List.getD_cons_zero] at hx0; have hx1 := hc1 1 (by omega); simp only [List.getD_cons_succ, List.getD_cons_zero] at hx1))
      go_ret2
      exact eget_nil HO.out hbel1

set_option maxRecDepth 100000 in
set_option maxHeartbeats 8000000 in
theorem eget_loop (b off len cap n first A0 : Nat) (bs : List Nat) (w : World) (out : List En.E) (G : Option (List En.E × Nat))
    (hall : Calls Try.prog 32 #[.slice (some ⟨b, off, none⟩) len cap, .int .i64 2] w (AllRes w ([n, first], A0, 0)))
    (hAl : A0 ≤ len) (hlc : len ≤ cap) (hbig : len ≤ 10000) (hn16 : n ≤ 16) (hf : first ≤ 2147483647) (hr : Row .u8 w (some ⟨b, off, none⟩) len bs)
    (HG : Hid (G = En.sc n bs A0 (first : Int) [])) (HO0 : Hid (G = none → out = [])) (HO1 : Hid (∀ l A, G = some (l, A) → out = if A = len ∧ En.batch l = true then l else [])) :
    Calls Try.prog 15 #[.slice (some ⟨b, off, none⟩) len cap] w (EGetRes w out) := by
  have hlen : Hid (bs.length = len) := hr.1
  have hsm : Hid (∀ x ∈ bs, x < 256) := hr.2.2.1
  have hone : ∀ W a' z c' A, Below w.heap.size w W → A ≤ len → z = len - A → ((z = 0 ∧ c' = 0) ∨ (a' = some ⟨b, off + A, none⟩ ∧ c' = cap - A)) → Calls Try.prog 33 #[.slice a' z c'] W (PEnt W (En.one (bs.drop A) 0)) := fun W a' z c' A hW hA hz hc => by
    have h1 := (hr.below hW (Nat.le_refl _)).drop A (by omega)
    rcases hc with ⟨rfl, rfl⟩ | ⟨rfl, rfl⟩
    · exact getentry_any a' 0 0 _ W (Nat.le_refl _) (by omega) ⟨by rw [List.length_drop, hlen.out]; omega, by omega, h1.2.2.1, .inl rfl⟩
    · subst hz
      exact getentry_any _ _ _ _ W (by omega) (by omega) h1
  unfold AllRes at hall
  simp only [List.length_cons, List.length_nil, Nat.zero_add] at hall
  have hs2 : ∀ x ∈ [n, first], x < lim .u64 := by intro x hx; simp only [List.mem_cons, List.not_mem_nil, or_false] at hx; show x < 18446744073709551616; omega
  have hd1 : decide (16 < (n : Int)) = false := by simp; omega
  have hd2 : decide (2147483647 < (first : Int)) = false := by simp; omega
  have i1 : IntKind.i64.wrap (n : Int) = (n : Int) := by rw [IntKind.wrap_i64]; omega
  have i2 : IntKind.i64.wrap (first : Int) = (first : Int) := by rw [IntKind.wrap_i64]; omega
  obtain ⟨i0, hi0, hz0, hz1, hz2⟩ := info_parts Try.info34
  clear hr
  go_enter Try.func15, Try.ntmps15
  go_wp2_with (first
    | (go_at_call 32; go_must (refine hall.mono ?_; rintro e w1 ⟨a1, c1, rfl, hown1, hbel1⟩; obtain ⟨b1, o1, rfl, hc1⟩ := (row_of_owns hown1 hs2 (by omega)).1.at (by omega); have hx0 := hc1 0 (by omega); rw [Nat.add_zero] at hx0; simp only [List.getD_cons_zero] at hx0; have hx1 := hc1 1 (by omega); simp only [List.getD_cons_succ, List.getD_cons_zero] at hx1))
    | (at_make; go_must (refine make_full _ rfl _ _ 22 rfl w1.heap.size 34 i0 _ 10 Try.underlying22 hi0 hz0 hz1 .i64 .i64 n rfl rfl (by rw [hz2]; omega) (by unfold maxLen; omega) (Nat.le_refl _) ?_; intro w2 hmade hbel2)))
  obtain ⟨g, hg⟩ : ∃ g, g = w1.heap.size := ⟨_, rfl⟩
  rw [← hg] at hmade ⊢
  have hgB : w1.heap.size ≤ g := by omega
  have Hg : Hid (g = w1.heap.size) := hg
  clear hg hall hi0 hz0 hz1 hz2 hc1 hx0
  obtain ⟨rest0, hmade⟩ : ∃ r, w2.ownsRow w1.heap.size 34 10 (.slice (some ⟨g, 0, none⟩) n n) n r := ⟨_, hmade.mono hgB⟩
  go_loopw [5, 37] (fun at' i wr => ∃ (j A : Nat) (es : List En.E) (cs rest : List Value), j ≤ n ∧ A ≤ len ∧ i = .int .i64 j ∧ at' = .int .i64 A ∧ wr.ownsRow w1.heap.size 34 10 (.slice (some ⟨g, 0, none⟩) n n) n (cs ++ rest) ∧ Hid (EHeld wr w1.heap.size es cs) ∧ Hid (es.length = j) ∧ Hid (∀ e ∈ es, e.2.2.2.1.length ≤ 200 ∧ e.2.2.2.2.2.1.length ≤ 200) ∧ Below w1.heap.size w1 wr ∧ Hid (G = En.sc (n - j) bs A ((first : Int) + (j : Int)) es)) (fun _ i _ => n - (intOf i).toNat)
  case atStart => exact ⟨0, A0, [], [], rest0, by omega, hAl, rfl, rfl, by simpa using hmade, (rfl : EHeld _ _ [] []), (rfl : ([] : List En.E).length = 0), (fun e he => (by cases he) : ∀ e ∈ ([] : List En.E), e.2.2.2.1.length ≤ 200 ∧ e.2.2.2.2.2.1.length ≤ 200), hbel2, (by rw [HG.out]; simp : G = En.sc (n - 0) bs A0 ((first : Int) + ((0 : Nat) : Int)) [])⟩
  case round =>
    obtain ⟨j, A, es, cs, rest, hj, hA, rfl, rfl, hown, hheld, hlj, hall2, hbel, HS⟩ := hrel
    clear hmade hbel2
    have hbw := hbel1.trans (hbel.mono hbel1.size)
    by_cases hlt : j < n
    · obtain ⟨I, hI⟩ : ∃ I : Nat, I = first + j := ⟨_, rfl⟩
      have jI : IntKind.i64.wrap ((first : Int) + (j : Int)) = (I : Int) := by rw [IntKind.wrap_i64]; omega
      have jj : (j : Int) < (n : Int) := by omega
      have j0 : (0 : Int) ≤ (j : Int) := by omega
      have jA : (A : Int) ≤ (len : Int) := by omega
      have jB : (A : Int) ≤ (cap : Int) := by omega
      have jC : (len : Int) ≤ (cap : Int) := by omega
      have HS1 : Hid (G = if (En.one (bs.drop A) 0).2 = 0 then none else En.sc (n - (j + 1)) bs (A + (En.one (bs.drop A) 0).2) ((first : Int) + ((j + 1 : Nat) : Int)) (es ++ [((I : Int), (En.one (bs.drop A) 0).1.2)])) := by
        have : G = if (En.one (bs.drop A) 0).2 = 0 then none else En.sc (n - (j + 1)) bs (A + (En.one (bs.drop A) 0).2) ((first : Int) + ((j + 1 : Nat) : Int)) (es ++ [((I : Int), (En.one (bs.drop A) 0).1.2)]) := by
          rw [HS.out, show n - j = n - (j + 1) + 1 by omega, En.sc, show (first : Int) + (j : Int) = (I : Int) by omega, show (first : Int) + ((j + 1 : Nat) : Int) = (I : Int) + 1 by omega, En.one_ix (bs.drop A) (I : Int)]
          by_cases h0 : (En.one (bs.drop A) 0).2 = 0
          · rw [if_pos h0, if_pos h0]; rfl
          · rw [if_neg h0, if_neg h0]
        exact this
      have hft := En.one_fits (bs := bs.drop A) (ix := (I : Int)) (fun x hx => hsm.out x (List.mem_of_mem_drop hx)) (by omega)
      have hix := En.one_ix (bs.drop A) (I : Int)
      have hle := En.one_le (bs.drop A) 0
      rw [List.length_drop, hlen.out] at hle
      have ho := fun W a' z c' (h1 : Below w.heap.size w W) (h2 : z = len - A) h3 => hone W a' z c' A h1 hA h2 h3
      unfold PEnt at ho
      rw [hix] at hft
      clear HS hone hI hix
      generalize En.one (bs.drop A) 0 = R at *
      obtain ⟨⟨xi, xt, xk, xkey, xf, xv, ps, py, pl, pm⟩, long⟩ := R
      simp only [ev] at ho hft hle HS1
      rcases Nat.eq_zero_or_pos long with h0 | h0
      · subst h0
        have H : Hid (out = []) := HO0.out (by rw [HS1.out, if_pos rfl])
        rw [code_zero] at ho
        clear HS1 HO0 HO1 HG hft
        by_cases hcA : cap = A
        · subst hcA
          obtain rfl : len = cap := by omega
          go_wp2_with (go_at_call 33; go_must (refine (ho _ _ 0 0 hbw (by omega) (.inl ⟨rfl, rfl⟩)).mono ?_; rintro e w3 ⟨s3, a3, c3, rfl, hk3, r3, n3, ow3, hbel3⟩))
          go_ret2
          exact eget_nil H.out ((hbw.trans (hbel3.mono hbw.size)).alloc (Nat.le_trans hbw.size hbel3.size) _)
        · go_wp2_with (go_at_call 33; go_must (refine (ho _ _ _ _ hbw (by omega) (.inr ⟨rfl, by omega⟩)).mono ?_; rintro e w3 ⟨s3, a3, c3, rfl, hk3, r3, n3, ow3, hbel3⟩))
          go_ret2
          exact eget_nil H.out ((hbw.trans (hbel3.mono hbw.size)).alloc (Nat.le_trans hbw.size hbel3.size) _)
      · have hcl : code long = 0 := by unfold code; rw [if_neg (by omega)]
        rw [hcl] at ho
        rw [if_neg (by omega)] at hft
        simp only at hft
        obtain ⟨A2, hA2⟩ : ∃ A2 : Nat, A2 = A + long := ⟨_, rfl⟩
        have jA2 : IntKind.i64.wrap ((A : Int) + (long : Int)) = (A2 : Int) := by rw [IntKind.wrap_i64]; omega
        have H : Hid (G = En.sc (n - (j + 1)) bs A2 ((first : Int) + ((j + 1 : Nat) : Int)) (es ++ [((I : Int), xt, xk, xkey, xf, xv, ps, py, pl, pm)])) := (by rw [HS1.out, if_neg (by omega), hA2] : G = En.sc (n - (j + 1)) bs A2 ((first : Int) + ((j + 1 : Nat) : Int)) (es ++ [((I : Int), xt, xk, xkey, xf, xv, ps, py, pl, pm)]))
        have hA2l : A2 ≤ len := by omega
        have hcA : ¬ (cap = A) := by omega
        have hcsl : Hid (cs.length = j * 10) := (by rw [hheld.out.length, hlj.out] : cs.length = j * 10)
        have hrl : Hid (10 ≤ rest.length) := (by have h1 := hown.1; rw [List.length_append, hcsl.out] at h1; omega : 10 ≤ rest.length)
        clear HS1 HO0 HO1 HG hA2 hcl
        obtain ⟨d0, d1, d2, d3, d4, d5, d6, d7, d8, d9, e0, e1, e2, e3, e4, e5, e6, e7, e8, e9⟩ := ten_of hcsl.out hrl.out
        have hle0 : Hid (_) := (⟨e0, e1, e2, e3, e4, e5, e6, e7, e8, e9⟩ : _ ∧ _ ∧ _ ∧ _ ∧ _ ∧ _ ∧ _ ∧ _ ∧ _ ∧ _)
        clear e0 e1 e2 e3 e4 e5 e6 e7 e8 e9
        go_wp2_with (go_at_call 33; go_must (refine (ho _ _ _ _ hbw (by omega) (.inr ⟨rfl, by omega⟩)).mono ?_; rintro e w3 ⟨s3, a3, c3, rfl, hk3, r3, n3, ow3, hbel3⟩; have hown3 := owns_below hown hbel3; have hb13 := hbel.trans (hbel3.mono hbel.size); have hy1 := (hb13.cell (p := ⟨b1, o1 + 1, none⟩) (cell_lt hx1)).trans hx1; obtain ⟨e0, e1, e2, e3, e4, e5, e6, e7, e8, e9⟩ := hle0.out; have y0 := fun o => (own_cells (hown3.alloc o) e0).1; have f0 := fun o => (own_cells (hown3.alloc o) e0).2; have y1 := fun o => (own_cells (hown3.alloc o) e1).1; have f1 := fun o => (own_cells (hown3.alloc o) e1).2; have y2 := fun o => (own_cells (hown3.alloc o) e2).1; have f2 := fun o => (own_cells (hown3.alloc o) e2).2; have y3 := fun o => (own_cells (hown3.alloc o) e3).1; have f3 := fun o => (own_cells (hown3.alloc o) e3).2; have y4 := fun o => (own_cells (hown3.alloc o) e4).1; have f4 := fun o => (own_cells (hown3.alloc o) e4).2; have y5 := fun o => (own_cells (hown3.alloc o) e5).1; have f5 := fun o => (own_cells (hown3.alloc o) e5).2; have y6 := fun o => (own_cells (hown3.alloc o) e6).1; have f6 := fun o => (own_cells (hown3.alloc o) e6).2; have y7 := fun o => (own_cells (hown3.alloc o) e7).1; have f7 := fun o => (own_cells (hown3.alloc o) e7).2; have y8 := fun o => (own_cells (hown3.alloc o) e8).1; have f8 := fun o => (own_cells (hown3.alloc o) e8).2; have y9 := fun o => (own_cells (hown3.alloc o) e9).1; have f9 := fun o => (own_cells (hown3.alloc o) e9).2; clear e0 e1 e2 e3 e4 e5 e6 e7 e8 e9; have hz1 := fun o => (cell_past w3 o ⟨b1, o1 + 1, none⟩ (cell_lt hy1)).trans hy1))
        have hbase : w1.heap.size ≤ wr.heap.size := hbel.size
        have hsz3 : s3.size ≤ maxLen := by
          have h1 := kb_len s3
          have h2 := hft.2.1
          rw [hk3] at h1
          unfold maxLen
          omega
        have hownE := hown3.alloc (.cells #[.int .i64 (I : Nat), .int .i64 xt, .int .i64 xk, .string s3, .bool xf, .slice a3 xv.length c3, .int .i64 ps, .int .i64 py, .int .i64 pl, .int .u32 (pm : Nat)] 34)
        have hown5 := (own_store (own_store (own_store (own_store (own_store (own_store (own_store (own_store (own_store (own_store hownE (j * 10) (.int .i64 (I : Nat))) (j * 10 + 1) (.int .i64 xt)) (j * 10 + 2) (.int .i64 xk)) (j * 10 + 3) (.string s3)) (j * 10 + 4) (.bool xf)) (j * 10 + 5) (.slice a3 xv.length c3)) (j * 10 + 6) (.int .i64 ps)) (j * 10 + 7) (.int .i64 py)) (j * 10 + 8) (.int .i64 pl)) (j * 10 + 9) (.int .u32 (pm : Nat)))
        rw [set_ten cs rest j hcsl.out hrl.out] at hown5
        have hgr5 := (((((((((((turned_set _ g (j * 10) (.int .i64 (I : Nat))).trans (turned_set _ g (j * 10 + 1) (.int .i64 xt))).trans (turned_set _ g (j * 10 + 2) (.int .i64 xk))).trans (turned_set _ g (j * 10 + 3) (.string s3))).trans (turned_set _ g (j * 10 + 4) (.bool xf))).trans (turned_set _ g (j * 10 + 5) (.slice a3 xv.length c3))).trans (turned_set _ g (j * 10 + 6) (.int .i64 ps))).trans (turned_set _ g (j * 10 + 7) (.int .i64 py))).trans (turned_set _ g (j * 10 + 8) (.int .i64 pl))).trans (turned_set _ g (j * 10 + 9) (.int .u32 (pm : Nat)))) : World.grownBy (w3.alloc (.cells #[.int .i64 (I : Nat), .int .i64 xt, .int .i64 xk, .string s3, .bool xf, .slice a3 xv.length c3, .int .i64 ps, .int .i64 py, .int .i64 pl, .int .u32 (pm : Nat)] 34)) _ _)
        have owE := (ow3.mono hbase).alloc (.cells #[.int .i64 (I : Nat), .int .i64 xt, .int .i64 xk, .string s3, .bool xf, .slice a3 xv.length c3, .int .i64 ps, .int .i64 py, .int .i64 pl, .int .u32 (pm : Nat)] 34)
        have ow5 := owE.kept hgr5 (own_apart owE hownE (by decide))
        have hhE := (hheld.out.below hbel3).below (below_alloc w3 (.cells #[.int .i64 (I : Nat), .int .i64 xt, .int .i64 xk, .string s3, .bool xf, .slice a3 xv.length c3, .int .i64 ps, .int .i64 py, .int .i64 pl, .int .u32 (pm : Nat)] 34))
        have hh5 := hhE.grown hownE (by decide) hgr5
        have hh6 := EHeld.snoc (e := ((I : Int), xt, xk, xkey, xf, xv, ps, py, pl, pm)) (s := s3) (A := a3) (C := c3) ⟨hk3, hsz3, ow5, r3.2.2.1, Nat.le_trans hft.2.2 (by omega), hft.1⟩ hh5
        have hh7 : Hid (_) := hh6
        have hbE := hb13.alloc hb13.size (.cells #[.int .i64 (I : Nat), .int .i64 xt, .int .i64 xk, .string s3, .bool xf, .slice a3 xv.length c3, .int .i64 ps, .int .i64 py, .int .i64 pl, .int .u32 (pm : Nat)] 34)
        have hb5 := hbE.grown hgr5 hbE.size (fun k hk => by cases hk; exact hgB)
        have hl5 : Hid ((es ++ [((I : Int), xt, xk, xkey, xf, xv, ps, py, pl, pm)]).length = j + 1) := (by rw [List.length_append, hlj.out]; rfl : (es ++ [((I : Int), xt, xk, xkey, xf, xv, ps, py, pl, pm)]).length = j + 1)
        have ha5 : Hid (∀ e ∈ es ++ [((I : Int), xt, xk, xkey, xf, xv, ps, py, pl, pm)], e.2.2.2.1.length ≤ 200 ∧ e.2.2.2.2.2.1.length ≤ 200) := (by
          intro e he
          rcases List.mem_append.mp he with he | he
          · exact hall2.out e he
          · obtain rfl := List.mem_singleton.mp he
            exact ⟨Nat.le_trans hft.2.1 (by omega), Nat.le_trans hft.2.2 (by omega)⟩ : ∀ e ∈ es ++ [((I : Int), xt, xk, xkey, xf, xv, ps, py, pl, pm)], e.2.2.2.1.length ≤ 200 ∧ e.2.2.2.2.2.1.length ≤ 200)
        clear hh6 hh5 hhE owE hft hsz3 hbE hgr5 hownE ow5
        go_roundw
        case rel => exact ⟨j + 1, A2, _, _, rest.drop 10, by omega, hA2l, by go_num, rfl, hown5, hh7, hl5, ha5, hb5, H⟩
        case measure => simp [intOf]; omega
    · obtain rfl : j = n := by omega
      have hrn : rest = [] := by
        have h1 := hown.1
        rw [List.length_append, hheld.out.length, hlj.out] at h1
        exact List.length_eq_zero_iff.mp (by omega)
      subst hrn
      rw [List.append_nil] at hown
      have HE : Hid (out = if A = len ∧ En.batch es = true then es else []) := HO1.out es A (by rw [HS.out, Nat.sub_self]; rfl)
      have hrow := erow_of_owns hown hheld.out (by omega)
      have hbat := ebatchC _ j j es wr ⟨by rw [hlj.out]; omega, hall2.out⟩ hrow.1 hrow.2.2
      have hpos : Hid (En.batch es = true → 0 < j) := (fun h => by have := ((En.batch_iff es).mp h).2.1; rw [hlj.out] at this; exact this : En.batch es = true → 0 < j)
      clear HO0 HO1 HG HS hone hheld
      by_cases hAe : A = len
      · subst hAe
        have hdA : decide ((A : Int) < (A : Int)) = false := by simp
        cases hB : En.batch es with
        | true =>
          rw [hB, show ecode true = 0 from rfl] at hbat
          have H : Hid (out = es) := (by rw [HE.out, if_pos ⟨rfl, hB⟩] : out = es)
          have hp := hpos.out hB
          clear HE hB hpos
          go_wp2_with (go_at_call 12; go_must (refine hbat.mono ?_; rintro e w3 ⟨rfl, hbel3⟩))
          go_ret2
          exact eget_some H.out hrow.2.1 hp (hrow.1.below hbel3 (Nat.le_refl _)) hrow.2.2 (hbw.trans (hbel3.mono hbw.size))
        | false =>
          rw [hB, show ecode false = 1 from rfl] at hbat
          have H : Hid (out = []) := (by rw [HE.out, if_neg (by rw [hB]; simp)] : out = [])
          clear HE hB hpos
          go_wp2_with (go_at_call 12; go_must (refine hbat.mono ?_; rintro e w3 ⟨rfl, hbel3⟩))
          go_ret2
          exact eget_nil H.out (hbw.trans (hbel3.mono hbw.size))
      · have hdA : decide ((A : Int) < (len : Int)) = true := by simp; omega
        have H : Hid (out = []) := (by rw [HE.out, if_neg (fun h => hAe h.1)] : out = [])
        clear HE hpos
        go_wp2
        go_ret2
        exact eget_nil H.out hbw

theorem egetC : EGetC := by
  intro a len cap bs w hshape hlc hbig hr hnil
  have hlen := hr.1
  obtain ⟨u, k, e1⟩ : ∃ u k, Va.get bs = (u, k) := ⟨_, _, rfl⟩
  obtain ⟨f, m, e2⟩ : ∃ f m, Va.get (bs.drop k) = (f, m) := ⟨_, _, rfl⟩
  have hk := Va.get_le (bs := bs)
  rw [e1, hlen] at hk
  have hm := Va.get_le (bs := bs.drop k)
  rw [e2, List.length_drop, hlen] at hm
  have hu := Va.get_lt bs
  rw [e1] at hu
  have hf := Va.get_lt (bs.drop k)
  rw [e2] at hf
  simp only at hk hm hu hf
  have hall := all_any a len cap bs 2 w (by omega) (by omega) hshape hr
  obtain ⟨A0, A1⟩ := Va.all_two e1 e2
  obtain ⟨G0, G1⟩ := En.get_prog e1 e2
  by_cases h : k = 0 ∨ m = 0 ∨ 16 < u ∨ 2147483647 < f
  · exact eget_none a len cap u k f m _ w _ (G0 h) hall A0 A1 hu hf h
  · obtain ⟨b, off, rfl, _⟩ := hr.at (by omega)
    rw [A1 (by omega)] at hall
    rw [G1 h]
    refine eget_loop b off len cap u f (k + m) bs w _ (En.sc u bs (k + m) (f : Int) []) hall (by omega) hlc hbig (by omega) (by omega) hr rfl ?_ ?_
    · have : En.sc u bs (k + m) (f : Int) [] = none → (match En.sc u bs (k + m) (f : Int) [] with | none => [] | some (l, at') => if at' = bs.length ∧ En.batch l = true then l else []) = [] := by
        intro hg; rw [hg]
      exact this
    · have : ∀ l A, En.sc u bs (k + m) (f : Int) [] = some (l, A) → (match En.sc u bs (k + m) (f : Int) [] with | none => [] | some (l, at') => if at' = bs.length ∧ En.batch l = true then l else []) = if A = len ∧ En.batch l = true then l else [] := by
        intro l A hg; rw [hg]; simp only [hlen]
      exact this
end Go.Proofs.Ytfejgedgmaljfaa
