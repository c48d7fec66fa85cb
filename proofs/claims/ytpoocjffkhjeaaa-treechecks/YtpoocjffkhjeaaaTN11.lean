/- What the program's walk, Scan and All do. -/
import Derived.Test.YtpoocjffkhjeaaaTN10
import Derived.Test.YtpoocjffkhjeaaaTN8
namespace Go.Proofs.Ytpoocjffkhjeaaa
open Go.RowKit

/-- what a walk tells: what is held then, and whether more is wanted -/
def WalkRes (w : World) (most : Int) (r : List It.I × Bool) (e : Ending) (V : World) : Prop := e = .returned (.bool r.2) ∧ ∃ a n c hs, ScSt w most V r.1 a n c hs

set_option maxRecDepth 100000 in
set_option maxHeartbeats 400000 in
theorem walk_nil (w : World) (most : Int) (lo hi : ByteArray) (V : World) (acc : List It.I) (a : Option Addr) (n c : Nat) (hs : List IH) (hS : ScSt w most V acc a n c hs) :
    Calls Try.prog 35 #[.pointer none, .string lo, .string hi, .func (.func 36) #[] #[.pointer (some ⟨w.heap.size + 1, 0, none⟩), .pointer (some ⟨w.heap.size, 0, none⟩)]] V (WalkRes w most (acc, true)) := by
  go_enter Try.func35, Try.ntmps35
  go_wp2
  go_ret
  exact ⟨rfl, a, n, c, hs, hS⟩

set_option maxRecDepth 100000 in
set_option maxHeartbeats 4000000 in
theorem walk_node {N : Nat → Prop} (w : World) (most : Int) (lo hi : ByteArray) (l r : Tn.T) (y : It.I) (v : Option Addr) (V : World) (acc : List It.I) (a : Option Addr) (n c : Nat) (hs : List IH) (hL : Lies N w v (.n l y r)) (hu : It.Up (l.list ++ y :: r.list)) (hmy : It.may y = true) (hS : ScSt w most V acc a n c hs) (hn : n + (l.list ++ y :: r.list).length ≤ 5000)
    (ihl : ∀ (v : Option Addr) (V : World) (acc : List It.I) (a : Option Addr) (n c : Nat) (hs : List IH), Lies N w v l → ScSt w most V acc a n c hs → n + l.list.length ≤ 5000 → Calls Try.prog 35 #[.pointer v, .string lo, .string hi, .func (.func 36) #[] #[.pointer (some ⟨w.heap.size + 1, 0, none⟩), .pointer (some ⟨w.heap.size, 0, none⟩)]] V (WalkRes w most (Tn.feed most acc (l.list.filter (It.inside (kb lo) (kb hi))))))
    (ihr : ∀ (v : Option Addr) (V : World) (acc : List It.I) (a : Option Addr) (n c : Nat) (hs : List IH), Lies N w v r → ScSt w most V acc a n c hs → n + r.list.length ≤ 5000 → Calls Try.prog 35 #[.pointer v, .string lo, .string hi, .func (.func 36) #[] #[.pointer (some ⟨w.heap.size + 1, 0, none⟩), .pointer (some ⟨w.heap.size, 0, none⟩)]] V (WalkRes w most (Tn.feed most acc (r.list.filter (It.inside (kb lo) (kb hi)))))) :
    Calls Try.prog 35 #[.pointer v, .string lo, .string hi, .func (.func 36) #[] #[.pointer (some ⟨w.heap.size + 1, 0, none⟩), .pointer (some ⟨w.heap.size, 0, none⟩)]] V (WalkRes w most (Tn.feed most acc ((l.list ++ y :: r.list).filter (It.inside (kb lo) (kb hi))))) := by
  obtain ⟨b, hy, vl, vr, rfl, hNb, hcb, hiy, hl, hr⟩ := hL
  obtain ⟨u1, u2, u3, u4⟩ := Tn.up_parts hu
  obtain ⟨_, _, m2⟩ := Tn.may_small hmy
  obtain ⟨R, hR⟩ : ∃ R, R = Tn.feed most acc ((l.list ++ y :: r.list).filter (It.inside (kb lo) (kb hi))) := ⟨_, rfl⟩
  rw [← hR]
  rw [Tn.filter_node, Tn.feed_append] at hR
  have HR : Hid (R = if (Tn.feed most acc (l.list.filter (It.inside (kb lo) (kb hi)))).2 = true then Tn.feed most (Tn.feed most acc (l.list.filter (It.inside (kb lo) (kb hi)))).1 ((if (It.ge y.1 (kb lo) && Tn.below (kb hi) y.1) = true then [y] else []) ++ r.list.filter (It.inside (kb lo) (kb hi))) else Tn.feed most acc (l.list.filter (It.inside (kb lo) (kb hi)))) := hR
  have HF1 : Hid (It.ge y.1 (kb lo) = false → l.list.filter (It.inside (kb lo) (kb hi)) = []) := (fun h => Tn.inside_low u3 h : It.ge y.1 (kb lo) = false → l.list.filter (It.inside (kb lo) (kb hi)) = [])
  have HF2 : Hid (Tn.below (kb hi) y.1 = false → r.list.filter (It.inside (kb lo) (kb hi)) = []) := (fun h => Tn.inside_high u4 h : Tn.below (kb hi) y.1 = false → r.list.filter (It.inside (kb lo) (kb hi)) = [])
  rw [List.length_append, List.length_cons] at hn
  have HL1 : Hid ((Tn.feed most acc (l.list.filter (It.inside (kb lo) (kb hi)))).1.length ≤ n + l.list.length) := (by
    have h1 := Tn.feed_len most acc (l.list.filter (It.inside (kb lo) (kb hi)))
    have h2 := List.length_filter_le (It.inside (kb lo) (kb hi)) l.list
    rw [hS.num] at h1
    omega : (Tn.feed most acc (l.list.filter (It.inside (kb lo) (kb hi)))).1.length ≤ n + l.list.length)
  have C0 : Hid (∀ V, Below w.heap.size w V → NCells V b hy vl vr (Tn.T.hgt (.n l y r))) := (fun V h => hcb.same (h.block b hcb.lt) : ∀ V, Below w.heap.size w V → NCells V b hy vl vr (Tn.T.hgt (.n l y r)))
  have hl1 : Op.bytesLess hy.key.toList lo.toList = !It.ge y.1 (kb lo) := by rw [less_kb, hiy.item.key]; simp [It.ge]
  have hl2 : Op.bytesLess hy.key.toList hi.toList = Na.lt y.1 (kb hi) := by rw [less_kb, hiy.item.key]
  have hhi : hi.toList.isEmpty = decide (kb hi = []) := by rw [isEmpty_kb]; exact decide_eq_decide.mpr (kb_nil hi).symm
  have hbl : Hid (Tn.below (kb hi) y.1 = (decide (kb hi = []) || Na.lt y.1 (kb hi))) := (rfl : Tn.below (kb hi) y.1 = (decide (kb hi = []) || Na.lt y.1 (kb hi)))
  have hi' := fun (W : World) (h : Below w.heap.size w W) => hiy.item.below h (Nat.le_refl _)
  have JL := fun (W : World) (acc : List It.I) (a : Option Addr) (n c : Nat) (hs : List IH) (h : ScSt w most W acc a n c hs) (hn : n + l.list.length ≤ 5000) => ihl vl W acc a n c hs hl h hn
  have JR := fun (W : World) (acc : List It.I) (a : Option Addr) (n c : Nat) (hs : List IH) (h : ScSt w most W acc a n c hs) (hn : n + r.list.length ≤ 5000) => ihr vr W acc a n c hs hr h hn
  clear hR hcb hiy hl hr ihl ihr hNb u1 u2 u3 u4 hu hmy
  obtain ⟨yk, yd, yf, ya, yn, yc, ⟨y1, y2, y3, y4⟩⟩ := hy
  simp only at hl1 hl2
  have K : Hid (∀ V, Below w.heap.size w V → V.cell? ⟨b, 0, none⟩ = some (.string yk) ∧ V.cell? ⟨b, 1, none⟩ = some (.bool yd) ∧ V.cell? ⟨b, 2, none⟩ = some (.bool yf) ∧ V.cell? ⟨b, 3, none⟩ = some (.slice ya yn yc) ∧ V.cell? ⟨b, 4, none⟩ = some (.int .i64 y1) ∧ V.cell? ⟨b, 5, none⟩ = some (.int .i64 y2) ∧ V.cell? ⟨b, 6, none⟩ = some (.int .i64 y3) ∧ V.cell? ⟨b, 7, none⟩ = some (.int .u32 (y4 : Nat)) ∧ V.cell? ⟨b, 8, none⟩ = some (.pointer vl) ∧ V.cell? ⟨b, 9, none⟩ = some (.pointer vr)) := (fun V h => by
    obtain ⟨⟨a0, a1, a2, a3, a4, a5, a6, a7⟩, a8, a9, _⟩ := C0.out V h
    simp only [Nat.zero_add] at a0 a1 a2 a3 a4 a5 a6 a7
    exact ⟨a0, a1, a2, a3, a4, a5, a6, a7, a8, a9⟩ : ∀ V, Below w.heap.size w V → V.cell? ⟨b, 0, none⟩ = some (.string yk) ∧ V.cell? ⟨b, 1, none⟩ = some (.bool yd) ∧ V.cell? ⟨b, 2, none⟩ = some (.bool yf) ∧ V.cell? ⟨b, 3, none⟩ = some (.slice ya yn yc) ∧ V.cell? ⟨b, 4, none⟩ = some (.int .i64 y1) ∧ V.cell? ⟨b, 5, none⟩ = some (.int .i64 y2) ∧ V.cell? ⟨b, 6, none⟩ = some (.int .i64 y3) ∧ V.cell? ⟨b, 7, none⟩ = some (.int .u32 (y4 : Nat)) ∧ V.cell? ⟨b, 8, none⟩ = some (.pointer vl) ∧ V.cell? ⟨b, 9, none⟩ = some (.pointer vr))
  clear C0
  obtain ⟨k0, k1, k2, k3, k4, k5, k6, k7, k8, k9⟩ := K.out V hS.below
  have jf0 := fun (W : World) (acc : List It.I) (a : Option Addr) (n c : Nat) (hs : List IH) (h : ScSt w most W acc a n c hs) (hf : most ≤ (n : Int)) => see_full w most W acc a n c hs ⟨yk, yd, yf, ya, yn, yc, (y1, y2, y3, y4)⟩ h hf
  have jm0 := fun (W : World) (acc : List It.I) (a : Option Addr) (n c : Nat) (hs : List IH) (h : ScSt w most W acc a n c hs) (hf : ¬ (most ≤ (n : Int))) (hn : n ≤ 100000) => see_more w most W acc a n c hs ⟨yk, yd, yf, ya, yn, yc, (y1, y2, y3, y4)⟩ y h hf (hi' W h.below) (by omega) hn
  clear hi'
  generalize l.list.filter (It.inside (kb lo) (kb hi)) = lf at *
  generalize r.list.filter (It.inside (kb lo) (kb hi)) = rf at *
  generalize decide (kb hi = []) = E0 at *
  generalize Na.lt y.1 (kb hi) = B0 at *
  generalize It.ge y.1 (kb lo) = FL at *
  obtain ⟨BH, hBH⟩ : ∃ BH, BH = Tn.below (kb hi) y.1 := ⟨_, rfl⟩
  rw [← hBH] at HR HF2 hbl
  clear hBH
  have HBH : Hid (BH = (E0 || B0)) := hbl
  clear hbl
  cases FL with
  | false =>
    obtain rfl : lf = [] := HF1.out rfl
    have HR2 : Hid (R = Tn.feed most acc rf) := (by rw [HR.out]; simp [Tn.feed] : R = Tn.feed most acc rf)
    clear HR HF1 HL1 JL jf0 jm0
    cases BH with
    | false =>
      obtain rfl : rf = [] := HF2.out rfl
      obtain rfl : R = (acc, true) := HR2.out
      obtain ⟨rfl, rfl⟩ : E0 = false ∧ B0 = false := by have := HBH.out; revert this; cases E0 <;> cases B0 <;> simp
      clear HR2 HF2 JR HBH
      go_enter Try.func35, Try.ntmps35
      go_wp2
      go_ret
      exact ⟨rfl, a, n, c, hs, hS⟩
    | true =>
      obtain rfl := HR2.out
      have jr := fun (W : World) (h : ScSt w most W acc a n c hs) => JR W acc a n c hs h (by omega)
      clear HR2 HF2 JR
      cases E0 with
      | true =>
        clear HBH
        go_enter Try.func35, Try.ntmps35
        go_wp2_with (go_at_call 35; have hz := hS; go_must (refine (jr _ hS).mono ?_; rintro e w3 ⟨rfl, hS3⟩))
        go_ret
        exact ⟨rfl, hS3⟩
      | false =>
        obtain rfl : B0 = true := by have := HBH.out; revert this; cases B0 <;> simp
        clear HBH
        go_enter Try.func35, Try.ntmps35
        go_wp2_with (go_at_call 35; have hz := hS; go_must (refine (jr _ hS).mono ?_; rintro e w3 ⟨rfl, hS3⟩))
        go_ret
        exact ⟨rfl, hS3⟩
  | true =>
    have jl := fun (W : World) (h : ScSt w most W acc a n c hs) => JL W acc a n c hs h (by omega)
    clear HF1 JL
    obtain ⟨⟨acc1, ok⟩, hR1⟩ : ∃ p : List It.I × Bool, Tn.feed most acc lf = p := ⟨_, rfl⟩
    rw [hR1] at jl HR HL1
    clear hR1
    cases ok with
    | false =>
      obtain rfl : R = (acc1, false) := HR.out
      clear HR JR jf0 jm0 HF2 HL1
      clear HBH
      cases E0 with
      | true =>
        go_enter Try.func35, Try.ntmps35
        go_wp2_with (go_at_call 35; have hz := hS; go_must (refine (jl _ hS).mono ?_; rintro e w1 ⟨rfl, a1, m1, c1, hs1, hS1⟩; clear hS hz; obtain ⟨u0, u1, u2, u3, u4, u5, u6, u7, u8, u9⟩ := K.out w1 hS1.below))
        go_ret
        exact ⟨rfl, a1, m1, c1, hs1, hS1⟩
      | false =>
        cases B0 with
        | true =>
          go_enter Try.func35, Try.ntmps35
          go_wp2_with (go_at_call 35; have hz := hS; go_must (refine (jl _ hS).mono ?_; rintro e w1 ⟨rfl, a1, m1, c1, hs1, hS1⟩; clear hS hz; obtain ⟨u0, u1, u2, u3, u4, u5, u6, u7, u8, u9⟩ := K.out w1 hS1.below))
          go_ret
          exact ⟨rfl, a1, m1, c1, hs1, hS1⟩
        | false =>
          go_enter Try.func35, Try.ntmps35
          go_wp2_with (go_at_call 35; have hz := hS; go_must (refine (jl _ hS).mono ?_; rintro e w1 ⟨rfl, a1, m1, c1, hs1, hS1⟩; clear hS hz; obtain ⟨u0, u1, u2, u3, u4, u5, u6, u7, u8, u9⟩ := K.out w1 hS1.below))
          go_ret
          exact ⟨rfl, a1, m1, c1, hs1, hS1⟩
    | true =>
      have HR2 : Hid (R = Tn.feed most acc1 ((if BH = true then [y] else []) ++ rf)) := (by rw [HR.out]; simp : R = Tn.feed most acc1 ((if BH = true then [y] else []) ++ rf))
      clear HR
      obtain ⟨n1, hn1⟩ : ∃ n1, n1 = acc1.length := ⟨_, rfl⟩
      have hn1l : n1 ≤ n + l.list.length := by rw [hn1]; exact HL1.out
      have HN1 : Hid (n1 = acc1.length) := hn1
      clear hn1 HL1
      cases BH with
      | false =>
        obtain rfl : rf = [] := HF2.out rfl
        obtain rfl : R = (acc1, true) := HR2.out
        obtain ⟨rfl, rfl⟩ : E0 = false ∧ B0 = false := by have := HBH.out; revert this; cases E0 <;> cases B0 <;> simp
        clear HR2 HF2 JR HBH jf0 jm0
        go_enter Try.func35, Try.ntmps35
        go_wp2_with (go_at_call 35; have hz := hS; go_must (refine (jl _ hS).mono ?_; rintro e w1 ⟨rfl, a1, m1, c1, hs1, hS1⟩; clear hS hz; obtain ⟨u0, u1, u2, u3, u4, u5, u6, u7, u8, u9⟩ := K.out w1 hS1.below))
        go_ret
        exact ⟨rfl, a1, m1, c1, hs1, hS1⟩
      | true =>
        by_cases hf : most ≤ (n1 : Int)
        · obtain rfl : R = (acc1, false) := by rw [HR2.out]; simp [Tn.feed, ← HN1.out, hf]
          have jf := fun (W : World) (a : Option Addr) (m1 c : Nat) (hs : List IH) (h : ScSt w most W acc1 a m1 c hs) => jf0 W acc1 a m1 c hs h (by rw [← h.num, ← HN1.out]; exact hf)
          clear HR2 HF2 JR jf0 jm0
          cases E0 with
          | true =>
            clear HBH
            go_enter Try.func35, Try.ntmps35
            go_wp2_with (first
            | (go_at_call 35; have hz := hS; go_must (refine (jl _ hS).mono ?_; rintro e w1 ⟨rfl, a1, m1, c1, hs1, hS1⟩; clear hS hz; obtain ⟨u0, u1, u2, u3, u4, u5, u6, u7, u8, u9⟩ := K.out w1 hS1.below))
            | (go_at_call 36; go_must (refine (jf _ _ _ _ _ hS1).mono ?_; rintro e w2 ⟨rfl, hS2⟩; obtain ⟨s0, s1, s2, s3, s4, s5, s6, s7, s8, s9⟩ := K.out w2 hS2.below)))
            go_ret
            exact ⟨rfl, a1, m1, c1, hs1, hS2⟩
          | false =>
            obtain rfl : B0 = true := by have := HBH.out; revert this; cases B0 <;> simp
            clear HBH
            go_enter Try.func35, Try.ntmps35
            go_wp2_with (first
            | (go_at_call 35; have hz := hS; go_must (refine (jl _ hS).mono ?_; rintro e w1 ⟨rfl, a1, m1, c1, hs1, hS1⟩; clear hS hz; obtain ⟨u0, u1, u2, u3, u4, u5, u6, u7, u8, u9⟩ := K.out w1 hS1.below))
            | (go_at_call 36; go_must (refine (jf _ _ _ _ _ hS1).mono ?_; rintro e w2 ⟨rfl, hS2⟩; obtain ⟨s0, s1, s2, s3, s4, s5, s6, s7, s8, s9⟩ := K.out w2 hS2.below)))
            go_ret
            exact ⟨rfl, a1, m1, c1, hs1, hS2⟩
        · obtain rfl : R = Tn.feed most (acc1 ++ [y]) rf := by rw [HR2.out]; simp [Tn.feed, ← HN1.out, hf]
          have jm := fun (W : World) (a : Option Addr) (m1 c : Nat) (hs : List IH) (h : ScSt w most W acc1 a m1 c hs) => jm0 W acc1 a m1 c hs h (by rw [← h.num, ← HN1.out]; exact hf) (by rw [← h.num, ← HN1.out]; omega)
          have jr := fun (W : World) (a : Option Addr) (m1 m2 c : Nat) (hs : List IH) (h : ScSt w most W (acc1 ++ [y]) a m2 c hs) => JR W (acc1 ++ [y]) a m2 c hs h (by rw [← h.num, List.length_append, ← HN1.out, List.length_singleton]; omega)
          clear HR2 HF2 JR jf0 jm0
          cases E0 with
          | true =>
            clear HBH
            go_enter Try.func35, Try.ntmps35
            go_wp2_with (first
            | (go_at_call 35; have hz := hS; go_must (refine (jl _ hS).mono ?_; rintro e w1 ⟨rfl, a1, m1, c1, hs1, hS1⟩; clear hS hz; obtain ⟨u0, u1, u2, u3, u4, u5, u6, u7, u8, u9⟩ := K.out w1 hS1.below))
            | (go_at_call 36; go_must (refine (jm _ _ _ _ _ hS1).mono ?_; rintro e w2 ⟨rfl, a2, c2, hs2, hS2⟩; obtain ⟨s0, s1, s2, s3, s4, s5, s6, s7, s8, s9⟩ := K.out w2 hS2.below))
            | (go_at_call 35; have hz := hS2; go_must (refine (jr _ _ 0 _ _ _ hS2).mono ?_; rintro e w3 ⟨rfl, hS3⟩)))
            go_ret
            exact ⟨rfl, hS3⟩
          | false =>
            obtain rfl : B0 = true := by have := HBH.out; revert this; cases B0 <;> simp
            clear HBH
            go_enter Try.func35, Try.ntmps35
            go_wp2_with (first
            | (go_at_call 35; have hz := hS; go_must (refine (jl _ hS).mono ?_; rintro e w1 ⟨rfl, a1, m1, c1, hs1, hS1⟩; clear hS hz; obtain ⟨u0, u1, u2, u3, u4, u5, u6, u7, u8, u9⟩ := K.out w1 hS1.below))
            | (go_at_call 36; go_must (refine (jm _ _ _ _ _ hS1).mono ?_; rintro e w2 ⟨rfl, a2, c2, hs2, hS2⟩; obtain ⟨s0, s1, s2, s3, s4, s5, s6, s7, s8, s9⟩ := K.out w2 hS2.below))
            | (go_at_call 35; have hz := hS2; go_must (refine (jr _ _ 0 _ _ _ hS2).mono ?_; rintro e w3 ⟨rfl, hS3⟩)))
            go_ret
            exact ⟨rfl, hS3⟩
end Go.Proofs.Ytpoocjffkhjeaaa
