/- What the reference's one does: the entry that bytes begin with. -/
import Derived.Test.YtfejgedgmaljfaaBEa
namespace Go.Proofs.Ytfejgedgmaljfaa
open Go.RowKit

def ROne (w : World) (R : En.E × Nat) (e : Ending) (w' : World) : Prop :=
  ∃ s a c, e = .returned (.tuple #[ev R.1.1 R.1.2.1 R.1.2.2.1 s R.1.2.2.2.2.1 a R.1.2.2.2.2.2.1.length c R.1.2.2.2.2.2.2, .int .i64 (R.2 : Nat)]) ∧ kb s = R.1.2.2.2.1 ∧ Row .u8 w' a R.1.2.2.2.2.2.1.length R.1.2.2.2.2.2.1 ∧ (a = none → R.1.2.2.2.2.2.1.length = 0 ∧ c = 0) ∧ w'.ownsRow w.heap.size 5 1 (.slice a R.1.2.2.2.2.2.1.length c) R.1.2.2.2.2.2.1.length (kcells .u8 R.1.2.2.2.2.2.1) ∧ Below w.heap.size w w'
theorem rone_zero {w W : World} {G : En.E × Nat} (hG : G = (En.zero, 0)) (hb : Below w.heap.size w W) : ROne w G (.returned (.tuple #[ev 0 0 0 ⟨#[]⟩ false none 0 0 Po.zero, .int .i64 0])) W := by
  subst hG
  exact ⟨⟨#[]⟩, none, 0, rfl, rfl, ⟨rfl, by simp [En.zero, Ce.zero], by simp [En.zero, Ce.zero], .inl rfl⟩, fun _ => ⟨rfl, rfl⟩, ⟨rfl, .inl ⟨rfl, rfl⟩⟩, hb⟩
theorem rone_some {w W : World} {G : En.E × Nat} {i t k : Int} {s : ByteArray} {key : List Nat} {f : Bool} {a : Option Addr} {n c m : Nat} {bs : List Nat} {p : Po.P} (hG : G = ((i, t, k, key, (f, bs, p)), m)) (hk : kb s = key) (hn : bs.length = n) (hr : Row .u8 W a n bs) (hnil : a = none → n = 0 ∧ c = 0) (hown : W.ownsRow w.heap.size 5 1 (.slice a n c) n (kcells .u8 bs)) (hb : Below w.heap.size w W) :
    ROne w G (.returned (.tuple #[ev i t k s f a n c p, .int .i64 (m : Nat)])) W := by
  subst hG; subst hn
  exact ⟨s, a, c, rfl, hk, hr, hnil, hown, hb⟩
theorem below_ten {w W : World} (h : Below w.heap.size w W) (v0 v1 v2 v3 v4 v5 v6 v7 v8 v9 : Value) : Below w.heap.size w ((((((((((W.setCell ⟨w.heap.size, 0, none⟩ v0).setCell ⟨w.heap.size, 1, none⟩ v1).setCell ⟨w.heap.size, 2, none⟩ v2).setCell ⟨w.heap.size, 3, none⟩ v3).setCell ⟨w.heap.size, 4, none⟩ v4).setCell ⟨w.heap.size, 5, none⟩ v5).setCell ⟨w.heap.size, 6, none⟩ v6).setCell ⟨w.heap.size, 7, none⟩ v7).setCell ⟨w.heap.size, 8, none⟩ v8).setCell ⟨w.heap.size, 9, none⟩ v9) := ((((((((((h.setCell (Nat.le_refl _) _).setCell (Nat.le_refl _) _).setCell (Nat.le_refl _) _).setCell (Nat.le_refl _) _).setCell (Nat.le_refl _) _).setCell (Nat.le_refl _) _).setCell (Nat.le_refl _) _).setCell (Nat.le_refl _) _).setCell (Nat.le_refl _) _).setCell (Nat.le_refl _) _)
theorem below_ten_alloc {w W : World} (h : Below w.heap.size w W) (v0 v1 v2 v3 v4 v5 v6 v7 v8 v9 : Value) (o : Obj) : Below w.heap.size w (((((((((((W.setCell ⟨w.heap.size, 0, none⟩ v0).setCell ⟨w.heap.size, 1, none⟩ v1).setCell ⟨w.heap.size, 2, none⟩ v2).setCell ⟨w.heap.size, 3, none⟩ v3).setCell ⟨w.heap.size, 4, none⟩ v4).setCell ⟨w.heap.size, 5, none⟩ v5).setCell ⟨w.heap.size, 6, none⟩ v6).setCell ⟨w.heap.size, 7, none⟩ v7).setCell ⟨w.heap.size, 8, none⟩ v8).setCell ⟨w.heap.size, 9, none⟩ v9).alloc o) := (below_ten h v0 v1 v2 v3 v4 v5 v6 v7 v8 v9).alloc (below_ten h v0 v1 v2 v3 v4 v5 v6 v7 v8 v9).size o
/-- a result's block of ten cells -/
theorem res_ten {w W : World} {c0 c1 c2 c3 c4 c5 c6 c7 c8 c9 : Value} {e : TypeId} (h : Below (w.alloc (.cells #[c0, c1, c2, c3, c4, c5, c6, c7, c8, c9] e)).heap.size (w.alloc (.cells #[c0, c1, c2, c3, c4, c5, c6, c7, c8, c9] e)) W) : (W.cell? ⟨w.heap.size, 0, none⟩ = some c0 ∧ W.cell? ⟨w.heap.size, 1, none⟩ = some c1 ∧ W.cell? ⟨w.heap.size, 2, none⟩ = some c2 ∧ W.cell? ⟨w.heap.size, 3, none⟩ = some c3 ∧ W.cell? ⟨w.heap.size, 4, none⟩ = some c4 ∧ W.cell? ⟨w.heap.size, 5, none⟩ = some c5 ∧ W.cell? ⟨w.heap.size, 6, none⟩ = some c6 ∧ W.cell? ⟨w.heap.size, 7, none⟩ = some c7 ∧ W.cell? ⟨w.heap.size, 8, none⟩ = some c8 ∧ W.cell? ⟨w.heap.size, 9, none⟩ = some c9) ∧ (W.frozen? ⟨w.heap.size, 0, none⟩ = false ∧ W.frozen? ⟨w.heap.size, 1, none⟩ = false ∧ W.frozen? ⟨w.heap.size, 2, none⟩ = false ∧ W.frozen? ⟨w.heap.size, 3, none⟩ = false ∧ W.frozen? ⟨w.heap.size, 4, none⟩ = false ∧ W.frozen? ⟨w.heap.size, 5, none⟩ = false ∧ W.frozen? ⟨w.heap.size, 6, none⟩ = false ∧ W.frozen? ⟨w.heap.size, 7, none⟩ = false ∧ W.frozen? ⟨w.heap.size, 8, none⟩ = false ∧ W.frozen? ⟨w.heap.size, 9, none⟩ = false) ∧ Below w.heap.size w W ∧ w.heap.size < W.heap.size := by
  have hl : w.heap.size < (w.alloc (.cells #[c0, c1, c2, c3, c4, c5, c6, c7, c8, c9] e)).heap.size := by simp
  have k : ∀ i, W.frozen? ⟨w.heap.size, i, none⟩ = false := fun i => (h.frozen (p := ⟨w.heap.size, i, none⟩) hl).trans (frozen_new w _ e i)
  exact ⟨(ten_keep h).1, ⟨k 0, k 1, k 2, k 3, k 4, k 5, k 6, k 7, k 8, k 9⟩, (ten_keep h).2.2, (ten_keep h).2.1⟩

set_option maxRecDepth 100000 in
set_option maxHeartbeats 4000000 in
theorem one_head (a : Option Addr) (len cap : Nat) (bs : List Nat) (ix : Int) (w : World) (hbig : len ≤ 100000) (hcap : len ≤ cap) (hr : Row .u8 w a len bs) (h : (En.number bs 2147483647).2 = 0 ∨ (En.number bs 2147483647).2 = len) :
    Calls Try.prog 35 #[.slice a len cap, .int .i64 ix] w (ROne w (En.one bs ix)) := by
  have hlen : Hid (bs.length = len) := hr.1
  have hb0 := below_alloc w (.cells #[.int .i64 0, .int .i64 0, .int .i64 0, .string ⟨#[]⟩, .bool false, .slice none 0 0, .int .i64 0, .int .i64 0, .int .i64 0, .int .u32 0] 34)
  have hnum := number_any a len cap 2147483647 bs _ hcap hbig (by omega) (hr.below hb0 (Nat.le_refl _))
  have H : Hid (En.one bs ix = (En.zero, 0)) := (by unfold En.one; rw [hlen.out, if_pos h] : En.one bs ix = (En.zero, 0))
  generalize En.one bs ix = G at *
  generalize En.number bs 2147483647 = R at *
  obtain ⟨t, n⟩ := R
  simp only at h hnum
  rcases h with rfl | rfl
  · go_enter Try.func35, Try.ntmps35
    go_wp2_with (go_at_call 34; go_must (refine hnum.mono ?_; rintro e w1 ⟨rfl, hbel1⟩; obtain ⟨⟨n0, n1, n2, n3, n4, n5, n6, n7, n8, n9⟩, ⟨f0, f1, f2, f3, f4, f5, f6, f7, f8, f9⟩, hb1, hs1⟩ := res_ten hbel1))
    exact bodyPost_ret (v := .tuple #[ev 0 0 0 ⟨#[]⟩ false none 0 0 Po.zero, .int .i64 0]) (by simp [ev, Po.zero, results, Try.results35, go_sem, n0, n1, n2, n3, n4, n5, n6, n7, n8, n9]) rfl (rone_zero H.out (below_ten hb1 _ _ _ _ _ _ _ _ _ _))
  · by_cases hn : n = 0
    · subst hn
      go_enter Try.func35, Try.ntmps35
      go_wp2_with (go_at_call 34; go_must (refine hnum.mono ?_; rintro e w1 ⟨rfl, hbel1⟩; obtain ⟨⟨n0, n1, n2, n3, n4, n5, n6, n7, n8, n9⟩, ⟨f0, f1, f2, f3, f4, f5, f6, f7, f8, f9⟩, hb1, hs1⟩ := res_ten hbel1))
      exact bodyPost_ret (v := .tuple #[ev 0 0 0 ⟨#[]⟩ false none 0 0 Po.zero, .int .i64 0]) (by simp [ev, Po.zero, results, Try.results35, go_sem, n0, n1, n2, n3, n4, n5, n6, n7, n8, n9]) rfl (rone_zero H.out (below_ten hb1 _ _ _ _ _ _ _ _ _ _))
    · have hd : ((n : Int) == 0) = false := by simp; omega
      go_enter Try.func35, Try.ntmps35
      go_wp2_with (go_at_call 34; go_must (refine hnum.mono ?_; rintro e w1 ⟨rfl, hbel1⟩; obtain ⟨⟨n0, n1, n2, n3, n4, n5, n6, n7, n8, n9⟩, ⟨f0, f1, f2, f3, f4, f5, f6, f7, f8, f9⟩, hb1, hs1⟩ := res_ten hbel1))
      exact bodyPost_ret (v := .tuple #[ev 0 0 0 ⟨#[]⟩ false none 0 0 Po.zero, .int .i64 0]) (by simp [ev, Po.zero, results, Try.results35, go_sem, n0, n1, n2, n3, n4, n5, n6, n7, n8, n9]) rfl (rone_zero H.out (below_ten hb1 _ _ _ _ _ _ _ _ _ _))

theorem number_most {bs : List Nat} {most : Nat} : (En.number bs most).1 ≤ most := by
  unfold En.number; split
  · omega
  · omega

set_option maxRecDepth 100000 in
set_option maxHeartbeats 4000000 in
theorem one_mid (a : Option Addr) (len cap : Nat) (bs : List Nat) (ix : Int) (w : World) (hbig : len ≤ 100000) (hcap : len ≤ cap) (hr : Row .u8 w a len bs) (h : ¬ ((En.number bs 2147483647).2 = 0 ∨ (En.number bs 2147483647).2 = len))
    (h2 : (En.number (bs.drop ((En.number bs 2147483647).2 + 1)) 64).2 = 0 ∨ len < (En.number bs 2147483647).2 + 1 + (En.number (bs.drop ((En.number bs 2147483647).2 + 1)) 64).2 + (En.number (bs.drop ((En.number bs 2147483647).2 + 1)) 64).1) (hlpos : 0 < len) :
    Calls Try.prog 35 #[.slice a len cap, .int .i64 ix] w (ROne w (En.one bs ix)) := by
  have hlen : Hid (bs.length = len) := hr.1
  have hb0 := below_alloc w (.cells #[.int .i64 0, .int .i64 0, .int .i64 0, .string ⟨#[]⟩, .bool false, .slice none 0 0, .int .i64 0, .int .i64 0, .int .i64 0, .int .u32 0] 34)
  have hnum := number_any a len cap 2147483647 bs _ hcap hbig (by omega) (hr.below hb0 (Nat.le_refl _))
  have hle1 := En.number_le bs 2147483647
  rw [hlen.out] at hle1
  obtain ⟨b, off, rfl, _⟩ := hr.at (by omega)
  have hrow1 : ∀ W a' l' c', Below w.heap.size w W → l' = len - ((En.number bs 2147483647).2 + 1) → ((l' = 0 ∧ c' = 0) ∨ (a' = some ⟨b, off + ((En.number bs 2147483647).2 + 1), none⟩ ∧ c' = cap - ((En.number bs 2147483647).2 + 1))) → Row .u8 W a' l' (bs.drop ((En.number bs 2147483647).2 + 1)) ∧ l' ≤ c' := fun W a' l' c' hW hl hc => by
    have h1 := (hr.below hW (Nat.le_refl _)).drop ((En.number bs 2147483647).2 + 1) (by omega)
    rcases hc with ⟨rfl, rfl⟩ | ⟨rfl, rfl⟩
    · exact ⟨⟨by rw [List.length_drop, hlen.out]; omega, by omega, h1.2.2.1, .inl rfl⟩, Nat.le_refl _⟩
    · subst hl
      exact ⟨h1, by omega⟩
  have hnum2 : ∀ W a' l' c', Below w.heap.size w W → l' = len - ((En.number bs 2147483647).2 + 1) → ((l' = 0 ∧ c' = 0) ∨ (a' = some ⟨b, off + ((En.number bs 2147483647).2 + 1), none⟩ ∧ c' = cap - ((En.number bs 2147483647).2 + 1))) → Calls Try.prog 34 #[.slice a' l' c', .int .u64 64] W fun e w' => e = .returned (.tuple #[.int .i64 ((En.number (bs.drop ((En.number bs 2147483647).2 + 1)) 64).1 : Nat), .int .i64 ((En.number (bs.drop ((En.number bs 2147483647).2 + 1)) 64).2 : Nat)]) ∧ Below W.heap.size W w' := fun W a' l' c' hW hl hc => by
    obtain ⟨h1, h2⟩ := hrow1 W a' l' c' hW hl hc
    exact number_any a' l' c' 64 _ W h2 (by omega) (by omega) h1
  have hkd := hr.cell (En.number bs 2147483647).2 (by omega)
  have hkd8 := getD_lt8 hr.2.2.1 (En.number bs 2147483647).2
  have H : Hid (En.one bs ix = (En.zero, 0)) := (by unfold En.one; rw [hlen.out, if_neg h, if_pos h2] : En.one bs ix = (En.zero, 0))
  have hm1 := number_most (bs := bs) (most := 2147483647)
  have hm2 := number_most (bs := bs.drop ((En.number bs 2147483647).2 + 1)) (most := 64)
  have hle2 := En.number_le (bs.drop ((En.number bs 2147483647).2 + 1)) 64
  rw [List.length_drop, hlen.out] at hle2
  generalize En.one bs ix = G at *
  clear hrow1
  generalize En.number bs 2147483647 = R at *
  obtain ⟨t, n⟩ := R
  simp only at h hnum hnum2 hkd hkd8 h2 hle1 hle2 hm1 hm2
  generalize bs.getD n 0 = kd at *
  generalize En.number (bs.drop (n + 1)) 64 = R2 at *
  obtain ⟨u, k⟩ := R2
  simp only at hnum2 h2 hle2 hm2
  have hd1 : ((n : Int) == 0) = false := by simp; omega
  have hd2 : ((n : Int) == (len : Int)) = false := by simp; omega
  have j1 : (0 : Int) ≤ (n : Int) := by omega
  have j2 : (n : Int) < (len : Int) := by omega
  have j3 : IntKind.i64.wrap ((n : Int) + 1) = (n : Int) + 1 := by rw [IntKind.wrap_i64]; omega
  have j4 : IntKind.i64.wrap ((n : Int) + 1 + (k : Int)) = (n : Int) + 1 + (k : Int) := by rw [IntKind.wrap_i64]; omega
  have j5 : IntKind.i64.wrap ((n : Int) + 1 + (k : Int) + (u : Int)) = (n : Int) + 1 + (k : Int) + (u : Int) := by rw [IntKind.wrap_i64]; omega
  have j6 : ((n : Int) + 1).toNat = n + 1 := by omega
  have j7 : (0 : Int) ≤ (n : Int) + 1 := by omega
  have j8 : (n : Int) + 1 ≤ (len : Int) := by omega
  have j9 : (len : Int) ≤ (cap : Int) := by omega
  have j10 : (n : Int) + 1 ≤ (cap : Int) := by omega
  have j11 : IntKind.i64.wrap (kd : Int) = (kd : Int) := by rw [IntKind.wrap_i64]; omega
  by_cases hc1 : cap = n + 1
  · obtain rfl : len = cap := by omega
    obtain rfl : k = 0 := by omega
    subst hc1
    go_enter Try.func35, Try.ntmps35
    go_wp2_with (first
      | (go_at_call 34; have := hB1; go_must (refine (hnum2 _ _ 0 0 hbE (by omega) (.inl ⟨rfl, rfl⟩)).mono ?_; rintro e w2 ⟨rfl, hbel2⟩; have hB1a := hB1.alloc hB1.size (.cells #[.int .i64 ix, .int .i64 (t : Nat), .int .i64 (kd : Nat), .string ⟨#[]⟩, .bool false, .slice none 0 0, .int .i64 0, .int .i64 0, .int .i64 0, .int .u32 0] 34); have hB2 := hB1a.trans (hbel2.mono hB1a.size); obtain ⟨⟨n0, n1, n2, n3, n4, n5, n6, n7, n8, n9⟩, ⟨f0, f1, f2, f3, f4, f5, f6, f7, f8, f9⟩, hb1, hs1⟩ := res_ten hB2))
      | (go_at_call 34; go_must (refine hnum.mono ?_; rintro e w1 ⟨rfl, hB1⟩; obtain ⟨_, _, hw1, hs1'⟩ := res_ten hB1; have hkd1 := (hw1.cell (p := ⟨b, off + n, none⟩) (cell_lt hkd)).trans hkd; have hbE := hw1.alloc hw1.size (.cells #[.int .i64 ix, .int .i64 (t : Nat), .int .i64 (kd : Nat), .string ⟨#[]⟩, .bool false, .slice none 0 0, .int .i64 0, .int .i64 0, .int .i64 0, .int .u32 0] 34))))
    exact bodyPost_ret (v := .tuple #[ev 0 0 0 ⟨#[]⟩ false none 0 0 Po.zero, .int .i64 0]) (by simp [ev, Po.zero, results, Try.results35, go_sem, n0, n1, n2, n3, n4, n5, n6, n7, n8, n9]) rfl (rone_zero H.out (below_ten hb1 _ _ _ _ _ _ _ _ _ _))
  · by_cases hk : k = 0
    · subst hk
      go_enter Try.func35, Try.ntmps35
      go_wp2_with (first
        | (go_at_call 34; have := hB1; go_must (refine (hnum2 _ _ _ _ hbE (by omega) (.inr ⟨rfl, by omega⟩)).mono ?_; rintro e w2 ⟨rfl, hbel2⟩; have hB1a := hB1.alloc hB1.size (.cells #[.int .i64 ix, .int .i64 (t : Nat), .int .i64 (kd : Nat), .string ⟨#[]⟩, .bool false, .slice none 0 0, .int .i64 0, .int .i64 0, .int .i64 0, .int .u32 0] 34); have hB2 := hB1a.trans (hbel2.mono hB1a.size); obtain ⟨⟨n0, n1, n2, n3, n4, n5, n6, n7, n8, n9⟩, ⟨f0, f1, f2, f3, f4, f5, f6, f7, f8, f9⟩, hb1, hs1⟩ := res_ten hB2))
        | (go_at_call 34; go_must (refine hnum.mono ?_; rintro e w1 ⟨rfl, hB1⟩; obtain ⟨_, _, hw1, hs1'⟩ := res_ten hB1; have hkd1 := (hw1.cell (p := ⟨b, off + n, none⟩) (cell_lt hkd)).trans hkd; have hbE := hw1.alloc hw1.size (.cells #[.int .i64 ix, .int .i64 (t : Nat), .int .i64 (kd : Nat), .string ⟨#[]⟩, .bool false, .slice none 0 0, .int .i64 0, .int .i64 0, .int .i64 0, .int .u32 0] 34))))
      exact bodyPost_ret (v := .tuple #[ev 0 0 0 ⟨#[]⟩ false none 0 0 Po.zero, .int .i64 0]) (by simp [ev, Po.zero, results, Try.results35, go_sem, n0, n1, n2, n3, n4, n5, n6, n7, n8, n9]) rfl (rone_zero H.out (below_ten hb1 _ _ _ _ _ _ _ _ _ _))
    · have hdk : ((k : Int) == 0) = false := by simp; omega
      have hdl : decide ((len : Int) < (n : Int) + 1 + (k : Int) + (u : Int)) = true := by simp; omega
      go_enter Try.func35, Try.ntmps35
      go_wp2_with (first
        | (go_at_call 34; have := hB1; go_must (refine (hnum2 _ _ _ _ hbE (by omega) (.inr ⟨rfl, by omega⟩)).mono ?_; rintro e w2 ⟨rfl, hbel2⟩; have hB1a := hB1.alloc hB1.size (.cells #[.int .i64 ix, .int .i64 (t : Nat), .int .i64 (kd : Nat), .string ⟨#[]⟩, .bool false, .slice none 0 0, .int .i64 0, .int .i64 0, .int .i64 0, .int .u32 0] 34); have hB2 := hB1a.trans (hbel2.mono hB1a.size); obtain ⟨⟨n0, n1, n2, n3, n4, n5, n6, n7, n8, n9⟩, ⟨f0, f1, f2, f3, f4, f5, f6, f7, f8, f9⟩, hb1, hs1⟩ := res_ten hB2))
        | (go_at_call 34; go_must (refine hnum.mono ?_; rintro e w1 ⟨rfl, hB1⟩; obtain ⟨_, _, hw1, hs1'⟩ := res_ten hB1; have hkd1 := (hw1.cell (p := ⟨b, off + n, none⟩) (cell_lt hkd)).trans hkd; have hbE := hw1.alloc hw1.size (.cells #[.int .i64 ix, .int .i64 (t : Nat), .int .i64 (kd : Nat), .string ⟨#[]⟩, .bool false, .slice none 0 0, .int .i64 0, .int .i64 0, .int .i64 0, .int .u32 0] 34))))
      exact bodyPost_ret (v := .tuple #[ev 0 0 0 ⟨#[]⟩ false none 0 0 Po.zero, .int .i64 0]) (by simp [ev, Po.zero, results, Try.results35, go_sem, n0, n1, n2, n3, n4, n5, n6, n7, n8, n9]) rfl (rone_zero H.out (below_ten hb1 _ _ _ _ _ _ _ _ _ _))
end Go.Proofs.Ytfejgedgmaljfaa

/- What the reference's one does where an entry is read whole. -/
namespace Go.Proofs.Ytfejgedgmaljfaa
open Go.RowKit

/-- a block of ten cells that may be written -/
def Ten (W : World) (g : Nat) (c0 c1 c2 c3 c4 c5 c6 c7 c8 c9 : Value) : Prop := (W.cell? ⟨g, 0, none⟩ = some c0 ∧ W.cell? ⟨g, 1, none⟩ = some c1 ∧ W.cell? ⟨g, 2, none⟩ = some c2 ∧ W.cell? ⟨g, 3, none⟩ = some c3 ∧ W.cell? ⟨g, 4, none⟩ = some c4 ∧ W.cell? ⟨g, 5, none⟩ = some c5 ∧ W.cell? ⟨g, 6, none⟩ = some c6 ∧ W.cell? ⟨g, 7, none⟩ = some c7 ∧ W.cell? ⟨g, 8, none⟩ = some c8 ∧ W.cell? ⟨g, 9, none⟩ = some c9) ∧ (W.frozen? ⟨g, 0, none⟩ = false ∧ W.frozen? ⟨g, 1, none⟩ = false ∧ W.frozen? ⟨g, 2, none⟩ = false ∧ W.frozen? ⟨g, 3, none⟩ = false ∧ W.frozen? ⟨g, 4, none⟩ = false ∧ W.frozen? ⟨g, 5, none⟩ = false ∧ W.frozen? ⟨g, 6, none⟩ = false ∧ W.frozen? ⟨g, 7, none⟩ = false ∧ W.frozen? ⟨g, 8, none⟩ = false ∧ W.frozen? ⟨g, 9, none⟩ = false)
theorem ten_new {w W : World} {c0 c1 c2 c3 c4 c5 c6 c7 c8 c9 : Value} {e : TypeId} (h : Below (w.alloc (.cells #[c0, c1, c2, c3, c4, c5, c6, c7, c8, c9] e)).heap.size (w.alloc (.cells #[c0, c1, c2, c3, c4, c5, c6, c7, c8, c9] e)) W) : Ten W w.heap.size c0 c1 c2 c3 c4 c5 c6 c7 c8 c9 := ⟨(res_ten h).1, (res_ten h).2.1⟩
theorem Ten.below {W W' : World} {g : Nat} {c0 c1 c2 c3 c4 c5 c6 c7 c8 c9 : Value} (h : Ten W g c0 c1 c2 c3 c4 c5 c6 c7 c8 c9) (hb : Below W.heap.size W W') (hg : g < W.heap.size) : Ten W' g c0 c1 c2 c3 c4 c5 c6 c7 c8 c9 := by
  obtain ⟨⟨k0, k1, k2, k3, k4, k5, k6, k7, k8, k9⟩, ⟨f0, f1, f2, f3, f4, f5, f6, f7, f8, f9⟩⟩ := h
  have k := fun i => hb.cell (p := ⟨g, i, none⟩) hg
  have f := fun i => hb.frozen (p := ⟨g, i, none⟩) hg
  exact ⟨⟨(k 0).trans k0, (k 1).trans k1, (k 2).trans k2, (k 3).trans k3, (k 4).trans k4, (k 5).trans k5, (k 6).trans k6, (k 7).trans k7, (k 8).trans k8, (k 9).trans k9⟩, ⟨(f 0).trans f0, (f 1).trans f1, (f 2).trans f2, (f 3).trans f3, (f 4).trans f4, (f 5).trans f5, (f 6).trans f6, (f 7).trans f7, (f 8).trans f8, (f 9).trans f9⟩⟩
theorem Ten.set3 {W : World} {g : Nat} {c0 c1 c2 c3 c4 c5 c6 c7 c8 c9 : Value} (h : Ten W g c0 c1 c2 c3 c4 c5 c6 c7 c8 c9) (v : Value) : Ten (W.setCell ⟨g, 3, none⟩ v) g c0 c1 c2 v c4 c5 c6 c7 c8 c9 := by
  obtain ⟨⟨k0, k1, k2, k3, k4, k5, k6, k7, k8, k9⟩, ⟨f0, f1, f2, f3, f4, f5, f6, f7, f8, f9⟩⟩ := h
  have k : ∀ i, i ≠ 3 → (W.setCell ⟨g, 3, none⟩ v).cell? ⟨g, i, none⟩ = W.cell? ⟨g, i, none⟩ := fun i hi => World.cell?_setCell_other _ _ _ _ (by intro e; simp only [Addr.mk.injEq] at e; omega)
  exact ⟨⟨(k 0 (by omega)).trans k0, (k 1 (by omega)).trans k1, (k 2 (by omega)).trans k2, World.cell?_setCell_same _ _ _ k3, (k 4 (by omega)).trans k4, (k 5 (by omega)).trans k5, (k 6 (by omega)).trans k6, (k 7 (by omega)).trans k7, (k 8 (by omega)).trans k8, (k 9 (by omega)).trans k9⟩, ⟨by rw [World.frozen?_setCell]; exact f0, by rw [World.frozen?_setCell]; exact f1, by rw [World.frozen?_setCell]; exact f2, by rw [World.frozen?_setCell]; exact f3, by rw [World.frozen?_setCell]; exact f4, by rw [World.frozen?_setCell]; exact f5, by rw [World.frozen?_setCell]; exact f6, by rw [World.frozen?_setCell]; exact f7, by rw [World.frozen?_setCell]; exact f8, by rw [World.frozen?_setCell]; exact f9⟩⟩
theorem Ten.far {W : World} {g g' : Nat} {c0 c1 c2 c3 c4 c5 c6 c7 c8 c9 : Value} (h : Ten W g c0 c1 c2 c3 c4 c5 c6 c7 c8 c9) (hne : g' ≠ g) (j : Nat) (v : Value) : Ten (W.setCell ⟨g', j, none⟩ v) g c0 c1 c2 c3 c4 c5 c6 c7 c8 c9 := by
  obtain ⟨⟨k0, k1, k2, k3, k4, k5, k6, k7, k8, k9⟩, ⟨f0, f1, f2, f3, f4, f5, f6, f7, f8, f9⟩⟩ := h
  have k : ∀ i, (W.setCell ⟨g', j, none⟩ v).cell? ⟨g, i, none⟩ = W.cell? ⟨g, i, none⟩ := fun i => World.cell?_setCell_other _ _ _ _ (by intro e; simp only [Addr.mk.injEq] at e; omega)
  exact ⟨⟨(k 0).trans k0, (k 1).trans k1, (k 2).trans k2, (k 3).trans k3, (k 4).trans k4, (k 5).trans k5, (k 6).trans k6, (k 7).trans k7, (k 8).trans k8, (k 9).trans k9⟩, ⟨by rw [World.frozen?_setCell]; exact f0, by rw [World.frozen?_setCell]; exact f1, by rw [World.frozen?_setCell]; exact f2, by rw [World.frozen?_setCell]; exact f3, by rw [World.frozen?_setCell]; exact f4, by rw [World.frozen?_setCell]; exact f5, by rw [World.frozen?_setCell]; exact f6, by rw [World.frozen?_setCell]; exact f7, by rw [World.frozen?_setCell]; exact f8, by rw [World.frozen?_setCell]; exact f9⟩⟩
theorem conv_zero (w : World) (a : Option Addr) (c : Nat) : (convert 27 9 (.slice a 0 c)).run Try.prog w = .ok (.string ⟨#[]⟩) w := by
  rw [run_convert_bytes_string w _ _ 5 _ _ _ Try.underlying27 Try.underlying5 Try.underlying9]
  cases a <;> simp [Conv.bytesToString, loadCells] <;> rfl
theorem row_ten {k : IntKind} {w W : World} {a : Option Addr} {n : Nat} {bs : List Nat} (h : Row k W a n bs) (hne : ∀ b off, a = some ⟨b, off, none⟩ → w.heap.size < b) (v0 v1 v2 v3 v4 v5 v6 v7 v8 v9 : Value) : Row k ((((((((((W.setCell ⟨w.heap.size, 0, none⟩ v0).setCell ⟨w.heap.size, 1, none⟩ v1).setCell ⟨w.heap.size, 2, none⟩ v2).setCell ⟨w.heap.size, 3, none⟩ v3).setCell ⟨w.heap.size, 4, none⟩ v4).setCell ⟨w.heap.size, 5, none⟩ v5).setCell ⟨w.heap.size, 6, none⟩ v6).setCell ⟨w.heap.size, 7, none⟩ v7).setCell ⟨w.heap.size, 8, none⟩ v8).setCell ⟨w.heap.size, 9, none⟩ v9) a n bs := ((((((((((h.set _ hne _ _).set _ hne _ _).set _ hne _ _).set _ hne _ _).set _ hne _ _).set _ hne _ _).set _ hne _ _).set _ hne _ _).set _ hne _ _).set _ hne _ _)
theorem own_ten {w W : World} {B n c s : Nat} {a : Option Addr} {xs : List Value} {e : TypeId} (h : W.ownsRow B e s (.slice a n c) n xs) (hne : ∀ b off, a = some ⟨b, off, none⟩ → w.heap.size < b) (v0 v1 v2 v3 v4 v5 v6 v7 v8 v9 : Value) : ((((((((((W.setCell ⟨w.heap.size, 0, none⟩ v0).setCell ⟨w.heap.size, 1, none⟩ v1).setCell ⟨w.heap.size, 2, none⟩ v2).setCell ⟨w.heap.size, 3, none⟩ v3).setCell ⟨w.heap.size, 4, none⟩ v4).setCell ⟨w.heap.size, 5, none⟩ v5).setCell ⟨w.heap.size, 6, none⟩ v6).setCell ⟨w.heap.size, 7, none⟩ v7).setCell ⟨w.heap.size, 8, none⟩ v8).setCell ⟨w.heap.size, 9, none⟩ v9).ownsRow B e s (.slice a n c) n xs := (own_set (own_set (own_set (own_set (own_set (own_set (own_set (own_set (own_set (own_set h _ hne _ _) _ hne _ _) _ hne _ _) _ hne _ _) _ hne _ _) _ hne _ _) _ hne _ _) _ hne _ _) _ hne _ _) _ hne _ _)
theorem row_cell6 {k : IntKind} {W : World} {g : Nat} {a : Option Addr} {n : Nat} {bs : List Nat} (h : Row k W a n bs) (hne : ∀ b off, a = some ⟨b, off, none⟩ → g < b) (v4 v5 v6 v7 v8 v9 : Value) : Row k ((((((W.setCell ⟨g, 4, none⟩ v4).setCell ⟨g, 5, none⟩ v5).setCell ⟨g, 6, none⟩ v6).setCell ⟨g, 7, none⟩ v7).setCell ⟨g, 8, none⟩ v8).setCell ⟨g, 9, none⟩ v9) a n bs := ((((((h.set _ hne _ _).set _ hne _ _).set _ hne _ _).set _ hne _ _).set _ hne _ _).set _ hne _ _)
theorem own_cell6 {W : World} {g B n c s : Nat} {a : Option Addr} {xs : List Value} {e : TypeId} (h : W.ownsRow B e s (.slice a n c) n xs) (hne : ∀ b off, a = some ⟨b, off, none⟩ → g < b) (v4 v5 v6 v7 v8 v9 : Value) : ((((((W.setCell ⟨g, 4, none⟩ v4).setCell ⟨g, 5, none⟩ v5).setCell ⟨g, 6, none⟩ v6).setCell ⟨g, 7, none⟩ v7).setCell ⟨g, 8, none⟩ v8).setCell ⟨g, 9, none⟩ v9).ownsRow B e s (.slice a n c) n xs := (own_set (own_set (own_set (own_set (own_set (own_set h _ hne _ _) _ hne _ _) _ hne _ _) _ hne _ _) _ hne _ _) _ hne _ _)
theorem below_cell6 {W : World} {g B : Nat} {w : World} (h : Below B w W) (hg : B ≤ g) (v4 v5 v6 v7 v8 v9 : Value) : Below B w ((((((W.setCell ⟨g, 4, none⟩ v4).setCell ⟨g, 5, none⟩ v5).setCell ⟨g, 6, none⟩ v6).setCell ⟨g, 7, none⟩ v7).setCell ⟨g, 8, none⟩ v8).setCell ⟨g, 9, none⟩ v9) := ((((((h.setCell hg _).setCell hg _).setCell hg _).setCell hg _).setCell hg _).setCell hg _)

set_option maxRecDepth 100000 in
set_option maxHeartbeats 4000000 in
theorem one_del (b off len cap : Nat) (ix : Int) (t n u k kd N1 A A1 : Nat) (v : List Nat) (w : World)
    (hnum : Calls Try.prog 34 #[.slice (some ⟨b, off, none⟩) len cap, .int .u64 2147483647] (w.alloc (.cells #[.int .i64 0, .int .i64 0, .int .i64 0, .string ⟨#[]⟩, .bool false, .slice none 0 0, .int .i64 0, .int .i64 0, .int .i64 0, .int .u32 0] 34)) fun e w' => e = .returned (.tuple #[.int .i64 (t : Nat), .int .i64 (n : Nat)]) ∧ Below (w.alloc (.cells #[.int .i64 0, .int .i64 0, .int .i64 0, .string ⟨#[]⟩, .bool false, .slice none 0 0, .int .i64 0, .int .i64 0, .int .i64 0, .int .u32 0] 34)).heap.size (w.alloc (.cells #[.int .i64 0, .int .i64 0, .int .i64 0, .string ⟨#[]⟩, .bool false, .slice none 0 0, .int .i64 0, .int .i64 0, .int .i64 0, .int .u32 0] 34)) w')
    (hnum2 : ∀ W z c', Below w.heap.size w W → z = len - N1 → c' = cap - N1 → Calls Try.prog 34 #[.slice (some ⟨b, off + N1, none⟩) z c', .int .u64 64] W fun e w' => e = .returned (.tuple #[.int .i64 (u : Nat), .int .i64 (k : Nat)]) ∧ Below W.heap.size W w')
    (hkd : w.cell? ⟨b, off + n, none⟩ = some (.int .u8 (kd : Nat))) (hkd8 : kd < 256) (hN1 : Hid (N1 = n + 1)) (hA : Hid (A = N1 + k)) (hA1 : Hid (A1 = A + u)) (hn0 : 0 < n) (hk0 : 0 < k) (hu : u ≤ 64) (hl : A1 ≤ len) (hbig : len ≤ 100000) (hcap : len ≤ cap)
    (hkey : ∀ W, Below w.heap.size w W → Row .u8 W (some ⟨b, off + A, none⟩) u v) (G : En.E × Nat) (HG : Hid (G = ((ix, (t : Int), (kd : Int), v, Ce.zero), A1))) (hk2 : kd = 2) (hc2 : ¬ (cap = A)) :
    Calls Try.prog 35 #[.slice (some ⟨b, off, none⟩) len cap, .int .i64 ix] w (ROne w G) := by

  have q1 := hN1.out
  have q2 := hA.out
  have q3 := hA1.out
  have j0 : n < len := by omega
  have j1 : (0 : Int) ≤ (n : Int) := by omega
  have j2 : (n : Int) < (len : Int) := by omega
  have hd1 : ((n : Int) == 0) = false := by simp; omega
  have hd2 : ((n : Int) == (len : Int)) = false := by simp; omega
  have j3 : IntKind.i64.wrap ((n : Int) + 1) = (N1 : Int) := by rw [IntKind.wrap_i64]; omega
  have j4 : IntKind.i64.wrap ((N1 : Int) + (k : Int)) = (A : Int) := by rw [IntKind.wrap_i64]; omega
  have j5 : IntKind.i64.wrap ((A : Int) + (u : Int)) = (A1 : Int) := by rw [IntKind.wrap_i64]; omega
  have j11 : IntKind.i64.wrap (kd : Int) = (kd : Int) := by rw [IntKind.wrap_i64]; omega
  have j6 : (N1 : Int) ≤ (len : Int) := by omega
  have j7 : (len : Int) ≤ (cap : Int) := by omega
  have j8 : (N1 : Int) ≤ (cap : Int) := by omega
  have j9 : (A : Int) ≤ (A1 : Int) := by omega
  have j10 : (A1 : Int) ≤ (cap : Int) := by omega
  have hdk : ((k : Int) == 0) = false := by simp; omega
  have hdl : decide ((len : Int) < (A1 : Int)) = false := by simp; omega
  have hc1 : ¬ (cap = N1) := by omega
  have z1 : A1 - A = u := by omega
  clear q1 q2 q3
  subst hk2
  have hv8 := (hkey w (Below.refl _ _)).2.2.1
  go_enter Try.func35, Try.ntmps35
  go_wp2_with (first
    | (go_at_call 34; have := hB1; go_must (refine (hnum2 _ _ _ hbE (by omega) (by omega)).mono ?_; rintro e w2 ⟨rfl, hbel2⟩; have hw2 := hbE.trans (hbel2.mono hbE.size); have hB1a := hB1.alloc hB1.size (.cells #[.int .i64 ix, .int .i64 (t : Nat), .int .i64 2, .string ⟨#[]⟩, .bool false, .slice none 0 0, .int .i64 0, .int .i64 0, .int .i64 0, .int .u32 0] 34); have hB2 := hB1a.trans (hbel2.mono hB1a.size); obtain ⟨⟨n0, n1, n2, n3, n4, n5, n6, n7, n8, n9⟩, ⟨f0, f1, f2, f3, f4, f5, f6, f7, f8, f9⟩⟩ := ten_new hB2; obtain ⟨⟨e0, e1, e2, e3, e4, e5, e6, e7, e8, e9⟩, ⟨g0, g1, g2, g3, g4, g5, g6, g7, g8, g9⟩⟩ := ten_new hbel2; have hs2 := hbel2.size; have hcv := conv_row (cap := cap - A) (hkey w2 hw2)))
    | (go_at_call 34; go_must (refine hnum.mono ?_; rintro e w1 ⟨rfl, hB1⟩; obtain ⟨_, _, hw1, hs1⟩ := res_ten hB1; have hkd1 := (hw1.cell (p := ⟨b, off + n, none⟩) (cell_lt hkd)).trans hkd; have hbE := hw1.alloc hw1.size (.cells #[.int .i64 ix, .int .i64 (t : Nat), .int .i64 2, .string ⟨#[]⟩, .bool false, .slice none 0 0, .int .i64 0, .int .i64 0, .int .i64 0, .int .u32 0] 34))))
  have hbs := hw2.setCell (p := ⟨w1.heap.size, 3, none⟩) (Nat.le_of_lt hs1) (.string (bstr v))
  exact bodyPost_ret (v := .tuple #[ev ix t 2 (bstr v) false none 0 0 Po.zero, .int .i64 (A1 : Nat)]) (by simp [ev, Po.zero, results, Try.results35, go_sem, n0, n1, n2, n3, n4, n5, n6, n7, n8, n9]) rfl (rone_some HG.out (kb_bstr hv8) rfl ⟨rfl, by omega, by simp, .inl rfl⟩ (fun _ => ⟨rfl, rfl⟩) ⟨rfl, .inl ⟨rfl, rfl⟩⟩ (below_ten hbs _ _ _ _ _ _ _ _ _ _))

set_option maxRecDepth 100000 in
set_option maxHeartbeats 4000000 in
theorem one_del0 (b off len cap : Nat) (ix : Int) (t n u k kd N1 A A1 : Nat) (v : List Nat) (w : World)
    (hnum : Calls Try.prog 34 #[.slice (some ⟨b, off, none⟩) len cap, .int .u64 2147483647] (w.alloc (.cells #[.int .i64 0, .int .i64 0, .int .i64 0, .string ⟨#[]⟩, .bool false, .slice none 0 0, .int .i64 0, .int .i64 0, .int .i64 0, .int .u32 0] 34)) fun e w' => e = .returned (.tuple #[.int .i64 (t : Nat), .int .i64 (n : Nat)]) ∧ Below (w.alloc (.cells #[.int .i64 0, .int .i64 0, .int .i64 0, .string ⟨#[]⟩, .bool false, .slice none 0 0, .int .i64 0, .int .i64 0, .int .i64 0, .int .u32 0] 34)).heap.size (w.alloc (.cells #[.int .i64 0, .int .i64 0, .int .i64 0, .string ⟨#[]⟩, .bool false, .slice none 0 0, .int .i64 0, .int .i64 0, .int .i64 0, .int .u32 0] 34)) w')
    (hnum2 : ∀ W z c', Below w.heap.size w W → z = len - N1 → c' = cap - N1 → Calls Try.prog 34 #[.slice (some ⟨b, off + N1, none⟩) z c', .int .u64 64] W fun e w' => e = .returned (.tuple #[.int .i64 (u : Nat), .int .i64 (k : Nat)]) ∧ Below W.heap.size W w')
    (hkd : w.cell? ⟨b, off + n, none⟩ = some (.int .u8 (kd : Nat))) (hkd8 : kd < 256) (hN1 : Hid (N1 = n + 1)) (hA : Hid (A = N1 + k)) (hA1 : Hid (A1 = A + u)) (hn0 : 0 < n) (hk0 : 0 < k) (hu : u ≤ 64) (hl : A1 ≤ len) (hbig : len ≤ 100000) (hcap : len ≤ cap)
    (hkey : ∀ W, Below w.heap.size w W → Row .u8 W (some ⟨b, off + A, none⟩) u v) (G : En.E × Nat) (HG : Hid (G = ((ix, (t : Int), (kd : Int), v, Ce.zero), A1))) (hk2 : kd = 2) (hc2 : cap = A) :
    Calls Try.prog 35 #[.slice (some ⟨b, off, none⟩) len cap, .int .i64 ix] w (ROne w G) := by

  have q1 := hN1.out
  have q2 := hA.out
  have q3 := hA1.out
  have j0 : n < len := by omega
  have j1 : (0 : Int) ≤ (n : Int) := by omega
  have j2 : (n : Int) < (len : Int) := by omega
  have hd1 : ((n : Int) == 0) = false := by simp; omega
  have hd2 : ((n : Int) == (len : Int)) = false := by simp; omega
  have j3 : IntKind.i64.wrap ((n : Int) + 1) = (N1 : Int) := by rw [IntKind.wrap_i64]; omega
  have j4 : IntKind.i64.wrap ((N1 : Int) + (k : Int)) = (A : Int) := by rw [IntKind.wrap_i64]; omega
  have j5 : IntKind.i64.wrap ((A : Int) + (u : Int)) = (A1 : Int) := by rw [IntKind.wrap_i64]; omega
  have j11 : IntKind.i64.wrap (kd : Int) = (kd : Int) := by rw [IntKind.wrap_i64]; omega
  have j6 : (N1 : Int) ≤ (len : Int) := by omega
  have j7 : (len : Int) ≤ (cap : Int) := by omega
  have j8 : (N1 : Int) ≤ (cap : Int) := by omega
  have j9 : (A : Int) ≤ (A1 : Int) := by omega
  have j10 : (A1 : Int) ≤ (cap : Int) := by omega
  have hdk : ((k : Int) == 0) = false := by simp; omega
  have hdl : decide ((len : Int) < (A1 : Int)) = false := by simp; omega
  have hc1 : ¬ (cap = N1) := by omega
  have z1 : A1 - A = u := by omega
  clear q1 q2 q3
  have hu0 : u = 0 := by have := hA1.out; omega
  have hvn : v = [] := List.length_eq_zero_iff.mp ((hkey w (Below.refl _ _)).1.trans hu0)
  subst hvn
  have hAA : A1 = A := by have := hA1.out; omega
  subst hAA
  obtain rfl : len = cap := by omega
  subst hc2
  subst hk2
  have hv8 := (hkey w (Below.refl _ _)).2.2.1
  go_enter Try.func35, Try.ntmps35
  go_wp2_with (first
    | (go_at_call 34; have := hB1; go_must (refine (hnum2 _ _ _ hbE (by omega) (by omega)).mono ?_; rintro e w2 ⟨rfl, hbel2⟩; have hw2 := hbE.trans (hbel2.mono hbE.size); have hB1a := hB1.alloc hB1.size (.cells #[.int .i64 ix, .int .i64 (t : Nat), .int .i64 2, .string ⟨#[]⟩, .bool false, .slice none 0 0, .int .i64 0, .int .i64 0, .int .i64 0, .int .u32 0] 34); have hB2 := hB1a.trans (hbel2.mono hB1a.size); obtain ⟨⟨n0, n1, n2, n3, n4, n5, n6, n7, n8, n9⟩, ⟨f0, f1, f2, f3, f4, f5, f6, f7, f8, f9⟩⟩ := ten_new hB2; obtain ⟨⟨e0, e1, e2, e3, e4, e5, e6, e7, e8, e9⟩, ⟨g0, g1, g2, g3, g4, g5, g6, g7, g8, g9⟩⟩ := ten_new hbel2; have hs2 := hbel2.size; have hcv := fun a c => conv_zero w2 a c))
    | (go_at_call 34; go_must (refine hnum.mono ?_; rintro e w1 ⟨rfl, hB1⟩; obtain ⟨_, _, hw1, hs1⟩ := res_ten hB1; have hkd1 := (hw1.cell (p := ⟨b, off + n, none⟩) (cell_lt hkd)).trans hkd; have hbE := hw1.alloc hw1.size (.cells #[.int .i64 ix, .int .i64 (t : Nat), .int .i64 2, .string ⟨#[]⟩, .bool false, .slice none 0 0, .int .i64 0, .int .i64 0, .int .i64 0, .int .u32 0] 34))))
  have hbs := hw2.setCell (p := ⟨w1.heap.size, 3, none⟩) (Nat.le_of_lt hs1) (.string ⟨#[]⟩)
  exact bodyPost_ret (v := .tuple #[ev ix t 2 ⟨#[]⟩ false none 0 0 Po.zero, .int .i64 (len : Nat)]) (by simp [ev, Po.zero, results, Try.results35, go_sem, n0, n1, n2, n3, n4, n5, n6, n7, n8, n9]) rfl (rone_some HG.out rfl rfl ⟨rfl, by omega, by simp, .inl rfl⟩ (fun _ => ⟨rfl, rfl⟩) ⟨rfl, .inl ⟨rfl, rfl⟩⟩ (below_ten hbs _ _ _ _ _ _ _ _ _ _))
end Go.Proofs.Ytfejgedgmaljfaa
