/- What the program's Get of a cell does. -/
import Derived.Test.YtgmcjalcpgldhaaX5
namespace Go.Proofs.Ytgmcjalcpgldhaa
open Go.RowKit

theorem get_near {bs : List Nat} (h0 : bs.length ≠ 0) (h : bs.getD 0 0 = 0) : Ce.get bs = if (nearOf (bs.drop 1)).2 = 0 then (Ce.zero, 0) else ((false, (nearOf (bs.drop 1)).1, Po.zero), 1 + (nearOf (bs.drop 1)).2) := by
  unfold Ce.get
  rw [if_neg (by omega), if_neg (by omega)]
  by_cases hc : (Va.get (bs.drop 1)).2 = 0 ∨ 32 < (Va.get (bs.drop 1)).1 ∨ bs.length < 1 + (Va.get (bs.drop 1)).2 + (Va.get (bs.drop 1)).1
  · have e : nearOf (bs.drop 1) = ([], 0) := by unfold nearOf; rw [if_pos (by rw [List.length_drop]; omega)]
    rw [if_pos hc, e, if_pos rfl]
  · have e : nearOf (bs.drop 1) = (((bs.drop 1).drop (Va.get (bs.drop 1)).2).take (Va.get (bs.drop 1)).1, (Va.get (bs.drop 1)).2 + (Va.get (bs.drop 1)).1) := by unfold nearOf; rw [if_neg (by rw [List.length_drop]; omega)]
    rw [if_neg hc, e, if_neg (by simp only; omega), List.drop_drop, Nat.add_assoc]
theorem get_far {bs : List Nat} (h0 : bs.length ≠ 0) (h : bs.getD 0 0 = 1) : Ce.get bs = if (Po.get (bs.drop 1)).2 = 0 then (Ce.zero, 0) else ((true, [], (Po.get (bs.drop 1)).1), 1 + (Po.get (bs.drop 1)).2) := by
  unfold Ce.get
  rw [if_neg (by omega), if_pos h, Nat.add_comm 1]
theorem get_none {bs : List Nat} (h : bs.length = 0 ∨ 1 < bs.getD 0 0) : Ce.get bs = (Ce.zero, 0) := by
  unfold Ce.get; rw [if_pos h]

theorem cgres_zero {w W : World} {G : Ce.C × Nat} (hG : G = (Ce.zero, 0)) (hb : Below w.heap.size w W) : CGetRes w G (.returned (.tuple #[cv false none 0 0 Po.zero, .int .i64 0, .int .i64 2])) W := by
  subst hG
  exact ⟨none, 0, rfl, ⟨rfl, by simp [Ce.zero], by simp [Ce.zero], .inl rfl⟩, fun _ => ⟨rfl, rfl⟩, hb⟩
theorem cgres_far {w W : World} {G : Ce.C × Nat} {p : Po.P} {n : Nat} (hG : G = ((true, [], p), 1 + n)) (hb : Below w.heap.size w W) : CGetRes w G (.returned (.tuple #[cv true none 0 0 p, .int .i64 ((1 + n : Nat) : Int), .int .i64 0])) W := by
  subst hG
  have hc : code (1 + n) = 0 := by unfold code; rw [if_neg (by omega)]
  refine ⟨none, 0, ?_, ⟨rfl, by simp, by simp, .inl rfl⟩, fun _ => ⟨rfl, rfl⟩, hb⟩
  simp only [hc]; rfl
theorem cgres_near {w W : World} {G : Ce.C × Nat} {v : List Nat} {u n c : Nat} {a : Option Addr} (hG : G = ((false, v, Po.zero), 1 + n)) (hu : v.length = u) (hr : Row .u8 W a u v) (hnil : a = none → u = 0 ∧ c = 0) (hb : Below w.heap.size w W) : CGetRes w G (.returned (.tuple #[cv false a u c Po.zero, .int .i64 ((1 + n : Nat) : Int), .int .i64 0])) W := by
  subst hG; subst hu
  have hc : code (1 + n) = 0 := by unfold code; rw [if_neg (by omega)]
  refine ⟨a, c, ?_, hr, hnil, hb⟩
  simp only [hc]; rfl

/-- two blocks of six cells of the call's own -/
theorem twelve_keep {w W : World} {c0 c1 c2 c3 c4 c5 d0 d1 d2 d3 d4 d5 : Value} {e e' : TypeId} (h : Below ((w.alloc (.cells #[c0, c1, c2, c3, c4, c5] e)).alloc (.cells #[d0, d1, d2, d3, d4, d5] e')).heap.size ((w.alloc (.cells #[c0, c1, c2, c3, c4, c5] e)).alloc (.cells #[d0, d1, d2, d3, d4, d5] e')) W) :
    ((W.cell? ⟨w.heap.size, 0, none⟩ = some c0 ∧ W.cell? ⟨w.heap.size, 1, none⟩ = some c1 ∧ W.cell? ⟨w.heap.size, 2, none⟩ = some c2 ∧ W.cell? ⟨w.heap.size, 3, none⟩ = some c3 ∧ W.cell? ⟨w.heap.size, 4, none⟩ = some c4 ∧ W.cell? ⟨w.heap.size, 5, none⟩ = some c5) ∧
    (W.frozen? ⟨w.heap.size, 0, none⟩ = false ∧ W.frozen? ⟨w.heap.size, 1, none⟩ = false ∧ W.frozen? ⟨w.heap.size, 2, none⟩ = false ∧ W.frozen? ⟨w.heap.size, 3, none⟩ = false ∧ W.frozen? ⟨w.heap.size, 4, none⟩ = false ∧ W.frozen? ⟨w.heap.size, 5, none⟩ = false) ∧ Below w.heap.size w W ∧ w.heap.size < W.heap.size) ∧
    (W.cell? ⟨w.heap.size + 1, 0, none⟩ = some d0 ∧ W.cell? ⟨w.heap.size + 1, 1, none⟩ = some d1 ∧ W.cell? ⟨w.heap.size + 1, 2, none⟩ = some d2 ∧ W.cell? ⟨w.heap.size + 1, 3, none⟩ = some d3 ∧ W.cell? ⟨w.heap.size + 1, 4, none⟩ = some d4 ∧ W.cell? ⟨w.heap.size + 1, 5, none⟩ = some d5) ∧
    (W.frozen? ⟨w.heap.size + 1, 0, none⟩ = false ∧ W.frozen? ⟨w.heap.size + 1, 1, none⟩ = false ∧ W.frozen? ⟨w.heap.size + 1, 2, none⟩ = false ∧ W.frozen? ⟨w.heap.size + 1, 3, none⟩ = false ∧ W.frozen? ⟨w.heap.size + 1, 4, none⟩ = false ∧ W.frozen? ⟨w.heap.size + 1, 5, none⟩ = false) ∧ w.heap.size + 1 < W.heap.size := by
  have hs : (w.alloc (.cells #[c0, c1, c2, c3, c4, c5] e)).heap.size = w.heap.size + 1 := by simp
  have k := res_keep h
  rw [hs] at k
  exact ⟨res_keep ((below_alloc _ _).trans (h.mono (by simp))), k.1, k.2.1, k.2.2.2⟩

set_option maxRecDepth 100000 in
set_option maxHeartbeats 2000000 in
theorem cgetC : CGetC := by
  intro a len cap bs w hshape hlc hbig hr
  have hlen : Hid (bs.length = len) := hr.1
  have hb0 := below_alloc w (.cells #[.bool false, .slice none 0 0, .int .i64 0, .int .i64 0, .int .i64 0, .int .u32 0] 27)
  have hbb : Below w.heap.size w ((w.alloc (.cells #[.bool false, .slice none 0 0, .int .i64 0, .int .i64 0, .int .i64 0, .int .u32 0] 27)).alloc (.cells #[.bool false, .slice none 0 0, .int .i64 0, .int .i64 0, .int .i64 0, .int .u32 0] 27)) := hb0.alloc hb0.size _
  have hkeep : Hid (∀ W, Below ((w.alloc (.cells #[.bool false, .slice none 0 0, .int .i64 0, .int .i64 0, .int .i64 0, .int .u32 0] 27)).alloc (.cells #[.bool false, .slice none 0 0, .int .i64 0, .int .i64 0, .int .i64 0, .int .u32 0] 27)).heap.size ((w.alloc (.cells #[.bool false, .slice none 0 0, .int .i64 0, .int .i64 0, .int .i64 0, .int .u32 0] 27)).alloc (.cells #[.bool false, .slice none 0 0, .int .i64 0, .int .i64 0, .int .i64 0, .int .u32 0] 27)) W → _) := (fun W h => twelve_keep (w := w) (W := W) h)
  obtain ⟨G, hG⟩ : ∃ G, G = Ce.get bs := ⟨_, rfl⟩
  rw [← hG]
  have HG : Hid (G = Ce.get bs) := hG
  clear hG
  rcases Nat.eq_zero_or_pos len with h0 | h0
  · subst h0
    have H : Hid (G = (Ce.zero, 0)) := (by rw [HG.out, get_none (.inl hlen.out)] : G = (Ce.zero, 0))
    have hk := res_keep (w := w) (W := w.alloc (.cells #[.bool false, .slice none 0 0, .int .i64 0, .int .i64 0, .int .i64 0, .int .u32 0] 27)) (Below.refl _ _)
    obtain ⟨⟨m0, m1, m2, m3, m4, m5⟩, ⟨g0, g1, g2, g3, g4, g5⟩, hb1, hs1⟩ := hk
    clear HG
    go_enter Try.func15, Try.ntmps15
    go_wp2
    exact bodyPost_ret (v := .tuple #[cv false none 0 0 Po.zero, .int .i64 0, .int .i64 2]) (by simp [cv, Po.zero, results, Try.results15, go_sem, m0, m1, m2, m3, m4, m5]) rfl (cgres_zero H.out hb0)
  · have hd0 : ((len : Int) == 0) = false := by simp; omega
    have hlne : Hid (bs.length ≠ 0) := (by rw [hlen.out]; omega : bs.length ≠ 0)
    obtain ⟨b, off, rfl, _⟩ := hr.at h0
    have hx := (hr.below hbb (Nat.le_refl _)).cell 0 (by omega)
    rw [Nat.add_zero] at hx
    have hx8 := getD_lt8 hr.2.2.1 0
    have hrow1 : ∀ W a' l' c', Below w.heap.size w W → l' = len - 1 → ((l' = 0 ∧ c' = 0) ∨ (a' = some ⟨b, off + 1, none⟩ ∧ c' = cap - 1)) → Row .u8 W a' l' (bs.drop 1) ∧ Shape a' l' c' ∧ l' ≤ c' := fun W a' l' c' hW hl hc => by
      have h1 := (hr.below hW (Nat.le_refl _)).drop 1 (by omega)
      rcases hc with ⟨rfl, rfl⟩ | ⟨rfl, rfl⟩
      · exact ⟨⟨by rw [List.length_drop, hlen.out]; omega, by omega, h1.2.2.1, .inl rfl⟩, .inl ⟨rfl, rfl⟩, Nat.le_refl _⟩
      · subst hl
        exact ⟨h1, .inr ⟨b, off + 1, rfl, by omega⟩, by omega⟩
    have hl1 : (1 : Int) ≤ (len : Int) := by omega
    have hl2 : (len : Int) ≤ (cap : Int) := by omega
    have hl3 : (1 : Int) ≤ (cap : Int) := by omega
    by_cases hx1 : 1 < bs.getD 0 0
    · have H : Hid (G = (Ce.zero, 0)) := (by rw [HG.out, get_none (.inr hx1)] : G = (Ce.zero, 0))
      obtain ⟨⟨⟨m0, m1, m2, m3, m4, m5⟩, ⟨g0, g1, g2, g3, g4, g5⟩, hb1, hs1⟩, ⟨q0, q1, q2, q3, q4, q5⟩, ⟨f0, f1, f2, f3, f4, f5⟩, hs2⟩ := hkeep.out _ (Below.refl _ _)
      clear HG hrow1 hr
      generalize bs.getD 0 0 = x at *
      have d0 : ((x : Int) == 0) = false := by simp; omega
      have d1 : ((x : Int) == 1) = false := by simp; omega
      by_cases hc1 : cap = 1
      · subst hc1
        obtain rfl : len = 1 := by omega
        go_enter Try.func15, Try.ntmps15
        go_wp2
        exact bodyPost_ret (v := .tuple #[cv false none 0 0 Po.zero, .int .i64 0, .int .i64 2]) (by simp [cv, Po.zero, results, Try.results15, go_sem, m0, m1, m2, m3, m4, m5]) rfl (cgres_zero H.out hbb)
      · go_enter Try.func15, Try.ntmps15
        go_wp2
        exact bodyPost_ret (v := .tuple #[cv false none 0 0 Po.zero, .int .i64 0, .int .i64 2]) (by simp [cv, Po.zero, results, Try.results15, go_sem, m0, m1, m2, m3, m4, m5]) rfl (cgres_zero H.out hbb)
    · by_cases hx2 : bs.getD 0 0 = 1
      · have hgp : ∀ W a' l' c', Below w.heap.size w W → l' = len - 1 → ((l' = 0 ∧ c' = 0) ∨ (a' = some ⟨b, off + 1, none⟩ ∧ c' = cap - 1)) → Calls Try.prog 31 #[.slice a' l' c'] W fun e w' => e = .returned (.tuple #[pv (Po.get (bs.drop 1)).1, .int .i64 ((Po.get (bs.drop 1)).2 : Nat), .int .i64 (code (Po.get (bs.drop 1)).2 : Nat)]) ∧ Below W.heap.size W w' := fun W a' l' c' hW hl hc => by
          obtain ⟨h1, h2, h3⟩ := hrow1 W a' l' c' hW hl hc
          exact pgetC a' l' c' _ W h2 h3 (by omega) h1
        have hbf : Below w.heap.size w ((w.alloc (.cells #[.bool false, .slice none 0 0, .int .i64 0, .int .i64 0, .int .i64 0, .int .u32 0] 27)).alloc (.cells #[.bool true, .slice none 0 0, .int .i64 0, .int .i64 0, .int .i64 0, .int .u32 0] 27)) := hb0.alloc hb0.size _
        have hkeepf : Hid (∀ W, Below ((w.alloc (.cells #[.bool false, .slice none 0 0, .int .i64 0, .int .i64 0, .int .i64 0, .int .u32 0] 27)).alloc (.cells #[.bool true, .slice none 0 0, .int .i64 0, .int .i64 0, .int .i64 0, .int .u32 0] 27)).heap.size ((w.alloc (.cells #[.bool false, .slice none 0 0, .int .i64 0, .int .i64 0, .int .i64 0, .int .u32 0] 27)).alloc (.cells #[.bool true, .slice none 0 0, .int .i64 0, .int .i64 0, .int .i64 0, .int .u32 0] 27)) W → _) := (fun W h => twelve_keep (w := w) (W := W) h)
        have HG2 : Hid (G = if (Po.get (bs.drop 1)).2 = 0 then (Ce.zero, 0) else ((true, [], (Po.get (bs.drop 1)).1), 1 + (Po.get (bs.drop 1)).2)) := (HG.out.trans (get_far hlne.out hx2) : G = if (Po.get (bs.drop 1)).2 = 0 then (Ce.zero, 0) else ((true, [], (Po.get (bs.drop 1)).1), 1 + (Po.get (bs.drop 1)).2))
        have hple := Po.get_le (bs.drop 1)
        rw [List.length_drop, hlen.out] at hple
        rw [hx2] at hx
        clear HG hrow1 hr hx2 hx1 hx8 hlne
        generalize Po.get (bs.drop 1) = R at *
        obtain ⟨⟨s, y, l, m⟩, n⟩ := R
        simp only [pv] at hgp hple
        rcases Nat.eq_zero_or_pos n with hn | hn
        · subst hn
          have H : Hid (G = (Ce.zero, 0)) := (by rw [HG2.out, if_pos rfl] : G = (Ce.zero, 0))
          rw [code_zero] at hgp
          clear HG2
          by_cases hc1 : cap = 1
          · subst hc1
            obtain rfl : len = 1 := by omega
            go_enter Try.func15, Try.ntmps15
            go_wp2_with (go_at_call 31; go_must (refine (hgp _ _ 0 0 hbf rfl (.inl ⟨rfl, rfl⟩)).mono ?_; rintro e w1 ⟨rfl, hbel1⟩; obtain ⟨⟨⟨m0, m1, m2, m3, m4, m5⟩, ⟨g0, g1, g2, g3, g4, g5⟩, hb1, hs1⟩, ⟨q0, q1, q2, q3, q4, q5⟩, ⟨f0, f1, f2, f3, f4, f5⟩, hs2⟩ := hkeepf.out _ hbel1))
            exact bodyPost_ret (v := .tuple #[cv false none 0 0 Po.zero, .int .i64 0, .int .i64 2]) (by simp [cv, Po.zero, results, Try.results15, go_sem, m0, m1, m2, m3, m4, m5]) rfl (cgres_zero H.out (below_six ((((hb1.setCell (p := ⟨w.heap.size + 1, 2, none⟩) (Nat.le_succ _) _).setCell (p := ⟨w.heap.size + 1, 3, none⟩) (Nat.le_succ _) _).setCell (p := ⟨w.heap.size + 1, 4, none⟩) (Nat.le_succ _) _).setCell (p := ⟨w.heap.size + 1, 5, none⟩) (Nat.le_succ _) _) _ _ _ _ _ _))
          · go_enter Try.func15, Try.ntmps15
            go_wp2_with (go_at_call 31; go_must (refine (hgp _ _ _ _ hbf (by omega) (.inr ⟨rfl, by omega⟩)).mono ?_; rintro e w1 ⟨rfl, hbel1⟩; obtain ⟨⟨⟨m0, m1, m2, m3, m4, m5⟩, ⟨g0, g1, g2, g3, g4, g5⟩, hb1, hs1⟩, ⟨q0, q1, q2, q3, q4, q5⟩, ⟨f0, f1, f2, f3, f4, f5⟩, hs2⟩ := hkeepf.out _ hbel1))
            exact bodyPost_ret (v := .tuple #[cv false none 0 0 Po.zero, .int .i64 0, .int .i64 2]) (by simp [cv, Po.zero, results, Try.results15, go_sem, m0, m1, m2, m3, m4, m5]) rfl (cgres_zero H.out (below_six ((((hb1.setCell (p := ⟨w.heap.size + 1, 2, none⟩) (Nat.le_succ _) _).setCell (p := ⟨w.heap.size + 1, 3, none⟩) (Nat.le_succ _) _).setCell (p := ⟨w.heap.size + 1, 4, none⟩) (Nat.le_succ _) _).setCell (p := ⟨w.heap.size + 1, 5, none⟩) (Nat.le_succ _) _) _ _ _ _ _ _))
        · have H : Hid (G = ((true, [], (s, y, l, m)), 1 + n)) := (by rw [HG2.out, if_neg (by simp only; omega)] : G = ((true, [], (s, y, l, m)), 1 + n))
          have hc : code n = 0 := by unfold code; rw [if_neg (by omega)]
          rw [hc] at hgp
          clear HG2 hc
          have j2 : IntKind.i64.wrap (1 + (n : Int)) = 1 + (n : Int) := by rw [IntKind.wrap_i64]; omega
          have hc1 : ¬ cap = 1 := by omega
          go_enter Try.func15, Try.ntmps15
          go_wp2_with (go_at_call 31; go_must (refine (hgp _ _ _ _ hbf (by omega) (.inr ⟨rfl, by omega⟩)).mono ?_; rintro e w1 ⟨rfl, hbel1⟩; obtain ⟨⟨⟨m0, m1, m2, m3, m4, m5⟩, ⟨g0, g1, g2, g3, g4, g5⟩, hb1, hs1⟩, ⟨q0, q1, q2, q3, q4, q5⟩, ⟨f0, f1, f2, f3, f4, f5⟩, hs2⟩ := hkeepf.out _ hbel1))
          exact bodyPost_ret (v := .tuple #[cv true none 0 0 (s, y, l, m), .int .i64 ((1 + n : Nat) : Int), .int .i64 0]) (by simp [cv, results, Try.results15, go_sem, m0, m1, m2, m3, m4, m5]) rfl (cgres_far H.out (below_six ((((hb1.setCell (p := ⟨w.heap.size + 1, 2, none⟩) (Nat.le_succ _) _).setCell (p := ⟨w.heap.size + 1, 3, none⟩) (Nat.le_succ _) _).setCell (p := ⟨w.heap.size + 1, 4, none⟩) (Nat.le_succ _) _).setCell (p := ⟨w.heap.size + 1, 5, none⟩) (Nat.le_succ _) _) _ _ _ _ _ _))
      · have hx3 : bs.getD 0 0 = 0 := by omega
        have hgv : ∀ W a' l' c', Below w.heap.size w W → l' = len - 1 → ((l' = 0 ∧ c' = 0) ∨ (a' = some ⟨b, off + 1, none⟩ ∧ c' = cap - 1)) → Calls Try.prog 30 #[.slice a' l' c'] W (NearRes W (nearOf (bs.drop 1))) := fun W a' l' c' hW hl hc => by
          obtain ⟨h1, h2, h3⟩ := hrow1 W a' l' c' hW hl hc
          exact getbytes_any a' l' c' _ W h3 (by omega) h1
        have HG2 : Hid (G = if (nearOf (bs.drop 1)).2 = 0 then (Ce.zero, 0) else ((false, (nearOf (bs.drop 1)).1, Po.zero), 1 + (nearOf (bs.drop 1)).2)) := (HG.out.trans (get_near hlne.out hx3) : G = if (nearOf (bs.drop 1)).2 = 0 then (Ce.zero, 0) else ((false, (nearOf (bs.drop 1)).1, Po.zero), 1 + (nearOf (bs.drop 1)).2))
        have hnle : (nearOf (bs.drop 1)).2 ≤ len - 1 := by
          unfold nearOf
          split
          · omega
          · next h => rw [List.length_drop, hlen.out] at h; simp only; omega
        rw [hx3] at hx
        clear HG hrow1 hr hx2 hx1 hx8 hlne hx3
        unfold NearRes at hgv
        generalize nearOf (bs.drop 1) = R at *
        obtain ⟨v, n⟩ := R
        simp only at hgv hnle
        rcases Nat.eq_zero_or_pos n with hn | hn
        · subst hn
          have H : Hid (G = (Ce.zero, 0)) := (by rw [HG2.out, if_pos rfl] : G = (Ce.zero, 0))
          rw [code_zero] at hgv
          clear HG2
          by_cases hc1 : cap = 1
          · subst hc1
            obtain rfl : len = 1 := by omega
            go_enter Try.func15, Try.ntmps15
            go_wp2_with (go_at_call 30; go_must (refine (hgv _ _ 0 0 hbb rfl (.inl ⟨rfl, rfl⟩)).mono ?_; rintro e w1 ⟨a1, c1, rfl, r1, n1, nw1, hbel1⟩; obtain ⟨⟨⟨m0, m1, m2, m3, m4, m5⟩, ⟨g0, g1, g2, g3, g4, g5⟩, hb1, hs1⟩, ⟨q0, q1, q2, q3, q4, q5⟩, ⟨f0, f1, f2, f3, f4, f5⟩, hs2⟩ := hkeep.out _ hbel1))
            exact bodyPost_ret (v := .tuple #[cv false none 0 0 Po.zero, .int .i64 0, .int .i64 2]) (by simp [cv, Po.zero, results, Try.results15, go_sem, m0, m1, m2, m3, m4, m5]) rfl (cgres_zero H.out (below_six (hb1.setCell (p := ⟨w.heap.size + 1, 1, none⟩) (Nat.le_succ _) _) _ _ _ _ _ _))
          · go_enter Try.func15, Try.ntmps15
            go_wp2_with (go_at_call 30; go_must (refine (hgv _ _ _ _ hbb (by omega) (.inr ⟨rfl, by omega⟩)).mono ?_; rintro e w1 ⟨a1, c1, rfl, r1, n1, nw1, hbel1⟩; obtain ⟨⟨⟨m0, m1, m2, m3, m4, m5⟩, ⟨g0, g1, g2, g3, g4, g5⟩, hb1, hs1⟩, ⟨q0, q1, q2, q3, q4, q5⟩, ⟨f0, f1, f2, f3, f4, f5⟩, hs2⟩ := hkeep.out _ hbel1))
            exact bodyPost_ret (v := .tuple #[cv false none 0 0 Po.zero, .int .i64 0, .int .i64 2]) (by simp [cv, Po.zero, results, Try.results15, go_sem, m0, m1, m2, m3, m4, m5]) rfl (cgres_zero H.out (below_six (hb1.setCell (p := ⟨w.heap.size + 1, 1, none⟩) (Nat.le_succ _) _) _ _ _ _ _ _))
        · have H : Hid (G = ((false, v, Po.zero), 1 + n)) := (by rw [HG2.out, if_neg (by simp only; omega)] : G = ((false, v, Po.zero), 1 + n))
          have hc : code n = 0 := by unfold code; rw [if_neg (by omega)]
          rw [hc] at hgv
          clear HG2 hc
          have j2 : IntKind.i64.wrap (1 + (n : Int)) = 1 + (n : Int) := by rw [IntKind.wrap_i64]; omega
          have hc1 : ¬ cap = 1 := by omega
          go_enter Try.func15, Try.ntmps15
          go_wp2_with (go_at_call 30; go_must (refine (hgv _ _ _ _ hbb (by omega) (.inr ⟨rfl, by omega⟩)).mono ?_; rintro e w1 ⟨a1, c1, rfl, r1, n1, nw1, hbel1⟩; obtain ⟨⟨⟨m0, m1, m2, m3, m4, m5⟩, ⟨g0, g1, g2, g3, g4, g5⟩, hb1, hs1⟩, ⟨q0, q1, q2, q3, q4, q5⟩, ⟨f0, f1, f2, f3, f4, f5⟩, hs2⟩ := hkeep.out _ hbel1))
          have hab : ∀ b o, a1 = some ⟨b, o, none⟩ → w.heap.size + 1 < b := fun b o e => Nat.lt_of_lt_of_le (by simp) (nw1 b o e)
          exact bodyPost_ret (v := .tuple #[cv false a1 v.length c1 Po.zero, .int .i64 ((1 + n : Nat) : Int), .int .i64 0]) (by simp [cv, Po.zero, results, Try.results15, go_sem, m0, m1, m2, m3, m4, m5]) rfl (cgres_near H.out rfl (row_six (r1.set _ hab _ _) (fun b o e => Nat.lt_of_succ_lt (hab b o e)) _ _ _ _ _ _) n1 (below_six (hb1.setCell (p := ⟨w.heap.size + 1, 1, none⟩) (Nat.le_succ _) _) _ _ _ _ _ _))
end Go.Proofs.Ytgmcjalcpgldhaa
