/- The law of the first items of any range of lists merged. -/
import Derived.Test.YtchiilhdkbpboaaMU
namespace Go.Proofs.Ytchiilhdkbpboaa
open Go.RowKit

theorem all_mall (l : List (List It.I)) : Mg.all l false = Mg.mall l := by unfold Mg.all; rw [List.filter_eq_self]; intro x _; rfl
theorem one_same (x : It.I) : It.one x x = true := (It.one_iff x x).mpr rfl
theorem of_alloc {w W : World} {o : Obj} (h : Below (w.alloc o).heap.size (w.alloc o) W) : Below w.heap.size w W := (below_alloc w o).trans (h.mono (by simp))
theorem three_keep {w W : World} {c0 c1 c2 : Value} {e : TypeId} (h : Below (w.alloc (.cells #[c0, c1, c2] e)).heap.size (w.alloc (.cells #[c0, c1, c2] e)) W) :
    W.cell? ⟨w.heap.size, 0, none⟩ = some c0 ∧ W.cell? ⟨w.heap.size, 1, none⟩ = some c1 ∧ W.cell? ⟨w.heap.size, 2, none⟩ = some c2 := by
  have hl : w.heap.size < (w.alloc (.cells #[c0, c1, c2] e)).heap.size := by simp
  have k : ∀ i, W.cell? ⟨w.heap.size, i, none⟩ = #[c0, c1, c2][i]? := fun i => (h.cell (p := ⟨w.heap.size, i, none⟩) hl).trans (cell_new w _ e i)
  exact ⟨k 0, k 1, k 2⟩

set_option maxRecDepth 100000 in
set_option maxHeartbeats 2000000 in
/-- what the guards leave out -/
theorem mergescans_no (a : Option Addr) (n c : Nat) (ps : List PH) (gss : List (List IH)) (xss : List (List It.I)) (lo hi : ByteArray) (most : Int) (w : World) (hi0 : InQ w a n c ps gss xss) (hlo : lo.size ≤ maxLen) (hhi : hi.size ≤ maxLen) (h : ¬ (Lite n ps gss ∧ Mg.may xss = true ∧ lo.size ≤ 200 ∧ hi.size ≤ 200)) :
    Calls Try.prog 4 #[.slice a n c, .agg #[.string lo, .string hi, .int .i64 most]] w fun e w' => e = .returned (.bool true) ∧ Below w.heap.size w w' := by
  unfold maxLen at hlo hhi
  have hb0 := below_alloc w (.cells #[.string lo, .string hi, .int .i64 most] 47)
  have hp := hi0.1.below hb0 (Nat.le_refl _)
  have haw := fun W => mgawake W
  have HQ : Hid (∀ W, Below (w.alloc (.cells #[.string lo, .string hi, .int .i64 most] 47)).heap.size (w.alloc (.cells #[.string lo, .string hi, .int .i64 most] 47)) W → W.cell? ⟨w.heap.size, 0, none⟩ = some (.string lo) ∧ W.cell? ⟨w.heap.size, 1, none⟩ = some (.string hi) ∧ W.cell? ⟨w.heap.size, 2, none⟩ = some (.int .i64 most)) := (fun W hW => three_keep hW : ∀ W, Below (w.alloc (.cells #[.string lo, .string hi, .int .i64 most] 47)).heap.size (w.alloc (.cells #[.string lo, .string hi, .int .i64 most] 47)) W → W.cell? ⟨w.heap.size, 0, none⟩ = some (.string lo) ∧ W.cell? ⟨w.heap.size, 1, none⟩ = some (.string hi) ∧ W.cell? ⟨w.heap.size, 2, none⟩ = some (.int .i64 most))
  by_cases hL : Lite n ps gss
  · have hl := mlightT a n c ps gss xss _ hp hL
    have hK1 := hL.le 1000 (by omega)
    have hmay := fun W (hW : Below (w.alloc (.cells #[.string lo, .string hi, .int .i64 most] 47)).heap.size (w.alloc (.cells #[.string lo, .string hi, .int .i64 most] 47)) W) => rmay_any a n c ps gss xss W (hp.below hW (Nat.le_refl _)) hK1
    cases hm : Mg.may xss with
    | true =>
      rw [hm] at hmay
      by_cases hl2 : lo.size ≤ 200
      · have hh2 : ¬ (hi.size ≤ 200) := fun e => h ⟨hL, hm, hl2, e⟩
        have d1 : decide (200 < (lo.size : Int)) = false := by simp; omega
        have d1' : ¬ (200 < lo.size) := by omega
        have d2 : decide (200 < (hi.size : Int)) = true := by simp; omega
        have d2' : 200 < hi.size := by omega
        clear h hL hm hi0 hp hK1
        go_enter Try.func4, Try.ntmps4
        go_wp2_with (first
          | (go_at_call 7; go_must (refine hl.mono ?_; rintro e w1 ⟨rfl, c1⟩; obtain ⟨q10, q11, q12⟩ := HQ.out w1 c1))
          | (go_at_call 10; go_must (refine (hmay _ c1).mono ?_; rintro e w2 ⟨rfl, hbel2⟩; have c2 := c1.trans (hbel2.mono c1.size); obtain ⟨q20, q21, q22⟩ := HQ.out w2 c2))
          | (go_at_call 8; go_must (refine (haw _).mono ?_; rintro e wz ⟨rfl, hbelz⟩; have cz := c2.trans (hbelz.mono c2.size))))
        go_ret
        exact ⟨rfl, hb0.trans (cz.mono hb0.size)⟩
      · have d1 : decide (200 < (lo.size : Int)) = true := by simp; omega
        have d1' : 200 < lo.size := by omega
        clear h hL hm hi0 hp hK1
        go_enter Try.func4, Try.ntmps4
        go_wp2_with (first
          | (go_at_call 7; go_must (refine hl.mono ?_; rintro e w1 ⟨rfl, c1⟩; obtain ⟨q10, q11, q12⟩ := HQ.out w1 c1))
          | (go_at_call 10; go_must (refine (hmay _ c1).mono ?_; rintro e w2 ⟨rfl, hbel2⟩; have c2 := c1.trans (hbel2.mono c1.size); obtain ⟨q20, q21, q22⟩ := HQ.out w2 c2))
          | (go_at_call 8; go_must (refine (haw _).mono ?_; rintro e wz ⟨rfl, hbelz⟩; have cz := c2.trans (hbelz.mono c2.size))))
        go_ret
        exact ⟨rfl, hb0.trans (cz.mono hb0.size)⟩
    | false =>
      rw [hm] at hmay
      clear h hL hm hi0 hp hK1
      go_enter Try.func4, Try.ntmps4
      go_wp2_with (first
        | (go_at_call 7; go_must (refine hl.mono ?_; rintro e w1 ⟨rfl, c1⟩; obtain ⟨q10, q11, q12⟩ := HQ.out w1 c1))
        | (go_at_call 10; go_must (refine (hmay _ c1).mono ?_; rintro e w2 ⟨rfl, hbel2⟩; have c2 := c1.trans (hbel2.mono c1.size); obtain ⟨q20, q21, q22⟩ := HQ.out w2 c2))
        | (go_at_call 8; go_must (refine (haw _).mono ?_; rintro e wz ⟨rfl, hbelz⟩; have cz := c2.trans (hbelz.mono c2.size))))
      go_ret
      exact ⟨rfl, hb0.trans (cz.mono hb0.size)⟩
  · have hl := mlightF a n c ps gss xss _ hp hL
    clear h hL hi0 hp
    go_enter Try.func4, Try.ntmps4
    go_wp2_with (first
      | (go_at_call 7; go_must (refine hl.mono ?_; rintro e w1 ⟨rfl, c1⟩; obtain ⟨q10, q11, q12⟩ := HQ.out w1 c1))
      | (go_at_call 8; go_must (refine (haw _).mono ?_; rintro e wz ⟨rfl, hbelz⟩; have cz := c1.trans (hbelz.mono c1.size))))
    go_ret
    exact ⟨rfl, hb0.trans (cz.mono hb0.size)⟩

set_option maxRecDepth 100000 in
set_option maxHeartbeats 4000000 in
theorem mergescans_yes (a : Option Addr) (n c : Nat) (ps : List PH) (gss : List (List IH)) (xss : List (List It.I)) (lo hi : ByteArray) (most : Int) (w : World) (hi0 : InQ w a n c ps gss xss) (hL : Lite n ps gss) (hm : Mg.may xss = true) (hl2 : lo.size ≤ 200) (hh2 : hi.size ≤ 200) :
    Calls Try.prog 4 #[.slice a n c, .agg #[.string lo, .string hi, .int .i64 most]] w fun e w' => e = .returned (.bool true) ∧ Below w.heap.size w w' := by
  have hb0 := below_alloc w (.cells #[.string lo, .string hi, .int .i64 most] 47)
  have hp := hi0.1.below hb0 (Nat.le_refl _)
  have haw := fun W => mgawake W
  have HQ : Hid (∀ W, Below (w.alloc (.cells #[.string lo, .string hi, .int .i64 most] 47)).heap.size (w.alloc (.cells #[.string lo, .string hi, .int .i64 most] 47)) W → W.cell? ⟨w.heap.size, 0, none⟩ = some (.string lo) ∧ W.cell? ⟨w.heap.size, 1, none⟩ = some (.string hi) ∧ W.cell? ⟨w.heap.size, 2, none⟩ = some (.int .i64 most)) := (fun W hW => three_keep hW : ∀ W, Below (w.alloc (.cells #[.string lo, .string hi, .int .i64 most] 47)).heap.size (w.alloc (.cells #[.string lo, .string hi, .int .i64 most] 47)) W → W.cell? ⟨w.heap.size, 0, none⟩ = some (.string lo) ∧ W.cell? ⟨w.heap.size, 1, none⟩ = some (.string hi) ∧ W.cell? ⟨w.heap.size, 2, none⟩ = some (.int .i64 most))
  have hnc := hi0.2.2
  have hl := mlightT a n c ps gss xss _ hp hL
  have hK := hL.le 100000 (by omega)
  have hK9 := hL.le 900 (by omega)
  have hK1 := hL.le 1000 (by omega)
  have hn := hL.1
  obtain ⟨hU, hKy, -⟩ := Mg.may_keys hm
  have hmay := fun W (hW : Below (w.alloc (.cells #[.string lo, .string hi, .int .i64 most] 47)).heap.size (w.alloc (.cells #[.string lo, .string hi, .int .i64 most] 47)) W) => rmay_any a n c ps gss xss W (hp.below hW (Nat.le_refl _)) hK1
  rw [hm] at hmay
  have hsc := fun W (hW : Below (w.alloc (.cells #[.string lo, .string hi, .int .i64 most] 47)).heap.size (w.alloc (.cells #[.string lo, .string hi, .int .i64 most] 47)) W) => mscan_yes a n c ps gss xss lo hi most W (hp.below hW (Nat.le_refl _)) hK hm
  have hge := fun W (hW : Below (w.alloc (.cells #[.string lo, .string hi, .int .i64 most] 47)).heap.size (w.alloc (.cells #[.string lo, .string hi, .int .i64 most] 47)) W) => mget_yes a n c ps gss xss lo W (hp.below hW (Nat.le_refl _)) hK hm
  have hraT := fun W (hW : Below (w.alloc (.cells #[.string lo, .string hi, .int .i64 most] 47)).heap.size (w.alloc (.cells #[.string lo, .string hi, .int .i64 most] 47)) W) => rall_any a n c ps gss xss true _ W hp hW hn hK9
  have hraF := fun W (hW : Below (w.alloc (.cells #[.string lo, .string hi, .int .i64 most] 47)).heap.size (w.alloc (.cells #[.string lo, .string hi, .int .i64 most] 47)) W) => rall_any a n c ps gss xss false _ W hp hW hn hK9
  have hlen : ∀ d, (Mg.all xss d).length ≤ 100000 := fun d => by
    have h1 : (Mg.all xss d).length ≤ (Mg.mall xss).length := by unfold Mg.all; exact List.length_filter_le _ _
    rw [← Mg.tag_mall 0 hU, List.length_map] at h1
    have h2 := Mg.tag_len 900 0 (parts_le hp hK9)
    rw [hp.len] at h2
    omega
  have hrg := fun a5 c5 (hs5 : List IH) W (ht : TRow 8 ih ihz W a5 (Mg.all xss false).length hs5) (hA : ItAll (w.alloc (.cells #[.string lo, .string hi, .int .i64 most] 47)) hs5 (Mg.all xss false)) => iget_any (w.alloc (.cells #[.string lo, .string hi, .int .i64 most] 47)) a5 (Mg.all xss false).length c5 hs5 (Mg.all xss false) lo W (hlen false) ht hA
  have hrs := fun a7 c7 (hs7 : List IH) W (ht : TRow 8 ih ihz W a7 (Mg.all xss true).length hs7) (hA : ItAll (w.alloc (.cells #[.string lo, .string hi, .int .i64 most] 47)) hs7 (Mg.all xss true)) => iscan_any (w.alloc (.cells #[.string lo, .string hi, .int .i64 most] 47)) a7 (Mg.all xss true).length c7 hs7 (Mg.all xss true) lo hi most W (hlen true) ht hA
  have hgf : It.get (Mg.all xss false) (kb lo) = (Mg.ff xss (kb lo)).getD It.zero := by rw [all_mall, Mg.get_mall hU]
  have hth := Mg.there_mall hU hKy (kb lo)
  rw [← all_mall, hgf] at hth
  rw [hgf] at hrg
  have hsame := fun (w2 : World) a2 c2 (hs2 : List IH) a4 c4 (hs4 : List IH) W => isame_any w2 (w.alloc (.cells #[.string lo, .string hi, .int .i64 most] 47)) a2 (It.scan (Mg.all xss true) (kb lo) (kb hi) most).length c2 hs2 (It.scan (Mg.all xss true) (kb lo) (kb hi) most) a4 (It.scan (Mg.all xss true) (kb lo) (kb hi) most).length c4 hs4 (It.scan (Mg.all xss true) (kb lo) (kb hi) most) W
  rw [show It.sameGo (It.scan (Mg.all xss true) (kb lo) (kb hi) most) (It.scan (Mg.all xss true) (kb lo) (kb hi) most) = true from (It.sameGo_iff _ _).mpr rfl] at hsame
  have hone := fun (h g : IH) W hx hy => ione_any h ((Mg.ff xss (kb lo)).getD It.zero) g ((Mg.ff xss (kb lo)).getD It.zero) W hx hy
  rw [one_same] at hone
  generalize It.scan (Mg.all xss true) (kb lo) (kb hi) most = S at *
  generalize Mg.all xss true = LT at *
  generalize Mg.all xss false = LF at *
  have d1 : decide (200 < (lo.size : Int)) = false := by simp; omega
  have d1' : ¬ (200 < lo.size) := by omega
  have d2 : decide (200 < (hi.size : Int)) = false := by simp; omega
  have d2' : ¬ (200 < hi.size) := by omega
  have HEM : Hid (∀ k : ByteArray, kb k = ((Mg.ff xss (kb lo)).getD It.zero).1 → k.toList.isEmpty = !(Mg.ff xss (kb lo)).isSome) := (fun k hk => by
    rw [isEmpty_kb, ← hth]
    by_cases he : ((Mg.ff xss (kb lo)).getD It.zero).1 = []
    · rw [decide_eq_true ((kb_nil k).mp (hk.trans he))]; simp [he]
    · rw [decide_eq_false (fun e => he (by rw [← hk, e]; rfl))]; simp [he] : ∀ k : ByteArray, kb k = ((Mg.ff xss (kb lo)).getD It.zero).1 → k.toList.isEmpty = !(Mg.ff xss (kb lo)).isSome)
  unfold MGetRes at hge
  generalize (Mg.ff xss (kb lo)).getD It.zero = X at *
  generalize (Mg.ff xss (kb lo)).isSome = F at *
  clear hth hgf hlen hU hKy hm hL hi0 hK hK9 hK1 hnc hp
  cases F with
  | true =>
    go_enter Try.func4, Try.ntmps4
    go_wp2_with (first
      | (go_at_call 7; go_must (refine hl.mono ?_; rintro e w1 ⟨rfl, c1⟩; obtain ⟨q10, q11, q12⟩ := HQ.out w1 c1))
      | (go_at_call 10; go_must (refine (hmay _ c1).mono ?_; rintro e w2 ⟨rfl, hbel2⟩; have c2 := c1.trans (hbel2.mono c1.size); obtain ⟨q20, q21, q22⟩ := HQ.out w2 c2))
      | (go_at_call 11; go_must (refine (hsc _ c2).mono ?_; rintro e w3 ⟨a3, c3x, hs3, rfl, hi3, hbel3⟩; have c3 := c2.trans (hbel3.mono c2.size); obtain ⟨q30, q31, q32⟩ := HQ.out w3 c3))
      | (go_at_call 12; go_must (refine (hge _ c3).mono ?_; rintro e w4 ⟨⟨k4, d4, f4, a4, n4, c4x, ⟨r1, r2, r3, r4⟩⟩, rfl, hit4, hbel4⟩; have c4 := c3.trans (hbel4.mono c3.size); have c4a := c4.alloc c4.size (.cells #[.string k4, .bool d4, .bool f4, .slice a4 n4 c4x, .int .i64 r1, .int .i64 r2, .int .i64 r3, .int .u32 (r4 : Nat)] 37); have e34 := hbel4.alloc hbel4.size (.cells #[.string k4, .bool d4, .bool f4, .slice a4 n4 c4x, .int .i64 r1, .int .i64 r2, .int .i64 r3, .int .u32 (r4 : Nat)] 37)))
      | (go_at_call 15; go_must (refine (hraF _ c4a).mono ?_; rintro e w5 ⟨a5, c5x, hs5, rfl, hle5, hnl5, ht5, hA5, hbel5⟩; have c5 := c4a.trans (hbel5.mono c4a.size); obtain ⟨q50, q51, q52⟩ := HQ.out w5 c5))
      | (go_at_call 16; go_must (refine (hrg _ _ _ _ ht5 hA5).mono ?_; rintro e w6 ⟨⟨k6, d6, f6, a6, n6, c6x, ⟨s1, s2, s3, s4⟩⟩, rfl, hit6, hbel6⟩; have c6 := c5.trans (hbel6.mono c5.size); have hem := HEM.out k6 hit6.key)))
    have hV0 := c6.alloc c6.size (.cells #[.string k6, .bool d6, .bool f6, .slice a6 n6 c6x, .int .i64 s1, .int .i64 s2, .int .i64 s3, .int .u32 (s4 : Nat)] 37)
    have g4V := (hbel5.trans (hbel6.mono hbel5.size)).alloc (Nat.le_trans hbel5.size hbel6.size) (.cells #[.string k6, .bool d6, .bool f6, .slice a6 n6 c6x, .int .i64 s1, .int .i64 s2, .int .i64 s3, .int .u32 (s4 : Nat)] 37)
    have hSV : ∀ W, Below (w6.alloc (.cells #[.string k6, .bool d6, .bool f6, .slice a6 n6 c6x, .int .i64 s1, .int .i64 s2, .int .i64 s3, .int .u32 (s4 : Nat)] 37)).heap.size (w6.alloc (.cells #[.string k6, .bool d6, .bool f6, .slice a6 n6 c6x, .int .i64 s1, .int .i64 s2, .int .i64 s3, .int .u32 (s4 : Nat)] 37)) W → W.cell? ⟨w.heap.size, 0, none⟩ = some (.string lo) ∧ W.cell? ⟨w.heap.size, 1, none⟩ = some (.string hi) ∧ W.cell? ⟨w.heap.size, 2, none⟩ = some (.int .i64 most) ∧ W.cell? ⟨w4.heap.size, 0, none⟩ = some (.string k4) ∧ W.cell? ⟨w4.heap.size, 1, none⟩ = some (.bool d4) ∧ W.cell? ⟨w4.heap.size, 2, none⟩ = some (.bool f4) ∧ W.cell? ⟨w4.heap.size, 3, none⟩ = some (.slice a4 n4 c4x) ∧ W.cell? ⟨w4.heap.size, 4, none⟩ = some (.int .i64 r1) ∧ W.cell? ⟨w4.heap.size, 5, none⟩ = some (.int .i64 r2) ∧ W.cell? ⟨w4.heap.size, 6, none⟩ = some (.int .i64 r3) ∧ W.cell? ⟨w4.heap.size, 7, none⟩ = some (.int .u32 (r4 : Nat)) ∧ W.cell? ⟨w6.heap.size, 0, none⟩ = some (.string k6) ∧ W.cell? ⟨w6.heap.size, 1, none⟩ = some (.bool d6) ∧ W.cell? ⟨w6.heap.size, 2, none⟩ = some (.bool f6) ∧ W.cell? ⟨w6.heap.size, 3, none⟩ = some (.slice a6 n6 c6x) ∧ W.cell? ⟨w6.heap.size, 4, none⟩ = some (.int .i64 s1) ∧ W.cell? ⟨w6.heap.size, 5, none⟩ = some (.int .i64 s2) ∧ W.cell? ⟨w6.heap.size, 6, none⟩ = some (.int .i64 s3) ∧ W.cell? ⟨w6.heap.size, 7, none⟩ = some (.int .u32 (s4 : Nat)) := fun W hW => by
      obtain ⟨q0, q1, q2⟩ := HQ.out W (hV0.trans (hW.mono hV0.size))
      obtain ⟨⟨x0, x1, x2, x3, x4, x5, x6, x7⟩, _, _⟩ := eight_keep (g4V.trans (hW.mono g4V.size))
      obtain ⟨⟨y0, y1, y2, y3, y4, y5, y6, y7⟩, _, _⟩ := eight_keep hW
      exact ⟨q0, q1, q2, x0, x1, x2, x3, x4, x5, x6, x7, y0, y1, y2, y3, y4, y5, y6, y7⟩
    have e3V := e34.trans (g4V.mono e34.size)
    generalize hVd : w6.alloc (.cells #[.string k6, .bool d6, .bool f6, .slice a6 n6 c6x, .int .i64 s1, .int .i64 s2, .int .i64 s3, .int .u32 (s4 : Nat)] 37) = V at *
    clear hVd q10 q11 q12 q20 q21 q22 q30 q31 q32 q50 q51 q52
    obtain ⟨qv0, qv1, qv2, qv3, qv4, qv5, qv6, qv7, qv8, qv9, qv10, qv11, qv12, qv13, qv14, qv15, qv16, qv17, qv18⟩ := hSV V (Below.refl _ _)
    have HSV : Hid (_) := hSV
    clear hSV
    go_region_held3 (fun W : World => W.cell? ⟨w.heap.size, 0, none⟩ = some (.string lo) ∧ W.cell? ⟨w.heap.size, 1, none⟩ = some (.string hi) ∧ W.cell? ⟨w.heap.size, 2, none⟩ = some (.int .i64 most) ∧ W.cell? ⟨w4.heap.size, 0, none⟩ = some (.string k4) ∧ W.cell? ⟨w4.heap.size, 1, none⟩ = some (.bool d4) ∧ W.cell? ⟨w4.heap.size, 2, none⟩ = some (.bool f4) ∧ W.cell? ⟨w4.heap.size, 3, none⟩ = some (.slice a4 n4 c4x) ∧ W.cell? ⟨w4.heap.size, 4, none⟩ = some (.int .i64 r1) ∧ W.cell? ⟨w4.heap.size, 5, none⟩ = some (.int .i64 r2) ∧ W.cell? ⟨w4.heap.size, 6, none⟩ = some (.int .i64 r3) ∧ W.cell? ⟨w4.heap.size, 7, none⟩ = some (.int .u32 (r4 : Nat)) ∧ W.cell? ⟨w6.heap.size, 0, none⟩ = some (.string k6) ∧ W.cell? ⟨w6.heap.size, 1, none⟩ = some (.bool d6) ∧ W.cell? ⟨w6.heap.size, 2, none⟩ = some (.bool f6) ∧ W.cell? ⟨w6.heap.size, 3, none⟩ = some (.slice a6 n6 c6x) ∧ W.cell? ⟨w6.heap.size, 4, none⟩ = some (.int .i64 s1) ∧ W.cell? ⟨w6.heap.size, 5, none⟩ = some (.int .i64 s2) ∧ W.cell? ⟨w6.heap.size, 6, none⟩ = some (.int .i64 s3) ∧ W.cell? ⟨w6.heap.size, 7, none⟩ = some (.int .u32 (s4 : Nat))) (first | go_keep | (refine ⟨?_, ?_, ?_, ?_, ?_, ?_, ?_, ?_, ?_, ?_, ?_, ?_, ?_, ?_, ?_, ?_, ?_, ?_, ?_⟩ <;> assumption))
      (first
        | (go_at_call 15; refine (hraT _ hV0.drew).mono ?_; rintro e w7 ⟨a7, c7x, hs7, rfl, hle7, hnl7, ht7, hA7, b7d⟩; have b7 : Below V.heap.size V w7 := below_of_drew b7d; obtain ⟨qa0, qa1, qa2, qa3, qa4, qa5, qa6, qa7, qa8, qa9, qa10, qa11, qa12, qa13, qa14, qa15, qa16, qa17, qa18⟩ := HSV.out w7 b7)
        | (go_at_call 17; refine (hrs _ _ _ _ ht7 hA7).mono ?_; rintro e w8 ⟨a8, c8x, hs8, rfl, hle8, hnl8, ht8, hA8, hbel8⟩; have b8 := b7.trans (hbel8.mono b7.size); obtain ⟨qb0, qb1, qb2, qb3, qb4, qb5, qb6, qb7, qb8, qb9, qb10, qb11, qb12, qb13, qb14, qb15, qb16, qb17, qb18⟩ := HSV.out w8 b8)
        | (go_at_call 14; refine (hsame w3 _ _ _ _ _ _ w8 (hi3.1.1.below (e3V.trans (b8.mono e3V.size)) (Nat.le_refl _)) hi3.1.2 ht8 hA8 (e3V.trans (b8.mono e3V.size)) (hV0.trans (b8.mono hV0.size))).mono ?_; rintro e w9 ⟨rfl, hbel9⟩; have b9 := b8.trans (hbel9.mono b8.size); obtain ⟨qc0, qc1, qc2, qc3, qc4, qc5, qc6, qc7, qc8, qc9, qc10, qc11, qc12, qc13, qc14, qc15, qc16, qc17, qc18⟩ := HSV.out w9 b9)
        | (go_at_call 18; refine (hone ⟨k4, d4, f4, a4, n4, c4x, (r1, r2, r3, r4)⟩ ⟨k6, d6, f6, a6, n6, c6x, (s1, s2, s3, s4)⟩ w9 (hit4.below (of_alloc (g4V.trans (b9.mono g4V.size))) (Nat.le_refl _)) (hit6.below (hV0.trans (b9.mono hV0.size)) (Nat.le_refl _))).mono ?_; rintro e w10 ⟨rfl, hbel10⟩; have b10 := b9.trans (hbel10.mono b9.size); obtain ⟨qd0, qd1, qd2, qd3, qd4, qd5, qd6, qd7, qd8, qd9, qd10, qd11, qd12, qd13, qd14, qd15, qd16, qd17, qd18⟩ := HSV.out w10 b10)
        | (go_at_call 8; refine (haw _).mono ?_; rintro e wz ⟨rfl, hbelz⟩; have bz := b10.trans (hbelz.mono b10.size); obtain ⟨qe0, qe1, qe2, qe3, qe4, qe5, qe6, qe7, qe8, qe9, qe10, qe11, qe12, qe13, qe14, qe15, qe16, qe17, qe18⟩ := HSV.out wz bz))
    all_goals
      go_wp2
      go_ret
      exact ⟨rfl, hb0.trans ((hV0.trans (bz.mono hV0.size)).mono hb0.size)⟩
  | false =>
    go_enter Try.func4, Try.ntmps4
    go_wp2_with (first
      | (go_at_call 7; go_must (refine hl.mono ?_; rintro e w1 ⟨rfl, c1⟩; obtain ⟨q10, q11, q12⟩ := HQ.out w1 c1))
      | (go_at_call 10; go_must (refine (hmay _ c1).mono ?_; rintro e w2 ⟨rfl, hbel2⟩; have c2 := c1.trans (hbel2.mono c1.size); obtain ⟨q20, q21, q22⟩ := HQ.out w2 c2))
      | (go_at_call 11; go_must (refine (hsc _ c2).mono ?_; rintro e w3 ⟨a3, c3x, hs3, rfl, hi3, hbel3⟩; have c3 := c2.trans (hbel3.mono c2.size); obtain ⟨q30, q31, q32⟩ := HQ.out w3 c3))
      | (go_at_call 12; go_must (refine (hge _ c3).mono ?_; rintro e w4 ⟨⟨k4, d4, f4, a4, n4, c4x, ⟨r1, r2, r3, r4⟩⟩, rfl, hit4, hbel4⟩; have c4 := c3.trans (hbel4.mono c3.size); have c4a := c4.alloc c4.size (.cells #[.string k4, .bool d4, .bool f4, .slice a4 n4 c4x, .int .i64 r1, .int .i64 r2, .int .i64 r3, .int .u32 (r4 : Nat)] 37); have e34 := hbel4.alloc hbel4.size (.cells #[.string k4, .bool d4, .bool f4, .slice a4 n4 c4x, .int .i64 r1, .int .i64 r2, .int .i64 r3, .int .u32 (r4 : Nat)] 37)))
      | (go_at_call 15; go_must (refine (hraF _ c4a).mono ?_; rintro e w5 ⟨a5, c5x, hs5, rfl, hle5, hnl5, ht5, hA5, hbel5⟩; have c5 := c4a.trans (hbel5.mono c4a.size); obtain ⟨q50, q51, q52⟩ := HQ.out w5 c5))
      | (go_at_call 16; go_must (refine (hrg _ _ _ _ ht5 hA5).mono ?_; rintro e w6 ⟨⟨k6, d6, f6, a6, n6, c6x, ⟨s1, s2, s3, s4⟩⟩, rfl, hit6, hbel6⟩; have c6 := c5.trans (hbel6.mono c5.size); have hem := HEM.out k6 hit6.key)))
    have hV0 := c6.alloc c6.size (.cells #[.string k6, .bool d6, .bool f6, .slice a6 n6 c6x, .int .i64 s1, .int .i64 s2, .int .i64 s3, .int .u32 (s4 : Nat)] 37)
    have g4V := (hbel5.trans (hbel6.mono hbel5.size)).alloc (Nat.le_trans hbel5.size hbel6.size) (.cells #[.string k6, .bool d6, .bool f6, .slice a6 n6 c6x, .int .i64 s1, .int .i64 s2, .int .i64 s3, .int .u32 (s4 : Nat)] 37)
    have hSV : ∀ W, Below (w6.alloc (.cells #[.string k6, .bool d6, .bool f6, .slice a6 n6 c6x, .int .i64 s1, .int .i64 s2, .int .i64 s3, .int .u32 (s4 : Nat)] 37)).heap.size (w6.alloc (.cells #[.string k6, .bool d6, .bool f6, .slice a6 n6 c6x, .int .i64 s1, .int .i64 s2, .int .i64 s3, .int .u32 (s4 : Nat)] 37)) W → W.cell? ⟨w.heap.size, 0, none⟩ = some (.string lo) ∧ W.cell? ⟨w.heap.size, 1, none⟩ = some (.string hi) ∧ W.cell? ⟨w.heap.size, 2, none⟩ = some (.int .i64 most) ∧ W.cell? ⟨w4.heap.size, 0, none⟩ = some (.string k4) ∧ W.cell? ⟨w4.heap.size, 1, none⟩ = some (.bool d4) ∧ W.cell? ⟨w4.heap.size, 2, none⟩ = some (.bool f4) ∧ W.cell? ⟨w4.heap.size, 3, none⟩ = some (.slice a4 n4 c4x) ∧ W.cell? ⟨w4.heap.size, 4, none⟩ = some (.int .i64 r1) ∧ W.cell? ⟨w4.heap.size, 5, none⟩ = some (.int .i64 r2) ∧ W.cell? ⟨w4.heap.size, 6, none⟩ = some (.int .i64 r3) ∧ W.cell? ⟨w4.heap.size, 7, none⟩ = some (.int .u32 (r4 : Nat)) ∧ W.cell? ⟨w6.heap.size, 0, none⟩ = some (.string k6) ∧ W.cell? ⟨w6.heap.size, 1, none⟩ = some (.bool d6) ∧ W.cell? ⟨w6.heap.size, 2, none⟩ = some (.bool f6) ∧ W.cell? ⟨w6.heap.size, 3, none⟩ = some (.slice a6 n6 c6x) ∧ W.cell? ⟨w6.heap.size, 4, none⟩ = some (.int .i64 s1) ∧ W.cell? ⟨w6.heap.size, 5, none⟩ = some (.int .i64 s2) ∧ W.cell? ⟨w6.heap.size, 6, none⟩ = some (.int .i64 s3) ∧ W.cell? ⟨w6.heap.size, 7, none⟩ = some (.int .u32 (s4 : Nat)) := fun W hW => by
      obtain ⟨q0, q1, q2⟩ := HQ.out W (hV0.trans (hW.mono hV0.size))
      obtain ⟨⟨x0, x1, x2, x3, x4, x5, x6, x7⟩, _, _⟩ := eight_keep (g4V.trans (hW.mono g4V.size))
      obtain ⟨⟨y0, y1, y2, y3, y4, y5, y6, y7⟩, _, _⟩ := eight_keep hW
      exact ⟨q0, q1, q2, x0, x1, x2, x3, x4, x5, x6, x7, y0, y1, y2, y3, y4, y5, y6, y7⟩
    have e3V := e34.trans (g4V.mono e34.size)
    generalize hVd : w6.alloc (.cells #[.string k6, .bool d6, .bool f6, .slice a6 n6 c6x, .int .i64 s1, .int .i64 s2, .int .i64 s3, .int .u32 (s4 : Nat)] 37) = V at *
    clear hVd q10 q11 q12 q20 q21 q22 q30 q31 q32 q50 q51 q52
    obtain ⟨qv0, qv1, qv2, qv3, qv4, qv5, qv6, qv7, qv8, qv9, qv10, qv11, qv12, qv13, qv14, qv15, qv16, qv17, qv18⟩ := hSV V (Below.refl _ _)
    have HSV : Hid (_) := hSV
    clear hSV
    go_region_held3 (fun W : World => W.cell? ⟨w.heap.size, 0, none⟩ = some (.string lo) ∧ W.cell? ⟨w.heap.size, 1, none⟩ = some (.string hi) ∧ W.cell? ⟨w.heap.size, 2, none⟩ = some (.int .i64 most) ∧ W.cell? ⟨w4.heap.size, 0, none⟩ = some (.string k4) ∧ W.cell? ⟨w4.heap.size, 1, none⟩ = some (.bool d4) ∧ W.cell? ⟨w4.heap.size, 2, none⟩ = some (.bool f4) ∧ W.cell? ⟨w4.heap.size, 3, none⟩ = some (.slice a4 n4 c4x) ∧ W.cell? ⟨w4.heap.size, 4, none⟩ = some (.int .i64 r1) ∧ W.cell? ⟨w4.heap.size, 5, none⟩ = some (.int .i64 r2) ∧ W.cell? ⟨w4.heap.size, 6, none⟩ = some (.int .i64 r3) ∧ W.cell? ⟨w4.heap.size, 7, none⟩ = some (.int .u32 (r4 : Nat)) ∧ W.cell? ⟨w6.heap.size, 0, none⟩ = some (.string k6) ∧ W.cell? ⟨w6.heap.size, 1, none⟩ = some (.bool d6) ∧ W.cell? ⟨w6.heap.size, 2, none⟩ = some (.bool f6) ∧ W.cell? ⟨w6.heap.size, 3, none⟩ = some (.slice a6 n6 c6x) ∧ W.cell? ⟨w6.heap.size, 4, none⟩ = some (.int .i64 s1) ∧ W.cell? ⟨w6.heap.size, 5, none⟩ = some (.int .i64 s2) ∧ W.cell? ⟨w6.heap.size, 6, none⟩ = some (.int .i64 s3) ∧ W.cell? ⟨w6.heap.size, 7, none⟩ = some (.int .u32 (s4 : Nat))) (first | go_keep | (refine ⟨?_, ?_, ?_, ?_, ?_, ?_, ?_, ?_, ?_, ?_, ?_, ?_, ?_, ?_, ?_, ?_, ?_, ?_, ?_⟩ <;> assumption))
      (first
        | (go_at_call 15; refine (hraT _ hV0.drew).mono ?_; rintro e w7 ⟨a7, c7x, hs7, rfl, hle7, hnl7, ht7, hA7, b7d⟩; have b7 : Below V.heap.size V w7 := below_of_drew b7d; obtain ⟨qa0, qa1, qa2, qa3, qa4, qa5, qa6, qa7, qa8, qa9, qa10, qa11, qa12, qa13, qa14, qa15, qa16, qa17, qa18⟩ := HSV.out w7 b7)
        | (go_at_call 17; refine (hrs _ _ _ _ ht7 hA7).mono ?_; rintro e w8 ⟨a8, c8x, hs8, rfl, hle8, hnl8, ht8, hA8, hbel8⟩; have b8 := b7.trans (hbel8.mono b7.size); obtain ⟨qb0, qb1, qb2, qb3, qb4, qb5, qb6, qb7, qb8, qb9, qb10, qb11, qb12, qb13, qb14, qb15, qb16, qb17, qb18⟩ := HSV.out w8 b8)
        | (go_at_call 14; refine (hsame w3 _ _ _ _ _ _ w8 (hi3.1.1.below (e3V.trans (b8.mono e3V.size)) (Nat.le_refl _)) hi3.1.2 ht8 hA8 (e3V.trans (b8.mono e3V.size)) (hV0.trans (b8.mono hV0.size))).mono ?_; rintro e w9 ⟨rfl, hbel9⟩; have b9 := b8.trans (hbel9.mono b8.size); obtain ⟨qc0, qc1, qc2, qc3, qc4, qc5, qc6, qc7, qc8, qc9, qc10, qc11, qc12, qc13, qc14, qc15, qc16, qc17, qc18⟩ := HSV.out w9 b9)
        | (go_at_call 18; refine (hone ⟨k4, d4, f4, a4, n4, c4x, (r1, r2, r3, r4)⟩ ⟨k6, d6, f6, a6, n6, c6x, (s1, s2, s3, s4)⟩ w9 (hit4.below (of_alloc (g4V.trans (b9.mono g4V.size))) (Nat.le_refl _)) (hit6.below (hV0.trans (b9.mono hV0.size)) (Nat.le_refl _))).mono ?_; rintro e w10 ⟨rfl, hbel10⟩; have b10 := b9.trans (hbel10.mono b9.size); obtain ⟨qd0, qd1, qd2, qd3, qd4, qd5, qd6, qd7, qd8, qd9, qd10, qd11, qd12, qd13, qd14, qd15, qd16, qd17, qd18⟩ := HSV.out w10 b10)
        | (go_at_call 8; refine (haw _).mono ?_; rintro e wz ⟨rfl, hbelz⟩; have bz := b10.trans (hbelz.mono b10.size); obtain ⟨qe0, qe1, qe2, qe3, qe4, qe5, qe6, qe7, qe8, qe9, qe10, qe11, qe12, qe13, qe14, qe15, qe16, qe17, qe18⟩ := HSV.out wz bz))
    all_goals
      go_wp2
      go_ret
      exact ⟨rfl, hb0.trans ((hV0.trans (bz.mono hV0.size)).mono hb0.size)⟩
theorem mergescans_any (a : Option Addr) (n c : Nat) (ps : List PH) (gss : List (List IH)) (xss : List (List It.I)) (lo hi : ByteArray) (most : Int) (w : World) (hi0 : InQ w a n c ps gss xss) (hr : lo.size ≤ maxLen ∧ hi.size ≤ maxLen ∧ (-9223372036854775808 ≤ most ∧ most ≤ 9223372036854775807)) :
    Calls Try.prog 4 #[.slice a n c, .agg #[.string lo, .string hi, .int .i64 most]] w fun e w' => e = .returned (.bool true) ∧ Below w.heap.size w w' := by
  by_cases h : Lite n ps gss ∧ Mg.may xss = true ∧ lo.size ≤ 200 ∧ hi.size ≤ 200
  · exact mergescans_yes a n c ps gss xss lo hi most w hi0 h.1 h.2.1 h.2.2.1 h.2.2.2
  · exact mergescans_no a n c ps gss xss lo hi most w hi0 hr.1 hr.2.1 h
end Go.Proofs.Ytchiilhdkbpboaa
