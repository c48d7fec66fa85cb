/- Edits: getEdit of the program. -/
import Derived.Test.YtkbnojjjfonniaaEL
namespace Go.Proofs.Ytkbnojjjfonniaa
open Go.RowKit

def GERes (w : World) (R : Option (Ed.E × Nat)) (e : Ending) (w' : World) : Prop := match R with
  | none => ∃ k s : Int, e = .returned (.tuple #[ed12 k 0 0 0 0 0 0 0 0 0 ⟨#[]⟩ ⟨#[]⟩, .int .i64 s, .int .i64 2]) ∧ Below w.heap.size w w'
  | some (x, m) => e = .returned (.tuple #[ed12 x.kind x.num x.index x.term x.ht x.hv x.hc x.tab.num x.tab.lev x.tab.size x.tab.first x.tab.last, .int .i64 (m : Nat), .int .i64 0]) ∧ Below w.heap.size w w'
theorem splice6 {F : Nat} {l : List Nat} (h : (F = 0 ∧ l.length ≤ 6) ∨ (F = 1 ∧ l.length ≤ 5)) :
    splice [.int .i64 0, .int .i64 0, .int .i64 0, .int .i64 0, .int .i64 0, .int .i64 0] F (kcells .i64 l) = [Value.int .i64 (Ed.rj F l 0 : Nat), .int .i64 (Ed.rj F l 1 : Nat), .int .i64 (Ed.rj F l 2 : Nat), .int .i64 (Ed.rj F l 3 : Nat), .int .i64 (Ed.rj F l 4 : Nat), .int .i64 (Ed.rj F l 5 : Nat)] := by
  rcases h with ⟨rfl, h⟩ | ⟨rfl, h⟩
  · match l, h with
    | [], _ | [_], _ | [_, _], _ | [_, _, _], _ | [_, _, _, _], _ | [_, _, _, _, _], _ | [_, _, _, _, _, _], _ => rfl
    | _ :: _ :: _ :: _ :: _ :: _ :: _ :: _, h => simp at h
  · match l, h with
    | [], _ | [_], _ | [_, _], _ | [_, _, _], _ | [_, _, _, _], _ | [_, _, _, _, _], _ => rfl
    | _ :: _ :: _ :: _ :: _ :: _ :: _, h => simp at h
theorem row_cases (k : Int) : (pfr k = 0 ∧ pto k - pfr k ≤ 6) ∨ (pfr k = 1 ∧ pto k - pfr k ≤ 5) := by
  unfold pfr pto
  repeat' split
  all_goals omega
theorem src_own {W : World} {B e G n c : Nat} {xs : List Value} (h : W.ownsRow B e 1 (.slice (some ⟨G, 0, none⟩) n c) n xs) : ∀ (j : Nat) (v : Value), xs[j]? = some v → W.cell? ((⟨G, 0, none⟩ : Addr).add j) = some v := by
  intro j v hj
  have e : (⟨G, 0, none⟩ : Addr).add j = ⟨G, j, none⟩ := by
    by_cases h0 : j = 0
    · subst h0; rfl
    · simp [Addr.add, h0]
  rw [e]
  exact (own_cells h hj).1

set_option maxRecDepth 100000 in
set_option maxHeartbeats 4000000 in
theorem egedit_nil (a : Option Addr) (cap : Nat) (w : World) : Calls Try.prog 30 #[.slice a 0 cap] w (GERes w none) := by
  have hb1 := below_alloc w (oed 0 0 0 0 0 0 0 0 0 0 ⟨#[]⟩ ⟨#[]⟩)
  have hz : Hid ((w.alloc (oed 0 0 0 0 0 0 0 0 0 0 ⟨#[]⟩ ⟨#[]⟩)).heap[w.heap.size]? = some (oed 0 0 0 0 0 0 0 0 0 0 ⟨#[]⟩ ⟨#[]⟩)) := (heap_alloc_new w _ : _ = _)
  go_enter Try.func30, Try.ntmps30
  go_wp2
  exact bodyPost_ret (v := .tuple #[ed12 0 0 0 0 0 0 0 0 0 0 ⟨#[]⟩ ⟨#[]⟩, .int .i64 0, .int .i64 2]) (by simp [results, Try.results30, go_sem]) rfl ⟨0, 0, rfl, hb1⟩
set_option maxRecDepth 100000 in
set_option maxHeartbeats 4000000 in
theorem egedit_tab (b off len cap : Nat) (bs : List Nat) (w : World) (K : Nat) (hK : bs.getD 0 0 = K) (hK4 : K = 4) (hpos : 0 < len) (hbig : len ≤ 100000) (hlc : len ≤ cap) (hr : Row .u8 w (some ⟨b, off, none⟩) len bs) :
    Calls Try.prog 30 #[.slice (some ⟨b, off, none⟩) len cap] w (GERes w (match Ed.ptab (bs.drop 1) with | none => none | some (t, m) => some ({ Ed.zero with kind := 4, tab := t }, 1 + m))) := by
  have hb1 := below_alloc w (oed 0 0 0 0 0 0 0 0 0 0 ⟨#[]⟩ ⟨#[]⟩)
  have hz : Hid ((w.alloc (oed 0 0 0 0 0 0 0 0 0 0 ⟨#[]⟩ ⟨#[]⟩)).heap[w.heap.size]? = some (oed 0 0 0 0 0 0 0 0 0 0 ⟨#[]⟩ ⟨#[]⟩)) := (heap_alloc_new w _ : _ = _)
  have hr1 := hr.below hb1 (Nat.le_refl _)
  have hlen : Hid (bs.length = len) := hr.1
  have hc0 : (w.alloc (oed 0 0 0 0 0 0 0 0 0 0 ⟨#[]⟩ ⟨#[]⟩)).cell? ⟨b, off, none⟩ = some (.int .u8 (K : Nat)) := by have := hr1.cell 0 (by omega); rw [hK] at this; simpa using this
  have i0 : (0 : Int) < (len : Int) := by omega
  have i1 : (1 : Int) ≤ (len : Int) := by omega
  have i2 : (len : Int) ≤ (cap : Int) := by omega
  have i3 : ¬ (len : Int) = 0 := by omega
  have i4 : ¬ len = 0 := by omega
  subst hK4
  clear hK
  have htab : ∀ W q l' c', Row .u8 W (some ⟨b, off, none⟩) len bs → ERest b off len cap 1 q l' c' → Calls Try.prog 48 #[.slice q l' c'] W (GTRes W (Ed.ptab (bs.drop 1))) := fun W q l' c' hW hR => by
    obtain ⟨r1, r2⟩ := hR.row hW (by omega) hlc
    exact egtab_any q l' c' _ W (by have := hR.1; omega) r2 r1
  have hpt : ∀ t m, Ed.ptab (bs.drop 1) = some (t, m) → m ≤ 100000 := by
    intro t m h
    unfold Ed.ptab at h
    split at h
    · cases h
    · rename_i l A hn
      have hA := (Ed.pnums_len hn).2.1
      split at h
      · cases h
      · rename_i f m1 h1
        have := (Ed.pkey_some h1 hA).2
        split at h
        · cases h
        · rename_i g m2 h2
          have := (Ed.pkey_some h2 this).2
          simp only [Option.some.injEq, Prod.mk.injEq] at h
          rw [List.length_drop, hlen.out] at this
          omega
  cases hp : Ed.ptab (bs.drop 1) with
  | none =>
    rw [hp] at htab
    clear hpt hp
    by_cases hc1 : cap = 1
    · subst hc1
      go_enter Try.func30, Try.ntmps30
      go_wp2_with (go_at_call 48; go_must (refine (htab _ _ _ _ hr1 ⟨by omega, .inl ⟨by omega, by omega⟩⟩).mono ?_; rintro e w2 ⟨rfl, hb2⟩; have hB2 := hb1.trans (hb2.mono hb1.size); have hz2 : Hid (_ = _) := ob_alloc (ob_below hz.out hb2) (otab 0 0 0 ⟨#[]⟩ ⟨#[]⟩); obtain ⟨z0, z1, z2, z3, z4, z5, z6, z7, z8, z9, z10, z11⟩ := blk12 hz2.out; have zf := blk_thaw hz2.out; have hB3 := hB2.alloc hB2.size (otab 0 0 0 ⟨#[]⟩ ⟨#[]⟩)))
      exact bodyPost_ret (v := .tuple #[ed12 4 0 0 0 0 0 0 0 0 0 ⟨#[]⟩ ⟨#[]⟩, .int .i64 1, .int .i64 2]) (by simp [results, Try.results30, go_sem, z0, z1, z2, z3, z4, z5, z6, z7, z8, z9, z10, z11]) rfl ⟨4, 1, rfl, (below_put (below_put (below_put (below_put (below_put (below_put (below_put (below_put (below_put (below_put (below_put (below_put hB3 (Nat.le_refl _) _ _) (Nat.le_refl _) _ _) (Nat.le_refl _) _ _) (Nat.le_refl _) _ _) (Nat.le_refl _) _ _) (Nat.le_refl _) _ _) (Nat.le_refl _) _ _) (Nat.le_refl _) _ _) (Nat.le_refl _) _ _) (Nat.le_refl _) _ _) (Nat.le_refl _) _ _) (Nat.le_refl _) _ _)⟩
    · skip
      go_enter Try.func30, Try.ntmps30
      go_wp2_with (go_at_call 48; go_must (refine (htab _ _ _ _ hr1 ⟨rfl, .inr ⟨rfl, rfl⟩⟩).mono ?_; rintro e w2 ⟨rfl, hb2⟩; have hB2 := hb1.trans (hb2.mono hb1.size); have hz2 : Hid (_ = _) := ob_alloc (ob_below hz.out hb2) (otab 0 0 0 ⟨#[]⟩ ⟨#[]⟩); obtain ⟨z0, z1, z2, z3, z4, z5, z6, z7, z8, z9, z10, z11⟩ := blk12 hz2.out; have zf := blk_thaw hz2.out; have hB3 := hB2.alloc hB2.size (otab 0 0 0 ⟨#[]⟩ ⟨#[]⟩)))
      exact bodyPost_ret (v := .tuple #[ed12 4 0 0 0 0 0 0 0 0 0 ⟨#[]⟩ ⟨#[]⟩, .int .i64 1, .int .i64 2]) (by simp [results, Try.results30, go_sem, z0, z1, z2, z3, z4, z5, z6, z7, z8, z9, z10, z11]) rfl ⟨4, 1, rfl, (below_put (below_put (below_put (below_put (below_put (below_put (below_put (below_put (below_put (below_put (below_put (below_put hB3 (Nat.le_refl _) _ _) (Nat.le_refl _) _ _) (Nat.le_refl _) _ _) (Nat.le_refl _) _ _) (Nat.le_refl _) _ _) (Nat.le_refl _) _ _) (Nat.le_refl _) _ _) (Nat.le_refl _) _ _) (Nat.le_refl _) _ _) (Nat.le_refl _) _ _) (Nat.le_refl _) _ _) (Nat.le_refl _) _ _)⟩
  | some x =>
    obtain ⟨⟨p, q, r, f, g⟩, m⟩ := x
    have hm := hpt _ _ hp
    rw [hp] at htab
    clear hpt hp
    have htab : ∀ W q' l' c', Row .u8 W (some ⟨b, off, none⟩) len bs → ERest b off len cap 1 q' l' c' → Calls Try.prog 48 #[.slice q' l' c'] W fun e w' => e = .returned (.tuple #[.agg #[.int .i64 p, .int .i64 q, .int .i64 r, .string f, .string g], .int .i64 (m : Nat), .int .i64 0]) ∧ Below W.heap.size W w' := htab
    have j1 : IntKind.i64.wrap (1 + (m : Int)) = ((1 + m : Nat) : Int) := by rw [IntKind.wrap_i64]; omega
    by_cases hc1 : cap = 1
    · subst hc1
      go_enter Try.func30, Try.ntmps30
      go_wp2_with (go_at_call 48; go_must (refine (htab _ _ _ _ hr1 ⟨by omega, .inl ⟨by omega, by omega⟩⟩).mono ?_; rintro e w2 ⟨rfl, hb2⟩; have hB2 := hb1.trans (hb2.mono hb1.size); have hz2 : Hid (_ = _) := ob_alloc (ob_below hz.out hb2) (otab p q r f g); obtain ⟨z0, z1, z2, z3, z4, z5, z6, z7, z8, z9, z10, z11⟩ := blk12 hz2.out; have zf := blk_thaw hz2.out; have hB3 := hB2.alloc hB2.size (otab p q r f g)))
      exact bodyPost_ret (v := .tuple #[ed12 4 0 0 0 0 0 0 p q r f g, .int .i64 (1 + (m : Int)), .int .i64 0]) (by simp [results, Try.results30, go_sem, z0, z1, z2, z3, z4, z5, z6, z7, z8, z9, z10, z11]) rfl ⟨by simp [Ed.zero], (below_put (below_put (below_put (below_put (below_put (below_put (below_put (below_put (below_put (below_put (below_put (below_put hB3 (Nat.le_refl _) _ _) (Nat.le_refl _) _ _) (Nat.le_refl _) _ _) (Nat.le_refl _) _ _) (Nat.le_refl _) _ _) (Nat.le_refl _) _ _) (Nat.le_refl _) _ _) (Nat.le_refl _) _ _) (Nat.le_refl _) _ _) (Nat.le_refl _) _ _) (Nat.le_refl _) _ _) (Nat.le_refl _) _ _)⟩
    · skip
      go_enter Try.func30, Try.ntmps30
      go_wp2_with (go_at_call 48; go_must (refine (htab _ _ _ _ hr1 ⟨rfl, .inr ⟨rfl, rfl⟩⟩).mono ?_; rintro e w2 ⟨rfl, hb2⟩; have hB2 := hb1.trans (hb2.mono hb1.size); have hz2 : Hid (_ = _) := ob_alloc (ob_below hz.out hb2) (otab p q r f g); obtain ⟨z0, z1, z2, z3, z4, z5, z6, z7, z8, z9, z10, z11⟩ := blk12 hz2.out; have zf := blk_thaw hz2.out; have hB3 := hB2.alloc hB2.size (otab p q r f g)))
      exact bodyPost_ret (v := .tuple #[ed12 4 0 0 0 0 0 0 p q r f g, .int .i64 (1 + (m : Int)), .int .i64 0]) (by simp [results, Try.results30, go_sem, z0, z1, z2, z3, z4, z5, z6, z7, z8, z9, z10, z11]) rfl ⟨by simp [Ed.zero], (below_put (below_put (below_put (below_put (below_put (below_put (below_put (below_put (below_put (below_put (below_put (below_put hB3 (Nat.le_refl _) _ _) (Nat.le_refl _) _ _) (Nat.le_refl _) _ _) (Nat.le_refl _) _ _) (Nat.le_refl _) _ _) (Nat.le_refl _) _ _) (Nat.le_refl _) _ _) (Nat.le_refl _) _ _) (Nat.le_refl _) _ _) (Nat.le_refl _) _ _) (Nat.le_refl _) _ _) (Nat.le_refl _) _ _)⟩
set_option maxRecDepth 100000 in
set_option maxHeartbeats 4000000 in
theorem egedit_row (b off len cap : Nat) (bs : List Nat) (w : World) (K F T : Nat) (hK : bs.getD 0 0 = K) (hK4 : ¬ K = 4) (hF : F < 6) (hFT : F ≤ T) (hT : T ≤ 6) (hFc : (F = 0 ∧ T - F ≤ 6) ∨ (F = 1 ∧ T - F ≤ 5)) (hpos : 0 < len) (hbig : len ≤ 100000) (hlc : len ≤ cap) (hr : Row .u8 w (some ⟨b, off, none⟩) len bs)
    (hn : ∀ W, Calls Try.prog 34 #[.int .i64 (K : Nat)] W fun e w' => e = .returned (.tuple #[.int .i64 (F : Nat), .int .i64 (T : Nat)]) ∧ w' = W) :
    Calls Try.prog 30 #[.slice (some ⟨b, off, none⟩) len cap] w (GERes w (match Ed.pnums (bs.drop 1) (T - F) with | none => none | some (l, m) => some (⟨K, Ed.rj F l 0, Ed.rj F l 1, Ed.rj F l 2, Ed.rj F l 3, Ed.rj F l 4, Ed.rj F l 5, Lv.zero⟩, 1 + m))) := by
  have hb1 := below_alloc w (oed 0 0 0 0 0 0 0 0 0 0 ⟨#[]⟩ ⟨#[]⟩)
  have hz : Hid ((w.alloc (oed 0 0 0 0 0 0 0 0 0 0 ⟨#[]⟩ ⟨#[]⟩)).heap[w.heap.size]? = some (oed 0 0 0 0 0 0 0 0 0 0 ⟨#[]⟩ ⟨#[]⟩)) := (heap_alloc_new w _ : _ = _)
  have hr1 := hr.below hb1 (Nat.le_refl _)
  have hlen : Hid (bs.length = len) := hr.1
  have hc0 : (w.alloc (oed 0 0 0 0 0 0 0 0 0 0 ⟨#[]⟩ ⟨#[]⟩)).cell? ⟨b, off, none⟩ = some (.int .u8 (K : Nat)) := by have := hr1.cell 0 (by omega); rw [hK] at this; simpa using this
  have i0 : (0 : Int) < (len : Int) := by omega
  have i1 : (1 : Int) ≤ (len : Int) := by omega
  have i2 : (len : Int) ≤ (cap : Int) := by omega
  have i3 : ¬ (len : Int) = 0 := by omega
  have i4 : ¬ len = 0 := by omega
  have k4 : ¬ (K : Int) = 4 := by omega
  have hKb : K < 256 := by have := hr.2.2.1 (bs.getD 0 0) (by rw [List.getD_eq_getElem?_getD, List.getElem?_eq_getElem (by rw [hlen.out]; exact hpos)]; exact List.getElem_mem _); rw [hK] at this; exact this
  clear hK
  have hof := fun k n i t a b c W => eofrow_any k n i t a b c W
  have f0 : (0 : Int) ≤ (F : Int) := by omega
  have f1 : (F : Int) ≤ (T : Int) := by omega
  have f2 : (T : Int) ≤ 6 := by omega
  have jn : IntKind.i64.wrap ((T : Int) - (F : Int)) = ((T - F : Nat) : Int) := by rw [IntKind.wrap_i64]; omega
  have hnum : ∀ W q l' c', Row .u8 W (some ⟨b, off, none⟩) len bs → ERest b off len cap 1 q l' c' → Calls Try.prog 49 #[.slice q l' c', .int .i64 ((T - F : Nat) : Int)] W (GNRes W (T - F) (Ed.pnums (bs.drop 1) (T - F))) := fun W q l' c' hW hR => by
    obtain ⟨r1, r2⟩ := hR.row hW (by omega) hlc
    exact egnums_any q l' c' _ (T - F) W (by omega) (by have := hR.1; omega) r2 r1
  have hpl := fun l m (h : Ed.pnums (bs.drop 1) (T - F) = some (l, m)) => Ed.pnums_len h
  cases hp : Ed.pnums (bs.drop 1) (T - F) with
  | none =>
    rw [hp] at hnum
    have hcp : ∀ W R, (Builtin.copy_ #[66, 66] 3 #[.slice (some ⟨R, F, none⟩) (T - F) (6 - F), .slice none 0 0]).run Try.prog W = .ok (.int .i64 0) W := fun W R => run_copy_none W 66 66 3 3 _ _ _ _ 0 0 ints_u ints_s (by simp)
    clear hpl hp
    by_cases hc1 : cap = 1
    · subst hc1
      go_enter Try.func30, Try.ntmps30
      go_wp2_with (first
        | (go_at_call 34; go_must (refine (hn _).mono ?_; rintro e w3 ⟨rfl, rfl⟩))
        | (go_at_call 49; go_must (refine (hnum _ _ _ _ hr1 ⟨by omega, .inl ⟨by omega, by omega⟩⟩).mono ?_; rintro e w2 ⟨rfl, hb2⟩; have hB2 := hb1.trans (hb2.mono hb1.size); have hz2 : Hid (_ = _) := ob_alloc (ob_below hz.out hb2) (.cells #[.int .i64 0, .int .i64 0, .int .i64 0, .int .i64 0, .int .i64 0, .int .i64 0] 63); have hB3 := hB2.alloc hB2.size (.cells #[.int .i64 0, .int .i64 0, .int .i64 0, .int .i64 0, .int .i64 0, .int .i64 0] 63)))
        | (go_at_call 35; go_must (refine (hof _ _ _ _ _ _ _ _).mono ?_; rintro e w5 ⟨rfl, hb5⟩; have hz5 : Hid (_ = _) := ob_below hz2.out hb5; obtain ⟨z0, z1, z2, z3, z4, z5, z6, z7, z8, z9, z10, z11⟩ := blk12 hz5.out; have zf := blk_thaw hz5.out; have hB5 := hB3.trans (hb5.mono hB3.size))))
      exact bodyPost_ret (v := .tuple #[ed12 K 0 0 0 0 0 0 0 0 0 ⟨#[]⟩ ⟨#[]⟩, .int .i64 1, .int .i64 2]) (by simp [results, Try.results30, go_sem, z0, z1, z2, z3, z4, z5, z6, z7, z8, z9, z10, z11]) rfl ⟨K, 1, rfl, (below_put (below_put (below_put (below_put (below_put (below_put (below_put (below_put (below_put (below_put (below_put (below_put hB5 (Nat.le_refl _) _ _) (Nat.le_refl _) _ _) (Nat.le_refl _) _ _) (Nat.le_refl _) _ _) (Nat.le_refl _) _ _) (Nat.le_refl _) _ _) (Nat.le_refl _) _ _) (Nat.le_refl _) _ _) (Nat.le_refl _) _ _) (Nat.le_refl _) _ _) (Nat.le_refl _) _ _) (Nat.le_refl _) _ _)⟩
    · skip
      go_enter Try.func30, Try.ntmps30
      go_wp2_with (first
        | (go_at_call 34; go_must (refine (hn _).mono ?_; rintro e w3 ⟨rfl, rfl⟩))
        | (go_at_call 49; go_must (refine (hnum _ _ _ _ hr1 ⟨rfl, .inr ⟨rfl, rfl⟩⟩).mono ?_; rintro e w2 ⟨rfl, hb2⟩; have hB2 := hb1.trans (hb2.mono hb1.size); have hz2 : Hid (_ = _) := ob_alloc (ob_below hz.out hb2) (.cells #[.int .i64 0, .int .i64 0, .int .i64 0, .int .i64 0, .int .i64 0, .int .i64 0] 63); have hB3 := hB2.alloc hB2.size (.cells #[.int .i64 0, .int .i64 0, .int .i64 0, .int .i64 0, .int .i64 0, .int .i64 0] 63)))
        | (go_at_call 35; go_must (refine (hof _ _ _ _ _ _ _ _).mono ?_; rintro e w5 ⟨rfl, hb5⟩; have hz5 : Hid (_ = _) := ob_below hz2.out hb5; obtain ⟨z0, z1, z2, z3, z4, z5, z6, z7, z8, z9, z10, z11⟩ := blk12 hz5.out; have zf := blk_thaw hz5.out; have hB5 := hB3.trans (hb5.mono hB3.size))))
      exact bodyPost_ret (v := .tuple #[ed12 K 0 0 0 0 0 0 0 0 0 ⟨#[]⟩ ⟨#[]⟩, .int .i64 1, .int .i64 2]) (by simp [results, Try.results30, go_sem, z0, z1, z2, z3, z4, z5, z6, z7, z8, z9, z10, z11]) rfl ⟨K, 1, rfl, (below_put (below_put (below_put (below_put (below_put (below_put (below_put (below_put (below_put (below_put (below_put (below_put hB5 (Nat.le_refl _) _ _) (Nat.le_refl _) _ _) (Nat.le_refl _) _ _) (Nat.le_refl _) _ _) (Nat.le_refl _) _ _) (Nat.le_refl _) _ _) (Nat.le_refl _) _ _) (Nat.le_refl _) _ _) (Nat.le_refl _) _ _) (Nat.le_refl _) _ _) (Nat.le_refl _) _ _) (Nat.le_refl _) _ _)⟩
  | some x =>
    obtain ⟨l, m⟩ := x
    obtain ⟨p1, p2, p3⟩ := hpl l m hp
    rw [List.length_drop, hlen.out] at p2
    rw [hp] at hnum
    have hnum : ∀ W q l' c', Row .u8 W (some ⟨b, off, none⟩) len bs → ERest b off len cap 1 q l' c' → Calls Try.prog 49 #[.slice q l' c', .int .i64 ((T - F : Nat) : Int)] W fun e w' => ∃ g, e = .returned (.tuple #[.slice (some ⟨g, 0, none⟩) (T - F) (T - F), .int .i64 (m : Nat), .int .i64 0]) ∧ w'.ownsRow W.heap.size 3 1 (.slice (some ⟨g, 0, none⟩) (T - F) (T - F)) (T - F) (kcells .i64 l) ∧ Below W.heap.size W w' := hnum
    have hsp := splice6 (F := F) (l := l) (by rw [p1]; exact hFc)
    have hsp : Hid (_ = _) := hsp
    have p1 : Hid (l.length = T - F) := p1
    have j1 : IntKind.i64.wrap (1 + (m : Int)) = ((1 + m : Nat) : Int) := by rw [IntKind.wrap_i64]; omega
    clear hpl hp p3
    dsimp only
    generalize Ed.rj F l 0 = y0 at *
    generalize Ed.rj F l 1 = y1 at *
    generalize Ed.rj F l 2 = y2 at *
    generalize Ed.rj F l 3 = y3 at *
    generalize Ed.rj F l 4 = y4 at *
    generalize Ed.rj F l 5 = y5 at *
    by_cases hc1 : cap = 1
    · subst hc1
      go_enter Try.func30, Try.ntmps30
      go_wp2_with (first
        | (go_at_call 34; go_must (refine (hn _).mono ?_; rintro e w3 ⟨rfl, rfl⟩))
        | (go_at_call 49; go_must (refine (hnum _ _ _ _ hr1 ⟨by omega, .inl ⟨by omega, by omega⟩⟩).mono ?_; rintro e w2 ⟨G, rfl, hown2, hb2⟩; have hB2 := hb1.trans (hb2.mono hb1.size); have hz2 : Hid (_ = _) := ob_alloc (ob_below hz.out hb2) (.cells #[.int .i64 0, .int .i64 0, .int .i64 0, .int .i64 0, .int .i64 0, .int .i64 0] 63); have hB3 := hB2.alloc hB2.size (.cells #[.int .i64 0, .int .i64 0, .int .i64 0, .int .i64 0, .int .i64 0, .int .i64 0] 63); have hwz : w.heap.size < w2.heap.size := ob_lt (ob_below hz.out hb2); obtain ⟨W4, hrun, hR4, hb4⟩ := copy_on (w2.alloc (.cells #[.int .i64 0, .int .i64 0, .int .i64 0, .int .i64 0, .int .i64 0, .int .i64 0] 63)) 66 66 3 3 63 ints_u ints_s w2.heap.size F (T - F) (6 - F) (some ⟨G, 0, none⟩) (T - F) (kcells .i64 l) [.int .i64 0, .int .i64 0, .int .i64 0, .int .i64 0, .int .i64 0, .int .i64 0] (by rw [kcells_length]; exact p1.out) (heap_alloc_new w2 _) (fun _ => ⟨_, rfl, src_own (hown2.alloc _)⟩) (by simp only [List.length_cons, List.length_nil]; omega) (fun v hv => by simp only [kcells, List.mem_map] at hv; obtain ⟨_, _, rfl⟩ := hv; rfl); have hR4 : W4.heap[w2.heap.size]? = some (.cells #[.int .i64 (y0 : Nat), .int .i64 (y1 : Nat), .int .i64 (y2 : Nat), .int .i64 (y3 : Nat), .int .i64 (y4 : Nat), .int .i64 (y5 : Nat)] 63 (0, 0)) := (by have := hR4.out; rw [hsp.out] at this; exact this); obtain ⟨r0, r1', r2', r3', r4', r5'⟩ := blk6 hR4; clear hR4; have hz4 : Hid (_ = _) := (hb4.block _ hwz).trans hz2.out; have hB4 := hB3.trans (hb4.mono hB2.size); clear hsp hown2))
        | (go_at_call 35; go_must (refine (hof _ _ _ _ _ _ _ _).mono ?_; rintro e w5 ⟨rfl, hb5⟩; have hz5 : Hid (_ = _) := ob_below hz4.out hb5; obtain ⟨z0, z1, z2, z3, z4, z5, z6, z7, z8, z9, z10, z11⟩ := blk12 hz5.out; have zf := blk_thaw hz5.out; have hB5 := hB4.trans (hb5.mono hB4.size))))
      exact bodyPost_ret (v := .tuple #[ed12 K y0 y1 y2 y3 y4 y5 0 0 0 ⟨#[]⟩ ⟨#[]⟩, .int .i64 (1 + (m : Int)), .int .i64 0]) (by simp [results, Try.results30, go_sem, z0, z1, z2, z3, z4, z5, z6, z7, z8, z9, z10, z11]) rfl ⟨by simp [Lv.zero], (below_put (below_put (below_put (below_put (below_put (below_put (below_put (below_put (below_put (below_put (below_put (below_put hB5 (Nat.le_refl _) _ _) (Nat.le_refl _) _ _) (Nat.le_refl _) _ _) (Nat.le_refl _) _ _) (Nat.le_refl _) _ _) (Nat.le_refl _) _ _) (Nat.le_refl _) _ _) (Nat.le_refl _) _ _) (Nat.le_refl _) _ _) (Nat.le_refl _) _ _) (Nat.le_refl _) _ _) (Nat.le_refl _) _ _)⟩
    · skip
      go_enter Try.func30, Try.ntmps30
      go_wp2_with (first
        | (go_at_call 34; go_must (refine (hn _).mono ?_; rintro e w3 ⟨rfl, rfl⟩))
        | (go_at_call 49; go_must (refine (hnum _ _ _ _ hr1 ⟨rfl, .inr ⟨rfl, rfl⟩⟩).mono ?_; rintro e w2 ⟨G, rfl, hown2, hb2⟩; have hB2 := hb1.trans (hb2.mono hb1.size); have hz2 : Hid (_ = _) := ob_alloc (ob_below hz.out hb2) (.cells #[.int .i64 0, .int .i64 0, .int .i64 0, .int .i64 0, .int .i64 0, .int .i64 0] 63); have hB3 := hB2.alloc hB2.size (.cells #[.int .i64 0, .int .i64 0, .int .i64 0, .int .i64 0, .int .i64 0, .int .i64 0] 63); have hwz : w.heap.size < w2.heap.size := ob_lt (ob_below hz.out hb2); obtain ⟨W4, hrun, hR4, hb4⟩ := copy_on (w2.alloc (.cells #[.int .i64 0, .int .i64 0, .int .i64 0, .int .i64 0, .int .i64 0, .int .i64 0] 63)) 66 66 3 3 63 ints_u ints_s w2.heap.size F (T - F) (6 - F) (some ⟨G, 0, none⟩) (T - F) (kcells .i64 l) [.int .i64 0, .int .i64 0, .int .i64 0, .int .i64 0, .int .i64 0, .int .i64 0] (by rw [kcells_length]; exact p1.out) (heap_alloc_new w2 _) (fun _ => ⟨_, rfl, src_own (hown2.alloc _)⟩) (by simp only [List.length_cons, List.length_nil]; omega) (fun v hv => by simp only [kcells, List.mem_map] at hv; obtain ⟨_, _, rfl⟩ := hv; rfl); have hR4 : W4.heap[w2.heap.size]? = some (.cells #[.int .i64 (y0 : Nat), .int .i64 (y1 : Nat), .int .i64 (y2 : Nat), .int .i64 (y3 : Nat), .int .i64 (y4 : Nat), .int .i64 (y5 : Nat)] 63 (0, 0)) := (by have := hR4.out; rw [hsp.out] at this; exact this); obtain ⟨r0, r1', r2', r3', r4', r5'⟩ := blk6 hR4; clear hR4; have hz4 : Hid (_ = _) := (hb4.block _ hwz).trans hz2.out; have hB4 := hB3.trans (hb4.mono hB2.size); clear hsp hown2))
        | (go_at_call 35; go_must (refine (hof _ _ _ _ _ _ _ _).mono ?_; rintro e w5 ⟨rfl, hb5⟩; have hz5 : Hid (_ = _) := ob_below hz4.out hb5; obtain ⟨z0, z1, z2, z3, z4, z5, z6, z7, z8, z9, z10, z11⟩ := blk12 hz5.out; have zf := blk_thaw hz5.out; have hB5 := hB4.trans (hb5.mono hB4.size))))
      exact bodyPost_ret (v := .tuple #[ed12 K y0 y1 y2 y3 y4 y5 0 0 0 ⟨#[]⟩ ⟨#[]⟩, .int .i64 (1 + (m : Int)), .int .i64 0]) (by simp [results, Try.results30, go_sem, z0, z1, z2, z3, z4, z5, z6, z7, z8, z9, z10, z11]) rfl ⟨by simp [Lv.zero], (below_put (below_put (below_put (below_put (below_put (below_put (below_put (below_put (below_put (below_put (below_put (below_put hB5 (Nat.le_refl _) _ _) (Nat.le_refl _) _ _) (Nat.le_refl _) _ _) (Nat.le_refl _) _ _) (Nat.le_refl _) _ _) (Nat.le_refl _) _ _) (Nat.le_refl _) _ _) (Nat.le_refl _) _ _) (Nat.le_refl _) _ _) (Nat.le_refl _) _ _) (Nat.le_refl _) _ _) (Nat.le_refl _) _ _)⟩
theorem egedit_any (a : Option Addr) (len cap : Nat) (bs : List Nat) (w : World) (hbig : len ≤ 100000) (hshape : Shape a len cap) (hr : Row .u8 w a len bs) :
    Calls Try.prog 30 #[.slice a len cap] w (GERes w (Ed.pfirst bs)) := by
  by_cases h0 : len = 0
  · subst h0
    have hbs : bs = [] := List.length_eq_zero_iff.mp hr.1
    have e : Ed.pfirst bs = none := by rw [Ed.pfirst, if_pos hbs]
    rw [e]
    exact egedit_nil a cap w
  · rcases hshape with ⟨h1, -⟩ | ⟨b, off, rfl, hlc⟩
    · exact absurd h1 h0
    · have hne : bs ≠ [] := fun h => by have := hr.1; rw [h] at this; exact h0 this.symm
      unfold Ed.pfirst
      rw [if_neg hne]
      by_cases h4 : bs.getD 0 0 = 4
      · rw [if_pos h4]
        exact egedit_tab b off len cap bs w _ rfl h4 (by omega) hbig hlc hr
      · rw [if_neg h4]
        exact egedit_row b off len cap bs w _ (pfr (bs.getD 0 0 : Nat)) (pto (bs.getD 0 0 : Nat)) rfl h4 row_le.1 row_le.2.1 row_le.2.2 (row_cases _) (by omega) hbig hlc hr (fun W => enamed_any _ W)
end Go.Proofs.Ytkbnojjjfonniaa
