/- Edits: getTab of the program. -/
import Derived.Test.YtkbnojjjfonniaaEK
namespace Go.Proofs.Ytkbnojjjfonniaa
open Go.RowKit

/-- the rest of a slice from a place on -/
def ERest (b off n c p : Nat) (a' : Option Addr) (l' c' : Nat) : Prop := l' = n - p ∧ ((l' = 0 ∧ c' = 0) ∨ (a' = some ⟨b, off + p, none⟩ ∧ c' = c - p))
theorem ERest.row {b off n c p : Nat} {a' : Option Addr} {l' c' : Nat} {bs : List Nat} {W : World} (h : ERest b off n c p a' l' c') (hr : Row .u8 W (some ⟨b, off, none⟩) n bs) (hp : p ≤ n) (hc : n ≤ c) : Row .u8 W a' l' (bs.drop p) ∧ Shape a' l' c' := by
  have h1 := hr.drop p hp
  obtain ⟨rfl, ⟨h2, rfl⟩ | ⟨rfl, rfl⟩⟩ := h
  · rw [h2]
    refine ⟨⟨by rw [List.length_drop, hr.1]; exact h2, by omega, h1.2.2.1, .inl rfl⟩, ?_⟩
    cases a' <;> simp [Shape]
  · exact ⟨h1, by simp [Shape]; omega⟩
def GTRes (w : World) (R : Option (Lv.T × Nat)) (e : Ending) (w' : World) : Prop := match R with
  | none => e = .returned (.tuple #[.agg #[.int .i64 0, .int .i64 0, .int .i64 0, .string ⟨#[]⟩, .string ⟨#[]⟩], .int .i64 0, .int .i64 2]) ∧ Below w.heap.size w w'
  | some (t, m) => e = .returned (.tuple #[.agg #[.int .i64 t.num, .int .i64 t.lev, .int .i64 t.size, .string t.first, .string t.last], .int .i64 (m : Nat), .int .i64 0]) ∧ Below w.heap.size w w'
theorem pkey_nil : Ed.pkey [] = none := by decide
theorem eblk5 {W : World} {g : Nat} {x1 x2 x3 : Int} {x4 x5 : ByteArray} (h : W.heap[g]? = some (otab x1 x2 x3 x4 x5)) :
    W.cell? ⟨g, 0, none⟩ = some (.int .i64 x1) ∧ W.cell? ⟨g, 1, none⟩ = some (.int .i64 x2) ∧ W.cell? ⟨g, 2, none⟩ = some (.int .i64 x3) ∧ W.cell? ⟨g, 3, none⟩ = some (.string x4) ∧ W.cell? ⟨g, 4, none⟩ = some (.string x5) := by
  refine ⟨?_, ?_, ?_, ?_, ?_⟩ <;> (simp only [World.cell?, h]; rfl)

set_option maxRecDepth 100000 in
set_option maxHeartbeats 4000000 in
theorem egtab_any (a : Option Addr) (len cap : Nat) (bs : List Nat) (w : World) (hbig : len ≤ 100000) (hshape : Shape a len cap) (hr : Row .u8 w a len bs) :
    Calls Try.prog 48 #[.slice a len cap] w (GTRes w (Ed.ptab bs)) := by
  obtain ⟨Z, hZ⟩ : ∃ Z, Z = otab 0 0 0 ⟨#[]⟩ ⟨#[]⟩ := ⟨_, rfl⟩
  have hb1 := below_alloc w Z
  have hnum := egnums_any a len cap bs 3 (w.alloc Z) (by omega) hbig hshape (hr.below hb1 (Nat.le_refl _))
  have hz : Hid ((w.alloc Z).heap[w.heap.size]? = some (otab 0 0 0 ⟨#[]⟩ ⟨#[]⟩)) := (by rw [hZ]; exact heap_alloc_new w _ : _ = _)
  have hb1 : Below w.heap.size w (w.alloc Z) := hb1
  have hlen : Hid (bs.length = len) := hr.1
  have HP : Hid (Ed.ptab bs = match Ed.pnums bs 3 with | none => none | some (l, a) => match Ed.pkey (bs.drop a) with | none => none | some (f, m) => match Ed.pkey (bs.drop (a + m)) with | none => none | some (g, m2) => some (⟨l.getD 0 0, l.getD 1 0, l.getD 2 0, f, g⟩, a + m + m2)) := (rfl : _ = _)
  have hpl := fun l m (h : Ed.pnums bs 3 = some (l, m)) => Ed.pnums_len h
  generalize Ed.ptab bs = P at *
  subst hZ
  cases hpn : Ed.pnums bs 3 with
  | none =>
    rw [hpn] at hnum HP
    have HN : Hid (P = none) := HP
    clear hpl HP hpn
    go_enter Try.func48, Try.ntmps48
    go_wp2_with (go_at_call 49; go_must (refine hnum.mono ?_; rintro e w2 ⟨rfl, hb2⟩; have hz2 : Hid (_ = _) := ob_below hz.out hb2; obtain ⟨z0, z1, z2, z3, z4⟩ := eblk5 hz2.out; have zf := blk_thaw hz2.out; have hB2 := hb1.trans (hb2.mono hb1.size)))
    exact bodyPost_ret (v := .tuple #[.agg #[.int .i64 0, .int .i64 0, .int .i64 0, .string ⟨#[]⟩, .string ⟨#[]⟩], .int .i64 0, .int .i64 2]) (by simp [results, Try.results48, go_sem, z0, z1, z2, z3, z4]) rfl (by rw [HN.out]; exact ⟨rfl, below_put (below_put (below_put (below_put (below_put hB2 (Nat.le_refl _) _ _) (Nat.le_refl _) _ _) (Nat.le_refl _) _ _) (Nat.le_refl _) _ _) (Nat.le_refl _) _ _⟩)
  | some x =>
    obtain ⟨L, A⟩ := x
    obtain ⟨p1, p2, p3⟩ := hpl L A hpn
    rw [hlen.out] at p2
    obtain ⟨l0, l1, l2, rfl⟩ := Ed.len3 p1
    rw [hpn] at hnum HP
    have HP : Hid (P = match Ed.pkey (bs.drop A) with | none => none | some (f, m) => match Ed.pkey (bs.drop (A + m)) with | none => none | some (g, m2) => some (⟨l0, l1, l2, f, g⟩, A + m + m2)) := HP
    have hnum : Calls Try.prog 49 #[.slice a len cap, .int .i64 (3 : Nat)] (w.alloc (otab 0 0 0 ⟨#[]⟩ ⟨#[]⟩)) fun e w2 => ∃ g, e = .returned (.tuple #[.slice (some ⟨g, 0, none⟩) 3 3, .int .i64 (A : Nat), .int .i64 0]) ∧ w2.ownsRow (w.alloc (otab 0 0 0 ⟨#[]⟩ ⟨#[]⟩)).heap.size 3 1 (.slice (some ⟨g, 0, none⟩) 3 3) 3 (kcells .i64 [l0, l1, l2]) ∧ Below (w.alloc (otab 0 0 0 ⟨#[]⟩ ⟨#[]⟩)).heap.size (w.alloc (otab 0 0 0 ⟨#[]⟩ ⟨#[]⟩)) w2 := hnum
    clear hpl hpn p1 p3
    have hsh0 := hshape
    rcases hshape with ⟨h0, hc0⟩ | ⟨b, off, rfl, hlc⟩
    · -- no bytes at all
      subst h0; subst hc0
      obtain rfl : A = 0 := by omega
      have hbs : bs = [] := List.length_eq_zero_iff.mp hlen.out
      have HN : Hid (P = none) := (by rw [HP.out, hbs]; rw [show ([] : List Nat).drop 0 = [] from rfl, pkey_nil] : P = none)
      have hk0 : ∀ q W, Calls Try.prog 55 #[.slice q 0 0] W (GKRes W none) := fun q W => by
        have := egkey_any q 0 0 [] W (by omega) (.inl ⟨rfl, rfl⟩) ⟨rfl, by omega, by simp, .inl rfl⟩
        rwa [pkey_nil] at this
      clear HP hbs
      go_enter Try.func48, Try.ntmps48
      go_wp2_with (first
        | (go_at_call 49; go_must (refine hnum.mono ?_; rintro e w2 ⟨G, rfl, hown2, hb2⟩; have hz2 : Hid (_ = _) := ob_below hz.out hb2; obtain ⟨z0, z1, z2, z3, z4⟩ := eblk5 hz2.out; have zf := blk_thaw hz2.out; have hB2 := hb1.trans (hb2.mono hb1.size); have hr2 := hr.below hB2 (Nat.le_refl _)))
        | (go_at_call 55; go_must (refine (hk0 _ _).mono ?_; rintro e w3 ⟨rfl, rfl⟩)))
      exact bodyPost_ret (v := .tuple #[.agg #[.int .i64 0, .int .i64 0, .int .i64 0, .string ⟨#[]⟩, .string ⟨#[]⟩], .int .i64 0, .int .i64 2]) (by simp [results, Try.results48, go_sem, z0, z1, z2, z3, z4]) rfl (by rw [HN.out]; exact ⟨rfl, below_put (below_put (below_put (below_put (below_put hB2 (Nat.le_refl _) _ _) (Nat.le_refl _) _ _) (Nat.le_refl _) _ _) (Nat.le_refl _) _ _) (Nat.le_refl _) _ _⟩)
    · have i0 : (0 : Int) ≤ (A : Int) := by omega
      have i1 : (A : Int) ≤ (len : Int) := by omega
      have i2 : (len : Int) ≤ (cap : Int) := by omega
      have hk1 : ∀ W q l' c', Row .u8 W (some ⟨b, off, none⟩) len bs → ERest b off len cap A q l' c' → Calls Try.prog 55 #[.slice q l' c'] W (GKRes W (Ed.pkey (bs.drop A))) := fun W q l' c' hW hR => by
        obtain ⟨r1, r2⟩ := hR.row hW p2 hlc
        exact egkey_any q l' c' _ W (by have := hR.1; omega) r2 r1
      by_cases hcA : cap = A
      · subst hcA
        obtain rfl : len = cap := by omega
        have hd : bs.drop len = [] := List.drop_of_length_le (by rw [hlen.out]; exact Nat.le_refl _)
        have HN : Hid (P = none) := (by rw [HP.out, hd, pkey_nil] : P = none)
        rw [hd, pkey_nil] at hk1
        clear HP hd
        go_enter Try.func48, Try.ntmps48
        go_wp2_with (first
          | (go_at_call 49; go_must (refine hnum.mono ?_; rintro e w2 ⟨G, rfl, hown2, hb2⟩; have hz2 : Hid (_ = _) := ob_below hz.out hb2; obtain ⟨z0, z1, z2, z3, z4⟩ := eblk5 hz2.out; have zf := blk_thaw hz2.out; have hB2 := hb1.trans (hb2.mono hb1.size); have hr2 := hr.below hB2 (Nat.le_refl _)))
          | (go_at_call 55; go_must (refine (hk1 _ _ _ _ hr2 ⟨by omega, .inl ⟨by omega, by omega⟩⟩).mono ?_; rintro e w3 ⟨rfl, rfl⟩)))
        exact bodyPost_ret (v := .tuple #[.agg #[.int .i64 0, .int .i64 0, .int .i64 0, .string ⟨#[]⟩, .string ⟨#[]⟩], .int .i64 0, .int .i64 2]) (by simp [results, Try.results48, go_sem, z0, z1, z2, z3, z4]) rfl (by rw [HN.out]; exact ⟨rfl, below_put (below_put (below_put (below_put (below_put hB2 (Nat.le_refl _) _ _) (Nat.le_refl _) _ _) (Nat.le_refl _) _ _) (Nat.le_refl _) _ _) (Nat.le_refl _) _ _⟩)
      cases hk : Ed.pkey (bs.drop A) with
      | none =>
        rw [hk] at hk1 HP
        have HN : Hid (P = none) := HP
        clear HP hk
        go_enter Try.func48, Try.ntmps48
        go_wp2_with (first
          | (go_at_call 49; go_must (refine hnum.mono ?_; rintro e w2 ⟨G, rfl, hown2, hb2⟩; have hz2 : Hid (_ = _) := ob_below hz.out hb2; obtain ⟨z0, z1, z2, z3, z4⟩ := eblk5 hz2.out; have zf := blk_thaw hz2.out; have hB2 := hb1.trans (hb2.mono hb1.size); have hr2 := hr.below hB2 (Nat.le_refl _)))
          | (go_at_call 55; go_must (refine (hk1 _ _ _ _ hr2 ⟨rfl, .inr ⟨rfl, rfl⟩⟩).mono ?_; rintro e w3 ⟨rfl, rfl⟩)))
        exact bodyPost_ret (v := .tuple #[.agg #[.int .i64 0, .int .i64 0, .int .i64 0, .string ⟨#[]⟩, .string ⟨#[]⟩], .int .i64 0, .int .i64 2]) (by simp [results, Try.results48, go_sem, z0, z1, z2, z3, z4]) rfl (by rw [HN.out]; exact ⟨rfl, below_put (below_put (below_put (below_put (below_put hB2 (Nat.le_refl _) _ _) (Nat.le_refl _) _ _) (Nat.le_refl _) _ _) (Nat.le_refl _) _ _) (Nat.le_refl _) _ _⟩)
      | some x =>
        obtain ⟨f, m⟩ := x
        obtain ⟨_, k2⟩ := Ed.pkey_some hk (by rw [hlen.out]; exact p2)
        rw [hlen.out] at k2
        rw [hk] at hk1 HP
        obtain ⟨A2, hA2⟩ : ∃ A2 : Nat, A2 = A + m := ⟨_, rfl⟩
        have HP : Hid (P = match Ed.pkey (bs.drop A2) with | none => none | some (g, m2) => some (⟨l0, l1, l2, f, g⟩, A2 + m2)) := (by rw [hA2]; exact HP.out : P = _)
        have j1 : IntKind.i64.wrap ((A : Int) + (m : Int)) = (A2 : Int) := by rw [IntKind.wrap_i64]; omega
        rw [← hA2] at k2
        have i3 : (0 : Int) ≤ (A2 : Int) := by omega
        have i4 : (A2 : Int) ≤ (len : Int) := by omega
        have hk2 : ∀ W q l' c', Row .u8 W (some ⟨b, off, none⟩) len bs → ERest b off len cap A2 q l' c' → Calls Try.prog 55 #[.slice q l' c'] W (GKRes W (Ed.pkey (bs.drop A2))) := fun W q l' c' hW hR => by
          obtain ⟨r1, r2⟩ := hR.row hW k2 hlc
          exact egkey_any q l' c' _ W (by have := hR.1; omega) r2 r1
        clear hk hA2
        have hk1 : ∀ W q l' c', Row .u8 W (some ⟨b, off, none⟩) len bs → ERest b off len cap A q l' c' → Calls Try.prog 55 #[.slice q l' c'] W fun e w' => e = .returned (.tuple #[.string f, .int .i64 (m : Nat), .int .i64 0]) ∧ w' = W := hk1
        have tok : Hid (0 = 0) := (rfl : 0 = 0)
        by_cases hcA2 : cap = A2
        · subst hcA2
          obtain rfl : len = cap := by omega
          have hd : bs.drop len = [] := List.drop_of_length_le (by rw [hlen.out]; exact Nat.le_refl _)
          have HN : Hid (P = none) := (by rw [HP.out, hd, pkey_nil] : P = none)
          rw [hd, pkey_nil] at hk2
          clear HP hd
          go_enter Try.func48, Try.ntmps48
          go_wp2_with (first
            | (go_at_call 49; go_must (refine hnum.mono ?_; rintro e w2 ⟨G, rfl, hown2, hb2⟩; have hz2 : Hid (_ = _) := ob_below hz.out hb2; obtain ⟨z0, z1, z2, z3, z4⟩ := eblk5 hz2.out; have zf := blk_thaw hz2.out; have hB2 := hb1.trans (hb2.mono hb1.size); have hr2 := hr.below hB2 (Nat.le_refl _)))
            | (go_at_call 55; clear tok; go_must (refine (hk1 _ _ _ _ hr2 ⟨rfl, .inr ⟨rfl, rfl⟩⟩).mono ?_; rintro e w3 ⟨rfl, rfl⟩))
            | (go_at_call 55; go_must (refine (hk2 _ _ _ _ hr2 ⟨by omega, .inl ⟨by omega, by omega⟩⟩).mono ?_; rintro e w4 ⟨rfl, rfl⟩)))
          exact bodyPost_ret (v := .tuple #[.agg #[.int .i64 0, .int .i64 0, .int .i64 0, .string ⟨#[]⟩, .string ⟨#[]⟩], .int .i64 0, .int .i64 2]) (by simp [results, Try.results48, go_sem, z0, z1, z2, z3, z4]) rfl (by rw [HN.out]; exact ⟨rfl, below_put (below_put (below_put (below_put (below_put hB2 (Nat.le_refl _) _ _) (Nat.le_refl _) _ _) (Nat.le_refl _) _ _) (Nat.le_refl _) _ _) (Nat.le_refl _) _ _⟩)
        cases hkk : Ed.pkey (bs.drop A2) with
        | none =>
          rw [hkk] at hk2 HP
          have HN : Hid (P = none) := HP
          clear HP hkk
          go_enter Try.func48, Try.ntmps48
          go_wp2_with (first
            | (go_at_call 49; go_must (refine hnum.mono ?_; rintro e w2 ⟨G, rfl, hown2, hb2⟩; have hz2 : Hid (_ = _) := ob_below hz.out hb2; obtain ⟨z0, z1, z2, z3, z4⟩ := eblk5 hz2.out; have zf := blk_thaw hz2.out; have hB2 := hb1.trans (hb2.mono hb1.size); have hr2 := hr.below hB2 (Nat.le_refl _)))
            | (go_at_call 55; clear tok; go_must (refine (hk1 _ _ _ _ hr2 ⟨rfl, .inr ⟨rfl, rfl⟩⟩).mono ?_; rintro e w3 ⟨rfl, rfl⟩))
            | (go_at_call 55; go_must (refine (hk2 _ _ _ _ hr2 ⟨rfl, .inr ⟨rfl, rfl⟩⟩).mono ?_; rintro e w4 ⟨rfl, rfl⟩)))
          exact bodyPost_ret (v := .tuple #[.agg #[.int .i64 0, .int .i64 0, .int .i64 0, .string ⟨#[]⟩, .string ⟨#[]⟩], .int .i64 0, .int .i64 2]) (by simp [results, Try.results48, go_sem, z0, z1, z2, z3, z4]) rfl (by rw [HN.out]; exact ⟨rfl, below_put (below_put (below_put (below_put (below_put hB2 (Nat.le_refl _) _ _) (Nat.le_refl _) _ _) (Nat.le_refl _) _ _) (Nat.le_refl _) _ _) (Nat.le_refl _) _ _⟩)
        | some y =>
          obtain ⟨g, m2⟩ := y
          obtain ⟨_, k3⟩ := Ed.pkey_some hkk (by rw [hlen.out]; exact k2)
          rw [hlen.out] at k3
          rw [hkk] at hk2 HP
          have HP : Hid (P = some (⟨l0, l1, l2, f, g⟩, A2 + m2)) := HP
          have hk2 : ∀ W q l' c', Row .u8 W (some ⟨b, off, none⟩) len bs → ERest b off len cap A2 q l' c' → Calls Try.prog 55 #[.slice q l' c'] W fun e w' => e = .returned (.tuple #[.string g, .int .i64 (m2 : Nat), .int .i64 0]) ∧ w' = W := hk2
          have j2 : IntKind.i64.wrap ((A2 : Int) + (m2 : Int)) = ((A2 + m2 : Nat) : Int) := by rw [IntKind.wrap_i64]; omega
          clear hkk
          go_enter Try.func48, Try.ntmps48
          go_wp2_with (first
            | (go_at_call 49; go_must (refine hnum.mono ?_; rintro e w2 ⟨G, rfl, hown2, hb2⟩; have hz2 : Hid (_ = _) := ob_below hz.out hb2; obtain ⟨z0, z1, z2, z3, z4⟩ := eblk5 hz2.out; have zf := blk_thaw hz2.out; have hB2 := hb1.trans (hb2.mono hb1.size); have hr2 := hr.below hB2 (Nat.le_refl _)))
            | (go_at_call 55; clear tok; go_must (refine (hk1 _ _ _ _ hr2 ⟨rfl, .inr ⟨rfl, rfl⟩⟩).mono ?_; rintro e w3 ⟨rfl, rfl⟩))
            | (go_at_call 55; go_must (refine (hk2 _ _ _ _ hr2 ⟨rfl, .inr ⟨rfl, rfl⟩⟩).mono ?_; rintro e w4 ⟨rfl, rfl⟩)))
          obtain ⟨u0, -⟩ := own_cells hown2 (j := 0) (v := .int .i64 (l0 : Nat)) rfl
          obtain ⟨u1, -⟩ := own_cells hown2 (j := 1) (v := .int .i64 (l1 : Nat)) rfl
          obtain ⟨u2, -⟩ := own_cells hown2 (j := 2) (v := .int .i64 (l2 : Nat)) rfl
          go_region
          go_wp2
          exact bodyPost_ret (v := .tuple #[.agg #[.int .i64 l0, .int .i64 l1, .int .i64 l2, .string f, .string g], .int .i64 ((A2 : Int) + (m2 : Int)), .int .i64 0]) (by simp [results, Try.results48, go_sem, z0, z1, z2, z3, z4]) rfl (by rw [HP.out]; exact ⟨by simp, (below_put (below_put (below_put (below_put (below_put hB2 (Nat.le_refl _) _ _) (Nat.le_refl _) _ _) (Nat.le_refl _) _ _) (Nat.le_refl _) _ _) (Nat.le_refl _) _ _).drew⟩)
end Go.Proofs.Ytkbnojjjfonniaa
