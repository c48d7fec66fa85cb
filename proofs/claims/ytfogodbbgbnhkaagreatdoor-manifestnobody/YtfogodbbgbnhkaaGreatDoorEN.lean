/- Edits: getKey of the program. -/
import Derived.Test.YtfogodbbgbnhkaaGreatDoorEJ
namespace Go.Proofs.YtfogodbbgbnhkaaGreatDoor
open Go.RowKit

theorem econv_row {w : World} {b off n cap : Nat} {bs : List Nat} (hr : Row .u8 w (some ⟨b, off, none⟩) n bs) : (convert 67 9 (.slice (some ⟨b, off, none⟩) n cap)).run Tryz.prog w = .ok (.string (bstr bs)) w := by
  refine run_convert_bytes_arg w 67 5 Tryz.underlying67 Tryz.underlying5 b off n cap _ (by rw [List.length_map]; exact hr.1) (fun i hi => ?_) 9 Tryz.underlying9
  rw [hr.cell i hi]
  have : i < bs.length := by rw [hr.1]; exact hi
  simp [this]
theorem econv_zero (w : World) (a : Option Addr) (c : Nat) : (convert 67 9 (.slice a 0 c)).run Tryz.prog w = .ok (.string ⟨#[]⟩) w := by
  rw [run_convert_bytes_string w _ _ 5 _ _ _ Tryz.underlying67 Tryz.underlying5 Tryz.underlying9]
  cases a <;> simp [Conv.bytesToString, loadCells] <;> rfl
def GKRes (w : World) (R : Option (ByteArray × Nat)) (e : Ending) (w' : World) : Prop := match R with
  | none => e = .returned (.tuple #[.string ⟨#[]⟩, .int .i64 0, .int .i64 2]) ∧ w' = w
  | some (s, m) => e = .returned (.tuple #[.string s, .int .i64 (m : Nat), .int .i64 0]) ∧ w' = w

set_option maxRecDepth 100000 in
set_option maxHeartbeats 2000000 in
theorem egkey_any (a : Option Addr) (len cap : Nat) (bs : List Nat) (w : World) (hbig : len ≤ 100000) (hshape : Shape a len cap) (hr : Row .u8 w a len bs) :
    Calls Tryz.prog 214 #[.slice a len cap] w (GKRes w (Ed.pkey bs)) := by
  have hget := fun W h => get_any a len cap bs W h
  have hle := Va.get_le (bs := bs)
  rw [hr.1] at hle
  have hlt := Va.get_lt bs
  have HP : Hid (Ed.pkey bs = if (Va.get bs).2 = 0 ∨ 64 < (Va.get bs).1 ∨ len < (Va.get bs).2 + (Va.get bs).1 then none else some (bstr ((bs.drop (Va.get bs).2).take (Va.get bs).1), (Va.get bs).2 + (Va.get bs).1)) := (by rw [Ed.pkey, hr.1] : _ = _)
  generalize Ed.pkey bs = P at *
  generalize Va.get bs = G at *
  obtain ⟨U, K⟩ := G
  simp only at hget hle hlt HP
  by_cases hK : K = 0
  · subst hK
    have HN : Hid (P = none) := (by rw [HP.out, if_pos (.inl rfl)] : P = none)
    rw [show code 0 = 2 from rfl] at hget
    clear HP
    go_enter Tryz.func214, Tryz.ntmps214
    go_wp2_with (go_at_call 150; go_must (refine (hget _ hr).mono ?_; rintro e w2 ⟨rfl, rfl⟩))
    go_ret3
    rw [HN.out]
    exact ⟨rfl, rfl⟩
  rw [show code K = 0 from by unfold code; rw [if_neg hK]] at hget
  by_cases hU : 64 < U
  · have HN : Hid (P = none) := (by rw [HP.out, if_pos (.inr (.inl hU))] : P = none)
    have i1 : (64 : Int) < (U : Int) := by omega
    clear HP
    go_enter Tryz.func214, Tryz.ntmps214
    go_wp2_with (go_at_call 150; go_must (refine (hget _ hr).mono ?_; rintro e w2 ⟨rfl, rfl⟩))
    go_ret3
    rw [HN.out]
    exact ⟨rfl, rfl⟩
  have i1 : ¬ (64 : Int) < (U : Int) := by omega
  have i2 : (U : Int) ≤ 9223372036854775807 := by omega
  obtain ⟨D, hD⟩ : ∃ D : Nat, D = len - K := ⟨_, rfl⟩
  have jd : IntKind.i64.wrap ((len : Int) - (K : Int)) = (D : Int) := by rw [IntKind.wrap_i64]; omega
  by_cases hDU : D < U
  · have HN : Hid (P = none) := (by rw [HP.out, if_pos (.inr (.inr (by omega)))] : P = none)
    have i3 : (D : Int) < (U : Int) := by omega
    clear HP hD
    go_enter Tryz.func214, Tryz.ntmps214
    go_wp2_with (go_at_call 150; go_must (refine (hget _ hr).mono ?_; rintro e w2 ⟨rfl, rfl⟩))
    go_ret3
    rw [HN.out]
    exact ⟨rfl, rfl⟩
  have i3 : ¬ (D : Int) < (U : Int) := by omega
  obtain ⟨E, hE⟩ : ∃ E : Nat, E = K + U := ⟨_, rfl⟩
  have je : IntKind.i64.wrap ((K : Int) + (U : Int)) = (E : Int) := by rw [IntKind.wrap_i64]; omega
  rcases hshape with ⟨h0, -⟩ | ⟨b, off, rfl, hlc⟩
  · omega
  have HS : Hid (P = some (bstr ((bs.drop K).take U), E)) := (by rw [HP.out, if_neg (by omega), hE] : P = _)
  have hrow := (hr.drop K (by omega)).take U (by omega)
  have i4 : (0 : Int) ≤ (K : Int) := by omega
  have i5 : (K : Int) ≤ (E : Int) := by omega
  have i6 : (E : Int) ≤ (cap : Int) := by omega
  have hEK : E - K = U := by omega
  rw [← hEK] at hrow
  clear HP
  by_cases hcap : cap = K
  · have hU0 : U = 0 := by omega
    subst hU0
    obtain rfl : E = K := by omega
    subst hcap
    have hz : ∀ q c W, (convert 67 9 (.slice q 0 c)).run Tryz.prog W = .ok (.string ⟨#[]⟩) W := fun q c W => econv_zero W q c
    clear hrow hEK hE hD
    go_enter Tryz.func214, Tryz.ntmps214
    go_wp2_with (go_at_call 150; go_must (refine (hget _ hr).mono ?_; rintro e w2 ⟨rfl, rfl⟩))
    go_ret3
    rw [HS.out]
    exact ⟨rfl, rfl⟩
  · have hcv := econv_row (cap := cap - K) hrow
    obtain ⟨S, hS⟩ : ∃ S, S = bstr ((bs.drop K).take U) := ⟨_, rfl⟩
    rw [hEK, ← hS] at hcv
    rw [← hEK] at hcv
    have HS2 : Hid (P = some (S, E)) := (by rw [HS.out, hS] : P = _)
    clear HS hS hEK hE hD hrow
    go_enter Tryz.func214, Tryz.ntmps214
    go_wp2_with (go_at_call 150; go_must (refine (hget _ hr).mono ?_; rintro e w2 ⟨rfl, rfl⟩))
    go_ret3
    rw [HS2.out]
    exact ⟨rfl, rfl⟩
end Go.Proofs.YtfogodbbgbnhkaaGreatDoor

/- Edits: getTab of the program. -/
namespace Go.Proofs.YtfogodbbgbnhkaaGreatDoor
open Go.RowKit

/-- the rest of a slice from a place on -/
def ERest (b off n c p : Nat) (a' : Option Addr) (l' c' : Nat) : Prop := l' = n - p ∧ ((l' = 0 ∧ c' = 0) ∨ (a' = some ⟨b, off + p, none⟩ ∧ c' = c - p))
theorem ERest.row {b off n c p : Nat} {a' : Option Addr} {l' c' : Nat} {bs : List Nat} {W : World} (h : ERest b off n c p a' l' c') (hr : Row .u8 W (some ⟨b, off, none⟩) n bs) (hp : p ≤ n) (hc : n ≤ c) : Row .u8 W a' l' (bs.drop p) ∧ Shape a' l' c' := by
  have h1 := hr.drop p hp
  obtain ⟨rfl, ⟨h2, rfl⟩ | ⟨rfl, rfl⟩⟩ := h
  · rw [h2]
    refine ⟨⟨by rw [List.length_drop, hr.1]; exact h2, by omega, h1.2.2.1, .inl rfl⟩, ?_⟩
    cases a' <;> simp [Shape]
  · exact ⟨h1, by simp [Shape]; omega⟩
def GTRes (w : World) (R : Option (Lv.T × Nat)) (e : Ending) (w' : World) : Prop := match R with
  | none => e = .returned (.tuple #[.agg #[.int .i64 0, .int .i64 0, .int .i64 0, .string ⟨#[]⟩, .string ⟨#[]⟩], .int .i64 0, .int .i64 2]) ∧ Below w.heap.size w w'
  | some (t, m) => e = .returned (.tuple #[.agg #[.int .i64 t.num, .int .i64 t.lev, .int .i64 t.size, .string t.first, .string t.last], .int .i64 (m : Nat), .int .i64 0]) ∧ Below w.heap.size w w'
theorem pkey_nil : Ed.pkey [] = none := by decide
theorem eblk5 {W : World} {g : Nat} {x1 x2 x3 : Int} {x4 x5 : ByteArray} (h : W.heap[g]? = some (otab x1 x2 x3 x4 x5)) :
    W.cell? ⟨g, 0, none⟩ = some (.int .i64 x1) ∧ W.cell? ⟨g, 1, none⟩ = some (.int .i64 x2) ∧ W.cell? ⟨g, 2, none⟩ = some (.int .i64 x3) ∧ W.cell? ⟨g, 3, none⟩ = some (.string x4) ∧ W.cell? ⟨g, 4, none⟩ = some (.string x5) := by
  refine ⟨?_, ?_, ?_, ?_, ?_⟩ <;> (simp only [World.cell?, h]; rfl)

set_option maxRecDepth 100000 in
set_option maxHeartbeats 4000000 in
theorem egtab_any (a : Option Addr) (len cap : Nat) (bs : List Nat) (w : World) (hbig : len ≤ 100000) (hshape : Shape a len cap) (hr : Row .u8 w a len bs) :
    Calls Tryz.prog 196 #[.slice a len cap] w (GTRes w (Ed.ptab bs)) := by
  obtain ⟨Z, hZ⟩ : ∃ Z, Z = otab 0 0 0 ⟨#[]⟩ ⟨#[]⟩ := ⟨_, rfl⟩
  have hb1 := below_alloc w Z
  have hnum := egnums_any a len cap bs 3 (w.alloc Z) (by omega) hbig hshape (hr.below hb1 (Nat.le_refl _))
  have hz : Hid ((w.alloc Z).heap[w.heap.size]? = some (otab 0 0 0 ⟨#[]⟩ ⟨#[]⟩)) := (by rw [hZ]; exact heap_alloc_new w _ : _ = _)
  have hb1 : Below w.heap.size w (w.alloc Z) := hb1
  have hlen : Hid (bs.length = len) := hr.1
  have HP : Hid (Ed.ptab bs = match Ed.pnums bs 3 with | none => none | some (l, a) => match Ed.pkey (bs.drop a) with | none => none | some (f, m) => match Ed.pkey (bs.drop (a + m)) with | none => none | some (g, m2) => some (⟨l.getD 0 0, l.getD 1 0, l.getD 2 0, f, g⟩, a + m + m2)) := (rfl : _ = _)
  have hpl := fun l m (h : Ed.pnums bs 3 = some (l, m)) => Ed.pnums_len h
  generalize Ed.ptab bs = P at *
  subst hZ
  cases hpn : Ed.pnums bs 3 with
  | none =>
    rw [hpn] at hnum HP
    have HN : Hid (P = none) := HP
    clear hpl HP hpn
    go_enter Tryz.func196, Tryz.ntmps196
    go_wp2_with (go_at_call 197; go_must (refine hnum.mono ?_; rintro e w2 ⟨rfl, hb2⟩; have hz2 : Hid (_ = _) := ob_below hz.out hb2; obtain ⟨z0, z1, z2, z3, z4⟩ := eblk5 hz2.out; have zf := blk_thaw hz2.out; have hB2 := hb1.trans (hb2.mono hb1.size)))
    exact bodyPost_ret (v := .tuple #[.agg #[.int .i64 0, .int .i64 0, .int .i64 0, .string ⟨#[]⟩, .string ⟨#[]⟩], .int .i64 0, .int .i64 2]) (by simp [results, Tryz.results196, go_sem, z0, z1, z2, z3, z4]) rfl (by rw [HN.out]; exact ⟨rfl, below_put (below_put (below_put (below_put (below_put hB2 (Nat.le_refl _) _ _) (Nat.le_refl _) _ _) (Nat.le_refl _) _ _) (Nat.le_refl _) _ _) (Nat.le_refl _) _ _⟩)
  | some x =>
    obtain ⟨L, A⟩ := x
    obtain ⟨p1, p2, p3⟩ := hpl L A hpn
    rw [hlen.out] at p2
    obtain ⟨l0, l1, l2, rfl⟩ := Ed.len3 p1
    rw [hpn] at hnum HP
    have HP : Hid (P = match Ed.pkey (bs.drop A) with | none => none | some (f, m) => match Ed.pkey (bs.drop (A + m)) with | none => none | some (g, m2) => some (⟨l0, l1, l2, f, g⟩, A + m + m2)) := HP
    have hnum : Calls Tryz.prog 197 #[.slice a len cap, .int .i64 (3 : Nat)] (w.alloc (otab 0 0 0 ⟨#[]⟩ ⟨#[]⟩)) fun e w2 => ∃ g, e = .returned (.tuple #[.slice (some ⟨g, 0, none⟩) 3 3, .int .i64 (A : Nat), .int .i64 0]) ∧ w2.ownsRow (w.alloc (otab 0 0 0 ⟨#[]⟩ ⟨#[]⟩)).heap.size 3 1 (.slice (some ⟨g, 0, none⟩) 3 3) 3 (kcells .i64 [l0, l1, l2]) ∧ Below (w.alloc (otab 0 0 0 ⟨#[]⟩ ⟨#[]⟩)).heap.size (w.alloc (otab 0 0 0 ⟨#[]⟩ ⟨#[]⟩)) w2 := hnum
    clear hpl hpn p1 p3
    have hsh0 := hshape
    rcases hshape with ⟨h0, hc0⟩ | ⟨b, off, rfl, hlc⟩
    · -- no bytes at all
      subst h0; subst hc0
      obtain rfl : A = 0 := by omega
      have hbs : bs = [] := List.length_eq_zero_iff.mp hlen.out
      have HN : Hid (P = none) := (by rw [HP.out, hbs]; rw [show ([] : List Nat).drop 0 = [] from rfl, pkey_nil] : P = none)
      have hk0 : ∀ q W, Calls Tryz.prog 214 #[.slice q 0 0] W (GKRes W none) := fun q W => by
        have := egkey_any q 0 0 [] W (by omega) (.inl ⟨rfl, rfl⟩) ⟨rfl, by omega, by simp, .inl rfl⟩
        rwa [pkey_nil] at this
      clear HP hbs
      go_enter Tryz.func196, Tryz.ntmps196
      go_wp2_with (first
        | (go_at_call 197; go_must (refine hnum.mono ?_; rintro e w2 ⟨G, rfl, hown2, hb2⟩; have hz2 : Hid (_ = _) := ob_below hz.out hb2; obtain ⟨z0, z1, z2, z3, z4⟩ := eblk5 hz2.out; have zf := blk_thaw hz2.out; have hB2 := hb1.trans (hb2.mono hb1.size); have hr2 := hr.below hB2 (Nat.le_refl _)))
        | (go_at_call 214; go_must (refine (hk0 _ _).mono ?_; rintro e w3 ⟨rfl, rfl⟩)))
      exact bodyPost_ret (v := .tuple #[.agg #[.int .i64 0, .int .i64 0, .int .i64 0, .string ⟨#[]⟩, .string ⟨#[]⟩], .int .i64 0, .int .i64 2]) (by simp [results, Tryz.results196, go_sem, z0, z1, z2, z3, z4]) rfl (by rw [HN.out]; exact ⟨rfl, below_put (below_put (below_put (below_put (below_put hB2 (Nat.le_refl _) _ _) (Nat.le_refl _) _ _) (Nat.le_refl _) _ _) (Nat.le_refl _) _ _) (Nat.le_refl _) _ _⟩)
    · have i0 : (0 : Int) ≤ (A : Int) := by omega
      have i1 : (A : Int) ≤ (len : Int) := by omega
      have i2 : (len : Int) ≤ (cap : Int) := by omega
      have hk1 : ∀ W q l' c', Row .u8 W (some ⟨b, off, none⟩) len bs → ERest b off len cap A q l' c' → Calls Tryz.prog 214 #[.slice q l' c'] W (GKRes W (Ed.pkey (bs.drop A))) := fun W q l' c' hW hR => by
        obtain ⟨r1, r2⟩ := hR.row hW p2 hlc
        exact egkey_any q l' c' _ W (by have := hR.1; omega) r2 r1
      by_cases hcA : cap = A
      · subst hcA
        obtain rfl : len = cap := by omega
        have hd : bs.drop len = [] := List.drop_of_length_le (by rw [hlen.out]; exact Nat.le_refl _)
        have HN : Hid (P = none) := (by rw [HP.out, hd, pkey_nil] : P = none)
        rw [hd, pkey_nil] at hk1
        clear HP hd
        go_enter Tryz.func196, Tryz.ntmps196
        go_wp2_with (first
          | (go_at_call 197; go_must (refine hnum.mono ?_; rintro e w2 ⟨G, rfl, hown2, hb2⟩; have hz2 : Hid (_ = _) := ob_below hz.out hb2; obtain ⟨z0, z1, z2, z3, z4⟩ := eblk5 hz2.out; have zf := blk_thaw hz2.out; have hB2 := hb1.trans (hb2.mono hb1.size); have hr2 := hr.below hB2 (Nat.le_refl _)))
          | (go_at_call 214; go_must (refine (hk1 _ _ _ _ hr2 ⟨by omega, .inl ⟨by omega, by omega⟩⟩).mono ?_; rintro e w3 ⟨rfl, rfl⟩)))
        exact bodyPost_ret (v := .tuple #[.agg #[.int .i64 0, .int .i64 0, .int .i64 0, .string ⟨#[]⟩, .string ⟨#[]⟩], .int .i64 0, .int .i64 2]) (by simp [results, Tryz.results196, go_sem, z0, z1, z2, z3, z4]) rfl (by rw [HN.out]; exact ⟨rfl, below_put (below_put (below_put (below_put (below_put hB2 (Nat.le_refl _) _ _) (Nat.le_refl _) _ _) (Nat.le_refl _) _ _) (Nat.le_refl _) _ _) (Nat.le_refl _) _ _⟩)
      cases hk : Ed.pkey (bs.drop A) with
      | none =>
        rw [hk] at hk1 HP
        have HN : Hid (P = none) := HP
        clear HP hk
        go_enter Tryz.func196, Tryz.ntmps196
        go_wp2_with (first
          | (go_at_call 197; go_must (refine hnum.mono ?_; rintro e w2 ⟨G, rfl, hown2, hb2⟩; have hz2 : Hid (_ = _) := ob_below hz.out hb2; obtain ⟨z0, z1, z2, z3, z4⟩ := eblk5 hz2.out; have zf := blk_thaw hz2.out; have hB2 := hb1.trans (hb2.mono hb1.size); have hr2 := hr.below hB2 (Nat.le_refl _)))
          | (go_at_call 214; go_must (refine (hk1 _ _ _ _ hr2 ⟨rfl, .inr ⟨rfl, rfl⟩⟩).mono ?_; rintro e w3 ⟨rfl, rfl⟩)))
        exact bodyPost_ret (v := .tuple #[.agg #[.int .i64 0, .int .i64 0, .int .i64 0, .string ⟨#[]⟩, .string ⟨#[]⟩], .int .i64 0, .int .i64 2]) (by simp [results, Tryz.results196, go_sem, z0, z1, z2, z3, z4]) rfl (by rw [HN.out]; exact ⟨rfl, below_put (below_put (below_put (below_put (below_put hB2 (Nat.le_refl _) _ _) (Nat.le_refl _) _ _) (Nat.le_refl _) _ _) (Nat.le_refl _) _ _) (Nat.le_refl _) _ _⟩)
      | some x =>
        obtain ⟨f, m⟩ := x
        obtain ⟨_, k2⟩ := Ed.pkey_some hk (by rw [hlen.out]; exact p2)
        rw [hlen.out] at k2
        rw [hk] at hk1 HP
        obtain ⟨A2, hA2⟩ : ∃ A2 : Nat, A2 = A + m := ⟨_, rfl⟩
        have HP : Hid (P = match Ed.pkey (bs.drop A2) with | none => none | some (g, m2) => some (⟨l0, l1, l2, f, g⟩, A2 + m2)) := (by rw [hA2]; exact HP.out : P = _)
        have j1 : IntKind.i64.wrap ((A : Int) + (m : Int)) = (A2 : Int) := by rw [IntKind.wrap_i64]; omega
        rw [← hA2] at k2
        have i3 : (0 : Int) ≤ (A2 : Int) := by omega
        have i4 : (A2 : Int) ≤ (len : Int) := by omega
        have hk2 : ∀ W q l' c', Row .u8 W (some ⟨b, off, none⟩) len bs → ERest b off len cap A2 q l' c' → Calls Tryz.prog 214 #[.slice q l' c'] W (GKRes W (Ed.pkey (bs.drop A2))) := fun W q l' c' hW hR => by
          obtain ⟨r1, r2⟩ := hR.row hW k2 hlc
          exact egkey_any q l' c' _ W (by have := hR.1; omega) r2 r1
        clear hk hA2
        have hk1 : ∀ W q l' c', Row .u8 W (some ⟨b, off, none⟩) len bs → ERest b off len cap A q l' c' → Calls Tryz.prog 214 #[.slice q l' c'] W fun e w' => e = .returned (.tuple #[.string f, .int .i64 (m : Nat), .int .i64 0]) ∧ w' = W := hk1
        have tok : Hid (0 = 0) := (rfl : 0 = 0)
        by_cases hcA2 : cap = A2
        · subst hcA2
          obtain rfl : len = cap := by omega
          have hd : bs.drop len = [] := List.drop_of_length_le (by rw [hlen.out]; exact Nat.le_refl _)
          have HN : Hid (P = none) := (by rw [HP.out, hd, pkey_nil] : P = none)
          rw [hd, pkey_nil] at hk2
          clear HP hd
          go_enter Tryz.func196, Tryz.ntmps196
          go_wp2_with (first
            | (go_at_call 197; go_must (refine hnum.mono ?_; rintro e w2 ⟨G, rfl, hown2, hb2⟩; have hz2 : Hid (_ = _) := ob_below hz.out hb2; obtain ⟨z0, z1, z2, z3, z4⟩ := eblk5 hz2.out; have zf := blk_thaw hz2.out; have hB2 := hb1.trans (hb2.mono hb1.size); have hr2 := hr.below hB2 (Nat.le_refl _)))
            | (go_at_call 214; clear tok; go_must (refine (hk1 _ _ _ _ hr2 ⟨rfl, .inr ⟨rfl, rfl⟩⟩).mono ?_; rintro e w3 ⟨rfl, rfl⟩))
            | (go_at_call 214; go_must (refine (hk2 _ _ _ _ hr2 ⟨by omega, .inl ⟨by omega, by omega⟩⟩).mono ?_; rintro e w4 ⟨rfl, rfl⟩)))
          exact bodyPost_ret (v := .tuple #[.agg #[.int .i64 0, .int .i64 0, .int .i64 0, .string ⟨#[]⟩, .string ⟨#[]⟩], .int .i64 0, .int .i64 2]) (by simp [results, Tryz.results196, go_sem, z0, z1, z2, z3, z4]) rfl (by rw [HN.out]; exact ⟨rfl, below_put (below_put (below_put (below_put (below_put hB2 (Nat.le_refl _) _ _) (Nat.le_refl _) _ _) (Nat.le_refl _) _ _) (Nat.le_refl _) _ _) (Nat.le_refl _) _ _⟩)
        cases hkk : Ed.pkey (bs.drop A2) with
        | none =>
          rw [hkk] at hk2 HP
          have HN : Hid (P = none) := HP
          clear HP hkk
          go_enter Tryz.func196, Tryz.ntmps196
          go_wp2_with (first
            | (go_at_call 197; go_must (refine hnum.mono ?_; rintro e w2 ⟨G, rfl, hown2, hb2⟩; have hz2 : Hid (_ = _) := ob_below hz.out hb2; obtain ⟨z0, z1, z2, z3, z4⟩ := eblk5 hz2.out; have zf := blk_thaw hz2.out; have hB2 := hb1.trans (hb2.mono hb1.size); have hr2 := hr.below hB2 (Nat.le_refl _)))
            | (go_at_call 214; clear tok; go_must (refine (hk1 _ _ _ _ hr2 ⟨rfl, .inr ⟨rfl, rfl⟩⟩).mono ?_; rintro e w3 ⟨rfl, rfl⟩))
            | (go_at_call 214; go_must (refine (hk2 _ _ _ _ hr2 ⟨rfl, .inr ⟨rfl, rfl⟩⟩).mono ?_; rintro e w4 ⟨rfl, rfl⟩)))
          exact bodyPost_ret (v := .tuple #[.agg #[.int .i64 0, .int .i64 0, .int .i64 0, .string ⟨#[]⟩, .string ⟨#[]⟩], .int .i64 0, .int .i64 2]) (by simp [results, Tryz.results196, go_sem, z0, z1, z2, z3, z4]) rfl (by rw [HN.out]; exact ⟨rfl, below_put (below_put (below_put (below_put (below_put hB2 (Nat.le_refl _) _ _) (Nat.le_refl _) _ _) (Nat.le_refl _) _ _) (Nat.le_refl _) _ _) (Nat.le_refl _) _ _⟩)
        | some y =>
          obtain ⟨g, m2⟩ := y
          obtain ⟨_, k3⟩ := Ed.pkey_some hkk (by rw [hlen.out]; exact k2)
          rw [hlen.out] at k3
          rw [hkk] at hk2 HP
          have HP : Hid (P = some (⟨l0, l1, l2, f, g⟩, A2 + m2)) := HP
          have hk2 : ∀ W q l' c', Row .u8 W (some ⟨b, off, none⟩) len bs → ERest b off len cap A2 q l' c' → Calls Tryz.prog 214 #[.slice q l' c'] W fun e w' => e = .returned (.tuple #[.string g, .int .i64 (m2 : Nat), .int .i64 0]) ∧ w' = W := hk2
          have j2 : IntKind.i64.wrap ((A2 : Int) + (m2 : Int)) = ((A2 + m2 : Nat) : Int) := by rw [IntKind.wrap_i64]; omega
          clear hkk
          go_enter Tryz.func196, Tryz.ntmps196
          go_wp2_with (first
            | (go_at_call 197; go_must (refine hnum.mono ?_; rintro e w2 ⟨G, rfl, hown2, hb2⟩; have hz2 : Hid (_ = _) := ob_below hz.out hb2; obtain ⟨z0, z1, z2, z3, z4⟩ := eblk5 hz2.out; have zf := blk_thaw hz2.out; have hB2 := hb1.trans (hb2.mono hb1.size); have hr2 := hr.below hB2 (Nat.le_refl _)))
            | (go_at_call 214; clear tok; go_must (refine (hk1 _ _ _ _ hr2 ⟨rfl, .inr ⟨rfl, rfl⟩⟩).mono ?_; rintro e w3 ⟨rfl, rfl⟩))
            | (go_at_call 214; go_must (refine (hk2 _ _ _ _ hr2 ⟨rfl, .inr ⟨rfl, rfl⟩⟩).mono ?_; rintro e w4 ⟨rfl, rfl⟩)))
          obtain ⟨u0, -⟩ := own_cells hown2 (j := 0) (v := .int .i64 (l0 : Nat)) rfl
          obtain ⟨u1, -⟩ := own_cells hown2 (j := 1) (v := .int .i64 (l1 : Nat)) rfl
          obtain ⟨u2, -⟩ := own_cells hown2 (j := 2) (v := .int .i64 (l2 : Nat)) rfl
          go_region
          go_wp2
          exact bodyPost_ret (v := .tuple #[.agg #[.int .i64 l0, .int .i64 l1, .int .i64 l2, .string f, .string g], .int .i64 ((A2 : Int) + (m2 : Int)), .int .i64 0]) (by simp [results, Tryz.results196, go_sem, z0, z1, z2, z3, z4]) rfl (by rw [HP.out]; exact ⟨by simp, (below_put (below_put (below_put (below_put (below_put hB2 (Nat.le_refl _) _ _) (Nat.le_refl _) _ _) (Nat.le_refl _) _ _) (Nat.le_refl _) _ _) (Nat.le_refl _) _ _).drew⟩)
end Go.Proofs.YtfogodbbgbnhkaaGreatDoor

/- Edits: getEdit of the program. -/
namespace Go.Proofs.YtfogodbbgbnhkaaGreatDoor
open Go.RowKit

def GERes (w : World) (R : Option (Ed.E × Nat)) (e : Ending) (w' : World) : Prop := match R with
  | none => ∃ k s : Int, e = .returned (.tuple #[ed12 k 0 0 0 0 0 0 0 0 0 ⟨#[]⟩ ⟨#[]⟩, .int .i64 s, .int .i64 2]) ∧ Below w.heap.size w w'
  | some (x, m) => e = .returned (.tuple #[ed12 x.kind x.num x.index x.term x.ht x.hv x.hc x.tab.num x.tab.lev x.tab.size x.tab.first x.tab.last, .int .i64 (m : Nat), .int .i64 0]) ∧ Below w.heap.size w w'
theorem splice6 {F : Nat} {l : List Nat} (h : (F = 0 ∧ l.length ≤ 6) ∨ (F = 1 ∧ l.length ≤ 5)) :
    splice [.int .i64 0, .int .i64 0, .int .i64 0, .int .i64 0, .int .i64 0, .int .i64 0] F (kcells .i64 l) = [Value.int .i64 (Ed.rj F l 0 : Nat), .int .i64 (Ed.rj F l 1 : Nat), .int .i64 (Ed.rj F l 2 : Nat), .int .i64 (Ed.rj F l 3 : Nat), .int .i64 (Ed.rj F l 4 : Nat), .int .i64 (Ed.rj F l 5 : Nat)] := by
  rcases h with ⟨rfl, h⟩ | ⟨rfl, h⟩
  · match l, h with
    | [], _ | [_], _ | [_, _], _ | [_, _, _], _ | [_, _, _, _], _ | [_, _, _, _, _], _ | [_, _, _, _, _, _], _ => rfl
    | _ :: _ :: _ :: _ :: _ :: _ :: _ :: _, h => simp at h
  · match l, h with
    | [], _ | [_], _ | [_, _], _ | [_, _, _], _ | [_, _, _, _], _ | [_, _, _, _, _], _ => rfl
    | _ :: _ :: _ :: _ :: _ :: _ :: _, h => simp at h
theorem row_cases (k : Int) : (pfr k = 0 ∧ pto k - pfr k ≤ 6) ∨ (pfr k = 1 ∧ pto k - pfr k ≤ 5) := by
  unfold pfr pto
  repeat' split
  all_goals omega
theorem src_own {W : World} {B e G n c : Nat} {xs : List Value} (h : W.ownsRow B e 1 (.slice (some ⟨G, 0, none⟩) n c) n xs) : ∀ (j : Nat) (v : Value), xs[j]? = some v → W.cell? ((⟨G, 0, none⟩ : Addr).add j) = some v := by
  intro j v hj
  have e : (⟨G, 0, none⟩ : Addr).add j = ⟨G, j, none⟩ := by
    by_cases h0 : j = 0
    · subst h0; rfl
    · simp [Addr.add, h0]
  rw [e]
  exact (own_cells h hj).1

set_option maxRecDepth 100000 in
set_option maxHeartbeats 4000000 in
theorem egedit_nil (a : Option Addr) (cap : Nat) (w : World) : Calls Tryz.prog 151 #[.slice a 0 cap] w (GERes w none) := by
  have hb1 := below_alloc w (oed 0 0 0 0 0 0 0 0 0 0 ⟨#[]⟩ ⟨#[]⟩)
  have hz : Hid ((w.alloc (oed 0 0 0 0 0 0 0 0 0 0 ⟨#[]⟩ ⟨#[]⟩)).heap[w.heap.size]? = some (oed 0 0 0 0 0 0 0 0 0 0 ⟨#[]⟩ ⟨#[]⟩)) := (heap_alloc_new w _ : _ = _)
  go_enter Tryz.func151, Tryz.ntmps151
  go_wp2
  exact bodyPost_ret (v := .tuple #[ed12 0 0 0 0 0 0 0 0 0 0 ⟨#[]⟩ ⟨#[]⟩, .int .i64 0, .int .i64 2]) (by simp [results, Tryz.results151, go_sem]) rfl ⟨0, 0, rfl, hb1⟩
set_option maxRecDepth 100000 in
set_option maxHeartbeats 4000000 in
theorem egedit_tab (b off len cap : Nat) (bs : List Nat) (w : World) (K : Nat) (hK : bs.getD 0 0 = K) (hK4 : K = 4) (hpos : 0 < len) (hbig : len ≤ 100000) (hlc : len ≤ cap) (hr : Row .u8 w (some ⟨b, off, none⟩) len bs) :
    Calls Tryz.prog 151 #[.slice (some ⟨b, off, none⟩) len cap] w (GERes w (match Ed.ptab (bs.drop 1) with | none => none | some (t, m) => some ({ Ed.zero with kind := 4, tab := t }, 1 + m))) := by
  have hb1 := below_alloc w (oed 0 0 0 0 0 0 0 0 0 0 ⟨#[]⟩ ⟨#[]⟩)
  have hz : Hid ((w.alloc (oed 0 0 0 0 0 0 0 0 0 0 ⟨#[]⟩ ⟨#[]⟩)).heap[w.heap.size]? = some (oed 0 0 0 0 0 0 0 0 0 0 ⟨#[]⟩ ⟨#[]⟩)) := (heap_alloc_new w _ : _ = _)
  have hr1 := hr.below hb1 (Nat.le_refl _)
  have hlen : Hid (bs.length = len) := hr.1
  have hc0 : (w.alloc (oed 0 0 0 0 0 0 0 0 0 0 ⟨#[]⟩ ⟨#[]⟩)).cell? ⟨b, off, none⟩ = some (.int .u8 (K : Nat)) := by have := hr1.cell 0 (by omega); rw [hK] at this; simpa using this
  have i0 : (0 : Int) < (len : Int) := by omega
  have i1 : (1 : Int) ≤ (len : Int) := by omega
  have i2 : (len : Int) ≤ (cap : Int) := by omega
  have i3 : ¬ (len : Int) = 0 := by omega
  have i4 : ¬ len = 0 := by omega
  subst hK4
  clear hK
  have htab : ∀ W q l' c', Row .u8 W (some ⟨b, off, none⟩) len bs → ERest b off len cap 1 q l' c' → Calls Tryz.prog 196 #[.slice q l' c'] W (GTRes W (Ed.ptab (bs.drop 1))) := fun W q l' c' hW hR => by
    obtain ⟨r1, r2⟩ := hR.row hW (by omega) hlc
    exact egtab_any q l' c' _ W (by have := hR.1; omega) r2 r1
  have hpt : ∀ t m, Ed.ptab (bs.drop 1) = some (t, m) → m ≤ 100000 := by
    intro t m h
    unfold Ed.ptab at h
    split at h
    · cases h
    · rename_i l A hn
      have hA := (Ed.pnums_len hn).2.1
      split at h
      · cases h
      · rename_i f m1 h1
        have := (Ed.pkey_some h1 hA).2
        split at h
        · cases h
        · rename_i g m2 h2
          have := (Ed.pkey_some h2 this).2
          simp only [Option.some.injEq, Prod.mk.injEq] at h
          rw [List.length_drop, hlen.out] at this
          omega
  cases hp : Ed.ptab (bs.drop 1) with
  | none =>
    rw [hp] at htab
    clear hpt hp
    by_cases hc1 : cap = 1
    · subst hc1
      go_enter Tryz.func151, Tryz.ntmps151
      go_wp2_with (go_at_call 196; go_must (refine (htab _ _ _ _ hr1 ⟨by omega, .inl ⟨by omega, by omega⟩⟩).mono ?_; rintro e w2 ⟨rfl, hb2⟩; have hB2 := hb1.trans (hb2.mono hb1.size); have hz2 : Hid (_ = _) := ob_alloc (ob_below hz.out hb2) (otab 0 0 0 ⟨#[]⟩ ⟨#[]⟩); obtain ⟨z0, z1, z2, z3, z4, z5, z6, z7, z8, z9, z10, z11⟩ := blk12 hz2.out; have zf := blk_thaw hz2.out; have hB3 := hB2.alloc hB2.size (otab 0 0 0 ⟨#[]⟩ ⟨#[]⟩)))
      exact bodyPost_ret (v := .tuple #[ed12 4 0 0 0 0 0 0 0 0 0 ⟨#[]⟩ ⟨#[]⟩, .int .i64 1, .int .i64 2]) (by simp [results, Tryz.results151, go_sem, z0, z1, z2, z3, z4, z5, z6, z7, z8, z9, z10, z11]) rfl ⟨4, 1, rfl, (below_put (below_put (below_put (below_put (below_put (below_put (below_put (below_put (below_put (below_put (below_put (below_put hB3 (Nat.le_refl _) _ _) (Nat.le_refl _) _ _) (Nat.le_refl _) _ _) (Nat.le_refl _) _ _) (Nat.le_refl _) _ _) (Nat.le_refl _) _ _) (Nat.le_refl _) _ _) (Nat.le_refl _) _ _) (Nat.le_refl _) _ _) (Nat.le_refl _) _ _) (Nat.le_refl _) _ _) (Nat.le_refl _) _ _)⟩
    · skip
      go_enter Tryz.func151, Tryz.ntmps151
      go_wp2_with (go_at_call 196; go_must (refine (htab _ _ _ _ hr1 ⟨rfl, .inr ⟨rfl, rfl⟩⟩).mono ?_; rintro e w2 ⟨rfl, hb2⟩; have hB2 := hb1.trans (hb2.mono hb1.size); have hz2 : Hid (_ = _) := ob_alloc (ob_below hz.out hb2) (otab 0 0 0 ⟨#[]⟩ ⟨#[]⟩); obtain ⟨z0, z1, z2, z3, z4, z5, z6, z7, z8, z9, z10, z11⟩ := blk12 hz2.out; have zf := blk_thaw hz2.out; have hB3 := hB2.alloc hB2.size (otab 0 0 0 ⟨#[]⟩ ⟨#[]⟩)))
      exact bodyPost_ret (v := .tuple #[ed12 4 0 0 0 0 0 0 0 0 0 ⟨#[]⟩ ⟨#[]⟩, .int .i64 1, .int .i64 2]) (by simp [results, Tryz.results151, go_sem, z0, z1, z2, z3, z4, z5, z6, z7, z8, z9, z10, z11]) rfl ⟨4, 1, rfl, (below_put (below_put (below_put (below_put (below_put (below_put (below_put (below_put (below_put (below_put (below_put (below_put hB3 (Nat.le_refl _) _ _) (Nat.le_refl _) _ _) (Nat.le_refl _) _ _) (Nat.le_refl _) _ _) (Nat.le_refl _) _ _) (Nat.le_refl _) _ _) (Nat.le_refl _) _ _) (Nat.le_refl _) _ _) (Nat.le_refl _) _ _) (Nat.le_refl _) _ _) (Nat.le_refl _) _ _) (Nat.le_refl _) _ _)⟩
  | some x =>
    obtain ⟨⟨p, q, r, f, g⟩, m⟩ := x
    have hm := hpt _ _ hp
    rw [hp] at htab
    clear hpt hp
    have htab : ∀ W q' l' c', Row .u8 W (some ⟨b, off, none⟩) len bs → ERest b off len cap 1 q' l' c' → Calls Tryz.prog 196 #[.slice q' l' c'] W fun e w' => e = .returned (.tuple #[.agg #[.int .i64 p, .int .i64 q, .int .i64 r, .string f, .string g], .int .i64 (m : Nat), .int .i64 0]) ∧ Below W.heap.size W w' := htab
    have j1 : IntKind.i64.wrap (1 + (m : Int)) = ((1 + m : Nat) : Int) := by rw [IntKind.wrap_i64]; omega
    by_cases hc1 : cap = 1
    · subst hc1
      go_enter Tryz.func151, Tryz.ntmps151
      go_wp2_with (go_at_call 196; go_must (refine (htab _ _ _ _ hr1 ⟨by omega, .inl ⟨by omega, by omega⟩⟩).mono ?_; rintro e w2 ⟨rfl, hb2⟩; have hB2 := hb1.trans (hb2.mono hb1.size); have hz2 : Hid (_ = _) := ob_alloc (ob_below hz.out hb2) (otab p q r f g); obtain ⟨z0, z1, z2, z3, z4, z5, z6, z7, z8, z9, z10, z11⟩ := blk12 hz2.out; have zf := blk_thaw hz2.out; have hB3 := hB2.alloc hB2.size (otab p q r f g)))
      exact bodyPost_ret (v := .tuple #[ed12 4 0 0 0 0 0 0 p q r f g, .int .i64 (1 + (m : Int)), .int .i64 0]) (by simp [results, Tryz.results151, go_sem, z0, z1, z2, z3, z4, z5, z6, z7, z8, z9, z10, z11]) rfl ⟨by simp [Ed.zero], (below_put (below_put (below_put (below_put (below_put (below_put (below_put (below_put (below_put (below_put (below_put (below_put hB3 (Nat.le_refl _) _ _) (Nat.le_refl _) _ _) (Nat.le_refl _) _ _) (Nat.le_refl _) _ _) (Nat.le_refl _) _ _) (Nat.le_refl _) _ _) (Nat.le_refl _) _ _) (Nat.le_refl _) _ _) (Nat.le_refl _) _ _) (Nat.le_refl _) _ _) (Nat.le_refl _) _ _) (Nat.le_refl _) _ _)⟩
    · skip
      go_enter Tryz.func151, Tryz.ntmps151
      go_wp2_with (go_at_call 196; go_must (refine (htab _ _ _ _ hr1 ⟨rfl, .inr ⟨rfl, rfl⟩⟩).mono ?_; rintro e w2 ⟨rfl, hb2⟩; have hB2 := hb1.trans (hb2.mono hb1.size); have hz2 : Hid (_ = _) := ob_alloc (ob_below hz.out hb2) (otab p q r f g); obtain ⟨z0, z1, z2, z3, z4, z5, z6, z7, z8, z9, z10, z11⟩ := blk12 hz2.out; have zf := blk_thaw hz2.out; have hB3 := hB2.alloc hB2.size (otab p q r f g)))
      exact bodyPost_ret (v := .tuple #[ed12 4 0 0 0 0 0 0 p q r f g, .int .i64 (1 + (m : Int)), .int .i64 0]) (by simp [results, Tryz.results151, go_sem, z0, z1, z2, z3, z4, z5, z6, z7, z8, z9, z10, z11]) rfl ⟨by simp [Ed.zero], (below_put (below_put (below_put (below_put (below_put (below_put (below_put (below_put (below_put (below_put (below_put (below_put hB3 (Nat.le_refl _) _ _) (Nat.le_refl _) _ _) (Nat.le_refl _) _ _) (Nat.le_refl _) _ _) (Nat.le_refl _) _ _) (Nat.le_refl _) _ _) (Nat.le_refl _) _ _) (Nat.le_refl _) _ _) (Nat.le_refl _) _ _) (Nat.le_refl _) _ _) (Nat.le_refl _) _ _) (Nat.le_refl _) _ _)⟩
set_option maxRecDepth 100000 in
set_option maxHeartbeats 4000000 in
theorem egedit_row (b off len cap : Nat) (bs : List Nat) (w : World) (K F T : Nat) (hK : bs.getD 0 0 = K) (hK4 : ¬ K = 4) (hF : F < 6) (hFT : F ≤ T) (hT : T ≤ 6) (hFc : (F = 0 ∧ T - F ≤ 6) ∨ (F = 1 ∧ T - F ≤ 5)) (hpos : 0 < len) (hbig : len ≤ 100000) (hlc : len ≤ cap) (hr : Row .u8 w (some ⟨b, off, none⟩) len bs)
    (hn : ∀ W, Calls Tryz.prog 165 #[.int .i64 (K : Nat)] W fun e w' => e = .returned (.tuple #[.int .i64 (F : Nat), .int .i64 (T : Nat)]) ∧ w' = W) :
    Calls Tryz.prog 151 #[.slice (some ⟨b, off, none⟩) len cap] w (GERes w (match Ed.pnums (bs.drop 1) (T - F) with | none => none | some (l, m) => some (⟨K, Ed.rj F l 0, Ed.rj F l 1, Ed.rj F l 2, Ed.rj F l 3, Ed.rj F l 4, Ed.rj F l 5, Lv.zero⟩, 1 + m))) := by
  have hb1 := below_alloc w (oed 0 0 0 0 0 0 0 0 0 0 ⟨#[]⟩ ⟨#[]⟩)
  have hz : Hid ((w.alloc (oed 0 0 0 0 0 0 0 0 0 0 ⟨#[]⟩ ⟨#[]⟩)).heap[w.heap.size]? = some (oed 0 0 0 0 0 0 0 0 0 0 ⟨#[]⟩ ⟨#[]⟩)) := (heap_alloc_new w _ : _ = _)
  have hr1 := hr.below hb1 (Nat.le_refl _)
  have hlen : Hid (bs.length = len) := hr.1
  have hc0 : (w.alloc (oed 0 0 0 0 0 0 0 0 0 0 ⟨#[]⟩ ⟨#[]⟩)).cell? ⟨b, off, none⟩ = some (.int .u8 (K : Nat)) := by have := hr1.cell 0 (by omega); rw [hK] at this; simpa using this
  have i0 : (0 : Int) < (len : Int) := by omega
  have i1 : (1 : Int) ≤ (len : Int) := by omega
  have i2 : (len : Int) ≤ (cap : Int) := by omega
  have i3 : ¬ (len : Int) = 0 := by omega
  have i4 : ¬ len = 0 := by omega
  have k4 : ¬ (K : Int) = 4 := by omega
  have hKb : K < 256 := by have := hr.2.2.1 (bs.getD 0 0) (by rw [List.getD_eq_getElem?_getD, List.getElem?_eq_getElem (by rw [hlen.out]; exact hpos)]; exact List.getElem_mem _); rw [hK] at this; exact this
  clear hK
  have hof := fun k n i t a b c W => eofrow_any k n i t a b c W
  have f0 : (0 : Int) ≤ (F : Int) := by omega
  have f1 : (F : Int) ≤ (T : Int) := by omega
  have f2 : (T : Int) ≤ 6 := by omega
  have jn : IntKind.i64.wrap ((T : Int) - (F : Int)) = ((T - F : Nat) : Int) := by rw [IntKind.wrap_i64]; omega
  have hnum : ∀ W q l' c', Row .u8 W (some ⟨b, off, none⟩) len bs → ERest b off len cap 1 q l' c' → Calls Tryz.prog 197 #[.slice q l' c', .int .i64 ((T - F : Nat) : Int)] W (GNRes W (T - F) (Ed.pnums (bs.drop 1) (T - F))) := fun W q l' c' hW hR => by
    obtain ⟨r1, r2⟩ := hR.row hW (by omega) hlc
    exact egnums_any q l' c' _ (T - F) W (by omega) (by have := hR.1; omega) r2 r1
  have hpl := fun l m (h : Ed.pnums (bs.drop 1) (T - F) = some (l, m)) => Ed.pnums_len h
  cases hp : Ed.pnums (bs.drop 1) (T - F) with
  | none =>
    rw [hp] at hnum
    have hcp : ∀ W R, (Builtin.copy_ #[27, 27] 3 #[.slice (some ⟨R, F, none⟩) (T - F) (6 - F), .slice none 0 0]).run Tryz.prog W = .ok (.int .i64 0) W := fun W R => run_copy_none W 27 27 3 3 _ _ _ _ 0 0 ints_u ints_s (by simp)
    clear hpl hp
    by_cases hc1 : cap = 1
    · subst hc1
      go_enter Tryz.func151, Tryz.ntmps151
      go_wp2_with (first
        | (go_at_call 165; go_must (refine (hn _).mono ?_; rintro e w3 ⟨rfl, rfl⟩))
        | (go_at_call 197; go_must (refine (hnum _ _ _ _ hr1 ⟨by omega, .inl ⟨by omega, by omega⟩⟩).mono ?_; rintro e w2 ⟨rfl, hb2⟩; have hB2 := hb1.trans (hb2.mono hb1.size); have hz2 : Hid (_ = _) := ob_alloc (ob_below hz.out hb2) (.cells #[.int .i64 0, .int .i64 0, .int .i64 0, .int .i64 0, .int .i64 0, .int .i64 0] 216); have hB3 := hB2.alloc hB2.size (.cells #[.int .i64 0, .int .i64 0, .int .i64 0, .int .i64 0, .int .i64 0, .int .i64 0] 216)))
        | (go_at_call 166; go_must (refine (hof _ _ _ _ _ _ _ _).mono ?_; rintro e w5 ⟨rfl, hb5⟩; have hz5 : Hid (_ = _) := ob_below hz2.out hb5; obtain ⟨z0, z1, z2, z3, z4, z5, z6, z7, z8, z9, z10, z11⟩ := blk12 hz5.out; have zf := blk_thaw hz5.out; have hB5 := hB3.trans (hb5.mono hB3.size))))
      exact bodyPost_ret (v := .tuple #[ed12 K 0 0 0 0 0 0 0 0 0 ⟨#[]⟩ ⟨#[]⟩, .int .i64 1, .int .i64 2]) (by simp [results, Tryz.results151, go_sem, z0, z1, z2, z3, z4, z5, z6, z7, z8, z9, z10, z11]) rfl ⟨K, 1, rfl, (below_put (below_put (below_put (below_put (below_put (below_put (below_put (below_put (below_put (below_put (below_put (below_put hB5 (Nat.le_refl _) _ _) (Nat.le_refl _) _ _) (Nat.le_refl _) _ _) (Nat.le_refl _) _ _) (Nat.le_refl _) _ _) (Nat.le_refl _) _ _) (Nat.le_refl _) _ _) (Nat.le_refl _) _ _) (Nat.le_refl _) _ _) (Nat.le_refl _) _ _) (Nat.le_refl _) _ _) (Nat.le_refl _) _ _)⟩
    · skip
      go_enter Tryz.func151, Tryz.ntmps151
      go_wp2_with (first
        | (go_at_call 165; go_must (refine (hn _).mono ?_; rintro e w3 ⟨rfl, rfl⟩))
        | (go_at_call 197; go_must (refine (hnum _ _ _ _ hr1 ⟨rfl, .inr ⟨rfl, rfl⟩⟩).mono ?_; rintro e w2 ⟨rfl, hb2⟩; have hB2 := hb1.trans (hb2.mono hb1.size); have hz2 : Hid (_ = _) := ob_alloc (ob_below hz.out hb2) (.cells #[.int .i64 0, .int .i64 0, .int .i64 0, .int .i64 0, .int .i64 0, .int .i64 0] 216); have hB3 := hB2.alloc hB2.size (.cells #[.int .i64 0, .int .i64 0, .int .i64 0, .int .i64 0, .int .i64 0, .int .i64 0] 216)))
        | (go_at_call 166; go_must (refine (hof _ _ _ _ _ _ _ _).mono ?_; rintro e w5 ⟨rfl, hb5⟩; have hz5 : Hid (_ = _) := ob_below hz2.out hb5; obtain ⟨z0, z1, z2, z3, z4, z5, z6, z7, z8, z9, z10, z11⟩ := blk12 hz5.out; have zf := blk_thaw hz5.out; have hB5 := hB3.trans (hb5.mono hB3.size))))
      exact bodyPost_ret (v := .tuple #[ed12 K 0 0 0 0 0 0 0 0 0 ⟨#[]⟩ ⟨#[]⟩, .int .i64 1, .int .i64 2]) (by simp [results, Tryz.results151, go_sem, z0, z1, z2, z3, z4, z5, z6, z7, z8, z9, z10, z11]) rfl ⟨K, 1, rfl, (below_put (below_put (below_put (below_put (below_put (below_put (below_put (below_put (below_put (below_put (below_put (below_put hB5 (Nat.le_refl _) _ _) (Nat.le_refl _) _ _) (Nat.le_refl _) _ _) (Nat.le_refl _) _ _) (Nat.le_refl _) _ _) (Nat.le_refl _) _ _) (Nat.le_refl _) _ _) (Nat.le_refl _) _ _) (Nat.le_refl _) _ _) (Nat.le_refl _) _ _) (Nat.le_refl _) _ _) (Nat.le_refl _) _ _)⟩
  | some x =>
    obtain ⟨l, m⟩ := x
    obtain ⟨p1, p2, p3⟩ := hpl l m hp
    rw [List.length_drop, hlen.out] at p2
    rw [hp] at hnum
    have hnum : ∀ W q l' c', Row .u8 W (some ⟨b, off, none⟩) len bs → ERest b off len cap 1 q l' c' → Calls Tryz.prog 197 #[.slice q l' c', .int .i64 ((T - F : Nat) : Int)] W fun e w' => ∃ g, e = .returned (.tuple #[.slice (some ⟨g, 0, none⟩) (T - F) (T - F), .int .i64 (m : Nat), .int .i64 0]) ∧ w'.ownsRow W.heap.size 3 1 (.slice (some ⟨g, 0, none⟩) (T - F) (T - F)) (T - F) (kcells .i64 l) ∧ Below W.heap.size W w' := hnum
    have hsp := splice6 (F := F) (l := l) (by rw [p1]; exact hFc)
    have hsp : Hid (_ = _) := hsp
    have p1 : Hid (l.length = T - F) := p1
    have j1 : IntKind.i64.wrap (1 + (m : Int)) = ((1 + m : Nat) : Int) := by rw [IntKind.wrap_i64]; omega
    clear hpl hp p3
    dsimp only
    generalize Ed.rj F l 0 = y0 at *
    generalize Ed.rj F l 1 = y1 at *
    generalize Ed.rj F l 2 = y2 at *
    generalize Ed.rj F l 3 = y3 at *
    generalize Ed.rj F l 4 = y4 at *
    generalize Ed.rj F l 5 = y5 at *
    by_cases hc1 : cap = 1
    · subst hc1
      go_enter Tryz.func151, Tryz.ntmps151
      go_wp2_with (first
        | (go_at_call 165; go_must (refine (hn _).mono ?_; rintro e w3 ⟨rfl, rfl⟩))
        | (go_at_call 197; go_must (refine (hnum _ _ _ _ hr1 ⟨by omega, .inl ⟨by omega, by omega⟩⟩).mono ?_; rintro e w2 ⟨G, rfl, hown2, hb2⟩; have hB2 := hb1.trans (hb2.mono hb1.size); have hz2 : Hid (_ = _) := ob_alloc (ob_below hz.out hb2) (.cells #[.int .i64 0, .int .i64 0, .int .i64 0, .int .i64 0, .int .i64 0, .int .i64 0] 216); have hB3 := hB2.alloc hB2.size (.cells #[.int .i64 0, .int .i64 0, .int .i64 0, .int .i64 0, .int .i64 0, .int .i64 0] 216); have hwz : w.heap.size < w2.heap.size := ob_lt (ob_below hz.out hb2); obtain ⟨W4, hrun, hR4, hb4⟩ := copy_on (w2.alloc (.cells #[.int .i64 0, .int .i64 0, .int .i64 0, .int .i64 0, .int .i64 0, .int .i64 0] 216)) 27 27 3 3 216 ints_u ints_s w2.heap.size F (T - F) (6 - F) (some ⟨G, 0, none⟩) (T - F) (kcells .i64 l) [.int .i64 0, .int .i64 0, .int .i64 0, .int .i64 0, .int .i64 0, .int .i64 0] (by rw [kcells_length]; exact p1.out) (heap_alloc_new w2 _) (fun _ => ⟨_, rfl, src_own (hown2.alloc _)⟩) (by simp only [List.length_cons, List.length_nil]; omega) (fun v hv => by simp only [kcells, List.mem_map] at hv; obtain ⟨_, _, rfl⟩ := hv; rfl); have hR4 : W4.heap[w2.heap.size]? = some (.cells #[.int .i64 (y0 : Nat), .int .i64 (y1 : Nat), .int .i64 (y2 : Nat), .int .i64 (y3 : Nat), .int .i64 (y4 : Nat), .int .i64 (y5 : Nat)] 216 (0, 0)) := (by have := hR4.out; rw [hsp.out] at this; exact this); obtain ⟨r0, r1', r2', r3', r4', r5'⟩ := blk6 hR4; clear hR4; have hz4 : Hid (_ = _) := (hb4.block _ hwz).trans hz2.out; have hB4 := hB3.trans (hb4.mono hB2.size); clear hsp hown2))
        | (go_at_call 166; go_must (refine (hof _ _ _ _ _ _ _ _).mono ?_; rintro e w5 ⟨rfl, hb5⟩; have hz5 : Hid (_ = _) := ob_below hz4.out hb5; obtain ⟨z0, z1, z2, z3, z4, z5, z6, z7, z8, z9, z10, z11⟩ := blk12 hz5.out; have zf := blk_thaw hz5.out; have hB5 := hB4.trans (hb5.mono hB4.size))))
      exact bodyPost_ret (v := .tuple #[ed12 K y0 y1 y2 y3 y4 y5 0 0 0 ⟨#[]⟩ ⟨#[]⟩, .int .i64 (1 + (m : Int)), .int .i64 0]) (by simp [results, Tryz.results151, go_sem, z0, z1, z2, z3, z4, z5, z6, z7, z8, z9, z10, z11]) rfl ⟨by simp [Lv.zero], (below_put (below_put (below_put (below_put (below_put (below_put (below_put (below_put (below_put (below_put (below_put (below_put hB5 (Nat.le_refl _) _ _) (Nat.le_refl _) _ _) (Nat.le_refl _) _ _) (Nat.le_refl _) _ _) (Nat.le_refl _) _ _) (Nat.le_refl _) _ _) (Nat.le_refl _) _ _) (Nat.le_refl _) _ _) (Nat.le_refl _) _ _) (Nat.le_refl _) _ _) (Nat.le_refl _) _ _) (Nat.le_refl _) _ _)⟩
    · skip
      go_enter Tryz.func151, Tryz.ntmps151
      go_wp2_with (first
        | (go_at_call 165; go_must (refine (hn _).mono ?_; rintro e w3 ⟨rfl, rfl⟩))
        | (go_at_call 197; go_must (refine (hnum _ _ _ _ hr1 ⟨rfl, .inr ⟨rfl, rfl⟩⟩).mono ?_; rintro e w2 ⟨G, rfl, hown2, hb2⟩; have hB2 := hb1.trans (hb2.mono hb1.size); have hz2 : Hid (_ = _) := ob_alloc (ob_below hz.out hb2) (.cells #[.int .i64 0, .int .i64 0, .int .i64 0, .int .i64 0, .int .i64 0, .int .i64 0] 216); have hB3 := hB2.alloc hB2.size (.cells #[.int .i64 0, .int .i64 0, .int .i64 0, .int .i64 0, .int .i64 0, .int .i64 0] 216); have hwz : w.heap.size < w2.heap.size := ob_lt (ob_below hz.out hb2); obtain ⟨W4, hrun, hR4, hb4⟩ := copy_on (w2.alloc (.cells #[.int .i64 0, .int .i64 0, .int .i64 0, .int .i64 0, .int .i64 0, .int .i64 0] 216)) 27 27 3 3 216 ints_u ints_s w2.heap.size F (T - F) (6 - F) (some ⟨G, 0, none⟩) (T - F) (kcells .i64 l) [.int .i64 0, .int .i64 0, .int .i64 0, .int .i64 0, .int .i64 0, .int .i64 0] (by rw [kcells_length]; exact p1.out) (heap_alloc_new w2 _) (fun _ => ⟨_, rfl, src_own (hown2.alloc _)⟩) (by simp only [List.length_cons, List.length_nil]; omega) (fun v hv => by simp only [kcells, List.mem_map] at hv; obtain ⟨_, _, rfl⟩ := hv; rfl); have hR4 : W4.heap[w2.heap.size]? = some (.cells #[.int .i64 (y0 : Nat), .int .i64 (y1 : Nat), .int .i64 (y2 : Nat), .int .i64 (y3 : Nat), .int .i64 (y4 : Nat), .int .i64 (y5 : Nat)] 216 (0, 0)) := (by have := hR4.out; rw [hsp.out] at this; exact this); obtain ⟨r0, r1', r2', r3', r4', r5'⟩ := blk6 hR4; clear hR4; have hz4 : Hid (_ = _) := (hb4.block _ hwz).trans hz2.out; have hB4 := hB3.trans (hb4.mono hB2.size); clear hsp hown2))
        | (go_at_call 166; go_must (refine (hof _ _ _ _ _ _ _ _).mono ?_; rintro e w5 ⟨rfl, hb5⟩; have hz5 : Hid (_ = _) := ob_below hz4.out hb5; obtain ⟨z0, z1, z2, z3, z4, z5, z6, z7, z8, z9, z10, z11⟩ := blk12 hz5.out; have zf := blk_thaw hz5.out; have hB5 := hB4.trans (hb5.mono hB4.size))))
      exact bodyPost_ret (v := .tuple #[ed12 K y0 y1 y2 y3 y4 y5 0 0 0 ⟨#[]⟩ ⟨#[]⟩, .int .i64 (1 + (m : Int)), .int .i64 0]) (by simp [results, Tryz.results151, go_sem, z0, z1, z2, z3, z4, z5, z6, z7, z8, z9, z10, z11]) rfl ⟨by simp [Lv.zero], (below_put (below_put (below_put (below_put (below_put (below_put (below_put (below_put (below_put (below_put (below_put (below_put hB5 (Nat.le_refl _) _ _) (Nat.le_refl _) _ _) (Nat.le_refl _) _ _) (Nat.le_refl _) _ _) (Nat.le_refl _) _ _) (Nat.le_refl _) _ _) (Nat.le_refl _) _ _) (Nat.le_refl _) _ _) (Nat.le_refl _) _ _) (Nat.le_refl _) _ _) (Nat.le_refl _) _ _) (Nat.le_refl _) _ _)⟩
theorem egedit_any (a : Option Addr) (len cap : Nat) (bs : List Nat) (w : World) (hbig : len ≤ 100000) (hshape : Shape a len cap) (hr : Row .u8 w a len bs) :
    Calls Tryz.prog 151 #[.slice a len cap] w (GERes w (Ed.pfirst bs)) := by
  by_cases h0 : len = 0
  · subst h0
    have hbs : bs = [] := List.length_eq_zero_iff.mp hr.1
    have e : Ed.pfirst bs = none := by rw [Ed.pfirst, if_pos hbs]
    rw [e]
    exact egedit_nil a cap w
  · rcases hshape with ⟨h1, -⟩ | ⟨b, off, rfl, hlc⟩
    · exact absurd h1 h0
    · have hne : bs ≠ [] := fun h => by have := hr.1; rw [h] at this; exact h0 this.symm
      unfold Ed.pfirst
      rw [if_neg hne]
      by_cases h4 : bs.getD 0 0 = 4
      · rw [if_pos h4]
        exact egedit_tab b off len cap bs w _ rfl h4 (by omega) hbig hlc hr
      · rw [if_neg h4]
        exact egedit_row b off len cap bs w _ (pfr (bs.getD 0 0 : Nat)) (pto (bs.getD 0 0 : Nat)) rfl h4 row_le.1 row_le.2.1 row_le.2.2 (row_cases _) (by omega) hbig hlc hr (fun W => enamed_any _ W)
end Go.Proofs.YtfogodbbgbnhkaaGreatDoor

/- Edits: Get of the program. -/
namespace Go.Proofs.YtfogodbbgbnhkaaGreatDoor
open Go.RowKit

theorem set_twelve (cs rest : List Value) (j : Nat) (hcs : cs.length = j * 12) (hr : 12 ≤ rest.length) (v0 v1 v2 v3 v4 v5 v6 v7 v8 v9 v10 v11 : Value) :
    (((((((((((((cs ++ rest).set (j * 12) v0).set (j * 12 + 1) v1).set (j * 12 + 2) v2).set (j * 12 + 3) v3).set (j * 12 + 4) v4).set (j * 12 + 5) v5).set (j * 12 + 6) v6).set (j * 12 + 7) v7).set (j * 12 + 8) v8).set (j * 12 + 9) v9).set (j * 12 + 10) v10).set (j * 12 + 11) v11) = (cs ++ [v0, v1, v2, v3, v4, v5, v6, v7, v8, v9, v10, v11]) ++ rest.drop 12 := by
  rw [← hcs]
  obtain ⟨r0, r1, r2, r3, r4, r5, r6, r7, r8, r9, r10, r11, t, rfl⟩ : ∃ r0 r1 r2 r3 r4 r5 r6 r7 r8 r9 r10 r11 t, rest = r0 :: r1 :: r2 :: r3 :: r4 :: r5 :: r6 :: r7 :: r8 :: r9 :: r10 :: r11 :: t := by
    match rest, hr with
    | r0 :: r1 :: r2 :: r3 :: r4 :: r5 :: r6 :: r7 :: r8 :: r9 :: r10 :: r11 :: t, _ => exact ⟨r0, r1, r2, r3, r4, r5, r6, r7, r8, r9, r10, r11, t, rfl⟩
  simp [List.set_append_right]
theorem twelve_left {cs rest : List Value} {j : Nat} (hcs : cs.length = j * 12) (hr : 12 ≤ rest.length) : ∃ r0 r1 r2 r3 r4 r5 r6 r7 r8 r9 r10 r11, (cs ++ rest)[j * 12]? = some r0 ∧ (cs ++ rest)[j * 12 + 1]? = some r1 ∧ (cs ++ rest)[j * 12 + 2]? = some r2 ∧ (cs ++ rest)[j * 12 + 3]? = some r3 ∧ (cs ++ rest)[j * 12 + 4]? = some r4 ∧ (cs ++ rest)[j * 12 + 5]? = some r5 ∧ (cs ++ rest)[j * 12 + 6]? = some r6 ∧ (cs ++ rest)[j * 12 + 7]? = some r7 ∧ (cs ++ rest)[j * 12 + 8]? = some r8 ∧ (cs ++ rest)[j * 12 + 9]? = some r9 ∧ (cs ++ rest)[j * 12 + 10]? = some r10 ∧ (cs ++ rest)[j * 12 + 11]? = some r11 := by
  rw [← hcs]
  match rest, hr with
  | r0 :: r1 :: r2 :: r3 :: r4 :: r5 :: r6 :: r7 :: r8 :: r9 :: r10 :: r11 :: t, _ => exact ⟨r0, r1, r2, r3, r4, r5, r6, r7, r8, r9, r10, r11, by simp, by simp, by simp, by simp, by simp, by simp, by simp, by simp, by simp, by simp, by simp, by simp⟩
namespace Ed
theorem ptab_le {bs : List Nat} {t : Lv.T} {m : Nat} (h : ptab bs = some (t, m)) : m ≤ bs.length := by
  unfold ptab at h
  split at h
  · cases h
  · rename_i l A hn
    have hA := (pnums_len hn).2.1
    split at h
    · cases h
    · rename_i f m1 h1
      have := (pkey_some h1 hA).2
      split at h
      · cases h
      · rename_i g m2 h2
        have := (pkey_some h2 this).2
        simp only [Option.some.injEq, Prod.mk.injEq] at h
        omega
theorem pfirst_le {bs : List Nat} {x : E} {k : Nat} (h : pfirst bs = some (x, k)) : k ≤ bs.length := by
  unfold pfirst at h
  split at h
  · cases h
  · rename_i hne
    have hl : 1 ≤ bs.length := List.length_pos_iff.mpr hne
    split at h
    · split at h
      · cases h
      · rename_i t m ht
        have := ptab_le ht
        rw [List.length_drop] at this
        simp only [Option.some.injEq, Prod.mk.injEq] at h
        omega
    · split at h
      · cases h
      · rename_i l m hn
        have := (pnums_len hn).2.1
        rw [List.length_drop] at this
        simp only [Option.some.injEq, Prod.mk.injEq] at h
        omega
theorem sc_no {N j : Nat} (hj : j < N) {bs : List Nat} {a : Nat} {l : List E} (hs : ∀ x ∈ bs, x < 256) (h : good (pfirst (bs.drop a)) = none) : sc (N - j) bs a l = none := by
  rw [show N - j = (N - (j + 1)) + 1 by omega, sc_good _ _ _ _ hs, h]
theorem sc_yes {N j : Nat} (hj : j < N) {bs : List Nat} {a : Nat} {l : List E} {e : E} {k : Nat} (hs : ∀ x ∈ bs, x < 256) (h : pfirst (bs.drop a) = some (e, k)) (hm : may e = true) : sc (N - j) bs a l = sc (N - (j + 1)) bs (a + k) (l ++ [e]) := by
  rw [show N - j = (N - (j + 1)) + 1 by omega, sc_good _ _ _ _ hs, h]
  simp [good, hm]
theorem get_zero {bs : List Nat} (h : (Va.get bs).2 = 0 ∨ (Va.get bs).1 < 1 ∨ 200 < (Va.get bs).1) : get bs = [] := by
  unfold get
  by_cases h1 : (number bs).2 = 0 ∨ 200 < (number bs).1
  · rw [if_pos h1]
  · rw [if_neg h1]
    have e : (number bs).1 = 0 := by
      unfold number at h1 ⊢
      split at h1
      · simp at h1
      · rename_i hq; rw [if_neg hq]; omega
    rw [e]
    simp only [sc]
    split <;> rfl
/-- what is told at the end -/
def fin (S : Option (List E × Nat)) (len : Nat) : List E := match S with | none => [] | some (l, e) => if e = len then l else []
theorem get_more {bs : List Nat} {N at' : Nat} (h : Va.get bs = (N, at')) (h1 : at' ≠ 0) (h3 : N ≤ 200) : get bs = fin (sc N bs at' []) bs.length := by
  have e : number bs = (N, at') := by unfold number; rw [h, if_neg (by simp only; omega)]
  unfold get
  rw [e, if_neg (by simp only; omega)]
  rfl
end Ed
/-- edits of the call's own are told, or none -/
def EGRes (w : World) (L : List Ed.E) (e : Ending) (w' : World) : Prop :=
  (L = [] ∧ e = .returned (.tuple #[.slice none 0 0, .int .i64 2]) ∧ Below w.heap.size w w') ∨
  (L ≠ [] ∧ ∃ g, e = .returned (.tuple #[.slice (some ⟨g, 0, none⟩) L.length L.length, .int .i64 0]) ∧ w'.ownsRow w.heap.size 52 12 (.slice (some ⟨g, 0, none⟩) L.length L.length) L.length (tcells ee L) ∧ Below w.heap.size w w')

set_option maxRecDepth 100000 in
set_option maxHeartbeats 4000000 in
theorem epget_any (a : Option Addr) (len cap : Nat) (bs : List Nat) (w : World) (hbig : len ≤ 100000) (hshape : Shape a len cap) (hr : Row .u8 w a len bs) :
    Calls Tryz.prog 98 #[.slice a len cap] w (EGRes w (Ed.get bs)) := by
  have hget := fun W h => get_any a len cap bs W h
  have hle := Va.get_le (bs := bs)
  rw [hr.1] at hle
  have hlt := Va.get_lt bs
  have hlen : Hid (bs.length = len) := hr.1
  have hsm : Hid (∀ x ∈ bs, x < 256) := (hr.2.2.1 : ∀ x ∈ bs, x < 256)
  have hg0 := Ed.get_zero (bs := bs)
  have hg1 := fun N at' h => Ed.get_more (bs := bs) (N := N) (at' := at') h
  generalize Ed.get bs = P at *
  generalize Va.get bs = G at *
  obtain ⟨N, A0⟩ := G
  simp only at hget hle hlt hg0
  by_cases hA0 : A0 = 0
  · subst hA0
    have HN : Hid (P = []) := (hg0 (.inl rfl) : P = [])
    rw [show code 0 = 2 from rfl] at hget
    clear hg0 hg1
    go_enter Tryz.func98, Tryz.ntmps98
    go_wp2_with (go_at_call 150; go_must (refine (hget _ hr).mono ?_; rintro e w2 ⟨rfl, rfl⟩))
    go_ret2
    exact .inl ⟨HN.out, rfl, Below.refl _ _⟩
  rw [show code A0 = 0 from by unfold code; rw [if_neg hA0]] at hget
  by_cases hN1 : N < 1
  · have HN : Hid (P = []) := (hg0 (.inr (.inl hN1)) : P = [])
    have i1 : (N : Int) < 1 := by omega
    clear hg0 hg1
    go_enter Tryz.func98, Tryz.ntmps98
    go_wp2_with (go_at_call 150; go_must (refine (hget _ hr).mono ?_; rintro e w2 ⟨rfl, rfl⟩))
    go_ret2
    exact .inl ⟨HN.out, rfl, Below.refl _ _⟩
  have i1 : ¬ (N : Int) < 1 := by omega
  by_cases hN2 : 200 < N
  · have HN : Hid (P = []) := (hg0 (.inr (.inr hN2)) : P = [])
    have i2 : (200 : Int) < (N : Int) := by omega
    clear hg0 hg1
    go_enter Tryz.func98, Tryz.ntmps98
    go_wp2_with (go_at_call 150; go_must (refine (hget _ hr).mono ?_; rintro e w2 ⟨rfl, rfl⟩))
    go_ret2
    exact .inl ⟨HN.out, rfl, Below.refl _ _⟩
  have i2 : ¬ (200 : Int) < (N : Int) := by omega
  have HP0 := hg1 N A0 rfl hA0 (by omega)
  rw [hlen.out] at HP0
  obtain ⟨S0, hS0⟩ : ∃ S0, S0 = Ed.sc N bs A0 [] := ⟨_, rfl⟩
  rw [← hS0] at HP0
  have HP : Hid (P = Ed.fin S0 len) := HP0
  have HS0 : Hid (S0 = Ed.sc N bs A0 []) := hS0
  clear hg0 hg1 hS0 HP0
  have hn0 : 0 < len := by omega
  rcases hshape with ⟨h0, -⟩ | ⟨b, off, rfl, hlc⟩
  · omega
  have hge : ∀ (A : Nat) W q l' c', A ≤ len → Row .u8 W (some ⟨b, off, none⟩) len bs → ERest b off len cap A q l' c' → Calls Tryz.prog 151 #[.slice q l' c'] W (GERes W (Ed.pfirst (bs.drop A))) := fun A W q l' c' hA hW hR => by
    obtain ⟨r1, r2⟩ := hR.row hW hA hlc
    exact egedit_any q l' c' _ W (by have := hR.1; omega) r2 r1
  have hck := fun k n i t a b c p q r f g W R h => echeck_any k n i t a b c p q r f g W R h
  obtain ⟨i0, hi0, hz0, hz1, hz2⟩ := info_parts (show (Tryz.prog.info? 52).map (fun i => (i.zero, i.size, i.bytes)) = some (some (.agg #[.int .i64 0, .int .i64 0, .int .i64 0, .int .i64 0, .int .i64 0, .int .i64 0, .int .i64 0, .int .i64 0, .int .i64 0, .int .i64 0, .string ⟨#[]⟩, .string ⟨#[]⟩]), 12, 112) by kernel_rfl)
  have k1 : (N : Int) ≤ 9223372036854775807 := by omega
  go_enter Tryz.func98, Tryz.ntmps98
  go_wp2_with (first
    | (go_at_call 150; go_must (refine (hget _ hr).mono ?_; rintro e w2 ⟨rfl, hw⟩; obtain rfl : w = w2 := hw.symm; clear hw))
    | (at_make; go_must (refine make_full _ rfl _ _ 22 rfl w.heap.size 52 i0 _ 12 Tryz.underlying22 hi0 hz0 hz1 .i64 .i64 N rfl rfl (by rw [hz2]; omega) (by unfold maxLen; omega) (Nat.le_refl _) ?_; intro w3 hmade hb3)))
  have hml : (madeCells (Value.agg #[.int .i64 0, .int .i64 0, .int .i64 0, .int .i64 0, .int .i64 0, .int .i64 0, .int .i64 0, .int .i64 0, .int .i64 0, .int .i64 0, .string ⟨#[]⟩, .string ⟨#[]⟩]).cells (N * 12)).toList.length = N * 12 := by simp [size_madeCells]
  generalize (madeCells (Value.agg #[.int .i64 0, .int .i64 0, .int .i64 0, .int .i64 0, .int .i64 0, .int .i64 0, .int .i64 0, .int .i64 0, .int .i64 0, .int .i64 0, .string ⟨#[]⟩, .string ⟨#[]⟩]).cells (N * 12)).toList = made at hmade hml
  go_loopw [5, 33] (fun av iv wr => ∃ (j A : Nat) (xs : List Ed.E) (rest : List Value), j ≤ N ∧ A ≤ len ∧ av = .int .i64 A ∧ iv = .int .i64 j ∧ Hid (S0 = Ed.sc (N - j) bs A xs) ∧ Hid (xs.length = j) ∧ Hid (rest.length = (N - j) * 12) ∧ wr.ownsRow w.heap.size 52 12 (.slice (some ⟨w.heap.size, 0, none⟩) N N) N (tcells ee xs ++ rest) ∧ Below w.heap.size w wr) (fun _ iv _ => N - (intOf iv).toNat)
  case atStart => exact ⟨0, A0, [], made, by omega, hle, rfl, rfl, HS0, (rfl : ([] : List Ed.E).length = 0), (hml : made.length = (N - 0) * 12), hmade, hb3⟩
  case round =>
    obtain ⟨j, A, xs, rest, hj, hA, rfl, rfl, HS, HX, HR, hown, hbel⟩ := hrel
    have hrw := hr.below hbel (Nat.le_refl _)
    by_cases hlt : j < N
    · have j0 : (0 : Int) ≤ (j : Int) := by omega
      have j1 : (j : Int) < (N : Int) := by omega
      have a0 : (0 : Int) ≤ (A : Int) := by omega
      have a1 : (A : Int) ≤ (len : Int) := by omega
      have a2 : (len : Int) ≤ (cap : Int) := by omega
      have hgA := fun W q l' c' => hge A W q l' c' hA
      cases hpf : Ed.pfirst (bs.drop A) with
      | none =>
        have HN : Hid (P = []) := (by rw [HP.out, HS.out, Ed.sc_no hlt hsm.out (by rw [hpf]; rfl)]; rfl : P = [])
        rw [hpf] at hgA
        have hgA : ∀ W q l' c', Row .u8 W (some ⟨b, off, none⟩) len bs → ERest b off len cap A q l' c' → Calls Tryz.prog 151 #[.slice q l' c'] W fun e w' => ∃ k s : Int, e = .returned (.tuple #[ed12 k 0 0 0 0 0 0 0 0 0 ⟨#[]⟩ ⟨#[]⟩, .int .i64 s, .int .i64 2]) ∧ Below W.heap.size W w' := hgA
        clear HP HS HX HR hpf hge HS0
        by_cases hcA : cap = A
        · subst hcA
          go_wp2_with (go_at_call 151; go_must (refine (hgA _ _ _ _ hrw ⟨by omega, .inl ⟨by omega, by omega⟩⟩).mono ?_; rintro e w4 ⟨K, S, rfl, hb4⟩; have hB4 := hbel.trans (hb4.mono hbel.size)))
          go_ret2
          exact .inl ⟨HN.out, rfl, hB4.alloc hB4.size _⟩
        · go_wp2_with (go_at_call 151; go_must (refine (hgA _ _ _ _ hrw ⟨rfl, .inr ⟨rfl, rfl⟩⟩).mono ?_; rintro e w4 ⟨K, S, rfl, hb4⟩; have hB4 := hbel.trans (hb4.mono hbel.size)))
          go_ret2
          exact .inl ⟨HN.out, rfl, hB4.alloc hB4.size _⟩
      | some y =>
        obtain ⟨⟨k, n, i, t, a, bb, c, ⟨p, q, r, f, g⟩⟩, m⟩ := y
        have hm := Ed.pfirst_le hpf
        rw [List.length_drop, hlen.out] at hm
        rw [hpf] at hgA
        have hgA : ∀ W q' l' c', Row .u8 W (some ⟨b, off, none⟩) len bs → ERest b off len cap A q' l' c' → Calls Tryz.prog 151 #[.slice q' l' c'] W fun e w' => e = .returned (.tuple #[ed12 k n i t a bb c p q r f g, .int .i64 (m : Nat), .int .i64 0]) ∧ Below W.heap.size W w' := hgA
        have hcA : ¬ cap = A := fun h => by
          have : bs.drop A = [] := List.drop_of_length_le (by rw [hlen.out]; omega)
          rw [this] at hpf
          cases hpf
        cases hmay : Ed.may ⟨k, n, i, t, a, bb, c, ⟨p, q, r, f, g⟩⟩ with
        | false =>
          have HN : Hid (P = []) := (by rw [HP.out, HS.out, Ed.sc_no hlt hsm.out (by rw [hpf]; exact Ed.good_no hmay)]; rfl : P = [])
          have hck1 := fun W => hck k n i t a bb c p q r f g W 1 (by rw [hmay]; rfl)
          clear HP HS HX HR hpf hge HS0 hmay
          go_wp2_with (first
            | (go_at_call 151; go_must (refine (hgA _ _ _ _ hrw ⟨rfl, .inr ⟨rfl, rfl⟩⟩).mono ?_; rintro e w4 ⟨rfl, hb4⟩; have hB4 := hbel.trans (hb4.mono hbel.size); have hB5 := hB4.alloc hB4.size (oed k n i t a bb c p q r f g)))
            | (go_at_call 64; go_must (refine (hck1 _).mono ?_; rintro e w6 ⟨rfl, hb6⟩)))
          go_ret2
          exact .inl ⟨HN.out, rfl, hB5.trans (hb6.mono hB5.size)⟩
        | true =>
          have HS2 : Hid (S0 = Ed.sc (N - (j + 1)) bs (A + m) (xs ++ [⟨k, n, i, t, a, bb, c, ⟨p, q, r, f, g⟩⟩])) := (by rw [HS.out, Ed.sc_yes hlt hsm.out hpf hmay] : S0 = _)
          have hck1 := fun W => hck k n i t a bb c p q r f g W 0 (by rw [hmay]; rfl)
          have hcsl : Hid ((tcells ee xs).length = j * 12) := (by rw [tcells_length eeE, HX.out] : _ = _)
          have hrl : Hid (12 ≤ rest.length) := (by rw [HR.out]; omega : 12 ≤ rest.length)
          have HX2 : Hid ((xs ++ [Ed.E.mk k n i t a bb c ⟨p, q, r, f, g⟩]).length = j + 1) := (by rw [List.length_append, HX.out]; rfl : _ = _)
          have HR2 : Hid ((rest.drop 12).length = (N - (j + 1)) * 12) := (by rw [List.length_drop, HR.out]; omega : _ = _)
          have jm : IntKind.i64.wrap ((A : Int) + (m : Int)) = ((A + m : Nat) : Int) := by rw [IntKind.wrap_i64]; omega
          clear HP HS HX HR hpf hge HS0 hmay
          obtain ⟨d0, d1, d2, d3, d4, d5, d6, d7, d8, d9, d10, d11, e0, e1, e2, e3, e4, e5, e6, e7, e8, e9, e10, e11⟩ := twelve_left hcsl.out hrl.out
          go_wp2_with (first
            | (go_at_call 151; go_must (refine (hgA _ _ _ _ hrw ⟨rfl, .inr ⟨rfl, rfl⟩⟩).mono ?_; rintro e w4 ⟨rfl, hb4⟩; have hB4 := hbel.trans (hb4.mono hbel.size); have hB5 := hB4.alloc hB4.size (oed k n i t a bb c p q r f g); have hown5 := (owns_below hown hb4).alloc (oed k n i t a bb c p q r f g)))
            | (go_at_call 64; go_must (refine (hck1 _).mono ?_; rintro e w6 ⟨rfl, hb6⟩; have hB6 := hB5.trans (hb6.mono hB5.size); have hown6 := owns_below hown5 hb6; obtain ⟨u0, u1, u2, u3, u4, u5, u6, u7, u8, u9, u10, u11⟩ := blk12 (ob_below (heap_alloc_new w4 (oed k n i t a bb c p q r f g)) hb6); obtain ⟨x0, y0⟩ := own_cells hown6 e0; obtain ⟨x1, y1⟩ := own_cells hown6 e1; obtain ⟨x2, y2⟩ := own_cells hown6 e2; obtain ⟨x3, y3⟩ := own_cells hown6 e3; obtain ⟨x4, y4⟩ := own_cells hown6 e4; obtain ⟨x5, y5⟩ := own_cells hown6 e5; obtain ⟨x6, y6⟩ := own_cells hown6 e6; obtain ⟨x7, y7⟩ := own_cells hown6 e7; obtain ⟨x8, y8⟩ := own_cells hown6 e8; obtain ⟨x9, y9⟩ := own_cells hown6 e9; obtain ⟨x10, y10⟩ := own_cells hown6 e10; obtain ⟨x11, y11⟩ := own_cells hown6 e11)))
          have hown7 := (own_store (own_store (own_store (own_store (own_store (own_store (own_store (own_store (own_store (own_store (own_store (own_store hown6 (j * 12) (.int .i64 k)) (j * 12 + 1) (.int .i64 n)) (j * 12 + 2) (.int .i64 i)) (j * 12 + 3) (.int .i64 t)) (j * 12 + 4) (.int .i64 a)) (j * 12 + 5) (.int .i64 bb)) (j * 12 + 6) (.int .i64 c)) (j * 12 + 7) (.int .i64 p)) (j * 12 + 8) (.int .i64 q)) (j * 12 + 9) (.int .i64 r)) (j * 12 + 10) (.string f)) (j * 12 + 11) (.string g))
          rw [set_twelve _ rest j hcsl.out hrl.out] at hown7
          go_roundw
          case rel => exact ⟨j + 1, A + m, xs ++ [⟨k, n, i, t, a, bb, c, ⟨p, q, r, f, g⟩⟩], rest.drop 12, by omega, by omega, by simp, by go_num, HS2, HX2, HR2, by rw [tcells_append]; exact hown7, (below_put (below_put (below_put (below_put (below_put (below_put (below_put (below_put (below_put (below_put (below_put (below_put hB6 (Nat.le_refl _) _ _) (Nat.le_refl _) _ _) (Nat.le_refl _) _ _) (Nat.le_refl _) _ _) (Nat.le_refl _) _ _) (Nat.le_refl _) _ _) (Nat.le_refl _) _ _) (Nat.le_refl _) _ _) (Nat.le_refl _) _ _) (Nat.le_refl _) _ _) (Nat.le_refl _) _ _) (Nat.le_refl _) _ _)⟩
          case measure => simp [intOf]; omega
    · obtain rfl : j = N := by omega
      have HE : Hid (P = if A = len then xs else []) := (by rw [HP.out, HS.out, Nat.sub_self]; rfl : P = _)
      have hrest : Hid (rest = []) := (List.length_eq_zero_iff.mp (by rw [HR.out, Nat.sub_self, Nat.zero_mul]) : rest = [])
      clear HP HS HR HS0 hge
      by_cases hAl : A < len
      · have a3 : (A : Int) < (len : Int) := by omega
        go_wp2
        go_ret2
        exact .inl ⟨by rw [HE.out, if_neg (by omega)], rfl, hbel⟩
      · have a3 : ¬ (A : Int) < (len : Int) := by omega
        go_wp2
        go_ret2
        rw [HE.out, if_pos (by omega)]
        rw [hrest.out, List.append_nil] at hown
        refine .inr ⟨fun h => ?_, w.heap.size, by rw [HX.out]; rfl, by rw [HX.out]; exact hown, hbel⟩
        have := HX.out
        rw [h] at this
        simp at this; omega
end Go.Proofs.YtfogodbbgbnhkaaGreatDoor
