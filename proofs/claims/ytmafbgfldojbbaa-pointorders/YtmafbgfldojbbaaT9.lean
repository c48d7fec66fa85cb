/- What slices' stable sort does to a block of points. -/
import Derived.Test.YtmafbgfldojbbaaT8
namespace Go.Proofs.Ytmafbgfldojbbaa
open Go.RowKit

theorem sym_all : ∀ f, SymC f := by
  intro f
  induction f with
  | zero =>
    intro g n c P1 A B P2 a m b w hn hf h ha hm hb hA hB sA sB
    omega
  | succ f ih =>
    intro g n c P1 A B P2 a m b w hn hf h ha hm hb hA hB sA sB
    by_cases h1 : A.length = 1
    · obtain ⟨x, rfl⟩ := List.length_eq_one_iff.mp h1
      refine (symleft_any g n c P1 B P2 x a m b w hn (by simpa using h) ha (by simpa using hm) hb sB).mono ?_
      exact fun e w' h => h
    · by_cases h2 : B.length = 1
      · obtain ⟨x, rfl⟩ := List.length_eq_one_iff.mp h2
        refine (symright_any g n c P1 A P2 x a m b w hn (by simpa using h) ha hm (by simpa using hb) (by omega) sA).mono ?_
        exact fun e w' h => h
      · have hl := h.len
        simp only [List.length_append] at hl
        obtain ⟨mid, nn, pp, lo, hi, H, hN⟩ := SymN.mk' (n := n) (a := a) (m := m) (b := b) (lA := A.length) (lB := B.length) (lP := P1.length) hn ha hm hb (by omega) (by omega) (by omega)
        exact symmain_any f ih g n c P1 A B P2 a m b mid nn pp lo hi H w hN hf h sA sB
theorem sym_z (g n c : Nat) (P1 A B P2 : List Po.P) (za zm zb : Int) (w : World) (hn : n ≤ 1000000000) (h : PBlk w g n (P1 ++ (A ++ (B ++ P2)))) (ha : za = (P1.length : Nat)) (hm : zm = (P1.length + A.length : Nat)) (hb : zb = (P1.length + A.length + B.length : Nat)) (hA : 1 ≤ A.length) (hB : 1 ≤ B.length) (sA : So.Sorted Po.less A) (sB : So.Sorted Po.less B) :
    Calls Try.prog 42 #[.slice (some ⟨g, 0, none⟩) n c, .int .i64 za, .int .i64 zm, .int .i64 zb, cmpv] w fun e w' => ∃ X, e = .returned (.tuple #[]) ∧ PBlk w' g n (P1 ++ X ++ P2) ∧ So.Stab Po.less (A ++ B) X ∧ So.Sorted Po.less X ∧ w.grownBy w' (some g) := by
  subst ha; subst hm; subst hb
  exact sym_all _ g n c P1 A B P2 _ _ _ w hn (Nat.le_refl _) h rfl rfl rfl hA hB sA sB
theorem insort_z (g n c : Nat) (P1 S P2 : List Po.P) (za zb : Int) (w : World) (hn : n ≤ 1000000000) (h : PBlk w g n (P1 ++ S ++ P2)) (ha : za = (P1.length : Nat)) (hb : zb = (P1.length + S.length : Nat)) :
    Calls Try.prog 41 #[.slice (some ⟨g, 0, none⟩) n c, .int .i64 za, .int .i64 zb, cmpv] w fun e w' => ∃ X, e = .returned (.tuple #[]) ∧ PBlk w' g n (P1 ++ X ++ P2) ∧ So.Stab Po.less S X ∧ So.Sorted Po.less X ∧ w.grownBy w' (some g) := by
  subst ha; subst hb
  exact insort_any g n c P1 S P2 _ _ w hn h rfl rfl

/-- stretches of bs, in order, at the row's beginning; the rest as it was -/
structure Part (bs : Nat) (l D R : List Po.P) (a k : Nat) : Prop where
  ha : a = k * bs
  hD : D.length = a
  hR : R = l.drop a
  hs : So.Runs Po.less bs D
  hst : So.Stab Po.less (l.take a) D
theorem Part.start (bs : Nat) (l : List Po.P) : Part bs l [] l 0 0 := ⟨by simp, rfl, by simp, So.runs_nil _ _, by simpa using So.Stab.refl _ _⟩
/-- one stretch more -/
theorem Part.more {bs : Nat} {l D R X : List Po.P} {a k : Nat} (h : Part bs l D R a k) (hX : So.Stab Po.less (R.take bs) X) (hso : So.Sorted Po.less X) (hl : X.length = bs) : Part bs l (D ++ X) (R.drop bs) (a + bs) (k + 1) := by
  obtain ⟨ha, hD, hR, hs, hst⟩ := h
  refine ⟨by rw [Nat.succ_mul, ha], by rw [List.length_append, hD, hl], by rw [hR, List.drop_drop], So.runs_snoc hs k (by rw [hD, ha]) hso (by omega), ?_⟩
  have : l.take (a + bs) = l.take a ++ R.take bs := by rw [hR, List.take_add]
  rw [this]
  exact So.Stab.app hst hX
/-- the last one -/
theorem Part.last {bs : Nat} {l D R X : List Po.P} {a k : Nat} (h : Part bs l D R a k) (hX : So.Stab Po.less R X) (hso : So.Sorted Po.less X) (hl : X.length ≤ bs) : So.Runs Po.less bs (D ++ X) ∧ So.Stab Po.less l (D ++ X) := by
  obtain ⟨ha, hD, hR, hs, hst⟩ := h
  refine ⟨So.runs_snoc hs k (by rw [hD, ha]) hso hl, ?_⟩
  have : l = l.take a ++ R := by rw [hR, List.take_append_drop]
  rw [this]
  have h1 : (l.take a ++ R).take a = l.take a := by rw [hR, List.take_append_drop]
  exact So.Stab.app hst hX

set_option maxRecDepth 100000 in
set_option maxHeartbeats 2000000 in
theorem stable_any (g n c : Nat) (l : List Po.P) (w : World) (hn : n ≤ 1000000) (h : PBlk w g n l) :
    Calls Try.prog 37 #[.slice (some ⟨g, 0, none⟩) n c, .int .i64 n, cmpv] w fun e w' => ∃ X, e = .returned (.tuple #[]) ∧ PBlk w' g n X ∧ So.Stab Po.less l X ∧ So.Sorted Po.less X ∧ w.grownBy w' (some g) := by
  have hlen : Hid (l.length = n) := h.len
  go_enter Try.func37, Try.ntmps37
  go_wp2
  go_loopw [7, 8] (fun u v wr => ∃ (a b k : Nat) (D R : List Po.P), u = .int .i64 a ∧ v = .int .i64 b ∧ Hid (b = a + 20) ∧ a ≤ n ∧ b ≤ n + 20 ∧ PBlk wr g n (D ++ R) ∧ Part 20 l D R a k ∧ w.grownBy wr (some g)) (fun u _ _ => n - (intOf u).toNat)
  case atStart => exact ⟨0, 20, 0, [], l, rfl, rfl, (rfl : 20 = 0 + 20), by omega, by omega, by simpa using h, Part.start 20 l, turned_refl w g⟩
  case round =>
    obtain ⟨a, b, k, D, R, rfl, rfl, Hb, han, hbn, hblk, hpart, htu⟩ := hrel
    by_cases hle : b ≤ n
    · have hins : ∀ za zb : Int, za = a → zb = b → Calls Try.prog 41 #[.slice (some ⟨g, 0, none⟩) n c, .int .i64 za, .int .i64 zb, cmpv] wr fun e w' => ∃ X, e = .returned (.tuple #[]) ∧ PBlk w' g n (D ++ X ++ R.drop 20) ∧ So.Stab Po.less (R.take 20) X ∧ So.Sorted Po.less X ∧ wr.grownBy w' (some g) := fun za zb h1 h2 => by
        have hD := hpart.hD
        have hR := hpart.hR
        have hb := Hb.out
        have hl := hlen.out
        have hRl : R.length = n - a := by rw [hR, List.length_drop, hl]
        refine insort_z g n c D (R.take 20) (R.drop 20) za zb wr (by omega) ?_ (by omega) (by rw [List.length_take]; omega)
        rw [List.append_assoc, List.take_append_drop]; exact hblk
      have k1 : IntKind.i64.wrap ((b : Int) + 20) = (b : Int) + 20 := by rw [IntKind.wrap_i64]; omega
      go_wp2_with (go_at_call 41; go_must (refine (hins _ _ rfl rfl).mono ?_; rintro e w2 ⟨X, rfl, hblk2, hst2, hso2, htu2⟩))
      go_roundw
      case rel =>
        have hXl : X.length = 20 := by
          have h1 := hblk2.len
          have hR := hpart.hR
          have hb := Hb.out
          have hl := hlen.out
          rw [List.length_append, List.length_append, hpart.hD, hR, List.drop_drop, List.length_drop, hl] at h1
          omega
        exact ⟨b, b + 20, k + 1, D ++ X, R.drop 20, rfl, by go_num, (rfl : b + 20 = b + 20), hle, by omega, hblk2, by rw [Hb.out]; exact hpart.more hst2 hso2 hXl, htu.trans htu2⟩
      case measure => have := Hb.out; simp [intOf]; omega
    · have hins : ∀ za zb : Int, za = a → zb = n → Calls Try.prog 41 #[.slice (some ⟨g, 0, none⟩) n c, .int .i64 za, .int .i64 zb, cmpv] wr fun e w' => ∃ X, e = .returned (.tuple #[]) ∧ PBlk w' g n (D ++ X) ∧ So.Runs Po.less 20 (D ++ X) ∧ So.Stab Po.less l (D ++ X) ∧ wr.grownBy w' (some g) := fun za zb h1 h2 => by
        have hD := hpart.hD
        have hR := hpart.hR
        have hb := Hb.out
        have hl := hlen.out
        have hRl : R.length = n - a := by rw [hR, List.length_drop, hl]
        refine (insort_z g n c D R [] za zb wr (by omega) (by simpa using hblk) (by omega) (by omega)).mono ?_
        rintro e w' ⟨X, he, hb2, hst2, hso2, htu2⟩
        have hXl : X.length ≤ 20 := by
          have h1 := hb2.len
          rw [List.length_append, List.length_append, hD] at h1
          simp at h1
          omega
        obtain ⟨r1, r2⟩ := hpart.last hst2 hso2 hXl
        exact ⟨X, he, by simpa using hb2, r1, r2, htu2⟩
      go_wp2_with (go_at_call 41; go_must (refine (hins _ _ rfl rfl).mono ?_; rintro e w2 ⟨X, rfl, hblk2, hru2, hst2, htu2⟩))
      have htu3 := htu.trans htu2
      have hex : ∃ Y, PBlk w2 g n Y ∧ So.Runs Po.less 20 Y ∧ So.Stab Po.less l Y := ⟨D ++ X, hblk2, hru2, hst2⟩
      clear hblk2 hru2 hst2 htu2 htu hins hblk hpart h
      obtain ⟨Y, hblk2, hru2, hst2⟩ := hex
      go_loopw [6, 7, 8] (fun t u v wr => ∃ (bs : Nat) (Y : List Po.P) (zu zv : Int), t = .int .i64 bs ∧ u = .int .i64 zu ∧ v = .int .i64 zv ∧ 20 ≤ bs ∧ bs ≤ 2000000 ∧ PBlk wr g n Y ∧ So.Runs Po.less bs Y ∧ So.Stab Po.less l Y ∧ w.grownBy wr (some g)) (fun t _ _ _ => n - (intOf t).toNat)
      case atStart => exact ⟨20, Y, _, _, rfl, rfl, rfl, by omega, by omega, hblk2, hru2, hst2, htu3⟩
      case round =>
        obtain ⟨bs, Y, zu, zv, rfl, rfl, rfl, hbs, hbs2, hblk2, hru2, hst2, htu3⟩ := hrel
        by_cases hlt : bs < n
        · have k0 : IntKind.i64.wrap (2 * (bs : Int)) = 2 * (bs : Int) := by rw [IntKind.wrap_i64]; omega
          have hYl : Hid (Y.length = n) := hblk2.len
          go_wp2
          go_loopw [7, 8] (fun u v wr => ∃ (a b k : Nat) (D R : List Po.P), u = .int .i64 a ∧ v = .int .i64 b ∧ Hid (b = a + 2 * bs) ∧ a ≤ n ∧ b ≤ n + 4000000 ∧ PBlk wr g n (D ++ R) ∧ Part (2 * bs) Y D R a k ∧ w.grownBy wr (some g)) (fun u _ _ => n - (intOf u).toNat)
          case atStart => exact ⟨0, 2 * bs, 0, [], Y, rfl, by go_num, (by omega : 2 * bs = 0 + 2 * bs), by omega, by omega, by simpa using hblk2, Part.start (2 * bs) Y, htu3⟩
          case round =>
            obtain ⟨a, b, k, D, R, rfl, rfl, Hb, han, hbn, hblk3, hpart, htu4⟩ := hrel
            have hru : So.Runs Po.less bs R := by
              rw [hpart.hR, hpart.ha, show k * (2 * bs) = (k * 2) * bs by rw [Nat.mul_assoc]]
              exact So.runs_drop hru2 (k * 2)
            have HRl : Hid (R.length = n - a) := (by rw [hpart.hR, List.length_drop, hYl.out] : R.length = n - a)
            have HDl : Hid (D.length = a) := hpart.hD
            have k1 : IntKind.i64.wrap ((a : Int) + (bs : Int)) = (a : Int) + (bs : Int) := by rw [IntKind.wrap_i64]; omega
            by_cases hle : b ≤ n
            · have hsym : ∀ za zm zb : Int, za = a → zm = (a : Int) + bs → zb = b → Calls Try.prog 42 #[.slice (some ⟨g, 0, none⟩) n c, .int .i64 za, .int .i64 zm, .int .i64 zb, cmpv] wr fun e w' => ∃ X, e = .returned (.tuple #[]) ∧ PBlk w' g n (D ++ X ++ R.drop (2 * bs)) ∧ So.Stab Po.less (R.take (2 * bs)) X ∧ So.Sorted Po.less X ∧ wr.grownBy w' (some g) := fun za zm zb h1 h2 h3 => by
                have hD := HDl.out
                have hRl := HRl.out
                have hb := Hb.out
                have et : R.take (2 * bs) = R.take bs ++ (R.drop bs).take bs := by rw [show 2 * bs = bs + bs by omega, List.take_add]
                rw [et]
                refine sym_z g n c D (R.take bs) ((R.drop bs).take bs) (R.drop (2 * bs)) za zm zb wr (by omega) ?_ (by omega) (by rw [List.length_take]; omega) (by rw [List.length_take, List.length_take, List.length_drop]; omega) (by rw [List.length_take]; omega) (by rw [List.length_take, List.length_drop]; omega) (So.runs_first hru) (So.runs_second hru)
                rw [← List.append_assoc (R.take bs), ← et, List.take_append_drop]; exact hblk3
              have k2 : IntKind.i64.wrap ((b : Int) + 2 * (bs : Int)) = (b : Int) + 2 * (bs : Int) := by rw [IntKind.wrap_i64]; omega
              go_wp2_with (go_at_call 42; go_must (refine (hsym _ _ _ rfl rfl rfl).mono ?_; rintro e w2 ⟨X, rfl, hblk4, hst4, hso4, htu5⟩))
              go_roundw
              case rel =>
                have hXl : X.length = 2 * bs := by
                  have h1 := hblk4.len
                  have hb := Hb.out
                  rw [List.length_append, List.length_append, HDl.out, List.length_drop, HRl.out] at h1
                  omega
                exact ⟨b, b + 2 * bs, k + 1, D ++ X, R.drop (2 * bs), rfl, by go_num, (rfl : b + 2 * bs = b + 2 * bs), hle, by omega, hblk4, by rw [Hb.out]; exact hpart.more hst4 hso4 hXl, htu4.trans htu5⟩
              case measure => have := Hb.out; simp [intOf]; omega
            · have k2 : IntKind.i64.wrap ((bs : Int) * 2) = (bs : Int) * 2 := by rw [IntKind.wrap_i64]; omega
              by_cases hmn : a + bs < n
              · have hmn' : (a : Int) + (bs : Int) < (n : Int) := by omega
                have hsym : ∀ za zm zb : Int, za = a → zm = (a : Int) + bs → zb = n → Calls Try.prog 42 #[.slice (some ⟨g, 0, none⟩) n c, .int .i64 za, .int .i64 zm, .int .i64 zb, cmpv] wr fun e w' => ∃ X, e = .returned (.tuple #[]) ∧ PBlk w' g n X ∧ So.Runs Po.less (2 * bs) X ∧ So.Stab Po.less Y X ∧ wr.grownBy w' (some g) := fun za zm zb h1 h2 h3 => by
                  have hD := HDl.out
                  have hRl := HRl.out
                  have hb := Hb.out
                  have e2 : (R.drop bs).take bs = R.drop bs := List.take_of_length_le (by rw [List.length_drop]; omega)
                  have hs2 := So.runs_second hru
                  rw [e2] at hs2
                  refine (sym_z g n c D (R.take bs) (R.drop bs) [] za zm zb wr (by omega) ?_ (by omega) (by rw [List.length_take]; omega) (by rw [List.length_take, List.length_drop]; omega) (by rw [List.length_take]; omega) (by rw [List.length_drop]; omega) (So.runs_first hru) hs2).mono ?_
                  · rw [List.append_nil, List.take_append_drop]; exact hblk3
                  · rintro e w' ⟨X, he, hb2, hst4, hso4, htu5⟩
                    rw [List.take_append_drop] at hst4
                    rw [List.append_nil] at hb2
                    have hXl : X.length ≤ 2 * bs := by
                      have h1 := hb2.len
                      rw [List.length_append, hD] at h1
                      omega
                    obtain ⟨r1, r2⟩ := hpart.last hst4 hso4 hXl
                    exact ⟨D ++ X, he, hb2, r1, r2, htu5⟩
                go_wp2_with (go_at_call 42; go_must (refine (hsym _ _ _ rfl rfl rfl).mono ?_; rintro e w2 ⟨X, rfl, hblk4, hru4, hst4, htu5⟩))
                go_roundw
                case rel => exact ⟨2 * bs, X, _, _, val_int (by omega), rfl, rfl, by omega, by omega, hblk4, hru4, hst2.trans hst4, htu4.trans htu5⟩
                case measure => simp [intOf]; omega
              · have hmn' : ¬ (a : Int) + (bs : Int) < (n : Int) := by omega
                have hR1 : R.length ≤ bs := by have := HRl.out; omega
                have hR2 : So.Sorted Po.less R := So.runs_whole hru hR1
                obtain ⟨r1, r2⟩ := hpart.last (So.Stab.refl _ _) hR2 (by omega)
                go_wp2
                go_roundw
                case rel => exact ⟨2 * bs, D ++ R, _, _, val_int (by omega), rfl, rfl, by omega, by omega, hblk3, r1, hst2.trans r2, htu4⟩
                case measure => simp [intOf]; omega
        · go_wp2
          first | go_end0 | refine bodyPost_ret (results_none rfl _ _ _) rfl ?_
          exact ⟨Y, rfl, hblk2, hst2, So.runs_whole hru2 (by rw [hblk2.len]; omega), htu3⟩
end Go.Proofs.Ytmafbgfldojbbaa
