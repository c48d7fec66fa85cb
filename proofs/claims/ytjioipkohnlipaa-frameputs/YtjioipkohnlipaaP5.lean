/- What the program's Scan does. -/
import Derived.Test.YtjioipkohnlipaaP4
namespace Go.Proofs.Ytjioipkohnlipaa
open Go.RowKit

theorem Fr.first_size {bs : List Nat} (hs : ∀ x ∈ bs, x < 256) (h : (Fr.first bs).2.2 = 0) : (Fr.first bs).1.2.length ≤ 1048576 ∧ (Fr.first bs).2.1 = Fr.size (Fr.first bs).1.2.length := by
  by_cases hb : (Fr.bsz bs).2 = 0
  · obtain ⟨u, hu, _, hget, htake, hol, hgap⟩ := Fr.bsz_ok hs hb
    have hfn := Fr.first_num hu hget hgap
    have hsz : Fr.size u = (Va.one u).length + 1 + u + 4 := rfl
    rw [hfn] at h ⊢
    split at h
    · simp at h
    · split at h
      · simp at h
      · split at h
        · simp at h
        · split at h
          · rename_i h1 h2 h3 h4
            have hl : ((bs.drop ((Va.one u).length + 1)).take u).length = u := by rw [List.length_take, List.length_drop]; omega
            rw [if_neg h1, if_neg h2, if_neg h3, if_pos h4]
            simp only []
            rw [hl]
            exact ⟨hu, rfl⟩
          · simp at h
  · rw [Fr.first_bad hb] at h
    exact absurd h hb

set_option maxRecDepth 100000 in
set_option maxHeartbeats 2000000 in
theorem scan_any (a : Option Addr) (len cap : Nat) (bs : List Nat) (w : World) (hbig : len ≤ 100000) (hshape : Shape a len cap) (hr : Row .u8 w a len bs) :
    Calls Try.prog 19 #[.slice a len cap] w (ScanRes w (Fr.scan bs)) := by
  have hlen : Hid (bs.length = len) := hr.1
  obtain ⟨R, hR⟩ : ∃ R, R = Fr.scan bs := ⟨_, rfl⟩
  rw [← hR]
  have HR : Hid (len + 1 ≤ (len + 1) + 0 ∧ R = Fr.sc (len + 1) bs 0 [] []) := (⟨by omega, by rw [hR, Fr.scan, hlen.out]⟩ : len + 1 ≤ (len + 1) + 0 ∧ R = Fr.sc (len + 1) bs 0 [] [])
  clear hR
  have hl0 := World.ownsRow_nil w w.heap.size 31 2
  have hp0 := World.ownsRow_nil w w.heap.size 3 1
  go_enter Try.func19, Try.ntmps19
  go_wp2
  go_loopw [5, 6, 7] (fun v u t wr => ∃ (k at' m : Nat) (fs : List Fr.F) (ps : List Nat) (cs : List Value) (a1 : Option Addr) (c1 : Nat) (a2 : Option Addr) (c2 : Nat), k ≤ at' ∧ at' ≤ len ∧ t = .int .i64 at' ∧ v = .slice a1 k c1 ∧ u = .slice a2 k c2 ∧
      wr.ownsRow w.heap.size 31 2 (.slice a1 k c1) k cs ∧ Held wr w.heap.size fs cs ∧ wr.ownsRow w.heap.size 3 1 (.slice a2 k c2) k (kcells .i64 ps) ∧ Below w.heap.size w wr ∧ Hid (fs.length = k) ∧ Hid (ps.length = k) ∧ Hid (len + 1 ≤ m + at' ∧ R = Fr.sc m bs at' fs ps))
    (fun _ _ t _ => len + 1 - (intOf t).toNat)
  case atStart => exact ⟨0, 0, len + 1, [], [], [], _, _, _, _, by omega, by omega, rfl, rfl, rfl, hl0, rfl, hp0, Below.refl _ _, (rfl : [].length = 0), (rfl : [].length = 0), HR⟩
  case round =>
    obtain ⟨k, at', m, fs, ps, cs, a1, c1, a2, c2, hka, hat, rfl, rfl, rfl, hl, hh, hp, hbel, hfk, hpk, H⟩ := hrel
    clear hl0 hp0 HR
    have hsz := hbel.size
    have hr' := hr.below hbel (Nat.le_refl _)
    have H0 := H.out.2
    obtain ⟨m', hm'⟩ : ∃ m', m = m' + 1 := ⟨m - 1, by have := H.out.1; omega⟩
    rw [hm'] at H0
    have hfl := Fr.first_le (bs.drop at')
    rw [List.length_drop, hlen.out] at hfl
    obtain ⟨R1, hR1⟩ : ∃ R1, Fr.first (bs.drop at') = R1 := ⟨_, rfl⟩
    have hok := fun h => Fr.first_ok (bs := bs.drop at') h
    have hsize := fun h => Fr.first_size (bs := bs.drop at') (drop_small hr.2.2.1 _) h
    rw [hR1] at hfl hok hsize
    obtain ⟨⟨x, y⟩, rn, rc⟩ := R1
    simp only at hfl hok hsize
    rcases hshape with ⟨rfl, rfl⟩ | ⟨b, off, rfl, hc⟩
    · have hrow := hr'.take 0 (by omega)
      obtain rfl : at' = 0 := by omega
      have hbs0 : bs = [] := List.length_eq_zero_iff.mp hlen.out
      have hcz : ¬ rc = 0 := by
        have : Fr.first (bs.drop 0) = ((0, []), 0, 5) := by rw [hbs0]; exact Fr.first_nil
        rw [hR1] at this
        simp at this; omega
      rw [show bs.take 0 = bs.drop 0 by rw [hbs0]; rfl] at hrow
      have hcall := fun c (_ : 0 ≤ c) => first_any a 0 c (bs.drop 0) wr (by omega) (by omega) hrow
      rw [hR1] at hcall
      clear hr hr' hrow hok hsize
      have H2 : Hid (R = (fs, ps, 0)) := (by rw [H0, Fr.sc_no (by rw [hR1]; exact hcz)] : R = (fs, ps, 0))
      clear H0
      have hR1' : Hid (_ = _) := hR1
      clear hR1
      have hcb : ((rc : Int) != 0) = true := by simp; omega
      go_wp2_with (go_at_call 16; refine (hcall _ (by omega)).mono ?_; rintro e w1 ⟨A, C, rfl, hown1, hbel1⟩; have hs1 := hbel1.size)
      have hB1 := hbel.trans (hbel1.mono hsz)
      go_ret3
      refine ⟨a1, c1, a2, c2, cs, ?_, ?_, ?_, ?_, ?_, ?_⟩
      · rw [H2.out]; simp only []; rw [hfk.out]; rfl
      · rw [H2.out]; simp only []; rw [hfk.out]; exact (owns_below hl hbel1).alloc _
      · rw [H2.out]; exact (hh.below hbel1).below (below_alloc _ _)
      · rw [H2.out]; simp only []; rw [hfk.out]; exact (owns_below hp hbel1).alloc _
      · rw [H2.out]; simp only []; rw [hfk.out, hpk.out]
      · exact hB1.alloc hB1.size _
    · by_cases hcap : cap = at'
      · have hrow : Row .u8 wr (some ⟨b, off, none⟩) (len - at') (bs.drop at') := by
          have h1 := hr'.drop at' hat
          exact ⟨h1.1, h1.2.1, h1.2.2.1, .inl (by omega)⟩
        have hcz : ¬ rc = 0 := by
          have : Fr.first (bs.drop at') = ((0, []), 0, 5) := by rw [List.drop_of_length_le (by rw [hlen.out]; omega)]; exact Fr.first_nil
          rw [hR1] at this
          simp at this; omega
        have hcall := fun c (h : len - at' ≤ c) => first_any (some ⟨b, off, none⟩) (len - at') c (bs.drop at') wr h (by omega) hrow
        rw [hR1] at hcall
        clear hr hr' hrow hok hsize
        have H2 : Hid (R = (fs, ps, at')) := (by rw [H0, Fr.sc_no (by rw [hR1]; exact hcz)] : R = (fs, ps, at'))
        clear H0
        have hR1' : Hid (_ = _) := hR1
        clear hR1
        have hcb : ((rc : Int) != 0) = true := by simp; omega
        go_wp2_with (go_at_call 16; refine (hcall _ (by omega)).mono ?_; rintro e w1 ⟨A, C, rfl, hown1, hbel1⟩; have hs1 := hbel1.size)
        have hB1 := hbel.trans (hbel1.mono hsz)
        go_ret3
        refine ⟨a1, c1, a2, c2, cs, ?_, ?_, ?_, ?_, ?_, ?_⟩
        · rw [H2.out]; simp only []; rw [hfk.out]; rfl
        · rw [H2.out]; simp only []; rw [hfk.out]; exact (owns_below hl hbel1).alloc _
        · rw [H2.out]; exact (hh.below hbel1).below (below_alloc _ _)
        · rw [H2.out]; simp only []; rw [hfk.out]; exact (owns_below hp hbel1).alloc _
        · rw [H2.out]; simp only []; rw [hfk.out, hpk.out]
        · exact hB1.alloc hB1.size _
      · have hrow := hr'.drop at' hat
        have hcall := fun c (h : len - at' ≤ c) => first_any (some ⟨b, off + at', none⟩) (len - at') c (bs.drop at') wr h (by omega) hrow
        rw [hR1] at hcall
        clear hr' hrow
        by_cases hcz : rc = 0
        · subst hcz
          obtain ⟨o1, o2, o3, o4, o5⟩ := hok rfl
          have hys : ∀ z ∈ y, z < 256 := by
            rw [o3]; exact take_small (drop_small (drop_small hr.2.2.1 _) _) _
          obtain ⟨hy20, hrn⟩ := hsize rfl
          have hhd := fun W => head_in y.length W hy20
          have ho3 := Fr.one3 hy20
          have Hrn : Hid (rn = (Va.one y.length).length + 1 + y.length + 4) := (hrn : rn = (Va.one y.length).length + 1 + y.length + 4)
          have hrn := Hrn.out
          generalize (Va.one y.length).length = o at *
          clear o3 hok hr hsize Hrn
          rw [Fr.sc_ok (by rw [hR1]), hR1] at H0
          simp only at H0
          have H2 : Hid (len + 1 ≤ m' + (at' + rn) ∧ R = Fr.sc m' bs (at' + rn) (fs ++ [(x, y)]) (ps ++ [at' + rn - 4 - y.length])) := (⟨by have := H.out.1; omega, H0⟩ : len + 1 ≤ m' + (at' + rn) ∧ R = Fr.sc m' bs (at' + rn) (fs ++ [(x, y)]) (ps ++ [at' + rn - 4 - y.length]))
          clear H0 H hR1 hm'
          go_wp2_with (first
            | (go_at_call 10; refine (hhd _).mono ?_; rintro e w' ⟨rfl, rfl⟩)
            | (go_at_call 16; go_must (refine (hcall _ (by omega)).mono ?_; rintro e w1 ⟨A, C, rfl, hown1, hbel1⟩; have hs1 := hbel1.size; have hl1 := owns_below hl hbel1; have hp1 := owns_below hp hbel1; have hB1 := hbel.trans (hbel1.mono hsz); have hh1 := Held.snoc (f := (x, y)) (hown1.mono hsz) hys (show y.length ≤ 1000000000 by omega) ⟨(show -9223372036854775808 ≤ x by omega), (show x ≤ 9223372036854775807 by omega)⟩ (hh.below hbel1); simp only at hh1))
            | (at_builtin; have := hl3; go_must (refine append_i64g (w0 := w) (B := w.heap.size) rfl (.tmp 28) (.tmp 35) rfl _ k ps rfl (hp3.alloc _) _ 1 1 [at' + rn - 4 - y.length] rfl (row_newz .i64 _ 3 _ (at' + rn - 4 - y.length) (by omega) (by show _ < 18446744073709551616; omega)) (fun h => by cases h) (by omega) (hB3.alloc hs3 _) (by simp; omega) ?_; intro a4 c4 w4 hp4 hB4 hs4 hg4))
            | (at_builtin; have := hl1; go_must (refine append_fr (w0 := w) (B := w.heap.size) rfl (.tmp 24) (.tmp 26) rfl _ k cs rfl ((hl1.alloc _).alloc _) (w1.heap.size + 1) 1 (.int .i64 x) (.slice A y.length C) rfl (cell_two _ _ _ _ (by simp)).1 (cell_two _ _ _ _ (by simp)).2 rfl rfl (by omega) ((hB1.alloc hB1.size _).alloc (by simp; have := hB1.size; omega) _) (by simp; have := hB1.size; omega) ?_; intro a3 c3 w3 hl3 hB3 hs3 hg3; obtain ⟨hF, hp3, hlt3, hh3⟩ := scan_mid hl hs1 hl1 hp1 hh1 hg3)))
          obtain ⟨hl4, hh4⟩ := scan_end hl3 hp3 hh3 hg4
          go_roundw
          case rel => exact ⟨k + 1, at' + rn, m', _, _, _, a3, c3, a4, c4, by omega, by omega, val_int (by omega), rfl, rfl, hl4, hh4, hp4, hB4, (by rw [List.length_append, hfk.out]; rfl : (fs ++ [(x, y)]).length = k + 1), (by rw [List.length_append, hpk.out]; rfl : (ps ++ [at' + rn - 4 - y.length]).length = k + 1), H2⟩
          case measure => simp [intOf]; omega
        · clear hr hok
          have H2 : Hid (R = (fs, ps, at')) := (by rw [H0, Fr.sc_no (by rw [hR1]; exact hcz)] : R = (fs, ps, at'))
          clear H0
          have hR1' : Hid (_ = _) := hR1
          clear hR1
          have hcb : ((rc : Int) != 0) = true := by simp; omega
          go_wp2_with (go_at_call 16; refine (hcall _ (by omega)).mono ?_; rintro e w1 ⟨A, C, rfl, hown1, hbel1⟩; have hs1 := hbel1.size)
          have hB1 := hbel.trans (hbel1.mono hsz)
          go_ret3
          refine ⟨a1, c1, a2, c2, cs, ?_, ?_, ?_, ?_, ?_, ?_⟩
          · rw [H2.out]; simp only []; rw [hfk.out]; rfl
          · rw [H2.out]; simp only []; rw [hfk.out]; exact (owns_below hl hbel1).alloc _
          · rw [H2.out]; exact (hh.below hbel1).below (below_alloc _ _)
          · rw [H2.out]; simp only []; rw [hfk.out]; exact (owns_below hp hbel1).alloc _
          · rw [H2.out]; simp only []; rw [hfk.out, hpk.out]
          · exact hB1.alloc hB1.size _
end Go.Proofs.Ytjioipkohnlipaa
