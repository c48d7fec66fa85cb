/- What the law FrameCuts does, given the program's Put, Scan, First and Size. -/
import Derived.Test.YtjioipkohnlipaaG6
namespace Go.Proofs.Ytjioipkohnlipaa
open Go.RowKit

theorem cuts_le : ∀ (fs : List Fr.F) (k : Nat), (Fr.cuts fs k).2 ≤ k ∧ (Fr.cuts fs k).1 ≤ fs.length := by
  intro fs
  induction fs with
  | nil => intro k; simp [Fr.cuts]
  | cons f fs ih =>
    intro k
    rw [Fr.cuts]
    split
    · have := ih (k - Fr.size f.2.length); simp; omega
    · simp

theorem pl_mono (fs : List Fr.F) (i n : Nat) (h : i ≤ n) : pl fs i ≤ pl fs n := by
  have := pl_le (fs.take n) i
  unfold pl at this ⊢
  rwa [List.take_take, Nat.min_eq_left h] at this

theorem fcuts_dark (hA : ∀ w, Calls Try.prog 8 #[] w fun e w' => e = .returned (.bool true) ∧ Below w.heap.size w w') (a : Option Addr) (len cap : Nat) (fs : List Fr.F) (z : Int) (w : World) (h : IsFrames w a len cap fs) (hg : goodB fs = false) :
    Calls Try.prog 5 #[.slice a len cap, .int .u16 z] w fun e w' => e = .returned (.bool true) ∧ Below w.heap.size w w' := by
  have m1 := lmay_any a len cap fs w h
  rw [hg] at m1
  clear h hg
  go_enter Try.func5, Try.ntmps5
  go_wp2_with (first
    | (go_at_call 22; refine m1.mono ?_; rintro e w1 ⟨rfl, hbel1⟩)
    | (go_at_call 8; have := hbel1; refine (hA _).mono ?_; rintro e w2 ⟨rfl, hbel2⟩))
  go_ret
  exact ⟨rfl, hbel1.trans (hbel2.mono hbel1.size)⟩

set_option maxRecDepth 100000 in
set_option maxHeartbeats 8000000 in
theorem fcuts_any (hP : PutC) (hS : ScanC) (hF : FirstC) (hZ : SizeC) (hA : ∀ w, Calls Try.prog 8 #[] w fun e w' => e = .returned (.bool true) ∧ Below w.heap.size w w')
    (a : Option Addr) (len cap : Nat) (fs : List Fr.F) (cut : Nat) (w : World) (h : IsFrames w a len cap fs) (hg : goodB fs = true) (hcut : cut < 65536) :
    Calls Try.prog 5 #[.slice a len cap, .int .u16 cut] w fun e w' => e = .returned (.bool true) ∧ Below w.heap.size w w' := by
  have m1 := lmay_any a len cap fs w h
  rw [hg] at m1
  obtain ⟨ha1, ha2, ha3⟩ := good_split hg
  have hr := h.1
  have hnil := h.2.1
  have hll := hr.1
  rw [hll] at ha2
  have hgood := good_of hr ha1
  have hla := all_len_le fs ha1
  rw [hll] at hla
  have hp := fun W (h : Below w.heap.size w W) => hP a len cap fs W (hr.below h (Nat.le_refl _)) (by omega) (by omega)
  unfold PutRes at hp
  rw [ha1] at hp
  have hsx : ∀ x ∈ Fr.all fs, x < lim .u8 := Fr.all_small hgood
  obtain ⟨nx, hnx⟩ : ∃ n, n = (Fr.all fs).length := ⟨_, rfl⟩
  obtain ⟨k, hk⟩ : ∃ k, k = cut % (nx + 1) := ⟨_, rfl⟩
  have hkn : k ≤ nx := by have := Nat.mod_lt cut (show 0 < nx + 1 by omega); omega
  have hk' : (cut : Int) % ((nx : Int) + 1) = (k : Int) := by rw [hk]; simp
  have hne : (((nx : Int) + 1) == 0) = false := by simp; omega
  have hscan := Fr.scan_cut hgood k (by rw [← hnx]; exact hkn)
  have hcl := cuts_le fs k
  obtain ⟨n0, at0, hc0⟩ : ∃ n0 at0, Fr.cuts fs k = (n0, at0) := ⟨_, _, rfl⟩
  rw [hc0] at hscan hcl
  simp only at hscan hcl
  have HC : Hid (Fr.cuts fs k = (n0, at0)) := hc0
  have HX : Hid (nx = (Fr.all fs).length) := hnx
  have hll' : Hid (fs.length = len) := hll
  rw [hll] at hcl
  obtain ⟨hcl1, hcl2⟩ := hcl
  rw [← hnx] at hla hp
  clear hnx hk hc0 hg hll
  have hsl : Hid ((fs.take n0).length = n0) := (by rw [List.length_take, hll'.out]; omega : (fs.take n0).length = n0)
  have hplc : Hid (((Fr.places fs 0).take n0).length = n0) := (by rw [List.length_take, Fr.places_len, hll'.out]; omega : ((Fr.places fs 0).take n0).length = n0)
  have hs := fun (b : Option Addr) c (W : World) (h : Shape b k c) (hc : k ≤ c) (hb : Row .u8 W b k ((Fr.all fs).take k)) => hS b k c _ W h hc (by omega) hb
  unfold ScanRes at hs
  rw [hscan.1] at hs
  simp only [hsl.out, hplc.out] at hs
  have hf := fun (b : Option Addr) c (W : World) (h : Shape b (k - at0) c) (hc : k - at0 ≤ c) (hb : Row .u8 W b (k - at0) (((Fr.all fs).take k).drop at0)) => hF b (k - at0) c _ W h hc (by omega) hb
  have hfz := fun (b : Option Addr) (z c : Nat) (W : World) (hz : z = 0) (hc : c = 0) (hl : ((Fr.all fs).take k).drop at0 = []) => hF b z c (((Fr.all fs).take k).drop at0) W (.inl ⟨hz, hc⟩) (by omega) (by omega) (by rw [hl, hz]; exact ⟨rfl, by omega, by simp, .inl rfl⟩)
  have hcode := hscan.2
  unfold FirstRes at hf hfz
  obtain ⟨f1, rn, rc, hR1⟩ : ∃ f1 rn rc, Fr.first (((Fr.all fs).take k).drop at0) = (f1, rn, rc) := ⟨_, _, _, rfl⟩
  rw [hR1] at hf hfz hcode
  simp only at hf hfz hcode
  subst hcode
  clear hR1 hscan hS hF hP
  have hsizes := fun (L : Nat) W (h : L ≤ 1048576) => hZ (L : Int) W (by omega) (by omega)
  go_enter Try.func5, Try.ntmps5
  go_wp2_with (go_at_call 22; refine m1.mono ?_; rintro e w1 ⟨rfl, hbel1⟩)
  refine (hp _ hbel1).mono ?_
  rintro e w2 (⟨_, a2, c2, rfl, hown2, hbel2⟩ | ⟨h, _⟩)
  rotate_left
  · cases h
  have hB2 := hbel1.trans (hbel2.mono hbel1.size)
  obtain ⟨hrx, hnx2, hcx⟩ := row_of_owns hown2 hsx (by omega)
  have hlc : len ≤ cap := by rcases h.2.2.1 with h' | ⟨_, _, _, h'⟩ <;> omega
  have hpsm : ∀ x ∈ (Fr.places fs 0).take n0, x < lim .i64 := by
    intro x hx
    obtain ⟨i, hi, e⟩ := List.mem_iff_getElem.mp (List.mem_of_mem_take hx)
    rw [Fr.places_len] at hi
    have h1 := places_get fs 0 i hi
    have h2 := bp_end fs i hi
    have h3 := pl_le fs (i + 1)
    rw [List.getElem?_eq_getElem (by rw [Fr.places_len]; exact hi)] at h1
    simp only [Option.some.injEq] at h1
    have h4 := HX.out
    show x < 18446744073709551616
    omega
  have hsh : (a2 = none ∧ nx = 0 ∧ c2 = 0) ∨ ∃ g go, a2 = some ⟨g, go, none⟩ := by
    rcases hown2.2 with ⟨e, _⟩ | ⟨g, _, _, e, _⟩
    · left; simpa using e
    · right; simp only [Value.slice.injEq] at e; exact ⟨g, 0, e.1⟩
  rcases hsh with ⟨rfl, hx0, hcx0⟩ | ⟨g, go, rfl⟩
  · have hlen0 : len = 0 := by
      rcases Nat.eq_zero_or_pos len with h0 | h0
      · exact h0
      · have h1 := pl_step fs 0 (by rw [hll'.out]; exact h0)
        have h2 := pl_le fs (0 + 1)
        have h3 := HX.out
        unfold Fr.size at h1
        omega
    obtain rfl : n0 = 0 := by omega
    obtain rfl : k = 0 := by omega
    obtain rfl : at0 = 0 := by omega
    subst hlen0 hx0 hcx0
    have hr0 : ∀ b W, Row .u8 W b 0 ((Fr.all fs).take 0) := fun b W => ⟨by simp, by omega, by simp, .inl rfl⟩
    have hr1 : ∀ b W, Row .u8 W b (0 - 0) (((Fr.all fs).take 0).drop 0) := fun b W => ⟨by simp, by omega, by simp, .inl rfl⟩
    have hs0 := fun b W => hs b 0 W (.inl ⟨rfl, rfl⟩) (by omega) (hr0 b W)
    have hf0 := fun b W => hf b 0 W (.inl ⟨rfl, rfl⟩) (by omega) (hr1 b W)
    simp only [Nat.sub_self] at hf0
    clear hs hf hfz hr0 hr1
    go_wp2_with (first
      | (go_at_call 19; refine (hs0 _ w2).mono ?_; rintro e w3 ⟨a3, c3, a4, c4, cs3, rfl, hl3, hh3, hp3, hpk3, hbel3⟩; have hB3 := hB2.trans (hbel3.mono hB2.size))
      | (go_at_call 16; have := hB3; go_must (refine (hf0 _ w3).mono ?_; rintro e w4 ⟨A4, C4, rfl, hown4, hbel4⟩; have hB4 := hB3.trans (hbel4.mono hB3.size))))
    have hB5 := hB4.alloc hB4.size (.cells #[.int .i64 f1.1, .slice A4 f1.2.length C4] 31)
    have hbel35 : Below w3.heap.size w3 (w4.alloc (.cells #[.int .i64 f1.1, .slice A4 f1.2.length C4] 31)) := hbel4.alloc hbel4.size _
    have hfx := (frow_of_owns hl3 hh3 (by omega)).1.below hbel35 (Nat.le_refl _)
    clear hl3 hh3 hp3 hown2 hown4 hbel1 hbel2 hbel3 hbel4 hbel35 hrx hs0 hf0 hp m1 hB2 hB3 hB4 hk' hne hpk3
    generalize w4.alloc (.cells #[.int .i64 f1.1, .slice A4 f1.2.length C4] 31) = w5 at *
    go_loopw [14, 15] (fun t i wr => t = .int .i64 0 ∧ i = .int .i64 0 ∧ Below w5.heap.size w5 wr) (fun _ _ _ => 0)
    case atStart => exact ⟨rfl, rfl, Below.refl _ _⟩
    case round =>
      obtain ⟨rfl, rfl, hbw⟩ := hrel
      obtain ⟨w6, rfl⟩ : ∃ x, x = wr := ⟨_, rfl⟩
      have hB6 := hB5.trans (hbw.mono hB5.size)
      go_wp2_with fail
      go_loopw [16] (fun i wx => i = .int .i64 0 ∧ Below w6.heap.size w6 wx) (fun _ _ => 0)
      case atStart => exact ⟨rfl, Below.refl _ _⟩
      case round =>
        obtain ⟨rfl, hbx⟩ := hrel
        have hBx := hB6.trans (hbx.mono hB6.size)
        have h5x := hbw.trans (hbx.mono hbw.size)
        have hS := fsame_any a3 0 c3 _ a 0 cap _ wr (hfx.below h5x (Nat.le_refl _)) ((hr.below hBx (Nat.le_refl _)).take 0 (Nat.le_refl _))
        simp only [decide_true] at hS
        go_wp2_with (first | (go_at_call 18; refine hS.mono ?_; rintro e w8 ⟨rfl, hb8⟩) | (go_at_call 8; have := hb8; refine (hA _).mono ?_; rintro e w9 ⟨rfl, hb9⟩))
        have hB8 := hBx.trans (hb8.mono hBx.size)
        go_ret
        exact ⟨rfl, hB8.trans (hb9.mono hB8.size)⟩
  · by_cases hca : c2 = at0
    · subst hca
      have hrk := hrx.take k hkn
      have hn0' : ((Fr.all fs).take k).drop c2 = [] := List.drop_eq_nil_of_le (by rw [List.length_take]; omega)
      have hf0 := fun b z c W hz hc => hfz b z c W hz hc hn0'
      clear hf hfz hn0'
      go_wp2_with (first
        | (go_at_call 19; refine (hs _ _ w2 (.inr ⟨g, go, rfl, by omega⟩) (by omega) hrk).mono ?_; rintro e w3 ⟨a3, c3, a4, c4, cs3, rfl, hl3, hh3, hp3, hpk3, hbel3⟩; have hB3 := hB2.trans (hbel3.mono hB2.size))
        | (go_at_call 16; have := hB3; go_must (refine (hf0 _ _ _ w3 (by omega) (by omega)).mono ?_; rintro e w4 ⟨A4, C4, rfl, hown4, hbel4⟩; have hB4 := hB3.trans (hbel4.mono hB3.size))))
      clear hrk
      have hB5 := hB4.alloc hB4.size (.cells #[.int .i64 f1.1, .slice A4 f1.2.length C4] 31)
      have hbel35 : Below w3.heap.size w3 (w4.alloc (.cells #[.int .i64 f1.1, .slice A4 f1.2.length C4] 31)) := hbel4.alloc hbel4.size _
      have hfx := (frow_of_owns hl3 hh3 (by omega)).1.below hbel35 (Nat.le_refl _)
      have hpr := (row_of_owns hp3 hpsm (by omega)).1.below hbel35 (Nat.le_refl _)
      have hrx5 := (hrx.below hbel3 (Nat.le_refl _)).below hbel35 (Nat.le_refl _)
      clear hl3 hh3 hp3 hown2 hown4 hbel1 hbel2 hbel3 hbel4 hbel35 hrx hs hf0 hp m1 hB2 hB3 hB4 hk' hne hpk3
      generalize w4.alloc (.cells #[.int .i64 f1.1, .slice A4 f1.2.length C4] 31) = w5 at *
      go_loopw [14, 15] (fun t i wr => ∃ n : Nat, n ≤ len ∧ i = .int .i64 n ∧ t = .int .i64 (pl fs n : Nat) ∧ pl fs n ≤ k ∧ Below w5.heap.size w5 wr) (fun _ i _ => len - (intOf i).toNat)
      case atStart => exact ⟨0, by omega, rfl, val_int (by rw [pl_zero]; rfl), by rw [pl_zero]; omega, Below.refl _ _⟩
      case round =>
        obtain ⟨n, hn, rfl, rfl, hpl, hbw⟩ := hrel
        have hBw := hB5.trans (hbw.mono hB5.size)
        have hszw := hbw.size
        have hend : (n = len) ∨ (n < len) := by omega
        have hexit : (n = len ∨ (n < len ∧ k < pl fs (n + 1))) → n = n0 ∧ pl fs n = c2 := by
          intro h'
          have := cuts_eq fs k n (by rw [hll'.out]; exact hn) hpl (by rw [hll'.out]; omega)
          rw [HC.out] at this
          simp at this
          omega
        rcases hend with hend | hlt
        · obtain ⟨hn0, hc2⟩ := hexit (.inl hend)
          clear hexit
          subst hn0
          have hge : len ≤ n := by omega
          clear hend
          have Hat : Hid (pl fs n = c2) := hc2
          rw [hc2] at hpl
          rw [hc2]
          clear hc2
          obtain ⟨w6, rfl⟩ : ∃ x, x = wr := ⟨_, rfl⟩
          have h56 := hbw
          go_wp2_with fail
          have hB6 : Below w.heap.size w w6 := hB5.trans (h56.mono hB5.size)
          go_loopw [16] (fun i wx => ∃ j : Nat, j ≤ n ∧ i = .int .i64 j ∧ Below w6.heap.size w6 wx) (fun i _ => n - (intOf i).toNat)
          case atStart => exact ⟨0, by omega, rfl, Below.refl _ _⟩
          case round =>
            obtain ⟨j, hj, rfl, hbx⟩ := hrel
            have hBx := hB6.trans (hbx.mono hB6.size)
            have h5x := h56.trans (hbx.mono h56.size)
            rcases Nat.lt_or_ge j n with hjn | hjn
            · have hl2 : j < fs.length := by rw [hll'.out]; omega
              have hpr' := hpr.below h5x (Nat.le_refl _)
              obtain ⟨pb, po, rfl, hpc⟩ := hpr'.at (by omega)
              have pc := hpc j hjn
              have hpj : (List.take n (Fr.places fs 0)).getD j 0 = bp fs j := by
                rw [List.getD_eq_getElem?_getD, List.getElem?_take, if_pos hjn, places_get fs 0 j hl2]; simp
              rw [hpj] at pc
              obtain ⟨bl, ol, rfl, hc2⟩ := (hr.below hBx (Nat.le_refl _)).at (by omega)
              obtain ⟨A2, L2, C2, p2, q2, r2, s2, t2, lo2, hi2⟩ := hc2 j (by omega)
              have hL2 : (fs.getD j (0, [])).2.length = L2 := r2.1
              have he2 := bp_end fs j hl2
              have hm2 := pl_mono fs (j + 1) n hjn
              rw [Hat.out] at hm2
              have hbb := bp_body fs j hl2
              rw [hL2] at he2 hbb
              generalize bp fs j = p at *
              have hrow : Row .u8 wr (some ⟨g, go + p, none⟩) L2 (fs.getD j (0, [])).2 := by
                have := ((hrx5.below h5x (Nat.le_refl _)).drop p (by omega)).take L2 (by omega)
                rw [hbb] at this; exact this
              have hby := fun m (z : Nat) (hz : z = L2) => bytes_any (some ⟨g, go + p, none⟩) z (c2 - p) (fs.getD j (0, [])).2 A2 L2 C2 _ (wr.drewN m) (by rw [hz]; exact hrow.below (below_drewN _ _ m) (Nat.le_refl _)) (r2.below (below_drewN _ _ m) (Nat.le_refl _))
              simp only [decide_true] at hby
              have d1 : decide ((p : Int) < 0) = false := by simp
              have d2 : decide ((k : Int) < (p : Int) + (L2 : Int)) = false := by simp; omega
              have i0 : (0 : Int) ≤ (j : Int) := Int.natCast_nonneg _
              have i1 : (j : Int) < (n : Int) := by omega
              have i2 : (j : Int) < (len : Int) := by omega
              have i3 : (0 : Int) ≤ (p : Int) := Int.natCast_nonneg _
              have i4 : (p : Int) ≤ (p : Int) + (L2 : Int) := by omega
              have i5 : (p : Int) + (L2 : Int) ≤ (c2 : Int) := by omega
              have i6 : ¬ c2 = p := by omega
              have i7 : IntKind.i64.wrap ((p : Int) + (L2 : Int)) = (p : Int) + (L2 : Int) := by rw [IntKind.wrap_i64]; omega
              clear hrow r2 s2 t2 lo2 hi2 hL2 hbb hpj hpc hpr hpr' hc2 hfx hrx5
              go_wp2_with fail
              go_region_held3 (fun w' => w'.cell? ⟨pb, po + j, none⟩ = some (.int .i64 p) ∧ w'.cell? ⟨bl, ol + j * 2 + 1, none⟩ = some (.slice A2 L2 C2)) (first | go_keep | (refine ⟨?_, ?_⟩ <;> assumption))
                (first | ((go_at_call 14; refine (hby _ _ (by omega)).mono ?_; rintro e w9 ⟨rfl, m9, rfl⟩)))
              go_wp2
              go_roundw
              case rel => exact ⟨j + 1, by omega, by go_num, hbx.trans (below_drewN _ _ _)⟩
              case measure => simp [intOf]; omega
            · have hS := fsame_any a3 n c3 _ a n cap _ wr (hfx.below h5x (Nat.le_refl _)) ((hr.below hBx (Nat.le_refl _)).take n hn)
              simp only [decide_true] at hS
              have hle2 : n ≤ cap := by omega
              go_wp2_with (first | (go_at_call 18; refine hS.mono ?_; rintro e w8 ⟨rfl, hb8⟩) | (go_at_call 8; have := hb8; refine (hA _).mono ?_; rintro e w9 ⟨rfl, hb9⟩))
              have hB8 := hBx.trans (hb8.mono hBx.size)
              go_ret
              exact ⟨rfl, hB8.trans (hb9.mono hB8.size)⟩
        · have hl' : n < fs.length := by rw [hll'.out]; exact hlt
          have hst := pl_step fs n hl'
          have hmy := ((Fr.may_iff _).mp (good_get hgood n hl')).2.2
          obtain ⟨b, off, rfl, hc⟩ := (hr.below hBw (Nat.le_refl _)).at (by omega)
          obtain ⟨A, L, C, p1, q1, r1, s1, t1, lo1, hi1⟩ := hc n hlt
          have hL : (fs.getD n (0, [])).2.length = L := r1.1
          rw [hL] at hst hmy
          have hsz := fun W => hsizes L W hmy
          have hsz' : sizeZ (L : Int) = Fr.size L := by unfold sizeZ; rw [if_pos (by omega)]; simp
          rw [hsz'] at hsz
          have hszb := Fr.size_le hmy
          clear hsz' hL r1 s1 t1 hc
          by_cases hle : pl fs (n + 1) ≤ k
          · clear hexit
            have Hst : Hid (pl fs (n + 1) = pl fs n + Fr.size L) := hst
            rw [hst] at hle
            clear hst
            generalize pl fs n = P at *
            generalize Fr.size L = S at *
            go_wp2_with (go_at_call 9; first | (have := hb7; refine (hsz _).mono ?_; rintro e w8 ⟨rfl, hb8⟩) | (refine (hsz _).mono ?_; rintro e w7 ⟨rfl, hb7⟩; have q7 := (hb7.cell (p := ⟨b, off + n * 2 + 1, none⟩) (cell_lt q1)).trans q1))
            refine ⟨⟨n + 1, by omega, val_int (by omega), val_int (by rw [Hst.out]; omega), by rw [Hst.out]; omega, hbw.trans ((hb7.trans (hb8.mono hb7.size)).mono hszw)⟩, ?_⟩
            simp [intOf]; omega
          · obtain ⟨hn0, hc2⟩ := hexit (.inr ⟨hlt, by omega⟩)
            clear hexit
            rw [hst] at hle
            clear hst
            subst hn0
            have Hat : Hid (pl fs n = c2) := hc2
            rw [hc2] at hpl hle
            rw [hc2]
            clear hc2
            generalize Fr.size L = S at *
            go_wp2_with (go_at_call 9; refine (hsz _).mono ?_; rintro e w6 ⟨rfl, hb6⟩)
            have h56 := hbw.trans (hb6.mono hszw)
            have hB6 : Below w.heap.size w w6 := hB5.trans (h56.mono hB5.size)
            go_loopw [16] (fun i wx => ∃ j : Nat, j ≤ n ∧ i = .int .i64 j ∧ Below w6.heap.size w6 wx) (fun i _ => n - (intOf i).toNat)
            case atStart => exact ⟨0, by omega, rfl, Below.refl _ _⟩
            case round =>
              obtain ⟨j, hj, rfl, hbx⟩ := hrel
              have hBx := hB6.trans (hbx.mono hB6.size)
              have h5x := h56.trans (hbx.mono h56.size)
              rcases Nat.lt_or_ge j n with hjn | hjn
              · have hl2 : j < fs.length := by rw [hll'.out]; omega
                have hpr' := hpr.below h5x (Nat.le_refl _)
                obtain ⟨pb, po, rfl, hpc⟩ := hpr'.at (by omega)
                have pc := hpc j hjn
                have hpj : (List.take n (Fr.places fs 0)).getD j 0 = bp fs j := by
                  rw [List.getD_eq_getElem?_getD, List.getElem?_take, if_pos hjn, places_get fs 0 j hl2]; simp
                rw [hpj] at pc
                obtain ⟨bl, ol, ea, hc2⟩ := (hr.below hBx (Nat.le_refl _)).at (by omega)
                simp only [Option.some.injEq, Addr.mk.injEq, and_true] at ea
                obtain ⟨rfl, rfl⟩ := ea
                obtain ⟨A2, L2, C2, p2, q2, r2, s2, t2, lo2, hi2⟩ := hc2 j (by omega)
                have hL2 : (fs.getD j (0, [])).2.length = L2 := r2.1
                have he2 := bp_end fs j hl2
                have hm2 := pl_mono fs (j + 1) n hjn
                rw [Hat.out] at hm2
                have hbb := bp_body fs j hl2
                rw [hL2] at he2 hbb
                generalize bp fs j = p at *
                have hrow : Row .u8 wr (some ⟨g, go + p, none⟩) L2 (fs.getD j (0, [])).2 := by
                  have := ((hrx5.below h5x (Nat.le_refl _)).drop p (by omega)).take L2 (by omega)
                  rw [hbb] at this; exact this
                have hby := fun m (z : Nat) (hz : z = L2) => bytes_any (some ⟨g, go + p, none⟩) z (c2 - p) (fs.getD j (0, [])).2 A2 L2 C2 _ (wr.drewN m) (by rw [hz]; exact hrow.below (below_drewN _ _ m) (Nat.le_refl _)) (r2.below (below_drewN _ _ m) (Nat.le_refl _))
                simp only [decide_true] at hby
                have d1 : decide ((p : Int) < 0) = false := by simp
                have d2 : decide ((k : Int) < (p : Int) + (L2 : Int)) = false := by simp; omega
                have i0 : (0 : Int) ≤ (j : Int) := Int.natCast_nonneg _
                have i1 : (j : Int) < (n : Int) := by omega
                have i2 : (j : Int) < (len : Int) := by omega
                have i3 : (0 : Int) ≤ (p : Int) := Int.natCast_nonneg _
                have i4 : (p : Int) ≤ (p : Int) + (L2 : Int) := by omega
                have i5 : (p : Int) + (L2 : Int) ≤ (c2 : Int) := by omega
                have i6 : ¬ c2 = p := by omega
                have i7 : IntKind.i64.wrap ((p : Int) + (L2 : Int)) = (p : Int) + (L2 : Int) := by rw [IntKind.wrap_i64]; omega
                clear hrow r2 s2 t2 lo2 hi2 hL2 hbb hpj hpc hpr hpr' hc2 hfx hrx5
                go_wp2_with fail
                go_region_held3 (fun w' => w'.cell? ⟨pb, po + j, none⟩ = some (.int .i64 p) ∧ w'.cell? ⟨b, off + j * 2 + 1, none⟩ = some (.slice A2 L2 C2)) (first | go_keep | (refine ⟨?_, ?_⟩ <;> assumption))
                  (first | ((go_at_call 14; refine (hby _ _ (by omega)).mono ?_; rintro e w9 ⟨rfl, m9, rfl⟩)))
                go_wp2
                go_roundw
                case rel => exact ⟨j + 1, by omega, by go_num, hbx.trans (below_drewN _ _ _)⟩
                case measure => simp [intOf]; omega
              · have hS := fsame_any a3 n c3 _ _ n cap _ wr (hfx.below h5x (Nat.le_refl _)) ((hr.below hBx (Nat.le_refl _)).take n hn)
                simp only [decide_true] at hS
                have hle2 : n ≤ cap := by omega
                go_wp2_with (first | (go_at_call 18; refine hS.mono ?_; rintro e w8 ⟨rfl, hb8⟩) | (go_at_call 8; have := hb8; refine (hA _).mono ?_; rintro e w9 ⟨rfl, hb9⟩))
                have hB8 := hBx.trans (hb8.mono hBx.size)
                go_ret
                exact ⟨rfl, hB8.trans (hb9.mono hB8.size)⟩
    · have hrk := hrx.take k hkn
      have hrd := hrk.drop at0 hcl1
      clear hfz
      go_wp2_with (first
        | (go_at_call 19; refine (hs _ _ w2 (.inr ⟨g, go, rfl, by omega⟩) (by omega) hrk).mono ?_; rintro e w3 ⟨a3, c3, a4, c4, cs3, rfl, hl3, hh3, hp3, hpk3, hbel3⟩; have hB3 := hB2.trans (hbel3.mono hB2.size))
        | (go_at_call 16; have := hB3; go_must (refine (hf _ _ w3 (.inr ⟨g, go + at0, rfl, by omega⟩) (by omega) (hrd.below hbel3 (Nat.le_refl _))).mono ?_; rintro e w4 ⟨A4, C4, rfl, hown4, hbel4⟩; have hB4 := hB3.trans (hbel4.mono hB3.size))))
      clear hrk hrd
      have hB5 := hB4.alloc hB4.size (.cells #[.int .i64 f1.1, .slice A4 f1.2.length C4] 31)
      have hbel35 : Below w3.heap.size w3 (w4.alloc (.cells #[.int .i64 f1.1, .slice A4 f1.2.length C4] 31)) := hbel4.alloc hbel4.size _
      have hfx := (frow_of_owns hl3 hh3 (by omega)).1.below hbel35 (Nat.le_refl _)
      have hpr := (row_of_owns hp3 hpsm (by omega)).1.below hbel35 (Nat.le_refl _)
      have hrx5 := (hrx.below hbel3 (Nat.le_refl _)).below hbel35 (Nat.le_refl _)
      clear hl3 hh3 hp3 hown2 hown4 hbel1 hbel2 hbel3 hbel4 hbel35 hrx hs hf hp m1 hB2 hB3 hB4 hk' hne hpk3
      generalize w4.alloc (.cells #[.int .i64 f1.1, .slice A4 f1.2.length C4] 31) = w5 at *
      go_loopw [14, 15] (fun t i wr => ∃ n : Nat, n ≤ len ∧ i = .int .i64 n ∧ t = .int .i64 (pl fs n : Nat) ∧ pl fs n ≤ k ∧ Below w5.heap.size w5 wr) (fun _ i _ => len - (intOf i).toNat)
      case atStart => exact ⟨0, by omega, rfl, val_int (by rw [pl_zero]; rfl), by rw [pl_zero]; omega, Below.refl _ _⟩
      case round =>
        obtain ⟨n, hn, rfl, rfl, hpl, hbw⟩ := hrel
        have hBw := hB5.trans (hbw.mono hB5.size)
        have hszw := hbw.size
        have hend : (n = len) ∨ (n < len) := by omega
        have hexit : (n = len ∨ (n < len ∧ k < pl fs (n + 1))) → n = n0 ∧ pl fs n = at0 := by
          intro h'
          have := cuts_eq fs k n (by rw [hll'.out]; exact hn) hpl (by rw [hll'.out]; omega)
          rw [HC.out] at this
          simp at this
          omega
        rcases hend with hend | hlt
        · obtain ⟨hn0, hat0⟩ := hexit (.inl hend)
          clear hexit
          subst hn0
          have hge : len ≤ n := by omega
          clear hend
          have Hat : Hid (pl fs n = at0) := hat0
          rw [hat0] at hpl
          rw [hat0]
          clear hat0
          obtain ⟨w6, rfl⟩ : ∃ x, x = wr := ⟨_, rfl⟩
          have h56 := hbw
          go_wp2_with fail
          have hB6 : Below w.heap.size w w6 := hB5.trans (h56.mono hB5.size)
          go_loopw [16] (fun i wx => ∃ j : Nat, j ≤ n ∧ i = .int .i64 j ∧ Below w6.heap.size w6 wx) (fun i _ => n - (intOf i).toNat)
          case atStart => exact ⟨0, by omega, rfl, Below.refl _ _⟩
          case round =>
            obtain ⟨j, hj, rfl, hbx⟩ := hrel
            have hBx := hB6.trans (hbx.mono hB6.size)
            have h5x := h56.trans (hbx.mono h56.size)
            rcases Nat.lt_or_ge j n with hjn | hjn
            · have hl2 : j < fs.length := by rw [hll'.out]; omega
              have hpr' := hpr.below h5x (Nat.le_refl _)
              obtain ⟨pb, po, rfl, hpc⟩ := hpr'.at (by omega)
              have pc := hpc j hjn
              have hpj : (List.take n (Fr.places fs 0)).getD j 0 = bp fs j := by
                rw [List.getD_eq_getElem?_getD, List.getElem?_take, if_pos hjn, places_get fs 0 j hl2]; simp
              rw [hpj] at pc
              obtain ⟨bl, ol, rfl, hc2⟩ := (hr.below hBx (Nat.le_refl _)).at (by omega)
              obtain ⟨A2, L2, C2, p2, q2, r2, s2, t2, lo2, hi2⟩ := hc2 j (by omega)
              have hL2 : (fs.getD j (0, [])).2.length = L2 := r2.1
              have he2 := bp_end fs j hl2
              have hm2 := pl_mono fs (j + 1) n hjn
              rw [Hat.out] at hm2
              have hbb := bp_body fs j hl2
              rw [hL2] at he2 hbb
              generalize bp fs j = p at *
              have hrow : Row .u8 wr (some ⟨g, go + p, none⟩) L2 (fs.getD j (0, [])).2 := by
                have := ((hrx5.below h5x (Nat.le_refl _)).drop p (by omega)).take L2 (by omega)
                rw [hbb] at this; exact this
              have hby := fun m (z : Nat) (hz : z = L2) => bytes_any (some ⟨g, go + p, none⟩) z (c2 - p) (fs.getD j (0, [])).2 A2 L2 C2 _ (wr.drewN m) (by rw [hz]; exact hrow.below (below_drewN _ _ m) (Nat.le_refl _)) (r2.below (below_drewN _ _ m) (Nat.le_refl _))
              simp only [decide_true] at hby
              have d1 : decide ((p : Int) < 0) = false := by simp
              have d2 : decide ((k : Int) < (p : Int) + (L2 : Int)) = false := by simp; omega
              have i0 : (0 : Int) ≤ (j : Int) := Int.natCast_nonneg _
              have i1 : (j : Int) < (n : Int) := by omega
              have i2 : (j : Int) < (len : Int) := by omega
              have i3 : (0 : Int) ≤ (p : Int) := Int.natCast_nonneg _
              have i4 : (p : Int) ≤ (p : Int) + (L2 : Int) := by omega
              have i5 : (p : Int) + (L2 : Int) ≤ (c2 : Int) := by omega
              have i6 : ¬ c2 = p := by omega
              have i7 : IntKind.i64.wrap ((p : Int) + (L2 : Int)) = (p : Int) + (L2 : Int) := by rw [IntKind.wrap_i64]; omega
              clear hrow r2 s2 t2 lo2 hi2 hL2 hbb hpj hpc hpr hpr' hc2 hfx hrx5
              go_wp2_with fail
              go_region_held3 (fun w' => w'.cell? ⟨pb, po + j, none⟩ = some (.int .i64 p) ∧ w'.cell? ⟨bl, ol + j * 2 + 1, none⟩ = some (.slice A2 L2 C2)) (first | go_keep | (refine ⟨?_, ?_⟩ <;> assumption))
                (first | ((go_at_call 14; refine (hby _ _ (by omega)).mono ?_; rintro e w9 ⟨rfl, m9, rfl⟩)))
              go_wp2
              go_roundw
              case rel => exact ⟨j + 1, by omega, by go_num, hbx.trans (below_drewN _ _ _)⟩
              case measure => simp [intOf]; omega
            · have hS := fsame_any a3 n c3 _ a n cap _ wr (hfx.below h5x (Nat.le_refl _)) ((hr.below hBx (Nat.le_refl _)).take n hn)
              simp only [decide_true] at hS
              have hle2 : n ≤ cap := by omega
              go_wp2_with (first | (go_at_call 18; refine hS.mono ?_; rintro e w8 ⟨rfl, hb8⟩) | (go_at_call 8; have := hb8; refine (hA _).mono ?_; rintro e w9 ⟨rfl, hb9⟩))
              have hB8 := hBx.trans (hb8.mono hBx.size)
              go_ret
              exact ⟨rfl, hB8.trans (hb9.mono hB8.size)⟩
        · have hl' : n < fs.length := by rw [hll'.out]; exact hlt
          have hst := pl_step fs n hl'
          have hmy := ((Fr.may_iff _).mp (good_get hgood n hl')).2.2
          obtain ⟨b, off, rfl, hc⟩ := (hr.below hBw (Nat.le_refl _)).at (by omega)
          obtain ⟨A, L, C, p1, q1, r1, s1, t1, lo1, hi1⟩ := hc n hlt
          have hL : (fs.getD n (0, [])).2.length = L := r1.1
          rw [hL] at hst hmy
          have hsz := fun W => hsizes L W hmy
          have hsz' : sizeZ (L : Int) = Fr.size L := by unfold sizeZ; rw [if_pos (by omega)]; simp
          rw [hsz'] at hsz
          have hszb := Fr.size_le hmy
          clear hsz' hL r1 s1 t1 hc
          by_cases hle : pl fs (n + 1) ≤ k
          · clear hexit
            have Hst : Hid (pl fs (n + 1) = pl fs n + Fr.size L) := hst
            rw [hst] at hle
            clear hst
            generalize pl fs n = P at *
            generalize Fr.size L = S at *
            go_wp2_with (go_at_call 9; first | (have := hb7; refine (hsz _).mono ?_; rintro e w8 ⟨rfl, hb8⟩) | (refine (hsz _).mono ?_; rintro e w7 ⟨rfl, hb7⟩; have q7 := (hb7.cell (p := ⟨b, off + n * 2 + 1, none⟩) (cell_lt q1)).trans q1))
            refine ⟨⟨n + 1, by omega, val_int (by omega), val_int (by rw [Hst.out]; omega), by rw [Hst.out]; omega, hbw.trans ((hb7.trans (hb8.mono hb7.size)).mono hszw)⟩, ?_⟩
            simp [intOf]; omega
          · obtain ⟨hn0, hat0⟩ := hexit (.inr ⟨hlt, by omega⟩)
            clear hexit
            rw [hst] at hle
            clear hst
            subst hn0
            have Hat : Hid (pl fs n = at0) := hat0
            rw [hat0] at hpl hle
            rw [hat0]
            clear hat0
            generalize Fr.size L = S at *
            go_wp2_with (go_at_call 9; refine (hsz _).mono ?_; rintro e w6 ⟨rfl, hb6⟩)
            have h56 := hbw.trans (hb6.mono hszw)
            have hB6 : Below w.heap.size w w6 := hB5.trans (h56.mono hB5.size)
            go_loopw [16] (fun i wx => ∃ j : Nat, j ≤ n ∧ i = .int .i64 j ∧ Below w6.heap.size w6 wx) (fun i _ => n - (intOf i).toNat)
            case atStart => exact ⟨0, by omega, rfl, Below.refl _ _⟩
            case round =>
              obtain ⟨j, hj, rfl, hbx⟩ := hrel
              have hBx := hB6.trans (hbx.mono hB6.size)
              have h5x := h56.trans (hbx.mono h56.size)
              rcases Nat.lt_or_ge j n with hjn | hjn
              · have hl2 : j < fs.length := by rw [hll'.out]; omega
                have hpr' := hpr.below h5x (Nat.le_refl _)
                obtain ⟨pb, po, rfl, hpc⟩ := hpr'.at (by omega)
                have pc := hpc j hjn
                have hpj : (List.take n (Fr.places fs 0)).getD j 0 = bp fs j := by
                  rw [List.getD_eq_getElem?_getD, List.getElem?_take, if_pos hjn, places_get fs 0 j hl2]; simp
                rw [hpj] at pc
                obtain ⟨bl, ol, ea, hc2⟩ := (hr.below hBx (Nat.le_refl _)).at (by omega)
                simp only [Option.some.injEq, Addr.mk.injEq, and_true] at ea
                obtain ⟨rfl, rfl⟩ := ea
                obtain ⟨A2, L2, C2, p2, q2, r2, s2, t2, lo2, hi2⟩ := hc2 j (by omega)
                have hL2 : (fs.getD j (0, [])).2.length = L2 := r2.1
                have he2 := bp_end fs j hl2
                have hm2 := pl_mono fs (j + 1) n hjn
                rw [Hat.out] at hm2
                have hbb := bp_body fs j hl2
                rw [hL2] at he2 hbb
                generalize bp fs j = p at *
                have hrow : Row .u8 wr (some ⟨g, go + p, none⟩) L2 (fs.getD j (0, [])).2 := by
                  have := ((hrx5.below h5x (Nat.le_refl _)).drop p (by omega)).take L2 (by omega)
                  rw [hbb] at this; exact this
                have hby := fun m (z : Nat) (hz : z = L2) => bytes_any (some ⟨g, go + p, none⟩) z (c2 - p) (fs.getD j (0, [])).2 A2 L2 C2 _ (wr.drewN m) (by rw [hz]; exact hrow.below (below_drewN _ _ m) (Nat.le_refl _)) (r2.below (below_drewN _ _ m) (Nat.le_refl _))
                simp only [decide_true] at hby
                have d1 : decide ((p : Int) < 0) = false := by simp
                have d2 : decide ((k : Int) < (p : Int) + (L2 : Int)) = false := by simp; omega
                have i0 : (0 : Int) ≤ (j : Int) := Int.natCast_nonneg _
                have i1 : (j : Int) < (n : Int) := by omega
                have i2 : (j : Int) < (len : Int) := by omega
                have i3 : (0 : Int) ≤ (p : Int) := Int.natCast_nonneg _
                have i4 : (p : Int) ≤ (p : Int) + (L2 : Int) := by omega
                have i5 : (p : Int) + (L2 : Int) ≤ (c2 : Int) := by omega
                have i6 : ¬ c2 = p := by omega
                have i7 : IntKind.i64.wrap ((p : Int) + (L2 : Int)) = (p : Int) + (L2 : Int) := by rw [IntKind.wrap_i64]; omega
                clear hrow r2 s2 t2 lo2 hi2 hL2 hbb hpj hpc hpr hpr' hc2 hfx hrx5
                go_wp2_with fail
                go_region_held3 (fun w' => w'.cell? ⟨pb, po + j, none⟩ = some (.int .i64 p) ∧ w'.cell? ⟨b, off + j * 2 + 1, none⟩ = some (.slice A2 L2 C2)) (first | go_keep | (refine ⟨?_, ?_⟩ <;> assumption))
                  (first | ((go_at_call 14; refine (hby _ _ (by omega)).mono ?_; rintro e w9 ⟨rfl, m9, rfl⟩)))
                go_wp2
                go_roundw
                case rel => exact ⟨j + 1, by omega, by go_num, hbx.trans (below_drewN _ _ _)⟩
                case measure => simp [intOf]; omega
              · have hS := fsame_any a3 n c3 _ _ n cap _ wr (hfx.below h5x (Nat.le_refl _)) ((hr.below hBx (Nat.le_refl _)).take n hn)
                simp only [decide_true] at hS
                have hle2 : n ≤ cap := by omega
                go_wp2_with (first | (go_at_call 18; refine hS.mono ?_; rintro e w8 ⟨rfl, hb8⟩) | (go_at_call 8; have := hb8; refine (hA _).mono ?_; rintro e w9 ⟨rfl, hb9⟩))
                have hB8 := hBx.trans (hb8.mono hBx.size)
                go_ret
                exact ⟨rfl, hB8.trans (hb9.mono hB8.size)⟩
end Go.Proofs.Ytjioipkohnlipaa
