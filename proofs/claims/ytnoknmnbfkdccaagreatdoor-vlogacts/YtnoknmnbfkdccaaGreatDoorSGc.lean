/- What the program's Value of layer 19 does, and the reference's. -/
import Derived.Test.YtnoknmnbfkdccaaGreatDoorSgMath
import Derived.Test.YtnoknmnbfkdccaaGreatDoorBQ
import Derived.Test.YtnoknmnbfkdccaaGreatDoorX1
import Derived.Test.YtnoknmnbfkdccaaGreatDoorBC
namespace Go.Proofs.YtnoknmnbfkdccaaGreatDoor
open Go.RowKit

/-- what Value tells -/
def Sg.value (bs : List Nat) (p : Po.P) : List Nat × Nat :=
  if Po.may p = true then
    if (bs.length : Int) < p.2.1 + p.2.2.1 then ([], 3)
    else if Ce.fits p ((bs.drop p.2.1.toNat).take p.2.2.1.toNat) = true then ((bs.drop p.2.1.toNat).take p.2.2.1.toNat, 0) else ([], 3)
  else ([], 1)
def SValRes (w : World) (R : List Nat × Nat) (e : Ending) (w' : World) : Prop :=
  ∃ a c, e = .returned (.tuple #[.slice a R.1.length c, .int .i64 (R.2 : Nat)]) ∧ w'.ownsRow w.heap.size 5 1 (.slice a R.1.length c) R.1.length (kcells .u8 R.1) ∧ Below w.heap.size w w'
theorem sval_no {w W : World} {R : List Nat × Nat} {c : Nat} (h : R = ([], c)) (hb : Below w.heap.size w W) : SValRes w R (.returned (.tuple #[.slice none 0 0, .int .i64 (c : Nat)])) W := by
  subst h; exact ⟨none, 0, rfl, World.ownsRow_nil _ _ _ _, hb⟩
theorem sval_yes {w W : World} {R : List Nat × Nat} {v : List Nat} {n c B : Nat} {a : Option Addr} (h : R = (v, 0)) (hn : v.length = n) (hB : w.heap.size ≤ B) (ho : W.ownsRow B 5 1 (.slice a n c) n (kcells .u8 v)) (hb : Below w.heap.size w W) : SValRes w R (.returned (.tuple #[.slice a n c, .int .i64 0])) W := by
  subst h; subst hn; exact ⟨a, c, rfl, ho.mono hB, hb⟩

set_option maxRecDepth 100000 in
set_option maxHeartbeats 2000000 in
theorem svalue_any (a : Option Addr) (len cap : Nat) (bs : List Nat) (p : Po.P) (w : World) (hbig : len ≤ 100000) (hshape : Shape a len cap) (hnil : a = none → len = 0 ∧ cap = 0) (hr : Row .u8 w a len bs) (hf : Po.Fits p) :
    Calls Tryz.prog 51 #[.slice a len cap, pv p] w (SValRes w (Sg.value bs p)) := by
  have hlen : Hid (bs.length = len) := hr.1
  obtain ⟨s, y, l, m⟩ := p
  have hck := fun W => pcheckC (s, y, l, m) W hf
  have hb0 := below_alloc w (.cells #[.int .i64 s, .int .i64 y, .int .i64 l, .int .u32 (m : Nat)] 42)
  obtain ⟨R, hR⟩ : ∃ R, R = Sg.value bs (s, y, l, m) := ⟨_, rfl⟩
  rw [← hR]
  by_cases hm : Po.may (s, y, l, m) = true
  · have hm' : Hid (Po.may (s, y, l, m) = true) := hm
    simp only [hm, if_true, pv] at hck
    simp only [pv]
    have hmm := hm
    simp only [Po.may, decide_eq_true_eq] at hmm
    obtain ⟨Y, rfl⟩ : ∃ Y : Nat, y = (Y : Int) := ⟨y.toNat, by omega⟩
    obtain ⟨L, rfl⟩ : ∃ L : Nat, l = (L : Int) := ⟨l.toNat, by omega⟩
    have hY : Y ≤ 2147483647 := by omega
    have hL : L ≤ 4096 := by omega
    clear hm hmm
    have hw1 : wrap64 ((len : Int) - (Y : Int)) = (len : Int) - (Y : Int) := by unfold wrap64; omega
    have hw2 : wrap64 ((Y : Int) + (L : Int)) = ((Y + L : Nat) : Int) := by unfold wrap64; omega
    by_cases hlt : len < Y + L
    · have H : Hid (R = ([], 3)) := (by rw [hR, Sg.value, if_pos hm'.out]; simp only; rw [if_pos (by rw [hlen.out]; omega)] : R = ([], 3))
      have hd : decide ((len : Int) - (Y : Int) < (L : Int)) = true := by simp; omega
      clear hR hr
      go_enter Tryz.func51, Tryz.ntmps51
      go_wp2_with (go_at_call 83; go_must (refine (hck _).mono ?_; rintro e w1 ⟨rfl, hbel1⟩; obtain ⟨r0, r1, r2, r3, hs1, hb1⟩ := four_keep hbel1))
      go_ret2
      exact sval_no H.out hb1
    · obtain ⟨v, hv⟩ : ∃ v, v = (bs.drop Y).take L := ⟨_, rfl⟩
      have hvl : v.length = L := by rw [hv, List.length_take, List.length_drop, hlen.out]; omega
      have H : Hid (R = if Ce.fits (s, (Y : Int), (L : Int), m) v = true then (v, 0) else ([], 3)) := (by rw [hR, Sg.value, if_pos hm'.out]; simp only [Int.toNat_natCast]; rw [if_neg (by rw [hlen.out]; omega), ← hv] : R = if Ce.fits (s, (Y : Int), (L : Int), m) v = true then (v, 0) else ([], 3))
      have hd : decide ((len : Int) - (Y : Int) < (L : Int)) = false := by simp; omega
      have Hv : Hid (v = (bs.drop Y).take L) := hv
      clear hR hv
      rcases hshape with ⟨rfl, rfl⟩ | ⟨b, off, rfl, hc⟩
      · obtain rfl : Y = 0 := by omega
        obtain rfl : L = 0 := by omega
        have hrow : ∀ W, Below w.heap.size w W → Row .u8 W a 0 v := fun W hW => by
          have h1 := (hr.below hW (Nat.le_refl _)).take 0 (by omega)
          have e : v = bs.take 0 := by rw [Hv.out]; simp
          rw [e]; exact h1
        have hfit := fun W C (h : Below w.heap.size w W) => cfitsC (s, ((0 : Nat) : Int), (0 : Nat), m) a 0 C v W hf (hrow W h)
        have hcl := fun W C (h : Below w.heap.size w W) (hC : C = 0) => bclone_any a 0 C v W (hrow W h) (fun _ => ⟨rfl, hC⟩) (by omega)
        simp only [pv] at hfit
        by_cases hft : Ce.fits (s, ((0 : Nat) : Int), (0 : Nat), m) v = true
        · simp only [hft] at hfit
          have H2 : Hid (R = (v, 0)) := (by rw [H.out]; exact if_pos hft : R = (v, 0))
          clear hr H hft hf
          go_enter Tryz.func51, Tryz.ntmps51
          go_wp2_with (first
            | (go_at_call 83; go_must (refine (hck _).mono ?_; rintro e w1 ⟨rfl, hbel1⟩; obtain ⟨r0, r1, r2, r3, hs1, hb1⟩ := four_keep hbel1))
            | (go_at_call 84; go_must (refine (hfit _ _ hb1).mono ?_; rintro e w2 ⟨rfl, hbel2⟩; have hb2 := hb1.trans (hbel2.mono hb1.size)))
            | (go_at_call 85; go_must (refine (hcl _ _ hb2 rfl).mono ?_; rintro e w3 ⟨a3, c3, rfl, hown3, hbel3⟩)))
          go_ret2
          exact sval_yes H2.out hvl hb2.size hown3 (hb2.trans (hbel3.mono hb2.size))
        · simp only [hft] at hfit
          have H2 : Hid (R = ([], 3)) := (by rw [H.out]; exact if_neg hft : R = ([], 3))
          clear hr H hft hf
          go_enter Tryz.func51, Tryz.ntmps51
          go_wp2_with (first
            | (go_at_call 83; go_must (refine (hck _).mono ?_; rintro e w1 ⟨rfl, hbel1⟩; obtain ⟨r0, r1, r2, r3, hs1, hb1⟩ := four_keep hbel1))
            | (go_at_call 84; go_must (refine (hfit _ _ hb1).mono ?_; rintro e w2 ⟨rfl, hbel2⟩; have hb2 := hb1.trans (hbel2.mono hb1.size))))
          go_ret2
          exact sval_no H2.out hb2
      · by_cases hcap : cap = Y
        · obtain rfl : L = 0 := by omega
          have hrow : ∀ W, Below w.heap.size w W → Row .u8 W (some ⟨b, off, none⟩) 0 v := fun W hW => by
            have h1 := (hr.below hW (Nat.le_refl _)).take 0 (by omega)
            have e : v = bs.take 0 := by rw [Hv.out]; simp
            rw [e]; exact h1
          have hfit := fun W C (h : Below w.heap.size w W) => cfitsC (s, (Y : Int), (0 : Nat), m) (some ⟨b, off, none⟩) 0 C v W hf (hrow W h)
          have hcl := fun W C (h : Below w.heap.size w W) => bclone_any (some ⟨b, off, none⟩) 0 C v W (hrow W h) (fun h => by cases h) (by omega)
          simp only [pv] at hfit
          by_cases hft : Ce.fits (s, (Y : Int), (0 : Nat), m) v = true
          · simp only [hft] at hfit
            have H2 : Hid (R = (v, 0)) := (by rw [H.out]; exact if_pos hft : R = (v, 0))
            clear hr H hft hf
            go_enter Tryz.func51, Tryz.ntmps51
            go_wp2_with (first
              | (go_at_call 83; go_must (refine (hck _).mono ?_; rintro e w1 ⟨rfl, hbel1⟩; obtain ⟨r0, r1, r2, r3, hs1, hb1⟩ := four_keep hbel1))
              | (go_at_call 84; go_must (refine (hfit _ _ hb1).mono ?_; rintro e w2 ⟨rfl, hbel2⟩; have hb2 := hb1.trans (hbel2.mono hb1.size)))
              | (go_at_call 85; go_must (refine (hcl _ _ hb2).mono ?_; rintro e w3 ⟨a3, c3, rfl, hown3, hbel3⟩)))
            go_ret2
            exact sval_yes H2.out hvl hb2.size hown3 (hb2.trans (hbel3.mono hb2.size))
          · simp only [hft] at hfit
            have H2 : Hid (R = ([], 3)) := (by rw [H.out]; exact if_neg hft : R = ([], 3))
            clear hr H hft hf
            go_enter Tryz.func51, Tryz.ntmps51
            go_wp2_with (first
              | (go_at_call 83; go_must (refine (hck _).mono ?_; rintro e w1 ⟨rfl, hbel1⟩; obtain ⟨r0, r1, r2, r3, hs1, hb1⟩ := four_keep hbel1))
              | (go_at_call 84; go_must (refine (hfit _ _ hb1).mono ?_; rintro e w2 ⟨rfl, hbel2⟩; have hb2 := hb1.trans (hbel2.mono hb1.size))))
            go_ret2
            exact sval_no H2.out hb2
        · have hrow : ∀ W, Below w.heap.size w W → Row .u8 W (some ⟨b, off + Y, none⟩) L v := fun W hW => by
            have h1 := ((hr.below hW (Nat.le_refl _)).drop Y (by omega)).take L (by omega)
            rw [Hv.out]; exact h1
          have hfit := fun W C (h : Below w.heap.size w W) => cfitsC (s, (Y : Int), (L : Nat), m) (some ⟨b, off + Y, none⟩) L C v W hf (hrow W h)
          have hcl := fun W C (h : Below w.heap.size w W) => bclone_any (some ⟨b, off + Y, none⟩) L C v W (hrow W h) (fun h => by cases h) (by omega)
          simp only [pv] at hfit
          by_cases hft : Ce.fits (s, (Y : Int), (L : Nat), m) v = true
          · simp only [hft] at hfit
            have H2 : Hid (R = (v, 0)) := (by rw [H.out]; exact if_pos hft : R = (v, 0))
            clear hr H hft hf
            go_enter Tryz.func51, Tryz.ntmps51
            go_wp2_with (first
              | (go_at_call 83; go_must (refine (hck _).mono ?_; rintro e w1 ⟨rfl, hbel1⟩; obtain ⟨r0, r1, r2, r3, hs1, hb1⟩ := four_keep hbel1))
              | (go_at_call 84; go_must (refine (hfit _ _ hb1).mono ?_; rintro e w2 ⟨rfl, hbel2⟩; have hb2 := hb1.trans (hbel2.mono hb1.size)))
              | (go_at_call 85; go_must (refine (hcl _ _ hb2).mono ?_; rintro e w3 ⟨a3, c3, rfl, hown3, hbel3⟩)))
            go_ret2
            exact sval_yes H2.out hvl hb2.size hown3 (hb2.trans (hbel3.mono hb2.size))
          · simp only [hft] at hfit
            have H2 : Hid (R = ([], 3)) := (by rw [H.out]; exact if_neg hft : R = ([], 3))
            clear hr H hft hf
            go_enter Tryz.func51, Tryz.ntmps51
            go_wp2_with (first
              | (go_at_call 83; go_must (refine (hck _).mono ?_; rintro e w1 ⟨rfl, hbel1⟩; obtain ⟨r0, r1, r2, r3, hs1, hb1⟩ := four_keep hbel1))
              | (go_at_call 84; go_must (refine (hfit _ _ hb1).mono ?_; rintro e w2 ⟨rfl, hbel2⟩; have hb2 := hb1.trans (hbel2.mono hb1.size))))
            go_ret2
            exact sval_no H2.out hb2
  · have H : Hid (R = ([], 1)) := (by rw [hR, Sg.value, if_neg hm] : R = ([], 1))
    simp only [hm, pv] at hck
    simp only [pv]
    clear hR hr
    go_enter Tryz.func51, Tryz.ntmps51
    go_wp2_with (go_at_call 83; go_must (refine (hck _).mono ?_; rintro e w1 ⟨rfl, hbel1⟩; obtain ⟨r0, r1, r2, r3, hs1, hb1⟩ := four_keep hbel1))
    go_ret2
    exact sval_no H.out hb1

set_option maxRecDepth 100000 in
set_option maxHeartbeats 4000000 in
theorem refvalue_any (a : Option Addr) (len cap : Nat) (bs : List Nat) (p : Po.P) (w : World) (hbig : len ≤ 100000) (hshape : Shape a len cap) (hnil : a = none → len = 0 ∧ cap = 0) (hr : Row .u8 w a len bs) (hf : Po.Fits p) :
    Calls Tryz.prog 96 #[.slice a len cap, pv p] w (SValRes w (Sg.value bs p)) := by
  have hlen : Hid (bs.length = len) := hr.1
  obtain ⟨s, y, l, m⟩ := p
  have hck := fun W => pomay_any s y l m W
  obtain ⟨R, hR⟩ : ∃ R, R = Sg.value bs (s, y, l, m) := ⟨_, rfl⟩
  rw [← hR]
  by_cases hm : Po.may (s, y, l, m) = true
  · have hm' : Hid (Po.may (s, y, l, m) = true) := hm
    simp only [hm] at hck
    simp only [pv]
    have hmm := hm
    simp only [Po.may, decide_eq_true_eq] at hmm
    obtain ⟨Y, rfl⟩ : ∃ Y : Nat, y = (Y : Int) := ⟨y.toNat, by omega⟩
    obtain ⟨L, rfl⟩ : ∃ L : Nat, l = (L : Int) := ⟨l.toNat, by omega⟩
    have hY : Y ≤ 2147483647 := by omega
    have hL : L ≤ 4096 := by omega
    clear hm hmm
    have hw2 : wrap64 ((Y : Int) + (L : Int)) = ((Y + L : Nat) : Int) := by unfold wrap64; omega
    by_cases hlt : len < Y + L
    · have H : Hid (R = ([], 3)) := (by rw [hR, Sg.value, if_pos hm'.out]; simp only; rw [if_pos (by rw [hlen.out]; omega)] : R = ([], 3))
      have hd : decide ((len : Int) < ((Y + L : Nat) : Int)) = true := by simp; omega
      have hd2 : decide ((len : Int) < (Y : Int) + (L : Int)) = true := by simp; omega
      clear hR hr
      go_enter Tryz.func96, Tryz.ntmps96
      go_wp2_with (go_at_call 94; go_must (refine (hck _).mono ?_; rintro e w1 ⟨rfl, hbel1⟩; obtain ⟨r0, r1, r2, r3, hs1, hb1⟩ := four_keep hbel1))
      go_quiet (fail)
      go_wp2
      go_ret2
      exact sval_no H.out (hb1.trans (below_drewN _ _ _))
    · obtain ⟨v, hv⟩ : ∃ v, v = (bs.drop Y).take L := ⟨_, rfl⟩
      have hvl : v.length = L := by rw [hv, List.length_take, List.length_drop, hlen.out]; omega
      have H : Hid (R = if Ce.fits (s, (Y : Int), (L : Int), m) v = true then (v, 0) else ([], 3)) := (by rw [hR, Sg.value, if_pos hm'.out]; simp only [Int.toNat_natCast]; rw [if_neg (by rw [hlen.out]; omega), ← hv] : R = if Ce.fits (s, (Y : Int), (L : Int), m) v = true then (v, 0) else ([], 3))
      have hd : decide ((len : Int) < ((Y + L : Nat) : Int)) = false := by simp; omega
      have hd2 : decide ((len : Int) < (Y : Int) + (L : Int)) = false := by simp; omega
      have Hv : Hid (v = (bs.drop Y).take L) := hv
      clear hR hv
      rcases hshape with ⟨rfl, rfl⟩ | ⟨b, off, rfl, hc⟩
      · obtain rfl : Y = 0 := by omega
        obtain rfl : L = 0 := by omega
        have hrow : ∀ W, Below w.heap.size w W → Row .u8 W a 0 v := fun W hW => by
          have h1 := (hr.below hW (Nat.le_refl _)).take 0 (by omega)
          have e : v = bs.take 0 := by rw [Hv.out]; simp
          rw [e]; exact h1
        rcases a with _ | pa
        · skip
          have hw3 : IntKind.i64.wrap (((0 : Nat) : Int) + ((0 : Nat) : Int)) = 0 := by decide
          have hw4 : IntKind.i64.wrap ((0 : Int) + 0) = 0 := by decide
          have hw5 : IntKind.i64.wrap (0 : Int) = 0 := by decide
          have hfit := fun W C (h : Below w.heap.size w W) => cefits_any (s, ((0 : Nat) : Int), (0 : Nat), m) none 0 C v W (hrow W h)
          simp only [pv] at hfit
          by_cases hft : Ce.fits (s, ((0 : Nat) : Int), (0 : Nat), m) v = true
          · simp only [hft] at hfit
            have H2 : Hid (R = (v, 0)) := (by rw [H.out]; exact if_pos hft : R = (v, 0))
            clear hr H hft
            go_enter Tryz.func96, Tryz.ntmps96
            go_wp2_with (go_at_call 94; go_must (refine (hck _).mono ?_; rintro e w1 ⟨rfl, hbel1⟩; obtain ⟨r0, r1, r2, r3, hs1, hb1⟩ := four_keep hbel1))
            go_region_held3 (fun w' => w'.cell? ⟨w.heap.size, 0, none⟩ = some (.int .i64 s) ∧ w'.cell? ⟨w.heap.size, 1, none⟩ = some (.int .i64 ((0 : Nat) : Int)) ∧ w'.cell? ⟨w.heap.size, 2, none⟩ = some (.int .i64 (0 : Nat)) ∧ w'.cell? ⟨w.heap.size, 3, none⟩ = some (.int .u32 (m : Nat))) (first | go_keep | (refine ⟨?_, ?_, ?_, ?_⟩ <;> assumption))
              ((go_at_call 119; refine (hfit _ _ hb1.drew).mono ?_; rintro e w2 ⟨rfl, hbel2d⟩; have hbel2 := below_of_drew hbel2d; have hb2 := hb1.trans (hbel2.mono hb1.size); have q0 := (hbel2.cell (p := ⟨w.heap.size, 0, none⟩) hs1).trans r0; have q1 := (hbel2.cell (p := ⟨w.heap.size, 1, none⟩) hs1).trans r1; have q2 := (hbel2.cell (p := ⟨w.heap.size, 2, none⟩) hs1).trans r2; have q3 := (hbel2.cell (p := ⟨w.heap.size, 3, none⟩) hs1).trans r3))
            have ho := made_at w2 5 w2.heap.size rfl (Nat.le_refl _)
            have hb0 := below_alloc w2 (.cells #[] 5)
            have hrow2 := (hrow w2 hb2).below hb0 (Nat.le_refl _)
            have hs2 : w.heap.size < w2.heap.size := cell_lt q1
            have q1' := (cell_past w2 (.cells #[] 5) ⟨w.heap.size, 1, none⟩ hs2).trans q1
            have q2' := (cell_past w2 (.cells #[] 5) ⟨w.heap.size, 2, none⟩ hs2).trans q2
            go_wp2_with (at_builtin; go_must (refine append_u8 (w0 := w2) rfl (.tmp 31) (.tmp 40) rfl _ 0 [] rfl ho none 0 _ v rfl hrow2 (by first | (intro h; cases h; done) | (intro h; exact ⟨rfl, rfl⟩)) (by omega) hb0 (by simp) ?_; intro a' c' w3 hown3 hbel3 hB3; rw [Nat.zero_add, List.nil_append] at hown3))
            go_ret2
            exact sval_yes H2.out hvl hb2.size hown3 (hb2.trans (hbel3.mono hb2.size))
          · simp only [hft] at hfit
            have H2 : Hid (R = ([], 3)) := (by rw [H.out]; exact if_neg hft : R = ([], 3))
            clear hr H hft
            go_enter Tryz.func96, Tryz.ntmps96
            go_wp2_with (go_at_call 94; go_must (refine (hck _).mono ?_; rintro e w1 ⟨rfl, hbel1⟩; obtain ⟨r0, r1, r2, r3, hs1, hb1⟩ := four_keep hbel1))
            go_region_held3 (fun w' => w'.cell? ⟨w.heap.size, 0, none⟩ = some (.int .i64 s) ∧ w'.cell? ⟨w.heap.size, 1, none⟩ = some (.int .i64 ((0 : Nat) : Int)) ∧ w'.cell? ⟨w.heap.size, 2, none⟩ = some (.int .i64 (0 : Nat)) ∧ w'.cell? ⟨w.heap.size, 3, none⟩ = some (.int .u32 (m : Nat))) (first | go_keep | (refine ⟨?_, ?_, ?_, ?_⟩ <;> assumption))
              ((go_at_call 119; refine (hfit _ _ hb1.drew).mono ?_; rintro e w2 ⟨rfl, hbel2d⟩; have hbel2 := below_of_drew hbel2d; have hb2 := hb1.trans (hbel2.mono hb1.size); have q0 := (hbel2.cell (p := ⟨w.heap.size, 0, none⟩) hs1).trans r0; have q1 := (hbel2.cell (p := ⟨w.heap.size, 1, none⟩) hs1).trans r1; have q2 := (hbel2.cell (p := ⟨w.heap.size, 2, none⟩) hs1).trans r2; have q3 := (hbel2.cell (p := ⟨w.heap.size, 3, none⟩) hs1).trans r3))
            go_wp2
            go_ret2
            exact sval_no H2.out hb2
        · skip
          have hw3 : IntKind.i64.wrap (((0 : Nat) : Int) + ((0 : Nat) : Int)) = 0 := by decide
          have hw4 : IntKind.i64.wrap ((0 : Int) + 0) = 0 := by decide
          have hw5 : IntKind.i64.wrap (0 : Int) = 0 := by decide
          have hfit := fun W C (h : Below w.heap.size w W) => cefits_any (s, ((0 : Nat) : Int), (0 : Nat), m) (some pa) 0 C v W (hrow W h)
          simp only [pv] at hfit
          by_cases hft : Ce.fits (s, ((0 : Nat) : Int), (0 : Nat), m) v = true
          · simp only [hft] at hfit
            have H2 : Hid (R = (v, 0)) := (by rw [H.out]; exact if_pos hft : R = (v, 0))
            clear hr H hft
            go_enter Tryz.func96, Tryz.ntmps96
            go_wp2_with (go_at_call 94; go_must (refine (hck _).mono ?_; rintro e w1 ⟨rfl, hbel1⟩; obtain ⟨r0, r1, r2, r3, hs1, hb1⟩ := four_keep hbel1))
            go_region_held3 (fun w' => w'.cell? ⟨w.heap.size, 0, none⟩ = some (.int .i64 s) ∧ w'.cell? ⟨w.heap.size, 1, none⟩ = some (.int .i64 ((0 : Nat) : Int)) ∧ w'.cell? ⟨w.heap.size, 2, none⟩ = some (.int .i64 (0 : Nat)) ∧ w'.cell? ⟨w.heap.size, 3, none⟩ = some (.int .u32 (m : Nat))) (first | go_keep | (refine ⟨?_, ?_, ?_, ?_⟩ <;> assumption))
              ((go_at_call 119; refine (hfit _ _ hb1.drew).mono ?_; rintro e w2 ⟨rfl, hbel2d⟩; have hbel2 := below_of_drew hbel2d; have hb2 := hb1.trans (hbel2.mono hb1.size); have q0 := (hbel2.cell (p := ⟨w.heap.size, 0, none⟩) hs1).trans r0; have q1 := (hbel2.cell (p := ⟨w.heap.size, 1, none⟩) hs1).trans r1; have q2 := (hbel2.cell (p := ⟨w.heap.size, 2, none⟩) hs1).trans r2; have q3 := (hbel2.cell (p := ⟨w.heap.size, 3, none⟩) hs1).trans r3))
            have ho := made_at w2 5 w2.heap.size rfl (Nat.le_refl _)
            have hb0 := below_alloc w2 (.cells #[] 5)
            have hrow2 := (hrow w2 hb2).below hb0 (Nat.le_refl _)
            have hs2 : w.heap.size < w2.heap.size := cell_lt q1
            have q1' := (cell_past w2 (.cells #[] 5) ⟨w.heap.size, 1, none⟩ hs2).trans q1
            have q2' := (cell_past w2 (.cells #[] 5) ⟨w.heap.size, 2, none⟩ hs2).trans q2
            go_wp2_with (at_builtin; go_must (refine append_u8 (w0 := w2) rfl (.tmp 31) (.tmp 40) rfl _ 0 [] rfl ho (some pa) 0 _ v rfl hrow2 (by first | (intro h; cases h; done) | (intro h; exact ⟨rfl, rfl⟩)) (by omega) hb0 (by simp) ?_; intro a' c' w3 hown3 hbel3 hB3; rw [Nat.zero_add, List.nil_append] at hown3))
            go_ret2
            exact sval_yes H2.out hvl hb2.size hown3 (hb2.trans (hbel3.mono hb2.size))
          · simp only [hft] at hfit
            have H2 : Hid (R = ([], 3)) := (by rw [H.out]; exact if_neg hft : R = ([], 3))
            clear hr H hft
            go_enter Tryz.func96, Tryz.ntmps96
            go_wp2_with (go_at_call 94; go_must (refine (hck _).mono ?_; rintro e w1 ⟨rfl, hbel1⟩; obtain ⟨r0, r1, r2, r3, hs1, hb1⟩ := four_keep hbel1))
            go_region_held3 (fun w' => w'.cell? ⟨w.heap.size, 0, none⟩ = some (.int .i64 s) ∧ w'.cell? ⟨w.heap.size, 1, none⟩ = some (.int .i64 ((0 : Nat) : Int)) ∧ w'.cell? ⟨w.heap.size, 2, none⟩ = some (.int .i64 (0 : Nat)) ∧ w'.cell? ⟨w.heap.size, 3, none⟩ = some (.int .u32 (m : Nat))) (first | go_keep | (refine ⟨?_, ?_, ?_, ?_⟩ <;> assumption))
              ((go_at_call 119; refine (hfit _ _ hb1.drew).mono ?_; rintro e w2 ⟨rfl, hbel2d⟩; have hbel2 := below_of_drew hbel2d; have hb2 := hb1.trans (hbel2.mono hb1.size); have q0 := (hbel2.cell (p := ⟨w.heap.size, 0, none⟩) hs1).trans r0; have q1 := (hbel2.cell (p := ⟨w.heap.size, 1, none⟩) hs1).trans r1; have q2 := (hbel2.cell (p := ⟨w.heap.size, 2, none⟩) hs1).trans r2; have q3 := (hbel2.cell (p := ⟨w.heap.size, 3, none⟩) hs1).trans r3))
            go_wp2
            go_ret2
            exact sval_no H2.out hb2
      · by_cases hcap : cap = Y
        · obtain rfl : L = 0 := by omega
          have hrow : ∀ W, Below w.heap.size w W → Row .u8 W (some ⟨b, off, none⟩) 0 v := fun W hW => by
            have h1 := (hr.below hW (Nat.le_refl _)).take 0 (by omega)
            have e : v = bs.take 0 := by rw [Hv.out]; simp
            rw [e]; exact h1
          have hw3 : IntKind.i64.wrap (Y : Int) = (Y : Int) := by rw [IntKind.wrap_i64]; omega
          have hd3 : decide ((len : Int) < (Y : Int)) = false := by simp; omega
          have hp0 : (0 : Int) ≤ (Y : Int) := by omega
          have hp2 : (Y : Int) ≤ (cap : Int) := by omega
          have hd5 : decide (len < Y) = false := by simp; omega
          have hfit := fun W C (h : Below w.heap.size w W) => cefits_any (s, (Y : Int), (0 : Nat), m) (some ⟨b, off, none⟩) 0 C v W (hrow W h)
          simp only [pv] at hfit
          by_cases hft : Ce.fits (s, (Y : Int), (0 : Nat), m) v = true
          · simp only [hft] at hfit
            have H2 : Hid (R = (v, 0)) := (by rw [H.out]; exact if_pos hft : R = (v, 0))
            clear hr H hft
            go_enter Tryz.func96, Tryz.ntmps96
            go_wp2_with (go_at_call 94; go_must (refine (hck _).mono ?_; rintro e w1 ⟨rfl, hbel1⟩; obtain ⟨r0, r1, r2, r3, hs1, hb1⟩ := four_keep hbel1))
            go_region_held3 (fun w' => w'.cell? ⟨w.heap.size, 0, none⟩ = some (.int .i64 s) ∧ w'.cell? ⟨w.heap.size, 1, none⟩ = some (.int .i64 (Y : Int)) ∧ w'.cell? ⟨w.heap.size, 2, none⟩ = some (.int .i64 (0 : Nat)) ∧ w'.cell? ⟨w.heap.size, 3, none⟩ = some (.int .u32 (m : Nat))) (first | go_keep | (refine ⟨?_, ?_, ?_, ?_⟩ <;> assumption))
              ((go_at_call 119; refine (hfit _ _ hb1.drew).mono ?_; rintro e w2 ⟨rfl, hbel2d⟩; have hbel2 := below_of_drew hbel2d; have hb2 := hb1.trans (hbel2.mono hb1.size); have q0 := (hbel2.cell (p := ⟨w.heap.size, 0, none⟩) hs1).trans r0; have q1 := (hbel2.cell (p := ⟨w.heap.size, 1, none⟩) hs1).trans r1; have q2 := (hbel2.cell (p := ⟨w.heap.size, 2, none⟩) hs1).trans r2; have q3 := (hbel2.cell (p := ⟨w.heap.size, 3, none⟩) hs1).trans r3))
            have ho := made_at w2 5 w2.heap.size rfl (Nat.le_refl _)
            have hb0 := below_alloc w2 (.cells #[] 5)
            have hrow2 := (hrow w2 hb2).below hb0 (Nat.le_refl _)
            have hs2 : w.heap.size < w2.heap.size := cell_lt q1
            have q1' := (cell_past w2 (.cells #[] 5) ⟨w.heap.size, 1, none⟩ hs2).trans q1
            have q2' := (cell_past w2 (.cells #[] 5) ⟨w.heap.size, 2, none⟩ hs2).trans q2
            go_wp2_with (at_builtin; go_must (refine append_u8 (w0 := w2) rfl (.tmp 31) (.tmp 40) rfl _ 0 [] rfl ho (some ⟨b, off, none⟩) 0 _ v rfl hrow2 (by first | (intro h; cases h; done) | (intro h; exact ⟨rfl, rfl⟩)) (by omega) hb0 (by simp) ?_; intro a' c' w3 hown3 hbel3 hB3; rw [Nat.zero_add, List.nil_append] at hown3))
            go_ret2
            exact sval_yes H2.out hvl hb2.size hown3 (hb2.trans (hbel3.mono hb2.size))
          · simp only [hft] at hfit
            have H2 : Hid (R = ([], 3)) := (by rw [H.out]; exact if_neg hft : R = ([], 3))
            clear hr H hft
            go_enter Tryz.func96, Tryz.ntmps96
            go_wp2_with (go_at_call 94; go_must (refine (hck _).mono ?_; rintro e w1 ⟨rfl, hbel1⟩; obtain ⟨r0, r1, r2, r3, hs1, hb1⟩ := four_keep hbel1))
            go_region_held3 (fun w' => w'.cell? ⟨w.heap.size, 0, none⟩ = some (.int .i64 s) ∧ w'.cell? ⟨w.heap.size, 1, none⟩ = some (.int .i64 (Y : Int)) ∧ w'.cell? ⟨w.heap.size, 2, none⟩ = some (.int .i64 (0 : Nat)) ∧ w'.cell? ⟨w.heap.size, 3, none⟩ = some (.int .u32 (m : Nat))) (first | go_keep | (refine ⟨?_, ?_, ?_, ?_⟩ <;> assumption))
              ((go_at_call 119; refine (hfit _ _ hb1.drew).mono ?_; rintro e w2 ⟨rfl, hbel2d⟩; have hbel2 := below_of_drew hbel2d; have hb2 := hb1.trans (hbel2.mono hb1.size); have q0 := (hbel2.cell (p := ⟨w.heap.size, 0, none⟩) hs1).trans r0; have q1 := (hbel2.cell (p := ⟨w.heap.size, 1, none⟩) hs1).trans r1; have q2 := (hbel2.cell (p := ⟨w.heap.size, 2, none⟩) hs1).trans r2; have q3 := (hbel2.cell (p := ⟨w.heap.size, 3, none⟩) hs1).trans r3))
            go_wp2
            go_ret2
            exact sval_no H2.out hb2
        · have hrow : ∀ W, Below w.heap.size w W → Row .u8 W (some ⟨b, off + Y, none⟩) L v := fun W hW => by
            have h1 := ((hr.below hW (Nat.le_refl _)).drop Y (by omega)).take L (by omega)
            rw [Hv.out]; exact h1
          have hw3 : IntKind.i64.wrap ((Y : Int) + (L : Int)) = ((Y + L : Nat) : Int) := by rw [IntKind.wrap_i64]; omega
          have hp0 : (0 : Int) ≤ (Y : Int) := by omega
          have hp1 : (Y : Int) ≤ ((Y + L : Nat) : Int) := by omega
          have hp2 : ((Y + L : Nat) : Int) ≤ (cap : Int) := by omega
          have hd5 : decide (len < Y + L) = false := by simp; omega
          have hp3 : (Y : Int) ≤ (Y : Int) + (L : Int) := by omega
          have hp4 : (Y : Int) + (L : Int) ≤ (cap : Int) := by omega
          have hp5 : Y ≤ Y + L := by omega
          have hp6 : Y + L ≤ cap := by omega
          have hp7 : ((Y : Int) + (L : Int)).toNat = Y + L := by omega
          have hp8 : Y + L - Y = L := by omega
          have hfit := fun W C (h : Below w.heap.size w W) => cefits_any (s, (Y : Int), (L : Nat), m) (some ⟨b, off + Y, none⟩) L C v W (hrow W h)
          simp only [pv] at hfit
          by_cases hft : Ce.fits (s, (Y : Int), (L : Nat), m) v = true
          · simp only [hft] at hfit
            have H2 : Hid (R = (v, 0)) := (by rw [H.out]; exact if_pos hft : R = (v, 0))
            clear hr H hft
            go_enter Tryz.func96, Tryz.ntmps96
            go_wp2_with (go_at_call 94; go_must (refine (hck _).mono ?_; rintro e w1 ⟨rfl, hbel1⟩; obtain ⟨r0, r1, r2, r3, hs1, hb1⟩ := four_keep hbel1))
            go_region_held3 (fun w' => w'.cell? ⟨w.heap.size, 0, none⟩ = some (.int .i64 s) ∧ w'.cell? ⟨w.heap.size, 1, none⟩ = some (.int .i64 (Y : Int)) ∧ w'.cell? ⟨w.heap.size, 2, none⟩ = some (.int .i64 (L : Nat)) ∧ w'.cell? ⟨w.heap.size, 3, none⟩ = some (.int .u32 (m : Nat))) (first | go_keep | (refine ⟨?_, ?_, ?_, ?_⟩ <;> assumption))
              ((go_at_call 119; refine (hfit _ _ hb1.drew).mono ?_; rintro e w2 ⟨rfl, hbel2d⟩; have hbel2 := below_of_drew hbel2d; have hb2 := hb1.trans (hbel2.mono hb1.size); have q0 := (hbel2.cell (p := ⟨w.heap.size, 0, none⟩) hs1).trans r0; have q1 := (hbel2.cell (p := ⟨w.heap.size, 1, none⟩) hs1).trans r1; have q2 := (hbel2.cell (p := ⟨w.heap.size, 2, none⟩) hs1).trans r2; have q3 := (hbel2.cell (p := ⟨w.heap.size, 3, none⟩) hs1).trans r3))
            have ho := made_at w2 5 w2.heap.size rfl (Nat.le_refl _)
            have hb0 := below_alloc w2 (.cells #[] 5)
            have hrow2 := (hrow w2 hb2).below hb0 (Nat.le_refl _)
            have hs2 : w.heap.size < w2.heap.size := cell_lt q1
            have q1' := (cell_past w2 (.cells #[] 5) ⟨w.heap.size, 1, none⟩ hs2).trans q1
            have q2' := (cell_past w2 (.cells #[] 5) ⟨w.heap.size, 2, none⟩ hs2).trans q2
            go_wp2_with (at_builtin; go_must (refine append_u8 (w0 := w2) rfl (.tmp 31) (.tmp 40) rfl _ 0 [] rfl ho (some ⟨b, off + Y, none⟩) L _ v rfl hrow2 (by first | (intro h; cases h; done) | (intro h; exact ⟨rfl, rfl⟩)) (by omega) hb0 (by simp) ?_; intro a' c' w3 hown3 hbel3 hB3; rw [Nat.zero_add, List.nil_append] at hown3))
            go_ret2
            exact sval_yes H2.out hvl hb2.size hown3 (hb2.trans (hbel3.mono hb2.size))
          · simp only [hft] at hfit
            have H2 : Hid (R = ([], 3)) := (by rw [H.out]; exact if_neg hft : R = ([], 3))
            clear hr H hft
            go_enter Tryz.func96, Tryz.ntmps96
            go_wp2_with (go_at_call 94; go_must (refine (hck _).mono ?_; rintro e w1 ⟨rfl, hbel1⟩; obtain ⟨r0, r1, r2, r3, hs1, hb1⟩ := four_keep hbel1))
            go_region_held3 (fun w' => w'.cell? ⟨w.heap.size, 0, none⟩ = some (.int .i64 s) ∧ w'.cell? ⟨w.heap.size, 1, none⟩ = some (.int .i64 (Y : Int)) ∧ w'.cell? ⟨w.heap.size, 2, none⟩ = some (.int .i64 (L : Nat)) ∧ w'.cell? ⟨w.heap.size, 3, none⟩ = some (.int .u32 (m : Nat))) (first | go_keep | (refine ⟨?_, ?_, ?_, ?_⟩ <;> assumption))
              ((go_at_call 119; refine (hfit _ _ hb1.drew).mono ?_; rintro e w2 ⟨rfl, hbel2d⟩; have hbel2 := below_of_drew hbel2d; have hb2 := hb1.trans (hbel2.mono hb1.size); have q0 := (hbel2.cell (p := ⟨w.heap.size, 0, none⟩) hs1).trans r0; have q1 := (hbel2.cell (p := ⟨w.heap.size, 1, none⟩) hs1).trans r1; have q2 := (hbel2.cell (p := ⟨w.heap.size, 2, none⟩) hs1).trans r2; have q3 := (hbel2.cell (p := ⟨w.heap.size, 3, none⟩) hs1).trans r3))
            go_wp2
            go_ret2
            exact sval_no H2.out hb2
  · have H : Hid (R = ([], 1)) := (by rw [hR, Sg.value, if_neg hm] : R = ([], 1))
    simp only [hm] at hck
    simp only [pv]
    clear hR hr
    go_enter Tryz.func96, Tryz.ntmps96
    go_wp2_with (go_at_call 94; go_must (refine (hck _).mono ?_; rintro e w1 ⟨rfl, hbel1⟩; obtain ⟨r0, r1, r2, r3, hs1, hb1⟩ := four_keep hbel1))
    go_ret2
    exact sval_no H.out hb1
end Go.Proofs.YtnoknmnbfkdccaaGreatDoor
