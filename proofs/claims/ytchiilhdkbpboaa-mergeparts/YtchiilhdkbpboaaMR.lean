/- What the reference's May and From of lists, and the laws' light, do. -/
import Derived.Test.YtchiilhdkbpboaaMQ
import Derived.Test.YtchiilhdkbpboaaTR6
namespace Go.Proofs.Ytchiilhdkbpboaa
open Go.RowKit

/-- the key of an item that a call told -/
theorem run_key (W : World) (ky : ByteArray) (v1 v2 v3 v4 v5 v6 v7 : Value) : Sem.run Try.prog (Instr.field 37 (.agg #[.string ky, v1, v2, v3, v4, v5, v6, v7]) 0) W = .ok (.string ky) W := by
  simp only [Instr.field, go_sem]
  rfl
theorem all_drop' {α : Type} (p : α → Bool) {l : List α} {k : Nat} (d : α) (hk : k < l.length) : (l.drop k).all p = (p (l.getD k d) && (l.drop (k + 1)).all p) := by
  rw [drop_cons' d hk, List.all_cons]

set_option maxRecDepth 100000 in
set_option maxHeartbeats 1000000 in
theorem rmay_any (a : Option Addr) (n c : Nat) (ps : List PH) (gss : List (List IH)) (xss : List (List It.I)) (w : World) (hi : InP w a n ps gss xss) (hsz : ∀ i, i < n → (ps.getD i phz).n ≤ 1000) :
    Calls Try.prog 10 #[.slice a n c] w fun e w' => e = .returned (.bool (Mg.may xss)) ∧ Below w.heap.size w w' := by
  have hll : Hid (xss.length = n) := hi.len
  have hm15 := hi.1.2.1
  obtain ⟨R, hR⟩ : ∃ R, R = Mg.may xss := ⟨_, rfl⟩
  rw [← hR]
  have HR : Hid (R = ((xss.drop 0).all It.sorted && decide (n ≤ 100))) := (by rw [hR]; unfold Mg.may; rw [hll.out]; rfl : R = ((xss.drop 0).all It.sorted && decide (n ≤ 100)))
  clear hR
  go_enter Try.func10, Try.ntmps10
  go_wp2_with fail
  go_loopw [3] (fun i wr => ∃ (k : Nat), k ≤ n ∧ i = .int .i64 k ∧ Hid (R = ((xss.drop k).all It.sorted && decide (n ≤ 100))) ∧ Below w.heap.size w wr) (fun i _ => n - (intOf i).toNat)
  case atStart => exact ⟨0, by omega, rfl, HR, Below.refl _ _⟩
  case round =>
    obtain ⟨k, hk, rfl, H, hbel⟩ := hrel
    clear HR
    by_cases hlt : k < n
    · obtain ⟨bb, off, rfl, hc⟩ := hi.1.part (by omega)
      have hk' : k < xss.length := by rw [hll.out]; exact hlt
      have y0 := (hbel.cell (p := ⟨bb, off + k, none⟩) (cell_lt (hc k hlt))).trans (hc k hlt)
      have hst : Hid (R = (It.sorted (xss.getD k []) && ((xss.drop (k + 1)).all It.sorted && decide (n ≤ 100)))) := (by rw [H.out, all_drop' It.sorted [] hk', Bool.and_assoc] : R = (It.sorted (xss.getD k []) && ((xss.drop (k + 1)).all It.sorted && decide (n ≤ 100))))
      have hso := isorted_any (ps.getD k phz).a (ps.getD k phz).n (ps.getD k phz).c (gss.getD k []) (xss.getD k []) wr (hsz k hlt) ((hi.2.2.2 k hk').1.below hbel (Nat.le_refl _))
      have i0 : (0 : Int) ≤ (k : Int) := by omega
      have i1 : (k : Int) < (n : Int) := by omega
      have i2 : IntKind.i64.wrap ((k : Int) + 1) = (k : Int) + 1 := by rw [IntKind.wrap_i64]; omega
      generalize ps.getD k phz = P at *
      obtain ⟨qa, qn, qc⟩ := P
      simp only at y0 hso
      cases hs : It.sorted (xss.getD k []) with
      | true =>
        rw [hs] at hso hst
        have hst2 : Hid (R = ((xss.drop (k + 1)).all It.sorted && decide (n ≤ 100))) := hst.out
        clear hs hst H hk'
        go_wp2_with (go_at_call 25; go_must (refine hso.mono ?_; rintro e w1 ⟨rfl, hb1⟩))
        go_roundw
        case rel => exact ⟨k + 1, by omega, by go_num, hst2, hbel.trans (hb1.mono hbel.size)⟩
        case measure => simp [intOf]; omega
      | false =>
        rw [hs] at hso hst
        obtain rfl : R = false := hst.out
        clear hs hst H hk'
        go_wp2_with (go_at_call 25; go_must (refine hso.mono ?_; rintro e w1 ⟨rfl, hb1⟩))
        go_ret
        exact ⟨rfl, hbel.trans (hb1.mono hbel.size)⟩
    · obtain rfl : k = n := by omega
      have d1 : decide ((k : Int) ≤ 100) = decide (k ≤ 100) := by simp; omega
      have H2 : Hid (R = decide (k ≤ 100)) := (by rw [H.out, List.drop_of_length_le (by rw [hll.out]; omega)]; rfl : R = decide (k ≤ 100))
      clear H
      by_cases h100 : k ≤ 100
      · rw [decide_eq_true h100] at d1 H2
        obtain rfl : R = true := H2.out
        go_wp2
        go_ret
        exact ⟨rfl, hbel⟩
      · rw [decide_eq_false h100] at d1 H2
        obtain rfl : R = false := H2.out
        go_wp2
        go_ret
        exact ⟨rfl, hbel⟩

set_option maxRecDepth 100000 in
set_option maxHeartbeats 1000000 in
theorem rfrom_any (a : Option Addr) (n c : Nat) (ps : List PH) (gss : List (List IH)) (xss : List (List It.I)) (s : ByteArray) (w0 w : World) (hi : InP w0 a n ps gss xss) (hw0 : Below w0.heap.size w0 w) (hn : n ≤ 1000) (hsz : ∀ i, i < n → (ps.getD i phz).n ≤ 1000) :
    Calls Try.prog 20 #[.slice a n c, .string s] w fun e w' => e = .returned (.int .i64 (Mg.from' xss (kb s) 0 : Nat)) ∧ Below w.heap.size w w' := by
  have hll : Hid (xss.length = n) := hi.len
  obtain ⟨R, hR⟩ : ∃ R, R = Mg.from' xss (kb s) 0 := ⟨_, rfl⟩
  rw [← hR]
  have HR : Hid (R = Mg.from' (xss.drop 0) (kb s) 0) := (hR : R = Mg.from' (xss.drop 0) (kb s) 0)
  clear hR
  go_enter Try.func20, Try.ntmps20
  go_wp2_with fail
  go_loopw [5] (fun i wr => ∃ (k : Nat), k ≤ n ∧ i = .int .i64 k ∧ Hid (R = Mg.from' (xss.drop k) (kb s) k) ∧ Below w.heap.size w wr) (fun i _ => n - (intOf i).toNat)
  case atStart => exact ⟨0, by omega, rfl, HR, Below.refl _ _⟩
  case round =>
    obtain ⟨k, hk, rfl, H, hbel⟩ := hrel
    clear HR
    by_cases hlt : k < n
    · obtain ⟨bb, off, rfl, hc⟩ := hi.1.part (by omega)
      have hk' : k < xss.length := by rw [hll.out]; exact hlt
      have hw1 := hw0.trans (hbel.mono hw0.size)
      have y0 := (hw1.cell (p := ⟨bb, off + k, none⟩) (cell_lt (hc k hlt))).trans (hc k hlt)
      have hst : Hid (R = if (It.get (xss.getD k []) (kb s)).1 ≠ [] then k else Mg.from' (xss.drop (k + 1)) (kb s) (k + 1)) := (by rw [H.out, drop_cons' [] hk', Mg.from'] : R = if (It.get (xss.getD k []) (kb s)).1 ≠ [] then k else Mg.from' (xss.drop (k + 1)) (kb s) (k + 1))
      have hin := hi.2.2.2 k hk'
      have hg := iget_any w0 (ps.getD k phz).a (ps.getD k phz).n (ps.getD k phz).c (gss.getD k []) (xss.getD k []) s wr (by have := hsz k hlt; omega) (hin.1.1.below hw1 (Nat.le_refl _)) hin.1.2
      have i0 : (0 : Int) ≤ (k : Int) := by omega
      have i1 : (k : Int) < (n : Int) := by omega
      have i2 : IntKind.i64.wrap ((k : Int) + 1) = (k : Int) + 1 := by rw [IntKind.wrap_i64]; omega
      generalize ps.getD k phz = P at *
      generalize It.get (xss.getD k []) (kb s) = G at *
      obtain ⟨qa, qn, qc⟩ := P
      simp only at y0 hg
      have hg2 : Calls Try.prog 16 #[.slice qa qn qc, .string s] wr fun e w' => ∃ (ky : ByteArray) (dd ff : Bool) (xa : Option Addr) (xn xc : Nat) (p1 p2 p3 : Int) (p4 : Nat), e = .returned (.agg #[.string ky, .bool dd, .bool ff, .slice xa xn xc, .int .i64 p1, .int .i64 p2, .int .i64 p3, .int .u32 (p4 : Nat)]) ∧ Hid (kb ky = G.1) ∧ Below wr.heap.size wr w' := hg.mono fun e w' ⟨⟨ky, dd, ff, xa, xn, xc, ⟨p1, p2, p3, p4⟩⟩, h1, h2, h3⟩ => ⟨ky, dd, ff, xa, xn, xc, p1, p2, p3, p4, h1, h2.key, h3⟩
      clear hg
      clear hin hk' H
      by_cases hG : G.1 = []
      · have H2 : Hid (R = Mg.from' (xss.drop (k + 1)) (kb s) (k + 1)) := (by rw [hst.out, if_neg (fun h => h hG)] : R = Mg.from' (xss.drop (k + 1)) (kb s) (k + 1))
        clear hst
        go_wp2_with (go_at_call 16; go_must (refine hg2.mono ?_; rintro e w1 ⟨ky, dd, ff, xa, xn, xc, p1, p2, p3, p4, rfl, hit, hb1⟩; have hfd := (fun W => run_key W ky (.bool dd) (.bool ff) (.slice xa xn xc) (.int .i64 p1) (.int .i64 p2) (.int .i64 p3) (.int .u32 (p4 : Nat))); have hemp : ky.toList.isEmpty = true := (by rw [isEmpty_kb, decide_eq_true_eq, ← kb_nil]; exact hit.out.trans hG); clear hit))
        go_roundw
        case rel => exact ⟨k + 1, by omega, by go_num, H2, hbel.trans (hb1.mono hbel.size)⟩
        case measure => simp [intOf]; omega
      · obtain rfl : R = k := by rw [hst.out, if_pos hG]
        clear hst
        go_wp2_with (go_at_call 16; go_must (refine hg2.mono ?_; rintro e w1 ⟨ky, dd, ff, xa, xn, xc, p1, p2, p3, p4, rfl, hit, hb1⟩; have hfd := (fun W => run_key W ky (.bool dd) (.bool ff) (.slice xa xn xc) (.int .i64 p1) (.int .i64 p2) (.int .i64 p3) (.int .u32 (p4 : Nat))); have hemp : ky.toList.isEmpty = false := (by rw [isEmpty_kb, decide_eq_false_iff_not, ← kb_nil]; exact fun e => hG (hit.out.symm.trans e)); clear hit))
        go_ret
        exact ⟨rfl, hbel.trans (hb1.mono hbel.size)⟩
    · obtain rfl : k = n := by omega
      obtain rfl : R = 0 := by rw [H.out, List.drop_of_length_le (by rw [hll.out]; omega)]; rfl
      clear H
      go_wp2
      go_ret
      exact ⟨rfl, hbel⟩

/-- lists that are not too great -/
def Lite (n : Nat) (ps : List PH) (gss : List (List IH)) : Prop := n ≤ 110 ∧ ∀ i, i < n → (ps.getD i phz).n ≤ 30 ∧ Fine (gss.getD i []) (ps.getD i phz).n

def LiteRes (w : World) (P : Prop) (e : Ending) (w' : World) : Prop := ∃ r : Bool, e = .returned (.bool r) ∧ (r = true ↔ P) ∧ Below w.heap.size w w'

set_option maxRecDepth 100000 in
set_option maxHeartbeats 1000000 in
theorem mlight_any (a : Option Addr) (n c : Nat) (ps : List PH) (gss : List (List IH)) (xss : List (List It.I)) (w : World) (hi : InP w a n ps gss xss) :
    Calls Try.prog 7 #[.slice a n c] w (LiteRes w (Lite n ps gss)) := by
  have hll : Hid (xss.length = n) := hi.len
  have hm15 := hi.1.2.1
  go_enter Try.func7, Try.ntmps7
  go_wp2_with fail
  go_loopw [3] (fun i wr => ∃ (k : Nat), k ≤ n ∧ k ≤ 111 ∧ i = .int .i64 k ∧ Hid (∀ i, i < k → (ps.getD i phz).n ≤ 30 ∧ Fine (gss.getD i []) (ps.getD i phz).n) ∧ Below w.heap.size w wr) (fun i _ => 112 - (intOf i).toNat)
  case atStart => exact ⟨0, by omega, by omega, rfl, (fun i hi => by omega : ∀ i, i < 0 → (ps.getD i phz).n ≤ 30 ∧ Fine (gss.getD i []) (ps.getD i phz).n), Below.refl _ _⟩
  case round =>
    obtain ⟨k, hk, hk11, rfl, H, hbel⟩ := hrel
    by_cases hlt : k < n
    · have i1 : (k : Int) < (n : Int) := by omega
      by_cases h11 : k ≤ 110
      · obtain ⟨bb, off, rfl, hc⟩ := hi.1.part (by omega)
        have hk' : k < xss.length := by rw [hll.out]; exact hlt
        have y0 := fun W (hW : Below w.heap.size w W) => (hW.cell (p := ⟨bb, off + k, none⟩) (cell_lt (hc k hlt))).trans (hc k hlt)
        have z0 := y0 wr hbel
        have hin := hi.2.2.2 k hk'
        have i0 : (0 : Int) ≤ (k : Int) := by omega
        have i2 : IntKind.i64.wrap ((k : Int) + 1) = (k : Int) + 1 := by rw [IntKind.wrap_i64]; omega
        have i3 : (k : Int) ≤ 110 := by omega
        have i4 : decide ((k : Int) ≤ 110) = true := by simp; omega
        have HN : Hid (¬ ((ps.getD k phz).n ≤ 30 ∧ Fine (gss.getD k []) (ps.getD k phz).n) → ¬ Lite n ps gss) := (fun h hL => h (hL.2 k hlt) : ¬ ((ps.getD k phz).n ≤ 30 ∧ Fine (gss.getD k []) (ps.getD k phz).n) → ¬ Lite n ps gss)
        have HY : Hid ((ps.getD k phz).n ≤ 30 ∧ Fine (gss.getD k []) (ps.getD k phz).n → ∀ i, i < k + 1 → (ps.getD i phz).n ≤ 30 ∧ Fine (gss.getD i []) (ps.getD i phz).n) := (fun h i hi' => by
          rcases Nat.lt_or_ge i k with h1 | h1
          · exact H.out i h1
          · obtain rfl : i = k := by omega
            exact h : (ps.getD k phz).n ≤ 30 ∧ Fine (gss.getD k []) (ps.getD k phz).n → ∀ i, i < k + 1 → (ps.getD i phz).n ≤ 30 ∧ Fine (gss.getD i []) (ps.getD i phz).n)
        have hLT := fun h => trlightT (ps.getD k phz).a (ps.getD k phz).n (ps.getD k phz).c (gss.getD k []) (xss.getD k []) wr (hin.1.below hbel (Nat.le_refl _)) h
        have hLF := fun h => trlightF (ps.getD k phz).a (ps.getD k phz).n (ps.getD k phz).c (gss.getD k []) (xss.getD k []) wr (hin.1.below hbel (Nat.le_refl _)) h
        obtain ⟨P, hP⟩ : ∃ P, P = ps.getD k phz := ⟨_, rfl⟩
        rw [← hP] at hLT hLF HN HY z0
        simp only [← hP] at y0
        clear hP hin hc H
        obtain ⟨qa, qn, qc⟩ := P
        simp only at y0 z0 hLT hLF HN HY
        by_cases hF : Fine (gss.getD k []) qn
        · have hL := hLT hF
          have d30 : decide (30 < (qn : Int)) = decide (30 < qn) := by simp; omega
          by_cases h30 : 30 < qn
          · rw [decide_eq_true h30] at d30
            have HX : Hid (¬ Lite n ps gss) := HN.out (fun h => by omega)
            clear HN HY hLT hLF
            go_wp2_with (go_at_call 21; go_must (refine hL.mono ?_; rintro e w1 ⟨rfl, hb1⟩; have u0 := y0 w1 (hbel.trans (hb1.mono hbel.size))))
            go_ret
            exact ⟨false, rfl, ⟨(fun h => by cases h), fun h => absurd h HX.out⟩, hbel.trans (hb1.mono hbel.size)⟩
          · rw [decide_eq_false h30] at d30
            have HX : Hid (∀ i, i < k + 1 → (ps.getD i phz).n ≤ 30 ∧ Fine (gss.getD i []) (ps.getD i phz).n) := HY.out ⟨by omega, hF⟩
            clear HN HY hLT hLF
            go_wp2_with (go_at_call 21; go_must (refine hL.mono ?_; rintro e w1 ⟨rfl, hb1⟩; have u0 := y0 w1 (hbel.trans (hb1.mono hbel.size))))
            go_roundw
            case rel => exact ⟨k + 1, by omega, by omega, by go_num, HX, hbel.trans (hb1.mono hbel.size)⟩
            case measure => simp [intOf]; omega
        · have hL := hLF hF
          have HX : Hid (¬ Lite n ps gss) := HN.out (fun h => hF h.2)
          clear HN HY hLT hLF
          go_wp2_with (go_at_call 21; go_must (refine hL.mono ?_; rintro e w1 ⟨rfl, hb1⟩))
          go_ret
          exact ⟨false, rfl, ⟨(fun h => by cases h), fun h => absurd h HX.out⟩, hbel.trans (hb1.mono hbel.size)⟩
      · have i4 : decide ((k : Int) ≤ 110) = false := by simp; omega
        have i5 : ¬ ((k : Int) ≤ 110) := by omega
        have d1 : decide ((n : Int) ≤ 110) = false := by simp; omega
        clear H
        go_wp2
        go_ret
        exact ⟨false, rfl, ⟨(fun h => by cases h), fun h => by have := h.1; omega⟩, hbel⟩
    · obtain rfl : k = n := by omega
      have i3 : ¬ ((k : Int) < (k : Int)) := by omega
      have d1 : decide ((k : Int) ≤ 110) = decide (k ≤ 110) := by simp; omega
      by_cases h110 : k ≤ 110
      · rw [decide_eq_true h110] at d1
        go_wp2
        go_ret
        exact ⟨true, rfl, ⟨(fun _ => ⟨h110, H.out⟩), fun _ => rfl⟩, hbel⟩
      · rw [decide_eq_false h110] at d1
        clear H
        go_wp2
        go_ret
        exact ⟨false, rfl, ⟨(fun h => by cases h), fun h => absurd h.1 h110⟩, hbel⟩
theorem mlightT (a : Option Addr) (n c : Nat) (ps : List PH) (gss : List (List IH)) (xss : List (List It.I)) (w : World) (hi : InP w a n ps gss xss) (h : Lite n ps gss) : Calls Try.prog 7 #[.slice a n c] w fun e w' => e = .returned (.bool true) ∧ Below w.heap.size w w' :=
  (mlight_any a n c ps gss xss w hi).mono (fun e w' ⟨r, h1, h2, h3⟩ => ⟨by rw [h1, h2.mpr h], h3⟩)
theorem mlightF (a : Option Addr) (n c : Nat) (ps : List PH) (gss : List (List IH)) (xss : List (List It.I)) (w : World) (hi : InP w a n ps gss xss) (h : ¬ Lite n ps gss) : Calls Try.prog 7 #[.slice a n c] w fun e w' => e = .returned (.bool false) ∧ Below w.heap.size w w' :=
  (mlight_any a n c ps gss xss w hi).mono (fun e w' ⟨r, h1, h2, h3⟩ => ⟨by
    cases r with
    | false => exact h1
    | true => exact absurd (h2.mp rfl) h, h3⟩)
end Go.Proofs.Ytchiilhdkbpboaa
