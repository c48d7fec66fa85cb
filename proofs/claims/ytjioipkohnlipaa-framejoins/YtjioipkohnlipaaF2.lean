/- Rows of frames; what the reference's Ints, Same and All do. -/
import Derived.Test.YtjioipkohnlipaaF1
namespace Go.Proofs.Ytjioipkohnlipaa
open Go.RowKit

/-- a frame's cells at a place -/
def FAt (w : World) (b o : Nat) (f : Fr.F) : Prop :=
  ∃ A L C, w.cell? ⟨b, o, none⟩ = some (.int .i64 f.1) ∧ w.cell? ⟨b, o + 1, none⟩ = some (.slice A L C) ∧ Row .u8 w A L f.2 ∧ Shape A L C ∧ (A = none → L = 0 ∧ C = 0) ∧ -9223372036854775808 ≤ f.1 ∧ f.1 ≤ 9223372036854775807
/-- A slice that reads as the frames fs. -/
def FRow (w : World) (a : Option Addr) (len : Nat) (fs : List Fr.F) : Prop :=
  fs.length = len ∧ len ≤ 1000000000000000 ∧ (len = 0 ∨ ∃ b off, a = some ⟨b, off, none⟩ ∧ ∀ i, i < len → FAt w b (off + i * 2) (fs.getD i (0, [])))
theorem FAt.below {w w' : World} {B b o : Nat} {f : Fr.F} (h : FAt w b o f) (hb : Below B w w') (hB : w.heap.size ≤ B) : FAt w' b o f := by
  obtain ⟨A, L, C, h1, h2, h3, h4⟩ := h
  exact ⟨A, L, C, (hb.cell (p := ⟨b, o, none⟩) (Nat.lt_of_lt_of_le (cell_lt h1) hB)).trans h1, (hb.cell (p := ⟨b, o + 1, none⟩) (Nat.lt_of_lt_of_le (cell_lt h2) hB)).trans h2, h3.below hb hB, h4⟩
theorem FRow.below {w w' : World} {B : Nat} {a : Option Addr} {l : Nat} {fs : List Fr.F} (h : FRow w a l fs) (hb : Below B w w') (hB : w.heap.size ≤ B) : FRow w' a l fs := by
  obtain ⟨h1, h2, h3⟩ := h
  refine ⟨h1, h2, ?_⟩
  rcases h3 with h0 | ⟨b, off, e, hc⟩
  · exact .inl h0
  · exact .inr ⟨b, off, e, fun i hi => (hc i hi).below hb hB⟩
theorem FRow.at {w : World} {a : Option Addr} {n : Nat} {fs : List Fr.F} (h : FRow w a n fs) (hn : 0 < n) :
    ∃ b off, a = some ⟨b, off, none⟩ ∧ ∀ i, i < n → FAt w b (off + i * 2) (fs.getD i (0, [])) := by
  obtain ⟨_, _, h0 | h0⟩ := h
  · omega
  · exact h0
theorem feq_of_getD {a b : List Fr.F} (hl : a.length = b.length) (h : ∀ j, j < a.length → a.getD j (0, []) = b.getD j (0, [])) : a = b := by
  apply List.ext_getElem hl
  intro i h1 h2
  have := h i h1
  simpa [h1, h2] using this
theorem ret_bool {a b : Bool} (h : a = b) : Ending.returned (.bool a) = .returned (.bool b) := by rw [h]

set_option maxRecDepth 100000 in
set_option maxHeartbeats 1000000 in
theorem fsame_any (a1 : Option Addr) (l1 c1 : Nat) (fs1 : List Fr.F) (a2 : Option Addr) (l2 c2 : Nat) (fs2 : List Fr.F) (w : World) (hr1 : FRow w a1 l1 fs1) (hr2 : FRow w a2 l2 fs2) :
    Calls Try.prog 18 #[.slice a1 l1 c1, .slice a2 l2 c2] w fun e w' => e = .returned (.bool (decide (fs1 = fs2))) ∧ Below w.heap.size w w' := by
  by_cases hl : l1 = l2
  · subst hl
    rcases Nat.eq_zero_or_pos l1 with h0 | h0
    · have he : Hid (decide (fs1 = fs2) = true) := (by
        have e1 := List.length_eq_zero_iff.mp (hr1.1.trans h0); have e2 := List.length_eq_zero_iff.mp (hr2.1.trans h0)
        rw [e1, e2]; rfl : decide (fs1 = fs2) = true)
      subst h0
      go_enter Try.func18, Try.ntmps18
      go_wp2
      go_loop [5] (fun i => i = .int .i64 (0 : Nat)) (fun _ => 0)
      case atStart => rfl
      case round =>
        subst hrel
        go_wp2
        go_ret
        exact ⟨by rw [he.out]; rfl, Below.refl _ _⟩
    · obtain ⟨b1, o1, rfl, hc1⟩ := hr1.at h0
      obtain ⟨b2, o2, rfl, hc2⟩ := hr2.at h0
      have hb := hr1.2.1
      have hlen : Hid (fs1.length = fs2.length) := (by rw [hr1.1, hr2.1] : fs1.length = fs2.length)
      have hlen1 : Hid (fs1.length = l1) := hr1.1
      clear hr1 hr2
      go_enter Try.func18, Try.ntmps18
      go_wp2
      go_loopw [5] (fun i wr => ∃ k : Nat, k ≤ l1 ∧ i = .int .i64 k ∧ Below w.heap.size w wr ∧ Hid (∀ j, j < k → fs1.getD j (0, []) = fs2.getD j (0, []))) (fun i _ => l1 - (intOf i).toNat)
      case atStart => exact ⟨0, by omega, rfl, Below.refl _ _, (fun j hj => by omega : ∀ j, j < 0 → fs1.getD j (0, []) = fs2.getD j (0, []))⟩
      case round =>
        obtain ⟨k, hk, rfl, hbel, hsame⟩ := hrel
        by_cases hlt : k < l1
        · obtain ⟨A1, L1, C1, p1, q1, r1, s1, t1, lo1, hi1⟩ := (hc1 k hlt).below hbel (Nat.le_refl _)
          obtain ⟨A2, L2, C2, p2, q2, r2, s2, t2, lo2, hi2⟩ := (hc2 k hlt).below hbel (Nat.le_refl _)
          clear hc1 hc2
          have i0 : (0 : Int) ≤ (k : Int) := Int.natCast_nonneg _
          have i1 : (k : Int) < (l1 : Int) := by omega
          obtain ⟨⟨x1, y1⟩, hf1⟩ : ∃ f, f = fs1.getD k (0, []) := ⟨_, rfl⟩
          obtain ⟨⟨x2, y2⟩, hf2⟩ : ∃ f, f = fs2.getD k (0, []) := ⟨_, rfl⟩
          rw [← hf1] at p1 r1 lo1 hi1
          rw [← hf2] at p2 r2 lo2 hi2
          have HF1 : Hid ((x1, y1) = fs1.getD k (0, [])) := hf1
          have HF2 : Hid ((x2, y2) = fs2.getD k (0, [])) := hf2
          clear hf1 hf2
          simp only at p1 r1 p2 r2
          have hby := fun m => bytes_any A1 L1 C1 y1 A2 L2 C2 y2 (wr.drewN m) (r1.below (below_drewN _ _ m) (Nat.le_refl _)) (r2.below (below_drewN _ _ m) (Nat.le_refl _))
          by_cases hx : x1 = x2
          · subst hx
            by_cases hy : y1 = y2
            · have hd : decide (y1 = y2) = true := by simp [hy]
              have H : Hid (∀ j, j < k + 1 → fs1.getD j (0, []) = fs2.getD j (0, [])) := (by
                intro j hj
                rcases Nat.lt_or_ge j k with h | h
                · exact hsame.out j h
                · obtain rfl : j = k := by omega
                  rw [← HF1.out, ← HF2.out, hy] : ∀ j, j < k + 1 → fs1.getD j (0, []) = fs2.getD j (0, []))
              clear hy
              go_wp2_with fail
              go_region_held3 (fun w' => w'.cell? ⟨b1, o1 + k * 2, none⟩ = some (.int .i64 x1) ∧ w'.cell? ⟨b1, o1 + k * 2 + 1, none⟩ = some (.slice A1 L1 C1) ∧ w'.cell? ⟨b2, o2 + k * 2, none⟩ = some (.int .i64 x1) ∧ w'.cell? ⟨b2, o2 + k * 2 + 1, none⟩ = some (.slice A2 L2 C2)) (first | go_keep | (refine ⟨?_, ?_, ?_, ?_⟩ <;> assumption))
                (first | ((go_at_call 14; refine (hby _).mono ?_; rintro e w3 ⟨rfl, m3, rfl⟩)))
              go_wp2
              go_roundw
              case rel => exact ⟨k + 1, by omega, by go_num, hbel.trans (below_drewN _ _ _), H⟩
              case measure => simp [intOf]; omega
            · have hd : decide (y1 = y2) = false := by simp [hy]
              have he : Hid (decide (fs1 = fs2) = false) := (by
                simp; intro h; apply hy
                have h1 := HF1.out; have h2 := HF2.out
                rw [h] at h1
                have := h1.trans h2.symm
                simpa using this : decide (fs1 = fs2) = false)
              clear hy
              go_wp2_with fail
              go_region_held3 (fun w' => w'.cell? ⟨b1, o1 + k * 2, none⟩ = some (.int .i64 x1) ∧ w'.cell? ⟨b1, o1 + k * 2 + 1, none⟩ = some (.slice A1 L1 C1) ∧ w'.cell? ⟨b2, o2 + k * 2, none⟩ = some (.int .i64 x1) ∧ w'.cell? ⟨b2, o2 + k * 2 + 1, none⟩ = some (.slice A2 L2 C2)) (first | go_keep | (refine ⟨?_, ?_, ?_, ?_⟩ <;> assumption))
                (first | ((go_at_call 14; refine (hby _).mono ?_; rintro e w3 ⟨rfl, m3, rfl⟩)))
              go_wp2
              go_ret
              exact ⟨by rw [he.out]; rfl, hbel.trans (below_drewN _ _ _)⟩
          · have he : Hid (decide (fs1 = fs2) = false) := (by
              simp; intro h; apply hx
              have h1 := HF1.out; have h2 := HF2.out
              rw [h] at h1
              have := h1.trans h2.symm
              simp at this; exact this.1 : decide (fs1 = fs2) = false)
            have hne : (x1 != x2) = true := by simpa using hx
            go_wp2_with fail
            go_quiet (fail)
            go_wp2
            go_ret
            exact ⟨by rw [he.out]; rfl, by first | exact hbel.drew | exact hbel.trans (below_drewN _ _ _)⟩
        · have he : Hid (decide (fs1 = fs2) = true) := (by
            simp; exact feq_of_getD hlen.out (fun j hj => hsame.out j (by have := hlen1.out; omega)) : decide (fs1 = fs2) = true)
          go_wp2
          go_ret
          exact ⟨by rw [he.out]; rfl, hbel⟩
  · have he : Hid (decide (fs1 = fs2) = false) := (by
      simp; intro h; apply hl; rw [← hr1.1, ← hr2.1, h] : decide (fs1 = fs2) = false)
    go_enter Try.func18, Try.ntmps18
    go_wp2
    go_ret
    exact ⟨by rw [he.out]; rfl, Below.refl _ _⟩
end Go.Proofs.Ytjioipkohnlipaa
