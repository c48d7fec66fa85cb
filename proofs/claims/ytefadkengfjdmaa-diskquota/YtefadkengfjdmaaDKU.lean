/- The law DiskQuota. -/
import Derived.Test.YtefadkengfjdmaaDKT
namespace Go.Proofs.Ytefadkengfjdmaa
open Go.RowKit Go.Shelf

/-- what is told of what is used and of what is left -/
theorem Here.meter {w0 w : World} {p b q : Nat} {D : Dk.D} (h : Here w0 w p D) (hs : Dk.Small D b q) : ∃ u : Nat, u ≤ q ∧
    (∀ W, Here w0 W p D → Calls Try.prog 8 #[.pointer (some ⟨p, 0, none⟩)] W fun e w' => e = .returned (.int .i64 (u : Int)) ∧ Here w0 w' p D) ∧
    (∀ W, Here w0 W p D → Calls Try.prog 9 #[.pointer (some ⟨p, 0, none⟩)] W fun e w' => e = .returned (.int .i64 ((q : Int) - (u : Int))) ∧ Here w0 w' p D) := by
  have hO := h.dk.1
  refine ⟨Dk.sum D.files, by rw [← hs.quota]; exact hO.use, fun W hW => here_used hW, fun W hW => ?_⟩
  have := here_room hW
  rw [hs.quota] at this
  exact this

set_option maxRecDepth 100000 in
set_option maxHeartbeats 400000 in
theorem quota_any (x : Nat) (hx : x < 65536) (a : Option Addr) (n c : Nat) (hs : List AH) (w : World) (hi : AIn w a n c hs) :
    Calls Try.prog 3 #[.int .u16 (x : Int), .slice a n c] w fun e w' => e = .returned (.bool true) ∧ Below w.heap.size w w' := by
  have hlight := alight a n c hs w hi
  have haw := fun W => diskawake_any W
  have hlb := hi.row.2.1
  obtain ⟨q, hq⟩ : ∃ q : Nat, q = x % 600 := ⟨_, rfl⟩
  have hq6 : q ≤ 600 := by omega
  have hnew := fun W => here_new q W (by omega)
  have hrem : (x : Int) % 600 = (q : Int) := by omega
  clear hq
  go_enter Try.func3, Try.ntmps3
  go_wp2_with (first
    | (go_at_call 4; go_must (refine hlight.mono ?_; rintro e w1 ⟨r, rfl, hr, hb1⟩))
    | (go_at_call 5; go_must (refine (haw _).mono ?_; rintro e w2 ⟨rfl, hb2⟩))
    | (go_at_call 6; go_must (refine (hnew _).mono ?_; rintro e w2 ⟨p, rfl, hD2⟩)))
  · go_ret
    exact ⟨rfl, hb1.trans (hb2.mono hb1.size)⟩
  · obtain ⟨hn40, hbn⟩ := hr (by simpa using ‹(!r) = false›)
    have HBN : Hid (∀ i, i < n → (hs.getD i ahz).bn ≤ 300) := hbn
    have hi1 := hi.below hb1
    clear hr hbn hi hlight
    have hS2 := Dk.Small.new q
    clear hrem hnew
    go_loopw [8] (fun i wr => ∃ (k : Nat) (D : Dk.D), k ≤ n ∧ i = .int .i64 k ∧ Here w1 wr p D ∧ Dk.Small D k q) (fun i _ => n - (intOf i).toNat)
    case atStart => exact ⟨0, Dk.new q, by omega, rfl, hD2, hS2⟩
    case round =>
      clear hD2 hS2
      obtain ⟨k, D, hk, rfl, hDr, hSr⟩ := hrel
      by_cases hlt : k < n
      · obtain ⟨bb, off, rfl, hc⟩ := hi1.row.at (by omega)
        obtain ⟨bb', off', e', hc'⟩ := (hi1.row.below hDr.below (Nat.le_refl _)).at (by omega)
        simp only [Option.some.injEq, Addr.mk.injEq] at e'
        obtain ⟨rfl, rfl, _⟩ := e'
        obtain ⟨y0, y1, y2, y3, y4, y5, y6⟩ := act_cells (hc' k hlt)
        obtain ⟨bs, zs, ha⟩ := hi1.each k hlt
        have hb := HBN.out k hlt
        clear hc hc'
        generalize hs.getD k ahz = q0 at *
        obtain ⟨qd, qname, qto, qba, qbn, qbc, qn, qkn, qta, qtn, qtc⟩ := q0
        simp only at y0 y1 y2 y3 y4 y5 y6 hb
        have hdo := act_do hDr hSr (by omega) qd qname qto qba qbn qbc qn qkn qta qtn qtc bs zs ha hb
        have i0 : (0 : Int) ≤ (k : Int) := by omega
        have i1 : (k : Int) < (n : Int) := by omega
        clear ha
        go_wp2_with (first
          | (go_at_call 7; go_must (refine hdo.mono ?_; rintro e w3 ⟨D3, z3, rfl, hD3, hS3⟩; obtain ⟨u, hu, hused, hroom⟩ := hD3.meter hS3))
          | (go_at_call 8; have hz := hD5; go_must (refine (hused _ hD5).mono ?_; rintro e w6 ⟨rfl, hD6⟩))
          | (go_at_call 8; go_must (refine (hused _ hD3).mono ?_; rintro e w4 ⟨rfl, hD4⟩))
          | (go_at_call 9; have hz := hD6; go_must (refine (hroom _ hD6).mono ?_; rintro e w7 ⟨rfl, hD7⟩))
          | (go_at_call 9; go_must (refine (hroom _ hD4).mono ?_; rintro e w5 ⟨rfl, hD5⟩)))
        · exfalso
          rename_i hbad
          rcases hbad with hbad | hbad
          · omega
          · rw [bne_iff_ne] at hbad; omega
        · refine ⟨⟨k + 1, D3, by omega, by go_num, hD7, hS3⟩, ?_⟩
          simp [intOf]; omega
      · obtain rfl : k = n := by omega
        go_wp2_with (go_at_call 5; go_must (refine (haw _).mono ?_; rintro e w3 ⟨rfl, hb3⟩))
        go_ret
        have hb2 := hb1.trans (hDr.below.mono hb1.size)
        exact ⟨rfl, hb2.trans (hb3.mono hb2.size)⟩
end Go.Proofs.Ytefadkengfjdmaa
