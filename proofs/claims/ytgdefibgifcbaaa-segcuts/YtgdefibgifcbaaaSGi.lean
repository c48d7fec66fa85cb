/- The law SegCuts. -/
import Derived.Test.YtgdefibgifcbaaaSGh
namespace Go.Proofs.Ytgdefibgifcbaaa
open Go.RowKit

set_option maxRecDepth 100000 in
set_option maxHeartbeats 1000000 in
/-- where nothing is asked but the example -/
theorem sgcuts_dark (a : Option Addr) (len cap : Nat) (hs : List VH) (vs : List (List Nat)) (n : Int) (w : World) (hi : InV w a len cap hs vs) (hls : ∀ v ∈ vs, v.length ≤ 140737488355328) (hlb : len ≤ 140737488355328)
    (hd : Sg.lightB vs = false ∨ Sg.longB vs = true) :
    Calls Try.prog 6 #[.slice a len cap, .int .u16 n] w fun e w' => e = .returned (.bool true) ∧ Below w.heap.size w w' := by
  have hlt := slight_any a len cap hs vs w hi hls hlb
  have hlg := slong_any a len cap hs vs w hi hls hlb
  have haw := sgawake_any w
  generalize Sg.lightB vs = B1 at *
  generalize Sg.longB vs = B2 at *
  clear hi hls
  cases B1
  · go_enter Try.func6, Try.ntmps6
    go_wp2_with (first
      | (go_at_call 7; refine hlt.mono ?_; rintro e w1 ⟨rfl, rfl⟩)
      | (go_at_call 8; go_must (refine haw.mono ?_; rintro e w7 ⟨rfl, hbel7⟩)))
    go_ret
    exact ⟨rfl, hbel7⟩
  · obtain rfl : B2 = true := by simpa using hd
    go_enter Try.func6, Try.ntmps6
    go_wp2_with (first
      | (go_at_call 7; refine hlt.mono ?_; rintro e w1 ⟨rfl, hw1⟩; obtain rfl := hw1.symm)
      | (go_at_call 14; refine hlg.mono ?_; rintro e w2 ⟨rfl, hw2⟩; obtain rfl := hw2.symm)
      | (go_at_call 8; go_must (refine haw.mono ?_; rintro e w7 ⟨rfl, hbel7⟩)))
    go_ret
    exact ⟨rfl, hbel7⟩

theorem shape_cut {a : Option Addr} {n c q : Nat} (h : Shape a n c) (hq : q ≤ n) : Shape a q c := by
  rcases h with ⟨h1, h2⟩ | ⟨b, off, h1, h2⟩
  · exact .inl ⟨by omega, h2⟩
  · exact .inr ⟨b, off, h1, by omega⟩
theorem row4_cap {w : World} {B e n c : Nat} {a : Option Addr} {xs : List Value} (h : w.ownsRow B e 4 (.slice a n c) n xs) : n ≤ c := by
  rcases h.2 with ⟨e, h0⟩ | ⟨g, cap, cur, e, _, _, hnc, _⟩
  · omega
  · simp only [Value.slice.injEq] at e
    omega
theorem PRow.cut {w : World} {a : Option Addr} {n : Nat} {ps : List Po.P} (h : PRow w a n ps) (m : Nat) (hm : m ≤ n) : PRow w a m (ps.take m) := by
  obtain ⟨h1, h2, h3⟩ := h
  refine ⟨by rw [List.length_take]; omega, by omega, ?_⟩
  rcases h3 with h0 | ⟨b, off, e, hc⟩
  · exact .inl (by omega)
  · refine .inr ⟨b, off, e, fun i hi => ?_⟩
    have := hc i (by omega)
    have e2 : (ps.take m).getD i Po.zero = ps.getD i Po.zero := by
      rw [List.getD_eq_getElem?_getD, List.getD_eq_getElem?_getD, List.getElem?_take, if_pos hi]
    rw [e2]; exact this

set_option maxRecDepth 100000 in
set_option maxHeartbeats 2000000 in
theorem sgcuts_any (a : Option Addr) (len cap : Nat) (hs : List VH) (vs : List (List Nat)) (n : Nat) (w : World) (hi : InV w a len cap hs vs) (hls : ∀ v ∈ vs, v.length ≤ 140737488355328) (hlb : len ≤ 140737488355328)
    (hn : n < 65536) (hL : Sg.lightB vs = true) (hG : Sg.longB vs = false) :
    Calls Try.prog 6 #[.slice a len cap, .int .u16 (n : Nat)] w fun e w' => e = .returned (.bool true) ∧ Below w.heap.size w w' := by
  have hlt := slight_any a len cap hs vs w hi hls hlb
  have hlg := slong_any a len cap hs vs w hi hls hlb
  rw [hL] at hlt
  rw [hG] at hlg
  have hsm := Sg.small_of hi hG
  have hvl : Hid (vs.length = len) := hi.len
  have hlight := hL
  simp only [Sg.lightB, decide_eq_true_eq] at hlight
  rw [hvl.out] at hlight
  have hpl := Sg.put_len vs hsm
  rw [hvl.out] at hpl
  have hput := sput_any a len cap hs vs w hi hsm (by omega) (by rw [Sg.tot_fr]; omega)
  have hpsm := Sg.put_small hsm
  obtain ⟨B, hB⟩ : ∃ B, B = (Sg.put vs).length := ⟨_, rfl⟩
  rw [← hB] at hpl
  have hB5 : B ≤ 21000 := by omega
  have hlen40 : len ≤ 40 := hlight.1
  have hput : Calls Try.prog 9 #[.slice a len cap] w fun e w' => ∃ a c, e = .returned (.tuple #[.slice a B c, .int .i64 0]) ∧ w'.ownsRow w.heap.size 5 1 (.slice a B c) B (kcells .u8 (Sg.put vs)) ∧ Below w.heap.size w w' := by
    rw [hB]; exact hput
  obtain ⟨q, hq⟩ : ∃ q : Nat, q = n % (B + 1) := ⟨_, rfl⟩
  have hqB : q ≤ B := by rw [hq]; have := Nat.mod_lt n (show 0 < B + 1 by omega); omega
  obtain ⟨m, hm1, hm2, hm3, hm4⟩ := Sg.walk_cut hsm q (by rw [← hB]; exact hqB)
  have hmk : m < len → q < (Sg.put (vs.take m)).length + Fr.size (vs.getD m []).length := by rw [← hvl.out]; exact hm4
  rw [hvl.out] at hm1
  have hfits := Sg.walk_fits (1 : Int) (by omega) hpsm (by rw [← hB]; omega)
  have hwk := fun W aa nn cc (bs : List Nat) (h1 : nn ≤ 100000) (h : Row .u8 W aa nn bs) (hs : Shape aa nn cc) => swalk_any 1 (by omega) (by omega) aa nn cc bs W h1 hs h
  have hwA : ∀ W aa cc, Row .u8 W aa B (Sg.put vs) → Shape aa B cc → Calls Try.prog 17 #[.int .i64 1, .slice aa B cc] W fun e w' => ∃ a c, e = .returned (.tuple #[.slice a len c, .int .i64 (B : Nat)]) ∧ w'.ownsRow W.heap.size 32 4 (.slice a len c) len (pcells (Sg.pts 1 0 vs)) ∧ Below W.heap.size W w' := by
    intro W aa cc h1 h2
    have h := hwk W aa B cc (Sg.put vs) (by omega) h1 h2
    rw [Sg.walk_all hsm] at h
    refine h.mono ?_
    rintro e w' ⟨a, c, e1, e2, e3⟩
    simp only [Sg.pts_length, hvl.out, ← hB] at e1 e2
    exact ⟨a, c, e1, e2, e3⟩
  have hwC : ∀ W aa cc, Row .u8 W aa q ((Sg.put vs).take q) → Shape aa q cc → Calls Try.prog 17 #[.int .i64 1, .slice aa q cc] W fun e w' => ∃ a c, e = .returned (.tuple #[.slice a m c, .int .i64 ((Sg.put (vs.take m)).length : Nat)]) ∧ w'.ownsRow W.heap.size 32 4 (.slice a m c) m (pcells ((Sg.pts 1 0 vs).take m)) ∧ Below W.heap.size W w' := by
    intro W aa cc h1 h2
    have h := hwk W aa q cc ((Sg.put vs).take q) (by omega) h1 h2
    rw [hm2] at h
    refine h.mono ?_
    rintro e w' ⟨a, c, e1, e2, e3⟩
    rw [Sg.pts_take 1 0 vs m (by rw [hvl.out]; exact hm1)]
    simp only [Sg.pts_length, List.length_take, hvl.out, Nat.min_eq_left hm1] at e1 e2
    exact ⟨a, c, e1, e2, e3⟩
  rw [Sg.walk_all hsm] at hfits
  simp only at hfits
  have hptm : m < len → (Sg.pts 1 0 vs).getD m Po.zero = Sg.pt 1 (Sg.put (vs.take m)).length (vs.getD m []) := fun h => Sg.pts_get 1 vs m (by rw [hvl.out]; exact h)
  have hplen : Hid ((Sg.pts 1 0 vs).length = len) := (by rw [Sg.pts_length, hvl.out] : (Sg.pts 1 0 vs).length = len)
  have hEq : m < len → (Sg.put (vs.take m)).length + Fr.size (vs.getD m []).length ≤ 21000 := fun h => by
    have h1 := Sg.put_take_succ vs m (by rw [hvl.out]; exact h)
    have h2 := Sg.put_take_le vs (m + 1)
    omega
  obtain ⟨E, hE⟩ : ∃ E, E = (Sg.put (vs.take m)).length := ⟨_, rfl⟩
  rw [← hE] at hwC hm3 hmk hptm hEq
  have Hpsm : Hid (∀ x ∈ Sg.put vs, x < 256) := hpsm
  have Hfits : Hid (∀ p ∈ Sg.pts 1 0 vs, Po.Fits p) := hfits
  have Hq : Hid (q = n % (B + 1)) := hq
  have Hptm : Hid (m < len → (Sg.pts 1 0 vs).getD m Po.zero = Sg.pt 1 E (vs.getD m [])) := hptm
  have Hmk : Hid (m < len → q < E + Fr.size (vs.getD m []).length) := hmk
  have HEq : Hid (m < len → E + Fr.size (vs.getD m []).length ≤ 21000) := hEq
  generalize Sg.pts 1 0 vs = PL at *
  clear hpsm hfits hq hptm hE hmk hEq hm2 hm4 hwk hsm hlight hpl hL hG hB hls
  have hw1 : wrap64 ((B : Int) + 1) = ((B + 1 : Nat) : Int) := by unfold wrap64; omega
  have hi2 : IntKind.i64.wrap (n : Int) = (n : Int) := by rw [IntKind.wrap_i64]; omega
  have hmod : (n : Int) % ((B : Int) + 1) = (q : Int) := by rw [Hq.out]; rfl
  have hmod2 : n % (B + 1) = q := Hq.out.symm
  have hd1 : decide ((len : Int) < (m : Int)) = false := by simp; omega
  have hd2 : decide (len < m) = false := by simp; omega
  have hd3 : decide ((q : Int) < (E : Int)) = false := by simp; omega
  have hd4 : decide (q < E) = false := by simp; omega
  have haw := fun W => sgawake_any W
  by_cases hlm : m < len
  · skip
    go_enter Try.func6, Try.ntmps6
    go_wp2_with (first
      | (go_at_call 7; refine hlt.mono ?_; rintro e w1 ⟨rfl, hw1⟩; obtain rfl := hw1.symm)
      | (go_at_call 14; refine hlg.mono ?_; rintro e w2 ⟨rfl, hw2⟩; obtain rfl := hw2.symm)
      | (go_at_call 9; go_must (refine hput.mono ?_; rintro e w1 ⟨a1, c1, rfl, hown1, hbel1⟩; have hs1 := hbel1.size; have hrow1 := (row_of_owns hown1 Hpsm.out (by omega)).1; have hBc := (row_of_owns hown1 Hpsm.out (by omega)).2.2; have hqc : q ≤ c1 := Nat.le_trans hqB hBc; have hsh1 := own_shape hown1; have hshq := shape_cut hsh1 hqB; have hrowq := hrow1.take q hqB))
      | (go_at_call 17; have := hb2; go_must (refine (hwA _ _ _ hrow2 hsh1).mono ?_; rintro e w3 ⟨a3, c3, rfl, hown3, hbel3⟩; have hb3 := hb2.trans (hbel3.mono hb2.size); have hownp := owns_below hown2 hbel3; have hmc3 : m ≤ c3 := Nat.le_trans hm1 (row4_cap hown3)))
      | (go_at_call 17; refine (hwC _ _ _ hrowq hshq).mono ?_; rintro e w2 ⟨a2, c2, rfl, hown2, hbel2⟩; have hb2 := hbel1.trans (hbel2.mono hs1); have hrow2 := hrow1.below hbel2 (Nat.le_refl _)))
    obtain ⟨g, rfl, hgc⟩ := own_sm hown3 (by omega)
    obtain ⟨p0, p1, p2, p3⟩ := pcells_get PL m (by rw [hplen.out]; exact hlm)
    have q1 := own_cell hown3 _ _ p1
    have q2 := own_cell hown3 _ _ p2
    rw [Hptm.out hlm, Sg.pt] at q1 q2
    simp only at q1 q2
    have hk1 := Hmk.out hlm
    have hk2 := HEq.out hlm
    rw [Fr.size] at hk1 hk2
    have hhd : Sg.head (vs.getD m []).length = (Va.one (vs.getD m []).length).length + 1 := rfl
    rw [← hhd] at hk1 hk2
    clear hhd p0 p1 p2 p3
    generalize Sg.head (vs.getD m []).length = hd at *
    generalize (vs.getD m []).length = L at *
    have hlm1 : decide ((m : Int) < (len : Int)) = true := by simp; omega
    have hlm2 : decide (m < len) = true := by simp; omega
    have hle1 : decide ((E : Int) + (hd : Int) + (L : Int) + 4 ≤ (q : Int)) = false := by simp; omega
    have hle2 : decide (E + hd + L + 4 ≤ q) = false := by simp; omega
    have hsame := fun nq => psame_any a2 m c2 (PL.take m) (some ⟨g, 0, none⟩) m c3 (PL.take m) (w3.drewN nq) ((prow_of_owns hownp (fun p hp => Hfits.out p (List.mem_of_mem_take hp)) (by omega)).1.below (below_drewN _ _ _) (Nat.le_refl _)) (((prow_of_owns hown3 Hfits.out (by omega)).1.cut m hm1).below (below_drewN _ _ _) (Nat.le_refl _)) rfl
    go_quiet (fail)
    go_wp2_with (first
      | (go_at_call 21; go_must (refine (hsame _).mono ?_; rintro e w6 ⟨rfl, nq6, rfl⟩))
      | (go_at_call 8; go_must (refine (haw _).mono ?_; rintro e w7 ⟨rfl, hbel7⟩)))
    go_ret
    exact ⟨rfl, (hb3.trans (below_drewN _ _ _)).trans (hbel7.mono hb3.size)⟩
  · obtain rfl : m = len := by omega
    have hlm1 : decide ((m : Int) < (m : Int)) = false := by simp
    go_enter Try.func6, Try.ntmps6
    go_wp2_with (first
      | (go_at_call 7; refine hlt.mono ?_; rintro e w1 ⟨rfl, hw1⟩; obtain rfl := hw1.symm)
      | (go_at_call 14; refine hlg.mono ?_; rintro e w2 ⟨rfl, hw2⟩; obtain rfl := hw2.symm)
      | (go_at_call 9; go_must (refine hput.mono ?_; rintro e w1 ⟨a1, c1, rfl, hown1, hbel1⟩; have hs1 := hbel1.size; have hrow1 := (row_of_owns hown1 Hpsm.out (by omega)).1; have hBc := (row_of_owns hown1 Hpsm.out (by omega)).2.2; have hqc : q ≤ c1 := Nat.le_trans hqB hBc; have hsh1 := own_shape hown1; have hshq := shape_cut hsh1 hqB; have hrowq := hrow1.take q hqB))
      | (go_at_call 17; have := hb2; go_must (refine (hwA _ _ _ hrow2 hsh1).mono ?_; rintro e w3 ⟨a3, c3, rfl, hown3, hbel3⟩; have hb3 := hb2.trans (hbel3.mono hb2.size); have hownp := owns_below hown2 hbel3; have hmc3 : m ≤ c3 := Nat.le_trans hm1 (row4_cap hown3)))
      | (go_at_call 17; refine (hwC _ _ _ hrowq hshq).mono ?_; rintro e w2 ⟨a2, c2, rfl, hown2, hbel2⟩; have hb2 := hbel1.trans (hbel2.mono hs1); have hrow2 := hrow1.below hbel2 (Nat.le_refl _)))
    have hsame := fun nq => psame_any a2 m c2 (PL.take m) a3 m c3 (PL.take m) (w3.drewN nq) ((prow_of_owns hownp (fun p hp => Hfits.out p (List.mem_of_mem_take hp)) (by omega)).1.below (below_drewN _ _ _) (Nat.le_refl _)) (((prow_of_owns hown3 Hfits.out (by omega)).1.cut m hm1).below (below_drewN _ _ _) (Nat.le_refl _)) rfl
    go_quiet (fail)
    go_wp2_with (first
      | (go_at_call 21; go_must (refine (hsame _).mono ?_; rintro e w6 ⟨rfl, nq6, rfl⟩))
      | (go_at_call 8; go_must (refine (haw _).mono ?_; rintro e w7 ⟨rfl, hbel7⟩)))
    go_ret
    exact ⟨rfl, (hb3.trans (below_drewN _ _ _)).trans (hbel7.mono hb3.size)⟩
end Go.Proofs.Ytgdefibgifcbaaa
