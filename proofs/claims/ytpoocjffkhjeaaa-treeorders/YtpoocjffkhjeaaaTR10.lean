/- The law TreeOrders, given what is asked of the program. -/
import Derived.Test.YtpoocjffkhjeaaaTR9
namespace Go.Proofs.Ytpoocjffkhjeaaa
open Go.RowKit

set_option maxRecDepth 100000 in
set_option maxHeartbeats 4000000 in
theorem trorders_any {T : World → Addr → List It.I → (Nat → Prop) → Prop} (hC : TreeC T) (a : Option Addr) (n c : Nat) (gs : List IH) (xs : List It.I) (b : Option Addr) (m d : Nat) (ts : List Nat) (w : World) (hii : InI w a n c gs xs) (hts0 : m ≤ 200 → Row .u8 w b m ts) :
    Calls Try.prog 5 #[.slice a n c, .slice b m d] w fun e w' => e = .returned (.bool true) ∧ Below w.heap.size w w' := by
  have hA := fun W => trawake hC W
  by_cases hl : Fine gs n
  · have hL := trlightT a n c gs xs w hii.1 hl
    by_cases hm : m ≤ 200
    · have hts := hts0 hm
      clear hts0
      have d1 : decide ((200 : Int) < (m : Int)) = false := by simp; omega
      have hLl : (It.all xs).length ≤ 100 := Nat.le_trans (It.all_length xs) (hl.all hii.1).2
      have hall := fun W (h : Below w.heap.size w W) => iall_any w a n c gs xs W (by have := hl.1; omega) (hii.1.1.below h (Nat.le_refl _)) hii.1.2 h
      have hup : Hid (It.Up (It.all xs)) := It.up_all xs
      have hmem : Hid (∀ z ∈ It.all xs, It.may z = true) := (fun z hz => (It.all_mem hz).2 : ∀ z ∈ It.all xs, It.may z = true)
      generalize It.all xs = L at *
      have hsame := fun (w0 : World) (a1 a2 : Option Addr) (k1 k2 : Nat) (h1 h2 : List IH) W r1 i1 r2 i2 b1 b2 => isame_any w0 w a1 L.length k1 h1 L a2 L.length k2 h2 L W r1 i1 r2 i2 b1 b2
      simp only [same_self] at hsame
      have hnew := hC.new
      clear hl
      go_enter Try.func5, Try.ntmps5
      go_wp2_with (first
        | (at_builtin; have := c0_2; go_must (refine append_t itemE ihE (w0 := w2) (B := w2.heap.size) rfl (.tmp 21) (.tmp 22) rfl _ 0 [] rfl (made_t w2 (Nat.le_refl _) rfl) a2 L.length k2 hs2 rfl (hr2.below (below_alloc _ _) (Nat.le_refl _)) hn2 (by omega) (below_alloc _ _) (below_alloc _ _).size ?_; intro a3 k3 w3 hk3 hn3 _ hown3 hb3 _; rw [Nat.zero_add] at hk3 hn3 hown3; rw [List.nil_append] at hown3; rw [Nat.zero_add]))
        | (go_at_call 22; have := hown3; go_must (refine (hnew w3).mono ?_; rintro e w4 ⟨p, S1, rfl, hT1, hS1, hb4⟩))
        | (go_at_call 11; have := hb1; go_must (refine (hall _ hb1).mono ?_; rintro e w2 ⟨a2, k2, hs2, rfl, hk2, hn2, hr2, hI2, hb2⟩; have c0_2 := hb1.trans (hb2.mono hb1.size)))
        | (go_at_call 8; go_must (refine hL.mono ?_; rintro e w1 ⟨rfl, hb1⟩)))
      have hr3 : TRow 8 ih ihz w3 a3 L.length hs2 := trow_of_owns ihE hown3 (by omega) (by omega)
      have hone3 : TRow 8 ih ihz w3 a2 L.length hs2 := hr2.below hb3 (Nat.le_refl _)
      have c0_3 : Below w.heap.size w w3 := c0_2.trans (hb3.mono c0_2.size)
      have hal : ∀ p, a3 = some p → p.block < w3.heap.size := fun p hp => by subst hp; exact (hown3.lt p.block (by cases p; rfl)).2
      clear hL hall hnew hb1 hb2 hr2 hown3 hk2 d1
      have HS1 : Hid (∀ k, S1 k → w3.heap.size ≤ k) := hS1
      have Hrow1 : Hid (∀ W, Only S1 w4 W → TRow 8 ih ihz W a3 L.length hs2) := (fun W hW => hr3.below (hW.below hS1 hb4 hb4.size) (Nat.le_refl _) : ∀ W, Only S1 w4 W → TRow 8 ih ihz W a3 L.length hs2)
      have HI2 : Hid (ItAll w hs2 L) := hI2
      have Hone : Hid (TRow 8 ih ihz w3 a2 L.length hs2) := hone3
      clear hS1 hI2 hone3 hr3 hal
      go_loopw [6, 8] (fun v i wr => ∃ (ii q cc : Nat) (g : Option Addr) (S : Nat → Prop) (P D Z : List It.I) (O : List IH), ii + q = L.length ∧ v = .slice g q cc ∧ i = .int .i64 ii ∧ q ≤ cc ∧ (g = none → q = 0 ∧ cc = 0) ∧ Hid ((D ++ Z).Perm L) ∧ Hid (P = D.foldl It.put []) ∧ Hid (ItAll w O Z) ∧ T wr p P S ∧ Hid (∀ k, S k → w3.heap.size ≤ k) ∧ Hid (∀ W, Only S wr W → TRow 8 ih ihz W g q O) ∧ Below w3.heap.size w3 wr) (fun _ i _ => L.length - (intOf i).toNat)
      case atStart => exact ⟨0, L.length, k3, a3, S1, [], [], L, hs2, by omega, rfl, rfl, hk3, hn3, (List.Perm.refl _ : ([] ++ L).Perm L), (rfl : ([] : List It.I) = [].foldl It.put []), HI2, hT1, HS1, Hrow1, hb4⟩
      case round =>
        obtain ⟨ii, q, cc, g, S, P, D, Z, O, hiq, rfl, rfl, hqc, hgn, HD, HP, HI, hT, HS, Hrow, hbel⟩ := hrel
        clear hT1 hb4 hk3 hn3 Hrow1 HS1
        have c0r : Below w.heap.size w wr := c0_3.trans (hbel.mono c0_3.size)
        have hr := Hrow.out wr (Only.refl _ _)
        have hZl : Hid (Z.length = q) := (HI.out.1.symm.trans hr.1 : Z.length = q)
        rcases Nat.eq_zero_or_pos q with h0 | h0
        · subst h0
          have hPL : P = L := by
            have hz : Z = [] := List.length_eq_zero_iff.mp hZl.out
            have h1 := HD.out
            rw [hz, List.append_nil] at h1
            rw [HP.out]
            exact It.put_any hup.out h1
          rw [hPL] at hT
          have hallT := fun W (h : T W p L S) => hC.all p L S W h (by omega)
          clear HP HD hPL Hrow hr hZl HI
          go_wp2_with (first
            | (go_at_call 9; have := hb6; go_must (refine (hA _).mono ?_; rintro e w7 ⟨rfl, hb7⟩; have c0_7 := c0_6.trans (hb7.mono c0_6.size)))
            | (go_at_call 12; have := hi5; go_must (refine (hsame w5 _ _ _ _ _ _ _ hi5.1.1 hi5.1.2 (Hone.out.below c3_5 (Nat.le_refl _)) HI2.out (Below.refl _ _) c0_5).mono ?_; rintro e w6 ⟨rfl, hb6⟩; have c0_6 := c0_5.trans (hb6.mono c0_5.size)))
            | (go_at_call 13; go_must (refine (hallT _ hT).mono ?_; rintro e w5 ⟨a5, k5, hs5, rfl, hi5, hb5⟩; have c0_5 := c0r.trans (hb5.mono c0r.size); have c3_5 := hbel.trans (hb5.mono hbel.size))))
          go_ret
          exact ⟨by simp, c0_7⟩
        · obtain ⟨gb, go, rfl, hc⟩ := hr.items h0
          have hPl : P.length ≤ 1000 := by
            have h1 := It.all_len D []
            rw [← HP.out] at h1
            have h2 := HD.out.length_eq
            rw [List.length_append] at h2
            simp only [List.length_nil, Nat.zero_add] at h1
            omega
          have d0 : decide ((0 : Int) < (q : Int)) = true := by simp; omega
          by_cases him : ii < m
          · have dm : decide ((ii : Int) < (m : Int)) = true := by simp; omega
            obtain ⟨tb, to, rfl, htc⟩ := hts.at (by omega)
            have ht := (htc ii him)
            have ht2 := (c0r.cell (cell_lt ht)).trans ht
            have htl : Hid (ts.getD ii 0 < 256) := (by
              have h1 : ii < ts.length := by rw [hts.1]; exact him
              rw [show ts.getD ii 0 = ts[ii] by simp [h1]]
              exact hts.2.2.1 _ (List.getElem_mem h1) : ts.getD ii 0 < 256)
            generalize ts.getD ii 0 = t at *
            have ht256 : t < 256 := htl.out
            obtain ⟨J, hJ⟩ : ∃ J, J = t % q := ⟨_, rfl⟩
            have hJq : J < q := by rw [hJ]; exact Nat.mod_lt _ h0
            have jr : Int.tmod (t : Int) (q : Int) = (J : Int) := by rw [hJ, ← Int.ofNat_tmod]
            have jq : IntKind.i64.wrap (t : Int) = (t : Int) := by rw [IntKind.wrap_i64]; omega
            have hnz : ¬ ((q : Int) = 0) := by omega
            have hdn : ((q : Int) == 0) = false := by rw [beq_eq_false_iff_ne]; omega
            have i5 : (0 : Int) ≤ (ii : Int) := by omega
            clear hJ htc ht htl
            have hck := hc J hJq
            have Hy := HI.out.2 J (by rw [hZl.out]; exact hJq)
            have hmay := hmem.out _ (It.mem_left HD.out (by rw [hZl.out]; exact hJq))
            have HD2 := It.perm_out HD.out (k := J) (by rw [hZl.out]; exact hJq)
            have hput := fun W (hW : Below w.heap.size w W) (hT : T W p P S) => hC.put p P S _ _ W hT hPl (Hy.below hW (Nat.le_refl _))
            simp only [hmay, if_true] at hput
            have HI3 : Hid (ItAll w (O.take J ++ O.drop (J + 1)) (Z.take J ++ Z.drop (J + 1))) := ((HI.out.take _).append (HI.out.drop _) : ItAll w (O.take J ++ O.drop (J + 1)) (Z.take J ++ Z.drop (J + 1)))
            generalize O.getD J ihz = qh at *
            generalize Z.getD J It.zero = y at *
            have HD3 : Hid (((D ++ [y]) ++ (Z.take J ++ Z.drop (J + 1))).Perm L) := HD2
            obtain ⟨P2, hP2⟩ : ∃ P2, P2 = It.put P y := ⟨_, rfl⟩
            have HP2 : Hid (P2 = (D ++ [y]).foldl It.put []) := (by rw [hP2, List.foldl_append, ← HP.out]; rfl : P2 = (D ++ [y]).foldl It.put [])
            rw [← hP2] at hput
            obtain ⟨key, dead, far, qa, qn, qc, ⟨p1, p2, p3, p4⟩⟩ := qh
            obtain ⟨y0, y1, y2, y3, y4, y5, y6, y7⟩ := hck
            simp only at y0 y1 y2 y3 y4 y5 y6 y7 hput
            have i0 : (0 : Int) ≤ (J : Int) := by omega
            have i1 : (J : Int) < (q : Int) := by omega
            clear hc Hy hmay HD2 hP2 HD HP HI hr
            go_wp2_with (go_at_call 23; go_must (refine (hput _ c0r hT).mono ?_; rintro e w5 ⟨S2, rfl, hT2, hS2, ho2⟩))
            have hw5 : Below w3.heap.size w3 w5 := ho2.below HS.out hbel hbel.size
            have HS2 : Hid (∀ k, S2 k → w3.heap.size ≤ k) := (fun k hk => by rcases hS2 k hk with h | h; exact HS.out k h; exact Nat.le_trans hbel.size h : ∀ k, S2 k → w3.heap.size ≤ k)
            have hr5 := Hrow.out w5 ho2
            have hrT := hr5.take J (by omega)
            have hrD := hr5.drop (J + 1) (by omega)
            obtain ⟨N1, hN1⟩ : ∃ N1, N1 = J + 1 := ⟨_, rfl⟩
            have HN1 : Hid (N1 = J + 1) := hN1
            have jn : IntKind.i64.wrap ((J : Int) + 1) = (N1 : Int) := by rw [IntKind.wrap_i64]; omega
            have j1 : (0 : Int) ≤ (N1 : Int) := by omega
            have j2 : (N1 : Int) ≤ (q : Int) := by omega
            have j3 : (J : Int) ≤ (cc : Int) := by omega
            have j4 : (q : Int) ≤ (cc : Int) := by omega
            have j5 : N1 ≤ q := by omega
            rw [← hN1] at hrD HI3 HD3
            clear hN1 y0 y1 y2 y3 y4 y5 y6 y7 hput Hrow HS hT hS2 ho2 hr5 ht2 jr jq
            by_cases hcN : cc = N1
            · subst hcN
              obtain rfl : q = cc := by omega
              have hrN : ∀ W ax, TRow 8 ih ihz W ax 0 (O.drop q) := fun W ax => by
                have h1 := hrD.1
                rw [show O.drop q = [] from List.length_eq_zero_iff.mp (by omega)]
                exact TRow.nil _ _
              go_wp2_with fail
              go_region_held3 (fun _ => True) (first | go_keep | trivial)
                (first
                  | ((have := hown6; refine step_t itemE ihE (w0 := w5) (B := w5.heap.size) (by rfl) _ _ (by rfl) _ _ _ (by rfl) hown6 _ 0 _ (O.drop q) (by rfl) (hrN _ _) (fun h => by cases h) (by omega) hb6 hb6.size ?_; intro a7 c7 w7 hc7 hn7 _ hown7 hb7 _))
                  | ((refine step_t itemE ihE (w0 := w5) (B := w5.heap.size) (by rfl) _ _ (by rfl) _ 0 [] (by rfl) (owns_below (made_t w5 (Nat.le_refl _) rfl) (Below.refl _ _).drew) (some ⟨gb, go, none⟩) J q (O.take J) (by rfl) (hrT.below (below_alloc _ _).drew (Nat.le_refl _)) (fun h => by cases h) (by omega) (below_alloc _ _).drew (below_alloc _ _).drew.size ?_; intro a6 c6 w6 hc6 hn6 _ hown6 hb6 _)))
              have e0 : J + 0 + 1 = q := by have := HN1.out; omega
              rw [Nat.zero_add] at hc7 hn7 hown7
              rw [List.nil_append] at hown7
              have hr7 : TRow 8 ih ihz w7 a7 (J + 0) (O.take J ++ O.drop q) := trow_of_owns ihE hown7 (by omega) (by omega)
              have Hrow7 : Hid (∀ W, Only S2 w7 W → TRow 8 ih ihz W a7 (J + 0) (O.take J ++ O.drop q)) := (fun W hW => hr7.only hW (fun p hp => by
                subst hp
                have h1 := hown7.lt p.block (by cases p; rfl)
                exact ⟨h1.2, fun hs => by have := hC.foot hT2 _ hs; have := h1.1; omega⟩) : ∀ W, Only S2 w7 W → TRow 8 ih ihz W a7 (J + 0) (O.take J ++ O.drop q))
              have hT7 := hC.on hT2 hb7
              clear hr7 hown7 hown6 hT2
              go_wp2
              go_roundw
              case rel => exact ⟨ii + 1, J + 0, c7, a7, S2, P2, D ++ [y], Z.take J ++ Z.drop q, O.take J ++ O.drop q, by omega, rfl, by go_num, hc7, hn7, HD3, HP2, HI3, hT7, HS2, Hrow7, hw5.trans (hb7.mono hw5.size)⟩
              case measure => simp [intOf]; omega
            · go_wp2_with fail
              go_region_held3 (fun _ => True) (first | go_keep | trivial)
                (first
                  | ((have := hown6; refine step_t itemE ihE (w0 := w5) (B := w5.heap.size) (by rfl) _ _ (by rfl) _ _ _ (by rfl) hown6 (some ⟨gb, go + N1 * 8, none⟩) (q - N1) _ (O.drop N1) (by rfl) (hrD.below hb6 (Nat.le_refl _)) (fun h => by cases h) (by omega) hb6 hb6.size ?_; intro a7 c7 w7 hc7 hn7 _ hown7 hb7 _))
                  | ((refine step_t itemE ihE (w0 := w5) (B := w5.heap.size) (by rfl) _ _ (by rfl) _ 0 [] (by rfl) (owns_below (made_t w5 (Nat.le_refl _) rfl) (Below.refl _ _).drew) (some ⟨gb, go, none⟩) J cc (O.take J) (by rfl) (hrT.below (below_alloc _ _).drew (Nat.le_refl _)) (fun h => by cases h) (by omega) (below_alloc _ _).drew (below_alloc _ _).drew.size ?_; intro a6 c6 w6 hc6 hn6 _ hown6 hb6 _)))
              have e0 : J + (q - N1) + 1 = q := by have := HN1.out; omega
              rw [Nat.zero_add] at hc7 hn7 hown7
              rw [List.nil_append] at hown7
              have hr7 : TRow 8 ih ihz w7 a7 (J + (q - N1)) (O.take J ++ O.drop N1) := trow_of_owns ihE hown7 (by omega) (by omega)
              have Hrow7 : Hid (∀ W, Only S2 w7 W → TRow 8 ih ihz W a7 (J + (q - N1)) (O.take J ++ O.drop N1)) := (fun W hW => hr7.only hW (fun p hp => by
                subst hp
                have h1 := hown7.lt p.block (by cases p; rfl)
                exact ⟨h1.2, fun hs => by have := hC.foot hT2 _ hs; have := h1.1; omega⟩) : ∀ W, Only S2 w7 W → TRow 8 ih ihz W a7 (J + (q - N1)) (O.take J ++ O.drop N1))
              have hT7 := hC.on hT2 hb7
              clear hr7 hown7 hown6 hT2
              go_wp2
              go_roundw
              case rel => exact ⟨ii + 1, J + (q - N1), c7, a7, S2, P2, D ++ [y], Z.take J ++ Z.drop N1, O.take J ++ O.drop N1, by omega, rfl, by go_num, hc7, hn7, HD3, HP2, HI3, hT7, HS2, Hrow7, hw5.trans (hb7.mono hw5.size)⟩
              case measure => simp [intOf]; omega
          · have dm : decide ((ii : Int) < (m : Int)) = false := by simp; omega
            have hJq : 0 < q := h0
            have hck := hc 0 hJq
            have Hy := HI.out.2 0 (by rw [hZl.out]; exact hJq)
            have hmay := hmem.out _ (It.mem_left HD.out (by rw [hZl.out]; exact hJq))
            have HD2 := It.perm_out HD.out (k := 0) (by rw [hZl.out]; exact hJq)
            have hput := fun W (hW : Below w.heap.size w W) (hT : T W p P S) => hC.put p P S _ _ W hT hPl (Hy.below hW (Nat.le_refl _))
            simp only [hmay, if_true] at hput
            have HI3 : Hid (ItAll w (O.take 0 ++ O.drop (1)) (Z.take 0 ++ Z.drop (1))) := ((HI.out.take _).append (HI.out.drop _) : ItAll w (O.take 0 ++ O.drop (1)) (Z.take 0 ++ Z.drop (1)))
            generalize O.getD 0 ihz = qh at *
            generalize Z.getD 0 It.zero = y at *
            have HD3 : Hid (((D ++ [y]) ++ (Z.take 0 ++ Z.drop (1))).Perm L) := HD2
            obtain ⟨P2, hP2⟩ : ∃ P2, P2 = It.put P y := ⟨_, rfl⟩
            have HP2 : Hid (P2 = (D ++ [y]).foldl It.put []) := (by rw [hP2, List.foldl_append, ← HP.out]; rfl : P2 = (D ++ [y]).foldl It.put [])
            rw [← hP2] at hput
            obtain ⟨key, dead, far, qa, qn, qc, ⟨p1, p2, p3, p4⟩⟩ := qh
            obtain ⟨y0, y1, y2, y3, y4, y5, y6, y7⟩ := hck
            simp only [Nat.zero_mul, Nat.add_zero] at y0 y1 y2 y3 y4 y5 y6 y7 hput
            have i0 : (0 : Int) ≤ (0 : Int) := by omega
            have i1 : (0 : Int) < (q : Int) := by omega
            clear hc Hy hmay HD2 hP2 HD HP HI hr
            go_wp2_with (go_at_call 23; go_must (refine (hput _ c0r hT).mono ?_; rintro e w5 ⟨S2, rfl, hT2, hS2, ho2⟩))
            have hw5 : Below w3.heap.size w3 w5 := ho2.below HS.out hbel hbel.size
            have HS2 : Hid (∀ k, S2 k → w3.heap.size ≤ k) := (fun k hk => by rcases hS2 k hk with h | h; exact HS.out k h; exact Nat.le_trans hbel.size h : ∀ k, S2 k → w3.heap.size ≤ k)
            have hr5 := Hrow.out w5 ho2
            have hrT := hr5.take 0 (by omega)
            have hrD := hr5.drop (1) (by omega)
            have jn : IntKind.i64.wrap 1 = 1 := by rw [IntKind.wrap_i64]; omega
            have j1 : (1 : Int) ≤ (q : Int) := by omega
            have j2 : (1 : Int) ≤ (cc : Int) := by omega
            have j3 : (0 : Int) ≤ (cc : Int) := by omega
            have j4 : (q : Int) ≤ (cc : Int) := by omega
            clear y0 y1 y2 y3 y4 y5 y6 y7 hput Hrow HS hT hS2 ho2 hr5
            by_cases hcN : cc = 1
            · subst hcN
              obtain rfl : q = 1 := by omega
              have hrN : ∀ W ax, TRow 8 ih ihz W ax 0 (O.drop 1) := fun W ax => by
                have h1 := hrD.1
                rw [show O.drop 1 = [] from List.length_eq_zero_iff.mp (by omega)]
                exact TRow.nil _ _
              go_wp2_with fail
              go_region_held3 (fun _ => True) (first | go_keep | trivial)
                (first
                  | ((have := hown6; refine step_t itemE ihE (w0 := w5) (B := w5.heap.size) (by rfl) _ _ (by rfl) _ _ _ (by rfl) hown6 _ 0 _ (O.drop 1) (by rfl) (hrN _ _) (fun h => by cases h) (by omega) hb6 hb6.size ?_; intro a7 c7 w7 hc7 hn7 _ hown7 hb7 _))
                  | ((refine step_t itemE ihE (w0 := w5) (B := w5.heap.size) (by rfl) _ _ (by rfl) _ 0 [] (by rfl) (owns_below (made_t w5 (Nat.le_refl _) rfl) (Below.refl _ _).drew) (some ⟨gb, go, none⟩) 0 1 (O.take 0) (by rfl) (hrT.below (below_alloc _ _).drew (Nat.le_refl _)) (fun h => by cases h) (by omega) (below_alloc _ _).drew (below_alloc _ _).drew.size ?_; intro a6 c6 w6 hc6 hn6 _ hown6 hb6 _)))
              have e0 : 0 + 1 = 1 := by omega
              simp only [Nat.zero_add, List.nil_append] at hc7 hn7 hown7
              have hr7 : TRow 8 ih ihz w7 a7 0 (O.take 0 ++ O.drop 1) := trow_of_owns ihE hown7 (by omega) (by omega)
              have Hrow7 : Hid (∀ W, Only S2 w7 W → TRow 8 ih ihz W a7 0 (O.take 0 ++ O.drop 1)) := (fun W hW => hr7.only hW (fun p hp => by
                subst hp
                have h1 := hown7.lt p.block (by cases p; rfl)
                exact ⟨h1.2, fun hs => by have := hC.foot hT2 _ hs; have := h1.1; omega⟩) : ∀ W, Only S2 w7 W → TRow 8 ih ihz W a7 0 (O.take 0 ++ O.drop 1))
              have hT7 := hC.on hT2 hb7
              clear hr7 hown7 hown6 hT2
              go_wp2
              go_roundw
              case rel => exact ⟨ii + 1, 0, c7, a7, S2, P2, D ++ [y], Z.take 0 ++ Z.drop 1, O.take 0 ++ O.drop 1, by omega, rfl, by go_num, hc7, (fun h => ⟨rfl, (hn7 h).2⟩), HD3, HP2, HI3, hT7, HS2, Hrow7, hw5.trans (hb7.mono hw5.size)⟩
              case measure => simp [intOf]; omega
            · have g1 : ¬ 1 = cc := fun h => hcN h.symm
              have g2 : ¬ (cc : Int) = 1 := by omega
              have g3 : ¬ (1 : Int) = (cc : Int) := by omega
              have g4 : ¬ cc - 1 = 0 := by omega
              have g5 : ¬ cc ≤ 1 := by omega
              have g6 : 1 < cc := by omega
              go_wp2_with fail
              go_region_held3 (fun _ => True) (first | go_keep | trivial)
                (first
                  | ((have := hown6; refine step_t itemE ihE (w0 := w5) (B := w5.heap.size) (by rfl) _ _ (by rfl) _ _ _ (by rfl) hown6 (some ⟨gb, go + 1 * 8, none⟩) (q - 1) _ (O.drop 1) (by rfl) (hrD.below hb6 (Nat.le_refl _)) (fun h => by cases h) (by omega) hb6 hb6.size ?_; intro a7 c7 w7 hc7 hn7 _ hown7 hb7 _))
                  | ((refine step_t itemE ihE (w0 := w5) (B := w5.heap.size) (by rfl) _ _ (by rfl) _ 0 [] (by rfl) (owns_below (made_t w5 (Nat.le_refl _) rfl) (Below.refl _ _).drew) (some ⟨gb, go, none⟩) 0 cc (O.take 0) (by rfl) (hrT.below (below_alloc _ _).drew (Nat.le_refl _)) (fun h => by cases h) (by omega) (below_alloc _ _).drew (below_alloc _ _).drew.size ?_; intro a6 c6 w6 hc6 hn6 _ hown6 hb6 _)))
              have e0 : (q - 1) + 1 = q := by omega
              simp only [Nat.zero_add, List.nil_append] at hc7 hn7 hown7
              have hr7 : TRow 8 ih ihz w7 a7 ((q - 1)) (O.take 0 ++ O.drop 1) := trow_of_owns ihE hown7 (by omega) (by omega)
              have Hrow7 : Hid (∀ W, Only S2 w7 W → TRow 8 ih ihz W a7 ((q - 1)) (O.take 0 ++ O.drop 1)) := (fun W hW => hr7.only hW (fun p hp => by
                subst hp
                have h1 := hown7.lt p.block (by cases p; rfl)
                exact ⟨h1.2, fun hs => by have := hC.foot hT2 _ hs; have := h1.1; omega⟩) : ∀ W, Only S2 w7 W → TRow 8 ih ihz W a7 ((q - 1)) (O.take 0 ++ O.drop 1))
              have hT7 := hC.on hT2 hb7
              clear hr7 hown7 hown6 hT2
              go_wp2
              go_roundw
              case rel => exact ⟨ii + 1, (q - 1), c7, a7, S2, P2, D ++ [y], Z.take 0 ++ Z.drop 1, O.take 0 ++ O.drop 1, by omega, rfl, by go_num, hc7, hn7, HD3, HP2, HI3, hT7, HS2, Hrow7, hw5.trans (hb7.mono hw5.size)⟩
              case measure => simp [intOf]; omega
    · have d1 : decide ((200 : Int) < (m : Int)) = true := by simp; omega
      go_enter Try.func5, Try.ntmps5
      go_wp2_with (first
        | (go_at_call 9; have := c0_1; go_must (refine (hA _).mono ?_; rintro e w2 ⟨rfl, hb2⟩; have c0_2 := c0_1.trans (hb2.mono c0_1.size); have c1_2 := hb2))
        | (go_at_call 8; go_must (refine (hL).mono ?_; rintro e w1 ⟨rfl, hb1⟩; have c0_1 := hb1)))
      go_ret
      exact ⟨rfl, c0_2⟩
  · have hL := trlightF a n c gs xs w hii.1 hl
    go_enter Try.func5, Try.ntmps5
    go_wp2_with (first
      | (go_at_call 9; have := c0_1; go_must (refine (hA _).mono ?_; rintro e w2 ⟨rfl, hb2⟩; have c0_2 := c0_1.trans (hb2.mono c0_1.size); have c1_2 := hb2))
      | (go_at_call 8; go_must (refine (hL).mono ?_; rintro e w1 ⟨rfl, hb1⟩; have c0_1 := hb1)))
    go_ret
    exact ⟨rfl, c0_2⟩
end Go.Proofs.Ytpoocjffkhjeaaa
