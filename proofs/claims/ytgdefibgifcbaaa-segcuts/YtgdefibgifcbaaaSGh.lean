/- The law SegReads. -/
import Derived.Test.YtgdefibgifcbaaaSGe
import Derived.Test.YtgdefibgifcbaaaSGg
namespace Go.Proofs.Ytgdefibgifcbaaa
open Go.RowKit

theorem Sg.split (vs : List (List Nat)) (i : Nat) (hi : i < vs.length) (ms : List Nat) : Sg.put vs ++ ms = Sg.put (vs.take i) ++ (Va.one (vs.getD i []).length ++ (2 :: ((vs.getD i []) ++ (Fr.le4 (Crc.more 0 (2 :: (vs.getD i []))) ++ (Sg.put (vs.drop (i + 1)) ++ ms))))) := by
  have e : vs.getD i [] = vs[i] := by simp [hi]
  conv => lhs; rw [← List.take_append_drop i vs, List.drop_eq_getElem_cons hi, Sg.put_append, Sg.put_cons, ← e, Fr.put1]
  simp [List.append_assoc]
theorem Sg.value_put (k : Int) (hk1 : 1 ≤ k) (hk2 : k ≤ 2147483647) (vs : List (List Nat)) (h : Sg.Small vs) (i : Nat) (hi : i < vs.length) (ms : List Nat) (hl : (Sg.put vs).length ≤ 1000000000) :
    Sg.value (Sg.put vs ++ ms) (Sg.pt k (Sg.put (vs.take i)).length (vs.getD i [])) = (vs.getD i [], 0) := by
  have e : vs.getD i [] = vs[i] := by simp [hi]
  have hv : (vs.getD i []).length ≤ 4096 := by rw [e]; exact (h _ (List.getElem_mem hi)).1
  have hsp := Sg.split vs i hi ms
  have hle := Sg.put_take_le vs i
  generalize vs.getD i [] = v at *
  have hh := Fr.one3 (n := v.length) (by omega)
  have hhd : Sg.head v.length = (Va.one v.length).length + 1 := rfl
  have hm : Po.may (Sg.pt k (Sg.put (vs.take i)).length v) = true := by
    unfold Po.may Sg.pt; simp only [decide_eq_true_eq]; omega
  have hT : ∃ T, Sg.put vs ++ ms = (Sg.put (vs.take i) ++ Va.one v.length ++ [2]) ++ (v ++ T) ∧ (Sg.put (vs.take i) ++ Va.one v.length ++ [2]).length = (Sg.put (vs.take i)).length + Sg.head v.length :=
    ⟨Fr.le4 (Crc.more 0 (2 :: v)) ++ (Sg.put (vs.drop (i + 1)) ++ ms), by rw [hsp]; simp only [List.append_assoc, List.cons_append, List.nil_append], by rw [hhd]; simp only [List.length_append, List.length_cons, List.length_nil]; omega⟩
  obtain ⟨T, hT, hTl⟩ := hT
  have hcut : ((Sg.put vs ++ ms).drop ((Sg.put (vs.take i)).length + Sg.head v.length)).take v.length = v := by
    rw [hT, ← hTl, List.drop_left, List.take_left]
  have hln : (Sg.put vs ++ ms).length = (Sg.put (vs.take i)).length + Sg.head v.length + v.length + T.length := by
    rw [hT, List.length_append, hTl, List.length_append]; omega
  unfold Sg.value
  rw [if_pos hm]
  show (if ((Sg.put vs ++ ms).length : Int) < (((Sg.put (vs.take i)).length + Sg.head v.length : Nat) : Int) + ((v.length : Nat) : Int) then _ else if Ce.fits _ (((Sg.put vs ++ ms).drop (((Sg.put (vs.take i)).length + Sg.head v.length : Nat) : Int).toNat).take (((v.length : Nat) : Int).toNat)) = true then _ else _) = _
  rw [Int.toNat_natCast, Int.toNat_natCast, if_neg (by omega), hcut, if_pos (by simp [Ce.fits, Sg.pt])]
  show ((((Sg.put vs ++ ms).drop (((Sg.put (vs.take i)).length + Sg.head v.length : Nat) : Int).toNat).take (((v.length : Nat) : Int).toNat)), 0) = _
  rw [Int.toNat_natCast, Int.toNat_natCast, hcut]
theorem Sg.next_put (k : Int) (hk1 : 1 ≤ k) (hk2 : k ≤ 2147483647) (z : Nat) (hz : z ≤ 1000000000) (v : List Nat) (hv : v.length ≤ 4096) : Sg.next k z v = (Sg.pt k z v, 0) := by
  rw [Sg.next, if_neg (by omega), if_pos (by rw [Sg.may_seg k z _ (by omega) hv]; simp; omega)]
theorem Sg.pts_at (k : Int) (vs r : List (List Nat)) (i : Nat) (hi : i < vs.length) : (Sg.pts k 0 (vs ++ r)).getD i Po.zero = Sg.pt k (Sg.put (vs.take i)).length (vs.getD i []) := by
  rw [Sg.pts_get k (vs ++ r) i (by simp; omega), List.take_append_of_le_length (by omega)]
  congr 1
  rw [List.getD_eq_getElem?_getD, List.getElem?_append_left hi, ← List.getD_eq_getElem?_getD]

set_option maxRecDepth 100000 in
set_option maxHeartbeats 1000000 in
/-- where nothing is asked but the example -/
theorem sgreads_dark (a : Option Addr) (len cap : Nat) (hs : List VH) (vs : List (List Nat)) (n : Int) (am : Option Addr) (lm cm : Nat) (w : World) (hi : InV w a len cap hs vs) (hls : ∀ v ∈ vs, v.length ≤ 140737488355328) (hlb : len ≤ 140737488355328)
    (hd : Sg.lightB vs = false ∨ Sg.longB vs = true ∨ 1000 < lm) :
    Calls Try.prog 5 #[.slice a len cap, .int .u16 n, .slice am lm cm] w fun e w' => e = .returned (.bool true) ∧ Below w.heap.size w w' := by
  have hlt := slight_any a len cap hs vs w hi hls hlb
  have hlg := slong_any a len cap hs vs w hi hls hlb
  have haw := sgawake_any w
  generalize Sg.lightB vs = B1 at *
  generalize Sg.longB vs = B2 at *
  clear hi hls
  cases B1
  · go_enter Try.func5, Try.ntmps5
    go_wp2_with (first
      | (go_at_call 7; refine hlt.mono ?_; rintro e w1 ⟨rfl, rfl⟩)
      | (go_at_call 8; go_must (refine haw.mono ?_; rintro e w7 ⟨rfl, hbel7⟩)))
    go_ret
    exact ⟨rfl, hbel7⟩
  · cases B2
    · have h1 : 1000 < lm := by simpa using hd
      go_enter Try.func5, Try.ntmps5
      go_wp2_with (first
        | (go_at_call 7; refine hlt.mono ?_; rintro e w1 ⟨rfl, hw1⟩; obtain rfl := hw1.symm)
        | (go_at_call 14; refine hlg.mono ?_; rintro e w2 ⟨rfl, hw2⟩; obtain rfl := hw2.symm)
        | (go_at_call 8; go_must (refine haw.mono ?_; rintro e w7 ⟨rfl, hbel7⟩)))
      go_ret
      exact ⟨rfl, hbel7⟩
    · go_enter Try.func5, Try.ntmps5
      go_wp2_with (first
        | (go_at_call 7; refine hlt.mono ?_; rintro e w1 ⟨rfl, hw1⟩; obtain rfl := hw1.symm)
        | (go_at_call 14; refine hlg.mono ?_; rintro e w2 ⟨rfl, hw2⟩; obtain rfl := hw2.symm)
        | (go_at_call 8; go_must (refine haw.mono ?_; rintro e w7 ⟨rfl, hbel7⟩)))
      go_ret
      exact ⟨rfl, hbel7⟩

theorem Sg.put_len (vs : List (List Nat)) (h : Sg.Small vs) : (Sg.put vs).length ≤ Sg.total vs + 8 * vs.length := by
  have h1 := pall_len_le (Sg.fr vs) (fun f hf => by
    simp only [Sg.fr, List.mem_map] at hf
    obtain ⟨v, hv, rfl⟩ := hf
    have := (h v hv).1
    show v.length ≤ 1048576; omega)
  rw [Sg.tot_fr, Sg.fr_length] at h1
  exact h1

set_option maxRecDepth 100000 in
set_option maxHeartbeats 4000000 in
theorem sgreads_any (a : Option Addr) (len cap : Nat) (hs : List VH) (vs : List (List Nat)) (n : Nat) (am : Option Addr) (lm cm : Nat) (ms : List Nat) (w : World) (hi : InV w a len cap hs vs) (hls : ∀ v ∈ vs, v.length ≤ 140737488355328) (hlb : len ≤ 140737488355328)
    (hn : n < 65536) (hlm : lm ≤ 1000) (hrm : Row .u8 w am lm ms) (hnm : am = none → lm = 0 ∧ cm = 0) (hL : Sg.lightB vs = true) (hG : Sg.longB vs = false) :
    Calls Try.prog 5 #[.slice a len cap, .int .u16 (n : Nat), .slice am lm cm] w fun e w' => e = .returned (.bool true) ∧ Below w.heap.size w w' := by
  have hlt := slight_any a len cap hs vs w hi hls hlb
  have hlg := slong_any a len cap hs vs w hi hls hlb
  rw [hL] at hlt
  rw [hG] at hlg
  have hsm := Sg.small_of hi hG
  have hvl : Hid (vs.length = len) := hi.len
  have hhl : Hid (hs.length = len) := hi.1.1
  have hlight := hL
  simp only [Sg.lightB, decide_eq_true_eq] at hlight
  rw [hvl.out] at hlight
  have hpl := Sg.put_len vs hsm
  rw [hvl.out] at hpl
  have hput := sput_any a len cap hs vs w hi hsm (by omega) (by rw [Sg.tot_fr]; omega)
  have hpsm := Sg.put_small hsm
  obtain ⟨B, hB⟩ : ∃ B, B = (Sg.put vs).length := ⟨_, rfl⟩
  rw [← hB] at hpl
  have HB : Hid (B = (Sg.put vs).length) := hB
  have hput : Calls Try.prog 9 #[.slice a len cap] w fun e w' => ∃ a c, e = .returned (.tuple #[.slice a B c, .int .i64 0]) ∧ w'.ownsRow w.heap.size 5 1 (.slice a B c) B (kcells .u8 (Sg.put vs)) ∧ Below w.heap.size w w' := by
    rw [hB]; exact hput
  have hmsm : ∀ x ∈ ms, x < 256 := hrm.2.2.1
  have hall : ∀ x ∈ Sg.put vs ++ ms, x < 256 := fun x hx => by
    rcases List.mem_append.mp hx with h | h
    · exact hpsm x h
    · exact hmsm x h
  obtain ⟨k, hk⟩ : ∃ k : Nat, k = 1 + n := ⟨_, rfl⟩
  have hk2 : IntKind.i64.wrap (n : Int) = (n : Int) := by rw [IntKind.wrap_i64]; omega
  obtain ⟨r, hr⟩ := Sg.walk_put vs ms hsm hmsm
  have hend := Sg.walk_put_end vs ms hsm hmsm
  have hwle := Sg.walk_le (Sg.put vs ++ ms)
  have hcount := Sg.count_le (Sg.walk (Sg.put vs ++ ms)).1
  rw [← Sg.walk_end] at hcount
  have hfits := Sg.walk_fits (k : Int) (by omega) hall (by rw [List.length_append, ← hB, hrm.1]; omega)
  have hwk := fun W aa cc (h : Row .u8 W aa (B + lm) (Sg.put vs ++ ms)) (hs : Shape aa (B + lm) cc) => swalk_any (k : Int) (by omega) (by omega) aa (B + lm) cc (Sg.put vs ++ ms) W (by omega) hs h
  rw [List.length_append, ← hB, hrm.1] at hwle
  rw [← hB] at hend
  generalize (Sg.walk (Sg.put vs ++ ms)).2 = E at *
  obtain ⟨K, hK⟩ : ∃ K, K = (Sg.pts (k : Int) 0 (Sg.walk (Sg.put vs ++ ms)).1).length := ⟨_, rfl⟩
  have hK2 := hK
  rw [Sg.pts_length] at hK2
  have hKl : len ≤ K := by rw [hK2, hr, List.length_append, hvl.out]; omega
  rw [← hK2] at hcount
  have hwk : ∀ (z : Int), z = (k : Int) → ∀ (W : World) aa cc, Row .u8 W aa (B + lm) (Sg.put vs ++ ms) → Shape aa (B + lm) cc → Calls Try.prog 17 #[.int .i64 z, .slice aa (B + lm) cc] W fun e w' => ∃ a c, e = .returned (.tuple #[.slice a K c, .int .i64 (E : Nat)]) ∧ w'.ownsRow W.heap.size 32 4 (.slice a K c) K (pcells (Sg.pts (k : Int) 0 (Sg.walk (Sg.put vs ++ ms)).1)) ∧ Below W.heap.size W w' := by
    rintro z rfl
    rw [hK]; exact hwk
  rw [hr] at hwk hfits hK
  have Hr : Hid ((Sg.walk (Sg.put vs ++ ms)).1 = vs ++ r) := hr
  have HK : Hid (K = (Sg.pts (k : Int) 0 (vs ++ r)).length) := hK
  clear hK hK2 hr hB hL hG
  have Hall : Hid (∀ x ∈ Sg.put vs ++ ms, x < 256) := hall
  have Hpsm : Hid (∀ x ∈ Sg.put vs, x < 256) := hpsm
  have Hfits : Hid (_) := hfits
  have Hsm : Hid (Sg.Small vs) := hsm
  have Hk : Hid (k = 1 + n) := hk
  clear hall hpsm hfits hsm hmsm hk
  have hlt5 : decide ((K : Int) < (len : Int)) = false := by simp; omega
  have hE5 : decide ((E : Int) < (B : Int)) = false := by simp; omega
  have hlt6 : decide (K < len) = false := by simp; omega
  have hE6 : decide (E < B) = false := by simp; omega
  have hlm5 : decide ((1000 : Int) < (lm : Int)) = false := by simp; omega
  have haw := fun W => sgawake_any W
  go_enter Try.func5, Try.ntmps5
  go_wp2_with (first
    | (go_at_call 7; refine hlt.mono ?_; rintro e w1 ⟨rfl, hw1⟩; obtain rfl := hw1.symm)
    | (go_at_call 14; refine hlg.mono ?_; rintro e w2 ⟨rfl, hw2⟩; obtain rfl := hw2.symm)
    | (go_at_call 9; go_must (refine hput.mono ?_; rintro e w1 ⟨a1, c1, rfl, hown1, hbel1⟩; have hs1 := hbel1.size))
    | (at_builtin; refine append_u8 (w0 := w1) (B := w1.heap.size) rfl (.tmp 40) (.tmp 41) rfl _ 0 [] rfl (made_at w1 5 w1.heap.size rfl (Nat.le_refl _)) a1 B c1 (Sg.put vs) rfl ((row_of_owns hown1 Hpsm.out (by omega)).1.below (below_alloc _ _) (Nat.le_refl _)) (row_of_owns hown1 Hpsm.out (by omega)).2.1 (by omega) (below_alloc _ _) (by simp) ?_; intro a2 c2 w2 hown2 hbel2 hB2; rw [Nat.zero_add, List.nil_append] at hown2)
    | (at_builtin; have := hown2; go_must (refine append_u8 (w0 := w1) (B := w1.heap.size) rfl (.tmp 42) (.tmp 43) rfl _ B (Sg.put vs) rfl hown2 am lm cm ms rfl (hrm.below (hbel1.trans (hbel2.mono hs1)) (Nat.le_refl _)) hnm (by omega) hbel2 hB2 ?_; intro a3 c3 w3 hown3 hbel3 hB3; have hb3 : Below w.heap.size w w3 := hbel1.trans (hbel3.mono hs1); have hrow3 := row_of_owns hown3 Hall.out (by omega)))
    | (go_at_call 17; go_must (refine (hwk _ (by have := Hk.out; omega) _ _ _ hrow3.1 (own_shape hown3)).mono ?_; rintro e w4 ⟨a4, c4, rfl, hown4, hbel4⟩; have hb4 := hb3.trans (hbel4.mono hb3.size); have hrow4 := hrow3.1.below hbel4 (Nat.le_refl _); have hnil3 := hrow3.2.1; have hsh4 := own_shape hown3)))
  have HI : InV w4 a len cap hs vs := hi.below hb4 (Nat.le_refl _)
  have HB4 : Hid (Below w.heap.size w w4) := hb4
  have hlen40 := hlight.1
  have hB5 : B ≤ 21000 := by omega
  clear hb4 hbel4 hrow3 hb3 hbel3 hown3 hB3 hown2 hbel2 hB2 hown1 hbel1 hs1 hwk hput hlt hlg hi hls hlight hrm hnm hcount
  generalize hLL : B + lm = LL at *
  generalize hS7 : (1 : Int) + (n : Int) = S7 at *
  have HLL : Hid (B + lm = LL) := hLL
  have HS7 : Hid (1 + (n : Int) = S7) := hS7
  clear hLL hS7
  go_loopw [13, 14] (fun v i wr => ∃ (j z : Nat), j ≤ len ∧ i = .int .i64 j ∧ v = .int .i64 z ∧ Hid (z = (Sg.put (vs.take j)).length) ∧ Below w4.heap.size w4 wr) (fun _ i _ => len - (intOf i).toNat)
  case atStart => exact ⟨0, 0, by omega, rfl, rfl, (rfl : 0 = (Sg.put (vs.take 0)).length), Below.refl _ _⟩
  case round =>
    obtain ⟨j, z, hj, rfl, rfl, hz, hbel⟩ := hrel
    have hsz := hbel.size
    by_cases hlt : j < len
    · have hjv : j < vs.length := by rw [hvl.out]; exact hlt
      obtain ⟨b, off, rfl, hc⟩ := (HI.below hbel (Nat.le_refl _)).get (by omega)
      obtain ⟨hcell, hrv, hnv, hcv, hsv⟩ := hc j hlt
      have hownP := owns_below hown4 hbel
      obtain ⟨g, rfl, hgc⟩ := own_sm hownP (by omega)
      obtain ⟨p0, p1, p2, p3⟩ := pcells_get (Sg.pts (k : Int) 0 (vs ++ r)) j (by rw [← HK.out]; omega)
      have q0 := own_cell hownP _ _ p0
      have q1 := own_cell hownP _ _ p1
      have q2 := own_cell hownP _ _ p2
      have q3 := own_cell hownP _ _ p3
      have hPfit : Po.Fits ((Sg.pts (k : Int) 0 (vs ++ r)).getD j Po.zero) := by
        have h1 : j < (Sg.pts (k : Int) 0 (vs ++ r)).length := by rw [← HK.out]; omega
        have e : (Sg.pts (k : Int) 0 (vs ++ r)).getD j Po.zero = (Sg.pts (k : Int) 0 (vs ++ r))[j] := by simp [h1]
        rw [e]; exact Hfits.out _ (List.getElem_mem h1)
      have hkk := Hk.out
      rw [Sg.pts_at (k : Int) vs r j hjv] at q0 q1 q2 q3 hPfit
      have hval := fun W (h : Row .u8 W a3 LL (Sg.put vs ++ ms)) => svalue_any a3 LL c3 (Sg.put vs ++ ms) (Sg.pt (k : Int) (Sg.put (vs.take j)).length (vs.getD j [])) W (by have := HLL.out; omega) hsh4 hnil3 h hPfit
      rw [Sg.value_put (k : Int) (by omega) (by omega) vs Hsm.out j hjv ms (by rw [← HB.out]; omega)] at hval
      have hv4 : (vs.getD j []).length ≤ 4096 := by
        have e : vs.getD j [] = vs[j] := by simp [hjv]
        rw [e]; exact (Hsm.out _ (List.getElem_mem hjv)).1
      have hzB : z + Fr.size (vs.getD j []).length ≤ B := by
        have h1 := Sg.put_take_succ vs j hjv
        have h2 := Sg.put_take_le vs (j + 1)
        rw [← HB.out, h1, ← hz.out] at h2; exact h2
      have hz1 : Hid (z + Fr.size (vs.getD j []).length = (Sg.put (vs.take (j + 1))).length) := (by rw [Sg.put_take_succ vs j hjv, ← hz.out] : z + Fr.size (vs.getD j []).length = (Sg.put (vs.take (j + 1))).length)
      have hnx := fun W A C (h : Row .u8 W A (hs.getD j vhz).n (vs.getD j [])) => snext_any (k : Int) z A (hs.getD j vhz).n C (vs.getD j []) W (by rw [← hrv.1]; omega) (by omega) (by omega) h
      rw [Sg.next_put (k : Int) (by omega) (by omega) z (by omega) _ hv4] at hnx
      rw [← hz.out] at q0 q1 q2 q3 hval hPfit
      generalize vs.getD j [] = v at *
      generalize Sg.pt (k : Int) z v = P at *
      generalize hs.getD j vhz = hh at *
      obtain ⟨A, N, C⟩ := hh
      obtain ⟨P0, P1, P2, P3⟩ := P
      simp only at q0 q1 q2 q3 hcell hrv hnv hcv hsv hnx
      have hvN : v.length = N := hrv.1
      rw [hvN] at hv4 hzB hz1
      have hval : ∀ W, Row .u8 W a3 LL (Sg.put vs ++ ms) → Calls Try.prog 18 #[.slice a3 LL c3, .agg #[.int .i64 P0, .int .i64 P1, .int .i64 P2, .int .u32 (P3 : Nat)]] W fun e w' => ∃ a c, e = .returned (.tuple #[.slice a N c, .int .i64 (0 : Nat)]) ∧ w'.ownsRow W.heap.size 5 1 (.slice a N c) N (kcells .u8 v) ∧ Below W.heap.size W w' := by
        rw [← hvN]; exact hval
      have hnx : ∀ (s : Int), s = (k : Int) → ∀ W, Row .u8 W A N v → Calls Try.prog 10 #[.int .i64 s, .int .i64 (z : Nat), .slice A N C] W fun e w' => e = .returned (.tuple #[.agg #[.int .i64 P0, .int .i64 P1, .int .i64 P2, .int .u32 (P3 : Nat)], .int .i64 (0 : Nat)]) ∧ Below W.heap.size W w' := by
        rintro s rfl W h; exact hnx W A C h
      have hvsm : ∀ x ∈ v, x < lim .u8 := hrv.2.2.1
      have Hz1 : Hid (_ = _) := hz1
      have Hhk : Hid (k = 1 + n) := hkk
      clear hkk p0 p1 p2 p3 hz1 hPfit hjv hc hsv hz HI hvN
      have hrow4' := hrow4.below hbel (Nat.le_refl _)
      go_wp2_with (first
        | (go_at_call 18; go_must (refine (hval _ hrow4').mono ?_; rintro e w5 ⟨a5, c5, rfl, hown5, hbel5⟩; have hs5 := hbel5.size; have hc5 := (hbel5.cell (cell_lt hcell)).trans hcell; have hr5 := hrv.below hbel5 (Nat.le_refl _); have t0 := (hbel5.cell (cell_lt q0)).trans q0; have t1 := (hbel5.cell (cell_lt q1)).trans q1; have t2 := (hbel5.cell (cell_lt q2)).trans q2; have t3 := (hbel5.cell (cell_lt q3)).trans q3))
        | (go_at_call 10; go_must (refine (hnx _ (by have := Hhk.out; have := HS7.out; omega) _ hr5).mono ?_; rintro e w6 ⟨rfl, hbel6⟩; have hs6 := hbel6.size; have hc6 := (hbel6.cell (cell_lt hc5)).trans hc5; have hr6 := hr5.below hbel6 (Nat.le_refl _); have hown6 := owns_below hown5 hbel6; have u0 := (hbel6.cell (cell_lt t0)).trans t0; have u1 := (hbel6.cell (cell_lt t1)).trans t1; have u2 := (hbel6.cell (cell_lt t2)).trans t2; have u3 := (hbel6.cell (cell_lt t3)).trans t3)))
      have hb7 := below_alloc w6 (.cells #[.int .i64 P0, .int .i64 P1, .int .i64 P2, .int .u32 (P3 : Nat)] 32)
      obtain ⟨m0, m1, m2, m3⟩ := cell_four w6 (.int .i64 P0) (.int .i64 P1) (.int .i64 P2) (.int .u32 (P3 : Nat)) 32 rfl
      have v0 := (hb7.cell (cell_lt u0)).trans u0
      have v1 := (hb7.cell (cell_lt u1)).trans u1
      have v2 := (hb7.cell (cell_lt u2)).trans u2
      have v3 := (hb7.cell (cell_lt u3)).trans u3
      have hc7 := (hb7.cell (cell_lt hc6)).trans hc6
      have hr7 := hr6.below hb7 (Nat.le_refl _)
      have hrV := (row_of_owns hown6 hvsm (by omega)).1.below hb7 (Nat.le_refl _)
      have hb77 : Below w4.heap.size w4 (w6.alloc (.cells #[.int .i64 P0, .int .i64 P1, .int .i64 P2, .int .u32 (P3 : Nat)] 32)) := ((hbel.trans (hbel5.mono hsz)).trans (hbel6.mono (Nat.le_trans hsz hs5))).trans (hb7.mono (Nat.le_trans (Nat.le_trans hsz hs5) hs6))
      generalize hN6 : w6.heap.size = N6 at *
      generalize w6.alloc (.cells #[.int .i64 P0, .int .i64 P1, .int .i64 P2, .int .u32 (P3 : Nat)] 32) = W7 at *
      have hby := fun nq => bytes_any a5 N c5 v A N C v (W7.drewN nq) (hrV.below (below_drewN _ _ _) (Nat.le_refl _)) (hr7.below (below_drewN _ _ _) (Nat.le_refl _))
      simp only [decide_true] at hby
      obtain ⟨SZ, hSZ⟩ : ∃ SZ, SZ = (Fr.put1 2 v).length := ⟨_, rfl⟩
      have hp1 : ∀ nq, Calls Try.prog 13 #[.agg #[.int .i64 2, .slice A N C]] (W7.drewN nq) fun e w' => ∃ a c, e = .returned (.slice a SZ c) ∧ Below (W7.drewN nq).heap.size (W7.drewN nq) w' := fun nq => (refput1_any 2 A N C v (W7.drewN nq) (by omega) (by omega) (by omega) (hr7.below (below_drewN _ _ _) (Nat.le_refl _)) hnv).mono (fun e w' h => by
        obtain ⟨a, c, h1, _, h3⟩ := h
        rw [hSZ]; exact ⟨a, c, h1, h3⟩)
      have hsz1 := Fr.put1_len 2 v
      rw [hrv.1, ← hSZ] at hsz1
      rw [← hsz1] at hzB Hz1
      have hSZ5 : SZ ≤ 30000 := by omega
      clear hSZ hsz1
      clear hown6 hown5 hbel5 hbel6 hb7 hval hnx u0 u1 u2 u3 t0 t1 t2 t3 q0 q1 q2 q3 hrv hr5 hr6 hc5 hc6 hcell
      go_quiet ((go_at_call 15; refine Calls.quiet_of (hby _)))
      have hb77s := hb77.size
      go_wp2_with (go_at_call 13; go_must (refine (hp1 _).mono ?_; rintro e w8 ⟨a8, c8, rfl, hbel8⟩))
      go_roundw
      case rel => exact ⟨j + 1, z + SZ, by omega, by go_num, by first | rfl | exact val_int (by omega), Hz1, (hb77.trans (below_drewN _ _ _)).trans (hbel8.mono hb77s)⟩
      case measure => simp [intOf]; omega
    · obtain rfl : j = len := by omega
      have hzB : Hid (z = B) := (by rw [hz.out, HB.out, List.take_of_length_le (by rw [hvl.out]; exact Nat.le_refl _)] : z = B)
      obtain rfl := hzB.out
      go_wp2_with (go_at_call 8; go_must (refine (haw _).mono ?_; rintro e w8 ⟨rfl, hbel8⟩))
      go_ret
      exact ⟨rfl, (HB4.out.trans (hbel.mono HB4.out.size)).trans (hbel8.mono (Nat.le_trans HB4.out.size hsz))⟩
end Go.Proofs.Ytgdefibgifcbaaa
