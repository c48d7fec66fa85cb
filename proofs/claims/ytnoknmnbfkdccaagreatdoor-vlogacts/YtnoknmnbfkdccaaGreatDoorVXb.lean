/- The reference's small functions over numbers and values: May, at, Has, layer 19's Put. -/
import Derived.Test.YtnoknmnbfkdccaaGreatDoorVLe
import Derived.Test.YtnoknmnbfkdccaaGreatDoorFB
import Derived.BigQuiet
namespace Go.Proofs.YtnoknmnbfkdccaaGreatDoor
open Go.RowKit Go.Shelf

theorem zget2 {w wr : World} {a : Option Addr} {n : Nat} {l : List Int} (h : ZRow w a n l) (hb : Below w.heap.size w wr) (hn : 0 < n) :
    ∃ b off, a = some ⟨b, off, none⟩ ∧ ∀ k, k < n → wr.cell? ⟨b, off + k, none⟩ = some (.int .i64 (l.getD k 0)) := by
  obtain ⟨b, off, rfl, hc⟩ := h.at hn
  refine ⟨b, off, rfl, fun k hk => ?_⟩
  have h0 : w.cell? ⟨b, off + k, none⟩ = some (.int .i64 (l.getD k 0)) := by
    have := hc k hk 0 _ rfl
    rw [Nat.mul_one] at this
    exact this
  exact (hb.cell (p := ⟨b, off + k, none⟩) (cell_lt h0)).trans h0
def Vl.prev (l : List Int) (k : Nat) : Int := if k = 0 then 0 else l.getD (k - 1) 0
set_option maxRecDepth 100000 in
set_option maxHeartbeats 2000000 in
theorem refmay_any (a : Option Addr) (n c : Nat) (l : List Int) (w : World) (hn : n ≤ 1000000) (hr : ZRow w a n l) (R : Bool) (hR : R = Vl.may l) :
    Calls Tryz.prog 9 #[.slice a n c] w fun e w' => e = .returned (.bool R) ∧ ∃ q, w' = w.drewN q := by
  have hll : Hid (l.length = n) := hr.1
  have HR : Hid (R = (decide (n ≤ 64) && Vl.rise (Vl.prev l 0) (l.drop 0))) := (by rw [hR, Vl.may, hll.out]; rfl : R = (decide (n ≤ 64) && Vl.rise (Vl.prev l 0) (l.drop 0)))
  clear hR
  go_enter Tryz.func9, Tryz.ntmps9
  go_wp2
  go_loopw [3] (fun i wr => ∃ (k : Nat) , k ≤ n ∧ i = .int .i64 k ∧ (∃ q, wr = w.drewN q) ∧ Hid (0 < k → 1 ≤ Vl.prev l k) ∧ Hid (R = (decide (n ≤ 64) && Vl.rise (Vl.prev l k) (l.drop k)))) (fun i _ => n - (RowKit.intOf i).toNat)
  case atStart => exact ⟨0, by omega, rfl, ⟨0, (World.drewN_zero w).symm⟩, (fun h => by omega : 0 < 0 → _), HR⟩
  case round =>
    obtain ⟨k, hk, rfl, ⟨q, rfl⟩, hp, H⟩ := hrel
    clear HR
    by_cases hlt : k < n
    · obtain ⟨b, off, rfl, hc⟩ := zget2 hr (Below.refl _ w) (by omega)
      have q0 := hc k hlt
      obtain ⟨y, hy0⟩ : ∃ y, y = l.getD k 0 := ⟨_, rfl⟩
      rw [← hy0] at q0
      have hy : Hid (l.getD k 0 = y) := hy0.symm
      clear hy0
      have HS : Hid (R = (decide (n ≤ 64) && (decide (Vl.prev l k < y ∧ y ≤ 2147483647) && Vl.rise y (l.drop (k + 1))))) := (by rw [H.out, gdrop 0 (by rw [hll.out]; exact hlt), hy.out]; rfl : R = (decide (n ≤ 64) && (decide (Vl.prev l k < y ∧ y ≤ 2147483647) && Vl.rise y (l.drop (k + 1)))))
      have hpk : Hid (Vl.prev l (k + 1) = y) := (by unfold Vl.prev; rw [if_neg (by omega)]; exact hy.out : Vl.prev l (k + 1) = y)
      have i0 : (0 : Int) ≤ (k : Int) := by omega
      have i1 : (k : Int) < (n : Int) := by omega
      have FALSE : ∀ (hf : ¬ (Vl.prev l k < y ∧ y ≤ 2147483647)), R = false := fun hf => by rw [HS.out, decide_eq_false hf]; simp
      have NEXT : ∀ (hf : Vl.prev l k < y ∧ y ≤ 2147483647), R = (decide (n ≤ 64) && Vl.rise (Vl.prev l (k + 1)) (l.drop (k + 1))) := fun hf => by rw [HS.out, decide_eq_true hf, hpk.out]; simp
      have p0 : Vl.prev l k = 0 ∧ k = 0 ∨ 1 ≤ Vl.prev l k ∧ 0 < k := by
        rcases Nat.eq_zero_or_pos k with h | h
        · subst h; exact .inl ⟨rfl, rfl⟩
        · exact .inr ⟨hp.out h, h⟩
      by_cases h1 : y < 1
      · have HF : Hid (R = false) := FALSE (by omega)
        have d1 : decide (y < 1) = true := decide_eq_true h1
        clear HS H FALSE NEXT p0 hc hp hpk hy h1
        go_wp2_with fail
        go_quiet (fail)
        go_wp2
        go_ret
        obtain rfl := HF.out
        exact ⟨rfl, _, by first | rfl | exact (World.drewN_drewN _ _ _)⟩
      have d1 : decide (y < 1) = false := decide_eq_false h1
      by_cases h2 : 2147483647 < y
      · have HF : Hid (R = false) := FALSE (by omega)
        have d2 : decide (2147483647 < y) = true := decide_eq_true h2
        clear HS H FALSE NEXT p0 hc hp hpk hy h1 h2
        go_wp2_with fail
        go_quiet (fail)
        go_wp2
        go_ret
        obtain rfl := HF.out
        exact ⟨rfl, _, by first | rfl | exact (World.drewN_drewN _ _ _)⟩
      have d2 : decide (2147483647 < y) = false := decide_eq_false h2
      rcases Nat.eq_zero_or_pos k with h0 | h0
      · have H2 : Hid (R = (decide (n ≤ 64) && Vl.rise (Vl.prev l (k + 1)) (l.drop (k + 1)))) := NEXT (by omega)
        have hp1 : Hid (0 < k + 1 → 1 ≤ Vl.prev l (k + 1)) := (fun _ => by rw [hpk.out]; omega : 0 < k + 1 → 1 ≤ Vl.prev l (k + 1))
        have d3 : decide (0 < k) = false := decide_eq_false (by omega)
        clear HS H FALSE NEXT p0 hc hp hpk hy h1 h2 h0
        go_wp2_with fail
        go_quiet (fail)
        go_wp2
        go_roundw
        case rel => exact ⟨k + 1, by omega, by go_num, ⟨_, by first | rfl | exact (World.drewN_drewN _ _ _)⟩, hp1, H2⟩
        case measure => simp [RowKit.intOf]; omega
      · obtain ⟨j, hj⟩ : ∃ j, k = j + 1 := ⟨k - 1, by omega⟩
        have q1 := hc j (by omega)
        obtain ⟨x, hx0⟩ : ∃ x, x = l.getD j 0 := ⟨_, rfl⟩
        have hx : Vl.prev l k = x := by unfold Vl.prev; rw [if_neg (by omega), hx0, hj]; rfl
        rw [hx] at p0 FALSE NEXT
        rw [← hx0] at q1
        have hX : Hid (x = l.getD j 0) := hx0
        clear hx0 hx
        have i2 : IntKind.i64.wrap ((k : Int) - 1) = (j : Int) := by rw [IntKind.wrap_i64]; omega
        have i3 : wrap64 ((k : Int) - 1) = (j : Int) := by unfold wrap64; omega
        have i4 : decide (0 < k) = true := decide_eq_true (by omega)
        have i5 : (0 : Int) ≤ (j : Int) := by omega
        have i6 : (j : Int) < (n : Int) := by omega
        have i7 : j < n := by omega
        have HK : Hid (k = j + 1) := hj
        clear hj
        by_cases h3 : y ≤ x
        · have HF : Hid (R = false) := FALSE (by omega)
          have d3 : decide (y ≤ x) = true := decide_eq_true h3
          clear HS H FALSE NEXT p0 hc hp hpk hy h1 h2 h0 h3
          go_wp2_with fail
          go_quiet (fail)
          go_wp2
          go_ret
          obtain rfl := HF.out
          exact ⟨rfl, _, by first | rfl | exact (World.drewN_drewN _ _ _)⟩
        · have H2 : Hid (R = (decide (n ≤ 64) && Vl.rise (Vl.prev l (k + 1)) (l.drop (k + 1)))) := NEXT (by omega)
          have d3 : decide (y ≤ x) = false := decide_eq_false h3
          have hp1 : Hid (0 < k + 1 → 1 ≤ Vl.prev l (k + 1)) := (fun _ => by rw [hpk.out]; omega : 0 < k + 1 → 1 ≤ Vl.prev l (k + 1))
          clear HS H FALSE NEXT p0 hc hp hpk hy h1 h2 h0 h3
          go_wp2_with fail
          go_quiet (fail)
          go_wp2
          go_roundw
          case rel => exact ⟨k + 1, by omega, by go_num, ⟨_, by first | rfl | exact (World.drewN_drewN _ _ _)⟩, hp1, H2⟩
          case measure => simp [RowKit.intOf]; omega
    · obtain rfl : k = n := by omega
      have HF : Hid (R = decide (k ≤ 64)) := (by rw [H.out, List.drop_of_length_le (by rw [hll.out]; exact Nat.le_refl _)]; simp [Vl.rise] : R = decide (k ≤ 64))
      have d : decide ((k : Int) ≤ 64) = R := by rw [HF.out]; exact decide_eq_decide.mpr (by omega)
      clear H
      go_wp2
      go_ret
      exact ⟨rfl, _, by first | rfl | exact (World.drewN_drewN _ _ _)⟩

set_option maxRecDepth 100000 in
set_option maxHeartbeats 400000 in
theorem rhas_any (a : Option Addr) (n c : Nat) (l : List Int) (x : Int) (w : World) (hn : n ≤ 1000000) (hr : ZRow w a n l) (R : Bool) (hR : R = l.contains x) :
    Calls Tryz.prog 95 #[.slice a n c, .int .i64 x] w fun e w' => e = .returned (.bool R) ∧ w' = w := by
  have hll : Hid (l.length = n) := hr.1
  have HR : Hid (R = decide (x ∈ l.drop 0)) := (by rw [hR]; simp : R = decide (x ∈ l.drop 0))
  clear hR
  go_enter Tryz.func95, Tryz.ntmps95
  go_wp2
  go_loop [5] (fun i => ∃ k : Nat, k ≤ n ∧ i = .int .i64 k ∧ Hid (R = decide (x ∈ l.drop k))) (fun i => n - (RowKit.intOf i).toNat)
  case atStart => exact ⟨0, by omega, rfl, HR⟩
  case round =>
    obtain ⟨k, hk, rfl, H⟩ := hrel
    clear HR
    by_cases hlt : k < n
    · obtain ⟨b, off, y, rfl, hy, q0⟩ := zget hr (Below.refl _ _) hlt
      have HS : Hid (R = decide (x ∈ y :: l.drop (k + 1))) := (by rw [H.out, gdrop 0 (by rw [hll.out]; exact hlt), hy.out] : _ = _)
      have i0 : (0 : Int) ≤ (k : Int) := by omega
      have i1 : (k : Int) < (n : Int) := by omega
      clear H hy
      by_cases hxy : y = x
      · have HF : Hid (R = true) := (by rw [HS.out, hxy]; simp : _ = _)
        have d : (y == x) = true := by simpa using hxy
        clear HS hxy
        go_wp2
        go_ret
        obtain rfl := HF.out
        exact ⟨rfl, rfl⟩
      · have H2 : Hid (R = decide (x ∈ l.drop (k + 1))) := (by rw [HS.out]; exact decide_eq_decide.mpr (by simp [Ne.symm hxy]) : _ = _)
        have d : (y == x) = false := by simpa using hxy
        clear HS hxy
        go_wp2
        go_round
        case rel => exact ⟨k + 1, by omega, by go_num, H2⟩
        case measure => simp [RowKit.intOf]; omega
    · obtain rfl : k = n := by omega
      have HF : Hid (R = false) := (by rw [H.out, List.drop_of_length_le (by rw [hll.out]; exact Nat.le_refl _)]; simp : _ = _)
      clear H
      go_wp2
      go_ret
      obtain rfl := HF.out
      exact ⟨rfl, rfl⟩

set_option maxRecDepth 100000 in
set_option maxHeartbeats 1000000 in
theorem refput19_any (a : Option Addr) (len cap : Nat) (hs : List VH) (vs : List (List Nat)) (w : World) (hi : InV w a len cap hs vs) (hsm : Sg.Small vs) (hlen : len ≤ 1000) (hbig : (Sg.put vs).length ≤ 1000000) :
    Calls Tryz.prog 93 #[.slice a len cap] w (Made .u8 5 w (Sg.put vs)) := by
  have hvl : Hid (vs.length = len) := hi.len
  have hbel0 : Below w.heap.size w (w.alloc (.cells #[] 5)) := (Below.refl _ _).alloc (Nat.le_refl _) _
  have hmade := World.ownsRow_made (base := w.heap.size) (e := 5) (size := 1) w #[] 0 (Nat.le_refl _) (by decide) (by simp)
  go_enter Tryz.func93, Tryz.ntmps93
  go_wp2
  go_loopw [3, 4] (fun v i wr => ∃ (k : Nat) (a' : Option Addr) (n c : Nat), k ≤ len ∧ i = .int .i64 k ∧ v = .slice a' n c ∧ Hid (n = (Sg.put (vs.take k)).length) ∧ wr.ownsRow w.heap.size 5 1 (.slice a' n c) n (kcells .u8 (Sg.put (vs.take k))) ∧ Below w.heap.size w wr)
    (fun _ i _ => len - (RowKit.intOf i).toNat)
  case atStart => exact ⟨0, _, 0, 0, by omega, rfl, rfl, (rfl : 0 = (Sg.put (vs.take 0)).length), hmade, hbel0⟩
  case round =>
    obtain ⟨k, a', n, c, hk, rfl, rfl, hn, hown, hbel⟩ := hrel
    clear hmade hbel0
    by_cases hlt : k < len
    · obtain ⟨b, off, rfl, hc⟩ := (hi.below hbel (Nat.le_refl _)).get (by omega)
      obtain ⟨hcell, hrv, hnv, hcv, hsv⟩ := hc k hlt
      have H0 : Sg.put (vs.take (k + 1)) = Sg.put (vs.take k) ++ Fr.put1 2 (vs.getD k []) := by rw [gtake [] (by rw [hvl.out]; exact hlt), Sg.put_append, Sg.put_one]
      have hb2 : (Sg.put (vs.take (k + 1))).length ≤ (Sg.put vs).length := by
        have e : Sg.put vs = Sg.put (vs.take (k + 1)) ++ Sg.put (vs.drop (k + 1)) := by rw [← Sg.put_append, List.take_append_drop]
        rw [e, List.length_append]; omega
      rw [H0, List.length_append, ← hn.out] at hb2
      have H : Hid (Sg.put (vs.take (k + 1)) = Sg.put (vs.take k) ++ Fr.put1 2 (vs.getD k [])) := H0
      have hv4 := hsm (vs.getD k []) (by
        have : vs.getD k [] = vs[k]'(by rw [hvl.out]; exact hlt) := by simp [hvl.out, hlt]
        rw [this]; exact List.getElem_mem _)
      have hy : (vs.getD k []).length = (hs.getD k vhz).n := hrv.1
      clear H0 hc hsv
      generalize vs.getD k [] = y at *
      generalize hs.getD k vhz = hh at *
      obtain ⟨A, L, C⟩ := hh
      simp only at hcell hrv hnv hcv hy
      have hp := refput1_any 2 A L C y wr (by omega) (by omega) (by omega) hrv hnv
      have hsm1 : ∀ x ∈ Fr.put1 2 y, x < lim .u8 := Fr.put1_small (by omega) hrv.2.2.1
      generalize Fr.put1 2 y = r at *
      have hsz := hbel.size
      go_wp2_with (first | (go_at_call 118; refine hp.mono ?_; rintro e w1 ⟨a1, c1, rfl, hown1, hbel1⟩) | (at_builtin; have := hown1; go_must (obtain ⟨hr1, hn1, _⟩ := row_of_owns hown1 hsm1 (by omega); refine append_u8 (w0 := w) rfl (.tmp 12) (.tmp 18) rfl _ n _ rfl (owns_below hown hbel1) a1 _ c1 r rfl hr1 hn1 (by omega) (hbel.trans (hbel1.mono hsz)) (Nat.le_trans hsz hbel1.size) ?_; intro a2 c2 w2 hown2 hbel2 hsz2)))
      go_roundw
      case rel => exact ⟨k + 1, a2, n + r.length, c2, by omega, by go_num, rfl, (by rw [H.out, List.length_append, ← hn.out] : n + r.length = (Sg.put (vs.take (k + 1))).length), by rw [H.out]; exact hown2, hbel2⟩
      case measure => simp [RowKit.intOf]; omega
    · have hkl : Hid (vs.take k = vs) := (List.take_of_length_le (by rw [hvl.out]; omega) : vs.take k = vs)
      rw [hkl.out] at hown
      have hn' : Hid (n = (Sg.put vs).length) := (by rw [hn.out, hkl.out] : n = (Sg.put vs).length)
      clear hn
      go_wp2
      go_ret
      exact ⟨a', c, by rw [← hn'.out]; rfl, by rw [← hn'.out]; exact hown, hbel⟩
end Go.Proofs.YtnoknmnbfkdccaaGreatDoor

/- The reference's log: where a segment lies, its bytes. -/
namespace Go.Proofs.YtnoknmnbfkdccaaGreatDoor
open Go.RowKit Go.Shelf

/-- where s lies in l; -1: nowhere -/
def Vl.AtR (l : List Int) (s R : Int) : Prop := (R = -1 ∧ ∀ j, j < l.length → l.getD j 0 ≠ s) ∨ ∃ i : Nat, i < l.length ∧ R = i ∧ l.getD i 0 = s ∧ ∀ j, j < i → l.getD j 0 ≠ s
theorem Vl.at_ex (l : List Int) (s : Int) : ∃ R, Vl.AtR l s R := by
  by_cases h : ∃ i, i < l.length ∧ l.getD i 0 = s
  · obtain ⟨i, h1, h2⟩ := h
    obtain ⟨m, ⟨hm1, hm2⟩, hm3⟩ : ∃ m, (m < l.length ∧ l.getD m 0 = s) ∧ ∀ j, j < m → ¬ (j < l.length ∧ l.getD j 0 = s) := by
      induction i using Nat.strongRecOn with
      | _ i ih =>
        by_cases hx : ∃ j, j < i ∧ j < l.length ∧ l.getD j 0 = s
        · obtain ⟨j, hj, a, b⟩ := hx; exact ih j hj a b
        · exact ⟨i, ⟨h1, h2⟩, fun j hj hc => hx ⟨j, hj, hc⟩⟩
    exact ⟨m, .inr ⟨m, hm1, rfl, hm2, fun j hj e => hm3 j hj ⟨by omega, e⟩⟩⟩
  · exact ⟨-1, .inl ⟨rfl, fun j hj e => h ⟨j, hj, e⟩⟩⟩

set_option maxRecDepth 100000 in
set_option maxHeartbeats 400000 in
theorem refat_any (a : Option Addr) (n c : Nat) (l : List Int) (va : Option Addr) (vn vc : Nat) (s R : Int) (w : World) (hn : n ≤ 1000000) (hr : ZRow w a n l) (hR : Vl.AtR l s R) :
    Calls Tryz.prog 65 #[.agg #[.slice a n c, .slice va vn vc], .int .i64 s] w fun e w' => e = .returned (.int .i64 R) ∧ Below w.heap.size w w' := by
  have hll : Hid (l.length = n) := hr.1
  have HR : Hid (Vl.AtR l s R) := hR
  have hb := below_alloc w (.cells #[.slice a n c, .slice va vn vc] 34)
  have hq := heap_alloc_new w (.cells #[.slice a n c, .slice va vn vc] 34)
  have c0 := (Go.Joins.cell_of_block hq 0).trans rfl
  clear hR hq
  go_enter Tryz.func65, Tryz.ntmps65
  go_wp2
  go_loop [5] (fun i => ∃ k : Nat, k ≤ n ∧ i = .int .i64 k ∧ Hid (∀ j, j < k → l.getD j 0 ≠ s)) (fun i => n - (RowKit.intOf i).toNat)
  case atStart => exact ⟨0, by omega, rfl, (fun j hj => by omega : ∀ j, j < 0 → _)⟩
  case round =>
    obtain ⟨k, hk, rfl, H⟩ := hrel
    by_cases hlt : k < n
    · obtain ⟨b, off, y, rfl, hy, q0⟩ := zget hr hb hlt
      have i0 : (0 : Int) ≤ (k : Int) := by omega
      have i1 : (k : Int) < (n : Int) := by omega
      by_cases hxy : y = s
      · have HF : Hid (R = (k : Int)) := (by
          rcases HR.out with ⟨_, h⟩ | ⟨i, h1, h2, h3, h4⟩
          · exact absurd (hy.out.trans hxy) (h k (by rw [hll.out]; exact hlt))
          · rcases Nat.lt_trichotomy i k with h | h | h
            · exact absurd h3 (H.out i h)
            · rw [h2, h]
            · exact absurd (hy.out.trans hxy) (h4 k h) : R = (k : Int))
        have d : (y == s) = true := by simpa using hxy
        clear hxy HR H hy
        go_wp2
        go_ret
        exact ⟨by rw [HF.out]; rfl, hb⟩
      · have H2 : Hid (∀ j, j < k + 1 → l.getD j 0 ≠ s) := (fun j hj => by
          rcases Nat.lt_or_ge j k with h | h
          · exact H.out j h
          · obtain rfl : j = k := by omega
            rw [hy.out]; exact hxy : ∀ j, j < k + 1 → l.getD j 0 ≠ s)
        have d : (y == s) = false := by simpa using hxy
        clear hxy HR H hy
        go_wp2
        go_round
        case rel => exact ⟨k + 1, by omega, by go_num, H2⟩
        case measure => simp [RowKit.intOf]; omega
    · obtain rfl : k = n := by omega
      have HF : Hid (R = -1) := (by
        rcases HR.out with ⟨h, _⟩ | ⟨i, h1, h2, h3, _⟩
        · exact h
        · exact absurd h3 (H.out i (by rw [hll.out] at h1; exact h1)) : R = -1)
      clear H HR
      go_wp2
      go_ret
      exact ⟨by rw [HF.out]; rfl, hb⟩
end Go.Proofs.YtnoknmnbfkdccaaGreatDoor
