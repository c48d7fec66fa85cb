/- What the laws' own Light, long and awake of layer 19 do. -/
import Derived.Test.YtgdefibgifcbaaaSGb
import Derived.Test.YtgdefibgifcbaaaSGd
import Derived.Test.YtgdefibgifcbaaaSGf
namespace Go.Proofs.Ytgdefibgifcbaaa
open Go.RowKit

def Sg.total (vs : List (List Nat)) : Nat := (vs.map List.length).sum
theorem Sg.tot_fr (vs : List (List Nat)) : tot (Sg.fr vs) = Sg.total vs := by
  simp only [tot, Sg.fr, Sg.total, List.map_map]; rfl
theorem Sg.total_take (vs : List (List Nat)) (k : Nat) (h : k < vs.length) : Sg.total (vs.take (k + 1)) = Sg.total (vs.take k) + (vs.getD k []).length := by
  rw [List.take_succ_eq_append_getElem h]; simp only [Sg.total, List.map_append, List.sum_append]; simp [h]
theorem Sg.total_le (vs : List (List Nat)) (k : Nat) : Sg.total (vs.take k) ≤ Sg.total vs := by
  have : Sg.total vs = Sg.total (vs.take k) + Sg.total (vs.drop k) := by
    conv => lhs; rw [← List.take_append_drop k vs]
    simp only [Sg.total, List.map_append, List.sum_append]
  omega
def Sg.lightB (vs : List (List Nat)) : Bool := decide (vs.length ≤ 40 ∧ Sg.total vs ≤ 20000)
def Sg.longB (vs : List (List Nat)) : Bool := vs.any fun v => decide (4096 < v.length)

set_option maxRecDepth 100000 in
set_option maxHeartbeats 1000000 in
theorem slight_any (a : Option Addr) (len cap : Nat) (hs : List VH) (vs : List (List Nat)) (w : World) (hi : InV w a len cap hs vs) (hls : ∀ v ∈ vs, v.length ≤ 140737488355328) (hlb : len ≤ 140737488355328) :
    Calls Try.prog 7 #[.slice a len cap] w fun e w' => e = .returned (.bool (Sg.lightB vs)) ∧ w' = w := by
  have hll : Hid (vs.length = len) := hi.len
  obtain ⟨B, hB⟩ : ∃ B, B = Sg.lightB vs := ⟨_, rfl⟩
  rw [← hB]
  have HB : Hid (B = Sg.lightB vs) := hB
  clear hB
  go_enter Try.func7, Try.ntmps7
  go_wp2
  go_loop [3, 4] (fun t i => ∃ k n : Nat, k ≤ len ∧ k ≤ 41 ∧ i = .int .i64 k ∧ t = .int .i64 n ∧ n ≤ 140737488375328 ∧ Hid (n = Sg.total (vs.take k))) (fun _ i => len - (intOf i).toNat)
  case atStart => exact ⟨0, 0, by omega, by omega, rfl, rfl, by omega, (rfl : 0 = Sg.total (vs.take 0))⟩
  case round =>
    obtain ⟨k, n, hk, hk40, rfl, rfl, hnb, hn⟩ := hrel
    by_cases hgo : k < len ∧ k ≤ 40 ∧ n ≤ 20000
    · obtain ⟨hlt, hlt40, hn4⟩ := hgo
      obtain ⟨b, off, rfl, hc⟩ := hi.get (by omega)
      obtain ⟨hcell, hrv, _⟩ := hc k hlt
      have hL : Hid ((vs.getD k []).length = (hs.getD k vhz).n) := hrv.1
      have hLb : (hs.getD k vhz).n ≤ 140737488355328 := by
        rw [← hL.out]
        have hk' : k < vs.length := by rw [hll.out]; exact hlt
        have : vs.getD k [] = vs[k] := by simp [hk']
        rw [this]; exact hls _ (List.getElem_mem hk')
      have H : Hid (n + (hs.getD k vhz).n = Sg.total (vs.take (k + 1))) := (by rw [Sg.total_take vs k (by rw [hll.out]; exact hlt), ← hn.out, hL.out] : n + (hs.getD k vhz).n = Sg.total (vs.take (k + 1)))
      clear hc hrv
      generalize hs.getD k vhz = hh at *
      obtain ⟨A, L, C⟩ := hh
      simp only at hcell hLb H
      go_wp2
      go_round
      case rel => exact ⟨k + 1, n + L, by omega, by omega, by go_num, by go_num, by omega, H⟩
      case measure => simp [intOf]; omega
    · have hend : (k = len) ∨ (k < len ∧ k = 41) ∨ (k < len ∧ k ≤ 40 ∧ 20000 < n) := by omega
      rcases hend with rfl | ⟨h1, rfl⟩ | ⟨h1, h2, h3⟩
      · have H : Hid (B = decide (k ≤ 40 ∧ n ≤ 20000)) := (by rw [HB.out, Sg.lightB, hll.out, hn.out, List.take_of_length_le (by rw [hll.out]; omega)] : B = decide (k ≤ 40 ∧ n ≤ 20000))
        by_cases h4 : k ≤ 40
        · by_cases h5 : n ≤ 20000
          · have H2 : Hid (B = true) := (by rw [H.out]; simp; omega : B = true)
            go_wp2
            go_ret
            exact ⟨by first | (rw [H2.out]; rfl) | exact ret_bool (by rw [H2.out]; simp; omega), rfl⟩
          · have H2 : Hid (B = false) := (by rw [H.out]; simp; omega : B = false)
            go_wp2
            go_ret
            exact ⟨by first | (rw [H2.out]; rfl) | exact ret_bool (by rw [H2.out]; simp; omega), rfl⟩
        · have H2 : Hid (B = false) := (by rw [H.out]; simp; omega : B = false)
          go_wp2
          go_ret
          exact ⟨by first | (rw [H2.out]; rfl) | exact ret_bool (by rw [H2.out]; simp; omega), rfl⟩
      · have H2 : Hid (B = false) := (by rw [HB.out, Sg.lightB, hll.out]; simp; omega : B = false)
        go_wp2
        go_ret
        exact ⟨by first | (rw [H2.out]; rfl) | exact ret_bool (by rw [H2.out]; simp; omega), rfl⟩
      · have H2 : Hid (B = false) := (by
          have := Sg.total_le vs k
          rw [← hn.out] at this
          rw [HB.out, Sg.lightB]; simp; omega : B = false)
        by_cases h6 : len ≤ 40
        · go_wp2
          go_ret
          exact ⟨by first | (rw [H2.out]; rfl) | exact ret_bool (by rw [H2.out]; simp; omega), rfl⟩
        · go_wp2
          go_ret
          exact ⟨by first | (rw [H2.out]; rfl) | exact ret_bool (by rw [H2.out]; simp; omega), rfl⟩

set_option maxRecDepth 100000 in
set_option maxHeartbeats 1000000 in
theorem slong_any (a : Option Addr) (len cap : Nat) (hs : List VH) (vs : List (List Nat)) (w : World) (hi : InV w a len cap hs vs) (hls : ∀ v ∈ vs, v.length ≤ 140737488355328) (hlb : len ≤ 140737488355328) :
    Calls Try.prog 14 #[.slice a len cap] w fun e w' => e = .returned (.bool (Sg.longB vs)) ∧ w' = w := by
  have hll : Hid (vs.length = len) := hi.len
  obtain ⟨B, hB⟩ : ∃ B, B = Sg.longB vs := ⟨_, rfl⟩
  rw [← hB]
  have HB : Hid (B = Sg.longB vs) := hB
  clear hB
  go_enter Try.func14, Try.ntmps14
  go_wp2
  go_loop [3] (fun i => ∃ k : Nat, k ≤ len ∧ i = .int .i64 k ∧ Hid (∀ j, j < k → (vs.getD j []).length ≤ 4096)) (fun i => len - (intOf i).toNat)
  case atStart => exact ⟨0, by omega, rfl, (fun j hj => by omega : ∀ j, j < 0 → (vs.getD j []).length ≤ 4096)⟩
  case round =>
    obtain ⟨k, hk, rfl, hn⟩ := hrel
    by_cases hlt : k < len
    · obtain ⟨b, off, rfl, hc⟩ := hi.get (by omega)
      obtain ⟨hcell, hrv, _⟩ := hc k hlt
      have hL : Hid ((vs.getD k []).length = (hs.getD k vhz).n) := hrv.1
      have hLb : (hs.getD k vhz).n ≤ 140737488355328 := by
        rw [← hL.out]
        have hk' : k < vs.length := by rw [hll.out]; exact hlt
        have : vs.getD k [] = vs[k] := by simp [hk']
        rw [this]; exact hls _ (List.getElem_mem hk')
      have Hmem : Hid (4096 < (hs.getD k vhz).n → Sg.longB vs = true) := (fun h => by
        have hk' : k < vs.length := by rw [hll.out]; exact hlt
        have e : vs.getD k [] = vs[k] := by simp [hk']
        rw [Sg.longB, List.any_eq_true]
        exact ⟨vs[k], List.getElem_mem hk', by rw [← e, hL.out]; simpa using h⟩)
      clear hc hrv
      generalize hs.getD k vhz = hh at *
      obtain ⟨A, L, C⟩ := hh
      simp only at hcell hLb
      by_cases h4 : 4096 < L
      · have H : Hid (B = true) := (by rw [HB.out]; exact Hmem.out h4 : B = true)
        go_wp2
        go_ret
        exact ⟨by rw [H.out]; rfl, rfl⟩
      · have H : Hid (∀ j, j < k + 1 → (vs.getD j []).length ≤ 4096) := (fun j hj => by
          by_cases h : j < k
          · exact hn.out j h
          · obtain rfl : j = k := by omega
            rw [hL.out]; show L ≤ 4096; omega)
        go_wp2
        go_round
        case rel => exact ⟨k + 1, by omega, by go_num, H⟩
        case measure => simp [intOf]; omega
    · have H : Hid (B = false) := (by
        rw [HB.out, Sg.longB, List.any_eq_false]
        intro v hv
        obtain ⟨j, hj, rfl⟩ := List.mem_iff_getElem.mp hv
        have := hn.out j (by rw [hll.out] at hj; omega)
        have e : vs.getD j [] = vs[j] := by simp [hj]
        rw [e] at this
        simp; omega : B = false)
      go_wp2
      go_ret
      exact ⟨by rw [H.out]; rfl, rfl⟩
theorem Sg.small_of {w : World} {a : Option Addr} {len cap : Nat} {hs : List VH} {vs : List (List Nat)} (hi : InV w a len cap hs vs) (h : Sg.longB vs = false) : Sg.Small vs := by
  intro v hv
  rw [Sg.longB, List.any_eq_false] at h
  refine ⟨by have := h v hv; simp at this; omega, ?_⟩
  obtain ⟨j, hj, rfl⟩ := List.mem_iff_getElem.mp hv
  have h1 := (hi.2.1.2 j (by rw [hi.2.1.1]; exact hj)).1.2.2.1
  have e : vs.getD j [] = vs[j] := by simp [hj]
  rw [e] at h1; exact h1

theorem Sg.walk789 : Sg.walk (Sg.put [[7, 8, 9]]) = ([[7, 8, 9]], 9) := by decide +kernel
theorem Sg.put789 : (Sg.put [[7, 8, 9]]).length = 9 := by decide +kernel
theorem Sg.one3 : Sg.pts 5 0 [[7, 8, 9]] = [(5, 2, 3, Crc.more 0 [7, 8, 9])] := by decide +kernel
theorem Sg.put789_small : ∀ x ∈ Sg.put [[7, 8, 9]], x < 256 := Sg.put_small (fun v hv => by simp only [List.mem_cons, List.not_mem_nil, or_false] at hv; subst hv; exact ⟨by decide, by decide⟩)

set_option maxRecDepth 100000 in
set_option maxHeartbeats 2000000 in
theorem sgawake_any (w : World) : Calls Try.prog 8 #[] w fun e w' => e = .returned (.bool true) ∧ Below w.heap.size w w' := by
  have hb1 := below_alloc w (.cells #[.int .u8 7, .int .u8 8, .int .u8 9] 5)
  have hb2 := hb1.alloc hb1.size (.cells #[.slice (some ⟨w.heap.size, 0, none⟩) 3 3] 23)
  have hw1 : (w.alloc (.cells #[.int .u8 7, .int .u8 8, .int .u8 9] 5)).heap.size = w.heap.size + 1 := by simp
  have hrow : Row .u8 ((w.alloc (.cells #[.int .u8 7, .int .u8 8, .int .u8 9] 5)).alloc (.cells #[.slice (some ⟨w.heap.size, 0, none⟩) 3 3] 23)) (some ⟨w.heap.size, 0, none⟩) 3 [7, 8, 9] :=
    (row_lit .u8 w 5 _ [7, 8, 9] 3 rfl rfl (by intro x hx; simp at hx; show x < 256; omega) (by omega)).below (below_alloc _ _) (Nat.le_refl _)
  have hin : InV ((w.alloc (.cells #[.int .u8 7, .int .u8 8, .int .u8 9] 5)).alloc (.cells #[.slice (some ⟨w.heap.size, 0, none⟩) 3 3] 23)) (some ⟨w.heap.size + 1, 0, none⟩) 1 1 [⟨some ⟨w.heap.size, 0, none⟩, 3, 3⟩] [[7, 8, 9]] :=
    ⟨trow_lit _ _ _ _ hw1 (fun j v hj => by
      match j, hj with
      | 0, hj => exact hj
      | j + 1, hj => simp [vhe] at hj), ⟨rfl, fun i hi => by
      obtain rfl : i = 0 := by simpa using hi
      exact ⟨hrow, (fun h => by cases h), Nat.le_refl _, .inr ⟨_, _, rfl, Nat.le_refl _⟩⟩⟩, (fun h => by cases h), Nat.le_refl _⟩
  have hput : Calls Try.prog 9 #[.slice (some ⟨w.heap.size + 1, 0, none⟩) 1 1] ((w.alloc (.cells #[.int .u8 7, .int .u8 8, .int .u8 9] 5)).alloc (.cells #[.slice (some ⟨w.heap.size, 0, none⟩) 3 3] 23)) fun e w' => ∃ a c, e = .returned (.tuple #[.slice a 9 c, .int .i64 0]) ∧ w'.ownsRow ((w.alloc (.cells #[.int .u8 7, .int .u8 8, .int .u8 9] 5)).alloc (.cells #[.slice (some ⟨w.heap.size, 0, none⟩) 3 3] 23)).heap.size 5 1 (.slice a 9 c) 9 (kcells .u8 (Sg.put [[7, 8, 9]])) ∧ Below ((w.alloc (.cells #[.int .u8 7, .int .u8 8, .int .u8 9] 5)).alloc (.cells #[.slice (some ⟨w.heap.size, 0, none⟩) 3 3] 23)).heap.size ((w.alloc (.cells #[.int .u8 7, .int .u8 8, .int .u8 9] 5)).alloc (.cells #[.slice (some ⟨w.heap.size, 0, none⟩) 3 3] 23)) w' := (sput_any _ _ 1 _ _ _ hin (fun v hv => by simp only [List.mem_cons, List.not_mem_nil, or_false] at hv; subst hv; exact ⟨by decide, by decide⟩) (by omega) (by decide)).mono (fun e w' h => by
    obtain ⟨a, c, h1, h2, h3⟩ := h
    rw [Sg.put789] at h1 h2
    exact ⟨a, c, h1, h2, h3⟩)
  have hwk : ∀ (W : World) a c (h : Row .u8 W a 9 (Sg.put [[7, 8, 9]])) (hs : Shape a 9 c), Calls Try.prog 17 #[.int .i64 5, .slice a 9 c] W fun e w' => ∃ a' c', e = .returned (.tuple #[.slice a' 1 c', .int .i64 9]) ∧ w'.ownsRow W.heap.size 32 4 (.slice a' 1 c') 1 [.int .i64 5, .int .i64 2, .int .i64 3, .int .u32 (Crc.more 0 [7, 8, 9] : Nat)] ∧ Below W.heap.size W w' := fun W a c h hs => (swalk_any 5 (by omega) (by omega) a 9 c _ W (by omega) hs h).mono (fun e w' h => by
    rw [Sg.walk789] at h
    simp only [] at h
    rw [Sg.one3] at h
    exact h)
  have hsm := Sg.put789_small
  generalize Sg.put [[7, 8, 9]] = bs at *
  generalize Crc.more 0 [7, 8, 9] = S at *
  clear hin hrow
  go_enter Try.func8, Try.ntmps8
  go_wp2_with (first
    | (go_at_call 9; go_must (refine hput.mono ?_; rintro e w1 ⟨a1, c1, rfl, hown1, hbel1⟩; have hB1 := hb2.trans (hbel1.mono hb2.size); obtain ⟨hr1, hn1, hs1⟩ := row_of_owns hown1 hsm (by omega); have hsh1 := own_shape hown1))
    | (go_at_call 17; go_must (refine (hwk _ _ _ hr1 hsh1).mono ?_; rintro e w2 ⟨a2, c2, rfl, hown2, hbel2⟩; have hB2 := hB1.trans (hbel2.mono hB1.size); obtain ⟨g, rfl, hgc⟩ := own_sm hown2 (by simp); have k0 := own_cell hown2 0 _ rfl; have k1 := own_cell hown2 1 _ rfl; have k2 := own_cell hown2 2 _ rfl)))
  go_ret
  exact ⟨rfl, hB2⟩
end Go.Proofs.Ytgdefibgifcbaaa
