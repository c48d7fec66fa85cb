/- without of the program: what of a number is gone, in the same memory. -/
import Derived.Test.YtfogodbbgbnhkaaGreatDoorRA
import Derived.Test.YtfogodbbgbnhkaaGreatDoorRD
import Derived.Deep.RegionHeld3
import Derived.Shelf.Abstract
namespace Go.Proofs.YtfogodbbgbnhkaaGreatDoor
open Go.RowKit

namespace Ro
section
variable {α : Type}
/-- the first of them -/
def DFst (p : α → Bool) (d : α) (l : List α) (n : Nat) (r : Int) : Prop := (r = -1 ∧ ∀ x ∈ l, p x = false) ∨ ∃ k : Nat, r = k ∧ k < n ∧ p (l.getD k d) = true ∧ ∀ j, j < k → p (l.getD j d) = false
def keep (p : α → Bool) (l : List α) : List α := l.filter (fun x => !p x)
/-- how a row stands of which some are being taken out: i are kept of the first j -/
structure Del (p : α → Bool) (l : List α) (i j : Nat) (cur : List α) : Prop where
  lt : i < j
  le : j ≤ l.length
  len : cur.length = l.length
  front : cur.take i = keep p (l.take j)
  rest : cur.drop j = l.drop j
theorem keep_all {p : α → Bool} {l : List α} (h : ∀ x ∈ l, p x = false) : keep p l = l := by
  unfold keep; rw [List.filter_eq_self]; intro x hx; simp [h x hx]
theorem keep_snoc (p : α → Bool) (l : List α) (x : α) : keep p (l ++ [x]) = keep p l ++ if p x = true then [] else [x] := by
  unfold keep; rw [List.filter_append]; congr 1; by_cases h : p x = true <;> simp [h]
theorem take_snoc {l : List α} {d : α} {j : Nat} (hj : j < l.length) : l.take (j + 1) = l.take j ++ [l.getD j d] := by rw [List.take_succ_eq_append_getElem hj]; simp [hj]
theorem del_start {p : α → Bool} {d : α} {l : List α} {k : Nat} (hk : k < l.length) (h0 : p (l.getD k d) = true) (h : ∀ j, j < k → p (l.getD j d) = false) : Del p l k (k + 1) l := by
  refine ⟨by omega, by omega, rfl, ?_, rfl⟩
  rw [take_snoc (d := d) hk, keep_snoc, if_pos h0, List.append_nil, keep_all]
  intro x hx
  obtain ⟨t, ht, rfl⟩ := List.getElem_of_mem hx
  rw [List.length_take] at ht
  have := h t (by omega)
  simpa [show t < l.length by omega] using this
theorem del_at {p : α → Bool} {d : α} {l cur : List α} {i j : Nat} (h : Del p l i j cur) : cur.getD j d = l.getD j d := by
  have e := h.rest
  have h1 : (cur.drop j)[0]? = (l.drop j)[0]? := by rw [e]
  rw [List.getElem?_drop, List.getElem?_drop, Nat.add_zero] at h1
  rw [List.getD_eq_getElem?_getD, List.getD_eq_getElem?_getD, h1]
theorem del_skip {p : α → Bool} {d : α} {l cur : List α} {i j : Nat} (h : Del p l i j cur) (hj : j < l.length) (h0 : p (l.getD j d) = true) : Del p l i (j + 1) cur := by
  refine ⟨by have := h.lt; omega, hj, h.len, ?_, ?_⟩
  · rw [take_snoc (d := d) hj, keep_snoc, if_pos h0, List.append_nil, h.front]
  · have := h.rest
    rw [← List.drop_drop, ← List.drop_drop, this]
theorem del_keep {p : α → Bool} {d : α} {l cur : List α} {i j : Nat} (h : Del p l i j cur) (hj : j < l.length) (h0 : p (l.getD j d) = false) : Del p l (i + 1) (j + 1) (cur.set i (l.getD j d)) := by
  have hlt := h.lt
  have hl := h.len
  refine ⟨by omega, hj, by rw [List.length_set]; exact hl, ?_, ?_⟩
  · rw [take_snoc (d := d) hj, keep_snoc, if_neg (fun e => by rw [h0] at e; cases e), ← h.front, List.take_succ_eq_append_getElem (by rw [List.length_set]; omega), List.take_set_of_le (Nat.le_refl _)]
    simp
  · rw [List.drop_set_of_lt (by omega)]
    have := h.rest
    rw [← List.drop_drop, ← List.drop_drop, this]
theorem del_end {p : α → Bool} {l cur : List α} {i : Nat} (h : Del p l i l.length cur) : cur.take i = keep p l ∧ (keep p l).length = i := by
  have := h.front
  rw [List.take_length] at this
  refine ⟨this, ?_⟩
  rw [← this, List.length_take, h.len]
  have := h.lt
  omega
end
end Ro
/-- what a closure of the program holds: a function and a number -/
def CapAt (ft c1 c2 : Nat) (F : Value) (nn : Int) (W : World) : Prop := W.heap[c1]? = some (.cells #[F] ft (0, 0)) ∧ W.heap[c2]? = some (.cells #[.int .i64 nn] 3 (0, 0))
theorem CapAt.below {ft c1 c2 : Nat} {F : Value} {nn : Int} {W W' : World} (h : CapAt ft c1 c2 F nn W) (hb : Below W.heap.size W W') : CapAt ft c1 c2 F nn W' :=
  ⟨(hb.block _ (ob_ltB h.1)).trans h.1, (hb.block _ (ob_ltB h.2)).trans h.2⟩
theorem CapAt.grown {ft c1 c2 : Nat} {F : Value} {nn : Int} {W W' : World} {row : Option Nat} (h : CapAt ft c1 c2 F nn W) (hg : W.grownBy W' row) (h1 : some c1 ≠ row) (h2 : some c2 ≠ row) : CapAt ft c1 c2 F nn W' :=
  ⟨(hg.block _ (ob_ltB h.1) h1).trans h.1, (hg.block _ (ob_ltB h.2) h2).trans h.2⟩

set_option maxRecDepth 100000 in
set_option maxHeartbeats 400000 in
theorem rwo1_m (f : Int × Int → Int) (fid : Nat) (eg : ∀ args w, (callFunc fid args).run Tryz.prog w = .ok (.enter fid args) w)
    (hdo : ∀ (x y : Int) (W : World), Calls Tryz.prog fid #[.agg #[.int .i64 x, .int .i64 y]] W fun e W' => e = .returned (.int .i64 (f (x, y))) ∧ Below W.heap.size W W')
    (c1 c2 : Nat) (nn : Int) (x y : Int) (w : World) (hC : CapAt 135 c1 c2 (.func (.func fid) #[] #[]) nn w) :
    Calls Tryz.prog 132 #[.agg #[.int .i64 x, .int .i64 y], .pointer (some ⟨c1, 0, none⟩), .pointer (some ⟨c2, 0, none⟩)] w fun e w' => e = .returned (.bool (decide (f (x, y) = nn))) ∧ Below w.heap.size w w' := by
  have hd := fun W => hdo x y W
  generalize f (x, y) = yy at *
  obtain ⟨R, hR⟩ : ∃ R, R = decide (yy = nn) := ⟨_, rfl⟩
  rw [← hR]
  have hRe : (yy == nn) = R := by rw [hR]; by_cases h : yy = nn <;> simp [h]
  obtain ⟨U, hU⟩ : ∃ U, U = w.alloc (.cells #[.int .i64 x, .int .i64 y] 64) := ⟨_, rfl⟩
  have hbU : Below w.heap.size w U := by rw [hU]; exact below_alloc _ _
  have hq : U.heap[w.heap.size]? = some (.cells #[.int .i64 x, .int .i64 y] 64 (0, 0)) := by rw [hU]; exact heap_alloc_new _ _
  have hCU := hC.below hbU
  have HV : Hid (∀ W, Below U.heap.size U W → (W.cell? ⟨c1, 0, none⟩ = some (.func (.func fid) #[] #[]) ∧ W.cell? ⟨c2, 0, none⟩ = some (.int .i64 nn) ∧ W.cell? ⟨w.heap.size, 0, none⟩ = some (.int .i64 x) ∧ W.cell? ⟨w.heap.size, 1, none⟩ = some (.int .i64 y))) := (fun W h => by
    have a := (blkc ((h.block _ (ob_ltB hq)).trans hq)).1
    have b := hCU.below h
    exact ⟨(blkc b.1).1 0, (blkc b.2).1 0, a 0, a 1⟩ : ∀ W, Below U.heap.size U W → _)
  obtain ⟨v1, v2, l0, l1⟩ := HV.out U (Below.refl _ _)
  have HU : Hid (Below w.heap.size w U) := hbU
  have hUe : w.alloc (.cells #[.int .i64 x, .int .i64 y] 64) = U := hU.symm
  clear hC hCU hq hU hbU hR hdo
  go_enter Tryz.func132, Tryz.ntmps132
  go_wp2_with fail
  clear hUe
  go_region_held3 (fun W => W.cell? ⟨c1, 0, none⟩ = some (.func (.func fid) #[] #[]) ∧ W.cell? ⟨c2, 0, none⟩ = some (.int .i64 nn) ∧ W.cell? ⟨w.heap.size, 0, none⟩ = some (.int .i64 x) ∧ W.cell? ⟨w.heap.size, 1, none⟩ = some (.int .i64 y)) (first | go_keep | (refine ⟨?_, ?_, ?_, ?_⟩ <;> assumption))
    ((go_at_fn fid; go_must (refine (hd _).mono ?_; rintro e w5 ⟨rfl, b5⟩; have hb5 := below_of_drew b5; obtain ⟨v1', v2', l0', l1'⟩ := HV.out w5 hb5)))
  all_goals
    go_wp2
    go_ret
    exact ⟨rfl, HU.out.trans (hb5.mono HU.out.size)⟩

set_option maxRecDepth 100000 in
set_option maxHeartbeats 1000000 in
theorem rindex_m (p : Int × Int → Bool) (c1 c2 : Nat) (F : Value) (nn : Int) (hcl : ∀ (x y : Int) (V : World), CapAt 135 c1 c2 F nn V → Calls Tryz.prog 132 #[.agg #[.int .i64 x, .int .i64 y], .pointer (some ⟨c1, 0, none⟩), .pointer (some ⟨c2, 0, none⟩)] V fun e w' => e = .returned (.bool (p (x, y))) ∧ Below V.heap.size V w')
    (a : Option Addr) (n c : Nat) (l : List (Int × Int)) (w : World) (hn : n ≤ 1000000) (hr : MRow w a n l) (hC : CapAt 135 c1 c2 F nn w) :
    Calls Tryz.prog 177 #[.slice a n c, .func (.func 132) #[] #[.pointer (some ⟨c1, 0, none⟩), .pointer (some ⟨c2, 0, none⟩)]] w fun e w' => ∃ r : Int, e = .returned (.int .i64 r) ∧ Ro.DFst p (0, 0) l n r ∧ Below w.heap.size w w' := by
  have hll : Hid (l.length = n) := hr.1
  go_enter Tryz.func177, Tryz.ntmps177
  go_wp2
  go_loopw [8] (fun i wr => ∃ k : Nat, k ≤ n ∧ i = .int .i64 k ∧ Hid (∀ j, j < k → p (l.getD j (0, 0)) = false) ∧ Below w.heap.size w wr) (fun i _ => n - (intOf i).toNat)
  case atStart => exact ⟨0, by omega, rfl, (fun j hj => by omega : ∀ j, j < 0 → p (l.getD j (0, 0)) = false), Below.refl _ _⟩
  case round =>
    obtain ⟨k, hk, rfl, H, hbel⟩ := hrel
    by_cases hlt : k < n
    · obtain ⟨b, off, x, y, rfl, hx, q0, q1⟩ := mget hr hbel hlt
      have hd := hcl x y wr (hC.below hbel)
      have i0 : (0 : Int) ≤ (k : Int) := by omega
      have i1 : (k : Int) < (n : Int) := by omega
      cases hz : p (x, y) with
      | true =>
        rw [hz] at hd
        have HE : Hid (p (l.getD k (0, 0)) = true) := (by rw [hx.out]; exact hz : _ = _)
        clear hx hz hcl
        go_wp2_with (go_at_call 132; go_must (refine hd.mono ?_; rintro e w2 ⟨rfl, hb2⟩))
        go_ret
        exact ⟨(k : Int), rfl, .inr ⟨k, rfl, hlt, HE.out, H.out⟩, hbel.trans (hb2.mono hbel.size)⟩
      | false =>
        rw [hz] at hd
        have H2 : Hid (∀ j, j < k + 1 → p (l.getD j (0, 0)) = false) := (fun j hj => by
          rcases Nat.lt_or_ge j k with h | h
          · exact H.out j h
          · obtain rfl : j = k := by omega
            rw [hx.out]; exact hz : ∀ j, j < k + 1 → p (l.getD j (0, 0)) = false)
        clear hx hz hcl
        go_wp2_with (go_at_call 132; go_must (refine hd.mono ?_; rintro e w2 ⟨rfl, hb2⟩))
        go_roundw
        case rel => exact ⟨k + 1, by omega, by go_num, H2, hbel.trans (hb2.mono hbel.size)⟩
        case measure => simp [intOf]; omega
    · obtain rfl : k = n := by omega
      have HF : Hid (Ro.DFst p (0, 0) l k (-1)) := (.inl ⟨rfl, fun x hx => by
        obtain ⟨t, ht, rfl⟩ := List.getElem_of_mem hx
        have := H.out t (by rw [← hll.out]; exact ht)
        simpa [ht] using this⟩ : Ro.DFst p (0, 0) l k (-1))
      go_wp2
      go_ret
      exact ⟨-1, rfl, HF.out, hbel⟩

theorem tat_m {l : List (Int × Int)} {k : Nat} (hk : k < l.length) {x y : Int} (hx : l.getD k (0, 0) = (x, y)) : (tcells me l)[k * 2]? = some (.int .i64 x) ∧ (tcells me l)[k * 2 + 1]? = some (.int .i64 y) := by
  have hg := fun j hj => tcells_get (d := (0, 0)) meE l k j hk hj
  rw [hx] at hg
  exact ⟨hg 0 (by omega), hg 1 (by omega)⟩
theorem tany_m {l : List (Int × Int)} {k : Nat} (hk : k < l.length) : ∃ u0 u1, (tcells me l)[k * 2]? = some u0 ∧ (tcells me l)[k * 2 + 1]? = some u1 := by
  obtain ⟨x, y, hx⟩ : ∃ x y, l.getD k (0, 0) = (x, y) := ⟨_, _, rfl⟩
  obtain ⟨h0, h1⟩ := tat_m hk hx
  exact ⟨_, _, h0, h1⟩

set_option maxRecDepth 100000 in
set_option maxHeartbeats 4000000 in
theorem rdel_m (p : Int × Int → Bool) (c1 c2 : Nat) (F : Value) (nn : Int) (hcl : ∀ (x y : Int) (V : World), CapAt 135 c1 c2 F nn V → Calls Tryz.prog 132 #[.agg #[.int .i64 x, .int .i64 y], .pointer (some ⟨c1, 0, none⟩), .pointer (some ⟨c2, 0, none⟩)] V fun e w' => e = .returned (.bool (p (x, y))) ∧ Below V.heap.size V w')
    (a : Option Addr) (n c B : Nat) (l : List (Int × Int)) (w : World) (hn : n ≤ 1000000) (hown : w.ownsRow B 64 2 (.slice a n c) n (tcells me l)) (hC : CapAt 135 c1 c2 F nn w) :
    Calls Tryz.prog 131 #[.slice a n c, .func (.func 132) #[] #[.pointer (some ⟨c1, 0, none⟩), .pointer (some ⟨c2, 0, none⟩)]] w fun e w' => ∃ a' c', e = .returned (.slice a' (Ro.keep p l).length c') ∧ w'.ownsRow B 64 2 (.slice a' (Ro.keep p l).length c') (Ro.keep p l).length (tcells me (Ro.keep p l)) ∧ w.grownBy w' (Value.slice a n c).ownBlock := by
  have hl : l.length = n := by have := hown.1; rw [tcells_length meE] at this; omega
  have hll : Hid (l.length = n) := hl
  have hix := rindex_m p c1 c2 F nn hcl a n c l w hn (trow_of_owns meE hown (by omega) (by omega)) hC
  obtain ⟨K, hK⟩ : ∃ K, K = Ro.keep p l := ⟨_, rfl⟩
  rw [← hK]
  have HK : Hid (K = Ro.keep p l) := hK
  have hne1 : ∀ k : Nat, (((k : Nat) : Int) == -1) = false := fun k => beq_eq_false_iff_ne.2 (by omega)
  clear hK hl
  go_enter Tryz.func131, Tryz.ntmps131
  go_wp2_with (go_at_call 177; go_must (refine hix.mono ?_; rintro e w1 ⟨r, rfl, hf, hb1⟩; have hown1 := own_keptB hown hb1; have hC1 := hC.below hb1; have hbB := grown_any hb1 (Value.slice a n c).ownBlock; clear hix hown hb1 hC; rcases hf with ⟨rfl, hall⟩ | ⟨k0, rfl, hk0, hz, hbef⟩))
  · go_ret
    have e1 : K = l := by rw [HK.out, Ro.keep_all hall]
    subst e1
    obtain rfl := hll.out
    exact ⟨a, c, rfl, hown1, hbB⟩
  · have hd := Ro.del_start (p := p) (l := l) (by rw [hll.out]; exact hk0) hz hbef
    have HD : Hid (Ro.Del p l k0 (k0 + 1) l) := hd
    obtain ⟨g, rfl⟩ := town_blk hown1 (by omega)
    have hgb := own_lt hown1
    have hnc : n ≤ c := by
      obtain ⟨_, _, e, _, h⟩ := t_shape hown1
      simp only [Value.slice.injEq] at e
      omega
    have hg1 : ¬ (c1 = g) := fun e => obr_apart hC1.1 hown1 (by decide) (by rw [e]; rfl)
    have hg2 : ¬ (c2 = g) := fun e => obr_apart hC1.2 hown1 (by decide) (by rw [e]; rfl)
    clear hd hz hbef hne1
    go_wp2
    go_loopw [5, 6, 7] (fun u v _ wr => ∃ (i j : Nat) (cur : List (Int × Int)), u = .int .i64 i ∧ v = .int .i64 j ∧ i < j ∧ j ≤ n ∧ Hid (Ro.Del p l i j cur) ∧ wr.ownsRow B 64 2 (.slice (some ⟨g, 0, none⟩) n c) n (tcells me cur) ∧ w.grownBy wr (some g) ∧ CapAt 135 c1 c2 F nn wr) (fun _ v _ _ => n - (intOf v).toNat)
    case atStart => exact ⟨k0, k0 + 1, l, rfl, by go_num, by omega, by omega, HD, hown1, hbB, hC1⟩
    case round =>
      obtain ⟨i, j, cur, rfl, rfl, hij, hjn, D, hown, hbel, hC⟩ := hrel
      clear hown1 hbB HD hC1
      by_cases hlt : j < n
      · have hjl : j < l.length := by rw [hll.out]; exact hlt
        have hcl' : cur.length = n := by rw [D.out.len]; exact hll.out
        obtain ⟨x, y, hx⟩ : ∃ x y, l.getD j (0, 0) = (x, y) := ⟨_, _, rfl⟩
        have hxc : cur.getD j (0, 0) = (x, y) := by rw [Ro.del_at D.out]; exact hx
        obtain ⟨t0, t1⟩ := tat_m (l := cur) (by omega) hxc
        obtain ⟨y0, z0⟩ := own_cells hown t0; obtain ⟨y1, z1⟩ := own_cells hown t1
        have Hs : Hid (p (x, y) = true → Ro.Del p l i (j + 1) cur) := (fun h => Ro.del_skip (d := (0, 0)) D.out hjl (by rw [hx]; exact h) : _ → _)
        have Hk : Hid (p (x, y) = false → Ro.Del p l (i + 1) (j + 1) (cur.set i (x, y))) := (fun h => by have := Ro.del_keep (d := (0, 0)) D.out hjl (by rw [hx]; exact h); rwa [hx] at this : _ → _)
        have HC : Hid (i < cur.length) := (by omega : i < cur.length)
        have i0 : (0 : Int) ≤ (j : Int) := by omega
        have i1 : (j : Int) < (n : Int) := by omega
        have i2 : (0 : Int) ≤ (i : Int) := by omega
        have i3 : (i : Int) < (n : Int) := by omega
        have ha := below_alloc wr (.cells #[.int .i64 x, .int .i64 y] 64)
        have hb2 := hbel.trans (grown_any ha (some g))
        have hown2 := hown.alloc (.cells #[.int .i64 x, .int .i64 y] 64)
        have hC2 := hC.below ha
        have s0 := cell_new wr #[.int .i64 x, .int .i64 y] 64 0; have s1 := cell_new wr #[.int .i64 x, .int .i64 y] 64 1
        have HW : Hid (∀ W, Below (wr.alloc (.cells #[.int .i64 x, .int .i64 y] 64)).heap.size (wr.alloc (.cells #[.int .i64 x, .int .i64 y] 64)) W → W.cell? ⟨wr.heap.size, 0, none⟩ = some (.int .i64 x) ∧ W.cell? ⟨wr.heap.size, 1, none⟩ = some (.int .i64 y)) := (fun W hW => ⟨(hW.cell (p := ⟨wr.heap.size, 0, none⟩) (by simp)).trans s0, (hW.cell (p := ⟨wr.heap.size, 1, none⟩) (by simp)).trans s1⟩ : ∀ W, _ → _)
        have HI : Hid (∀ W : World, W.ownsRow B 64 2 (.slice (some ⟨g, 0, none⟩) n c) n (tcells me cur) → ∃ o0 o1, (W.cell? ⟨g, i * 2, none⟩ = some o0 ∧ W.frozen? ⟨g, i * 2, none⟩ = false) ∧ (W.cell? ⟨g, i * 2 + 1, none⟩ = some o1 ∧ W.frozen? ⟨g, i * 2 + 1, none⟩ = false)) := (fun W hW => by
          obtain ⟨u0, u1, q0, q1⟩ := tany_m (l := cur) (k := i) HC.out
          exact ⟨_, _, own_cells hW q0, own_cells hW q1⟩ : ∀ W : World, _ → _)
        have hd := fun V h => hcl x y V h
        clear t0 t1 hcl' hjl D hown hbel hx hxc hcl
        cases hz : p (x, y) with
        | true =>
          rw [hz] at hd
          have H2 : Hid (Ro.Del p l i (j + 1) cur) := Hs.out hz
          clear hz Hs Hk HI
          go_wp2_with (go_at_call 132; go_must (refine (hd _ hC2).mono ?_; rintro e w2 ⟨rfl, hb3⟩))
          go_roundw
          case rel => exact ⟨i, j + 1, cur, rfl, by go_num, by omega, by omega, H2, own_keptB hown2 hb3, hb2.trans (grown_any hb3 (some g)), hC2.below hb3⟩
          case measure => simp [intOf]; omega
        | false =>
          rw [hz] at hd
          have H2 : Hid (Ro.Del p l (i + 1) (j + 1) (cur.set i (x, y))) := Hk.out hz
          clear hz Hs Hk
          go_wp2_with (go_at_call 132; go_must (refine (hd _ hC2).mono ?_; rintro e w2 ⟨rfl, hb3⟩; have hown3 := own_keptB hown2 hb3; have hb4 := hb2.trans (grown_any hb3 (some g)); have hC3 := hC2.below hb3; obtain ⟨r0, r1⟩ := HW.out w2 hb3; obtain ⟨o0, o1, ⟨f0, h0⟩, ⟨f1, h1⟩⟩ := HI.out w2 hown3; clear hown2 hb2 s0 y0 z0 s1 y1 z1))
          have hst := own_setL [.int .i64 x, .int .i64 y] (i * 2) hown3
          have htc := tcells_setL meE cur i (x, y) HC.out
          have hbs := hb4.trans (turned_setL g [.int .i64 x, .int .i64 y] (i * 2) w2)
          have hCs := hC3.grown (turned_setL g [.int .i64 x, .int .i64 y] (i * 2) w2) (fun e => hg1 (Option.some.inj e)) (fun e => hg2 (Option.some.inj e))
          rw [show [.int .i64 x, .int .i64 y] = me (x, y) from rfl, htc] at hst
          go_roundw
          case rel => exact ⟨i + 1, j + 1, cur.set i (x, y), by go_num, by go_num, by omega, by omega, H2, hst, hbs, hCs⟩
          case measure => simp [intOf]; omega
      · obtain rfl : j = n := by omega
        have hcl' : cur.length = j := by rw [D.out.len]; exact hll.out
        have hcells : ∀ t, t < j * 2 → (wr.cell? ⟨g, t, none⟩).isSome = true ∧ wr.frozen? ⟨g, t, none⟩ = false := fun t ht => by
          have h1 : t < (tcells me cur).length := by rw [tcells_length meE, hcl']; exact ht
          have h2 := own_cells hown (j := t) (v := (tcells me cur)[t]) (List.getElem?_eq_getElem h1)
          exact ⟨by rw [h2.1]; rfl, h2.2⟩
        have hclr : ∀ ty, (Builtin.clear_ #[28] ty #[.slice (some ⟨g, i * 2, none⟩) (j - i) (c - i)]).run Tryz.prog wr = .ok (.tuple #[]) (wr.setCells g (i * 2) (Builtin.zeroCells (Value.agg #[.int .i64 0, .int .i64 0]).cells (j - i)).toList) :=
          fun ty => run_clear_s moveE (by decide) wr ty g (i * 2) (j - i) (c - i) (by omega) (fun t ht => (hcells (i * 2 + t) (by omega)).1) (fun t ht => (hcells (i * 2 + t) (by omega)).2)
        have hfin := own_sets (Builtin.zeroCells (Value.agg #[.int .i64 0, .int .i64 0]).cells (j - i)).toList (i * 2) (Nat.le_refl _) (own_take hown (m := i) (by omega))
        have hbf := hbel.trans (turned_setL g (Builtin.zeroCells (Value.agg #[.int .i64 0, .int .i64 0]).cells (j - i)).toList (i * 2) wr)
        obtain ⟨d1, d2⟩ := Ro.del_end (l := l) (i := i) (cur := cur) (by rw [hll.out]; exact D.out)
        rw [tcells_take_s meE, d1] at hfin
        rw [← HK.out] at hfin d2
        generalize (Builtin.zeroCells (Value.agg #[.int .i64 0, .int .i64 0]).cells (j - i)).toList = Z at *
        have HF : Hid (World.ownsRow _ _ _ _ _ _ _) := hfin
        have HD2 : Hid (K.length = i) := d2
        clear hfin d1 d2 hcells hcl' D
        go_wp2
        go_ret
        obtain rfl := HD2.out
        exact ⟨some ⟨g, 0, none⟩, c, rfl, HF.out, hbf⟩

set_option maxRecDepth 100000 in
set_option maxHeartbeats 1000000 in
theorem rwithout_m (f : Int × Int → Int) (fid : Nat) (eg : ∀ args w, (callFunc fid args).run Tryz.prog w = .ok (.enter fid args) w)
    (hdo : ∀ (x y : Int) (W : World), Calls Tryz.prog fid #[.agg #[.int .i64 x, .int .i64 y]] W fun e W' => e = .returned (.int .i64 (f (x, y))) ∧ Below W.heap.size W W')
    (nn : Int) (a : Option Addr) (n c B : Nat) (l : List (Int × Int)) (w : World) (hn : n ≤ 1000000) (hown : w.ownsRow B 64 2 (.slice a n c) n (tcells me l)) :
    Calls Tryz.prog 72 #[.slice a n c, .func (.func fid) #[] #[], .int .i64 nn] w fun e w' => ∃ a' c', e = .returned (.tuple #[.slice a' (Ro.out f nn l).length c', .bool (decide ((Ro.out f nn l).length < n))]) ∧ w'.ownsRow B 64 2 (.slice a' (Ro.out f nn l).length c') (Ro.out f nn l).length (tcells me (Ro.out f nn l)) ∧ w.grownBy w' (Value.slice a n c).ownBlock := by
  have hb0 := below_two w (.cells #[.func (.func fid) #[] #[]] 135) (.cells #[.int .i64 nn] 3)
  have hC : CapAt 135 w.heap.size (w.heap.size + 1) (.func (.func fid) #[] #[]) nn ((w.alloc (.cells #[.func (.func fid) #[] #[]] 135)).alloc (.cells #[.int .i64 nn] 3)) :=
    ⟨(Below.heap_alloc _ _ _ (by simp)).trans (heap_alloc_new _ _), by have := heap_alloc_new (w.alloc (.cells #[.func (.func fid) #[] #[]] 135)) (.cells #[.int .i64 nn] 3); rwa [World.size_alloc] at this⟩
  have hde := rdel_m (fun x => decide (f x = nn)) w.heap.size (w.heap.size + 1) (.func (.func fid) #[] #[]) nn (fun x y V h => rwo1_m f fid eg hdo w.heap.size (w.heap.size + 1) nn x y V h) a n c B l _ hn (own_keptB hown hb0) hC
  have hk : Ro.keep (fun x => decide (f x = nn)) l = Ro.out f nn l := rfl
  rw [hk] at hde
  generalize Ro.out f nn l = K at *
  have hg0 := grown_any hb0 (Value.slice a n c).ownBlock
  have hdd : decide ((K.length : Int) < (n : Int)) = decide (K.length < n) := decide_eq_decide.mpr (by omega)
  clear hk hC hown hb0
  go_enter Tryz.func72, Tryz.ntmps72
  go_wp2_with (go_at_call 131; go_must (refine hde.mono ?_; rintro e w2 ⟨a', c', rfl, hown2, hg2⟩))
  go_ret2
  exact ⟨a', c', rfl, hown2, hg0.trans hg2⟩

set_option maxRecDepth 100000 in
set_option maxHeartbeats 400000 in
theorem rwo1_t (f : Lv.T → Int) (fid : Nat) (eg : ∀ args w, (callFunc fid args).run Tryz.prog w = .ok (.enter fid args) w)
    (hdo : ∀ (x1 x2 x3 : Int) (x4 x5 : ByteArray) (W : World), Calls Tryz.prog fid #[.agg #[.int .i64 x1, .int .i64 x2, .int .i64 x3, .string x4, .string x5]] W fun e W' => e = .returned (.int .i64 (f ⟨x1, x2, x3, x4, x5⟩)) ∧ Below W.heap.size W W')
    (c1 c2 : Nat) (nn : Int) (x1 x2 x3 : Int) (x4 x5 : ByteArray) (w : World) (hC : CapAt 138 c1 c2 (.func (.func fid) #[] #[]) nn w) :
    Calls Tryz.prog 134 #[.agg #[.int .i64 x1, .int .i64 x2, .int .i64 x3, .string x4, .string x5], .pointer (some ⟨c1, 0, none⟩), .pointer (some ⟨c2, 0, none⟩)] w fun e w' => e = .returned (.bool (decide (f ⟨x1, x2, x3, x4, x5⟩ = nn))) ∧ Below w.heap.size w w' := by
  have hd := fun W => hdo x1 x2 x3 x4 x5 W
  generalize f ⟨x1, x2, x3, x4, x5⟩ = yy at *
  obtain ⟨R, hR⟩ : ∃ R, R = decide (yy = nn) := ⟨_, rfl⟩
  rw [← hR]
  have hRe : (yy == nn) = R := by rw [hR]; by_cases h : yy = nn <;> simp [h]
  obtain ⟨U, hU⟩ : ∃ U, U = w.alloc (.cells #[.int .i64 x1, .int .i64 x2, .int .i64 x3, .string x4, .string x5] 50) := ⟨_, rfl⟩
  have hbU : Below w.heap.size w U := by rw [hU]; exact below_alloc _ _
  have hq : U.heap[w.heap.size]? = some (.cells #[.int .i64 x1, .int .i64 x2, .int .i64 x3, .string x4, .string x5] 50 (0, 0)) := by rw [hU]; exact heap_alloc_new _ _
  have hCU := hC.below hbU
  have HV : Hid (∀ W, Below U.heap.size U W → (W.cell? ⟨c1, 0, none⟩ = some (.func (.func fid) #[] #[]) ∧ W.cell? ⟨c2, 0, none⟩ = some (.int .i64 nn) ∧ W.cell? ⟨w.heap.size, 0, none⟩ = some (.int .i64 x1) ∧ W.cell? ⟨w.heap.size, 1, none⟩ = some (.int .i64 x2) ∧ W.cell? ⟨w.heap.size, 2, none⟩ = some (.int .i64 x3) ∧ W.cell? ⟨w.heap.size, 3, none⟩ = some (.string x4) ∧ W.cell? ⟨w.heap.size, 4, none⟩ = some (.string x5))) := (fun W h => by
    have a := (blkc ((h.block _ (ob_ltB hq)).trans hq)).1
    have b := hCU.below h
    exact ⟨(blkc b.1).1 0, (blkc b.2).1 0, a 0, a 1, a 2, a 3, a 4⟩ : ∀ W, Below U.heap.size U W → _)
  obtain ⟨v1, v2, l0, l1, l2, l3, l4⟩ := HV.out U (Below.refl _ _)
  have HU : Hid (Below w.heap.size w U) := hbU
  have hUe : w.alloc (.cells #[.int .i64 x1, .int .i64 x2, .int .i64 x3, .string x4, .string x5] 50) = U := hU.symm
  clear hC hCU hq hU hbU hR hdo
  go_enter Tryz.func134, Tryz.ntmps134
  go_wp2_with fail
  clear hUe
  go_region_held3 (fun W => W.cell? ⟨c1, 0, none⟩ = some (.func (.func fid) #[] #[]) ∧ W.cell? ⟨c2, 0, none⟩ = some (.int .i64 nn) ∧ W.cell? ⟨w.heap.size, 0, none⟩ = some (.int .i64 x1) ∧ W.cell? ⟨w.heap.size, 1, none⟩ = some (.int .i64 x2) ∧ W.cell? ⟨w.heap.size, 2, none⟩ = some (.int .i64 x3) ∧ W.cell? ⟨w.heap.size, 3, none⟩ = some (.string x4) ∧ W.cell? ⟨w.heap.size, 4, none⟩ = some (.string x5)) (first | go_keep | (refine ⟨?_, ?_, ?_, ?_, ?_, ?_, ?_⟩ <;> assumption))
    ((go_at_fn fid; go_must (refine (hd _).mono ?_; rintro e w5 ⟨rfl, b5⟩; have hb5 := below_of_drew b5; obtain ⟨v1', v2', l0', l1', l2', l3', l4'⟩ := HV.out w5 hb5)))
  all_goals
    go_wp2
    go_ret
    exact ⟨rfl, HU.out.trans (hb5.mono HU.out.size)⟩

set_option maxRecDepth 100000 in
set_option maxHeartbeats 1000000 in
theorem rindex_t (p : Lv.T → Bool) (c1 c2 : Nat) (F : Value) (nn : Int) (hcl : ∀ (x1 x2 x3 : Int) (x4 x5 : ByteArray) (V : World), CapAt 138 c1 c2 F nn V → Calls Tryz.prog 134 #[.agg #[.int .i64 x1, .int .i64 x2, .int .i64 x3, .string x4, .string x5], .pointer (some ⟨c1, 0, none⟩), .pointer (some ⟨c2, 0, none⟩)] V fun e w' => e = .returned (.bool (p ⟨x1, x2, x3, x4, x5⟩)) ∧ Below V.heap.size V w')
    (a : Option Addr) (n c : Nat) (l : List (Lv.T)) (w : World) (hn : n ≤ 1000000) (hr : LRow w a n l) (hC : CapAt 138 c1 c2 F nn w) :
    Calls Tryz.prog 178 #[.slice a n c, .func (.func 134) #[] #[.pointer (some ⟨c1, 0, none⟩), .pointer (some ⟨c2, 0, none⟩)]] w fun e w' => ∃ r : Int, e = .returned (.int .i64 r) ∧ Ro.DFst p Lv.zero l n r ∧ Below w.heap.size w w' := by
  have hll : Hid (l.length = n) := hr.1
  go_enter Tryz.func178, Tryz.ntmps178
  go_wp2
  go_loopw [8] (fun i wr => ∃ k : Nat, k ≤ n ∧ i = .int .i64 k ∧ Hid (∀ j, j < k → p (l.getD j Lv.zero) = false) ∧ Below w.heap.size w wr) (fun i _ => n - (intOf i).toNat)
  case atStart => exact ⟨0, by omega, rfl, (fun j hj => by omega : ∀ j, j < 0 → p (l.getD j Lv.zero) = false), Below.refl _ _⟩
  case round =>
    obtain ⟨k, hk, rfl, H, hbel⟩ := hrel
    by_cases hlt : k < n
    · obtain ⟨b, off, x1, x2, x3, x4, x5, rfl, hx, q0, q1, q2, q3, q4⟩ := lget hr hbel hlt
      have hd := hcl x1 x2 x3 x4 x5 wr (hC.below hbel)
      have i0 : (0 : Int) ≤ (k : Int) := by omega
      have i1 : (k : Int) < (n : Int) := by omega
      cases hz : p ⟨x1, x2, x3, x4, x5⟩ with
      | true =>
        rw [hz] at hd
        have HE : Hid (p (l.getD k Lv.zero) = true) := (by rw [hx.out]; exact hz : _ = _)
        clear hx hz hcl
        go_wp2_with (go_at_call 134; go_must (refine hd.mono ?_; rintro e w2 ⟨rfl, hb2⟩))
        go_ret
        exact ⟨(k : Int), rfl, .inr ⟨k, rfl, hlt, HE.out, H.out⟩, hbel.trans (hb2.mono hbel.size)⟩
      | false =>
        rw [hz] at hd
        have H2 : Hid (∀ j, j < k + 1 → p (l.getD j Lv.zero) = false) := (fun j hj => by
          rcases Nat.lt_or_ge j k with h | h
          · exact H.out j h
          · obtain rfl : j = k := by omega
            rw [hx.out]; exact hz : ∀ j, j < k + 1 → p (l.getD j Lv.zero) = false)
        clear hx hz hcl
        go_wp2_with (go_at_call 134; go_must (refine hd.mono ?_; rintro e w2 ⟨rfl, hb2⟩))
        go_roundw
        case rel => exact ⟨k + 1, by omega, by go_num, H2, hbel.trans (hb2.mono hbel.size)⟩
        case measure => simp [intOf]; omega
    · obtain rfl : k = n := by omega
      have HF : Hid (Ro.DFst p Lv.zero l k (-1)) := (.inl ⟨rfl, fun x hx => by
        obtain ⟨t, ht, rfl⟩ := List.getElem_of_mem hx
        have := H.out t (by rw [← hll.out]; exact ht)
        simpa [ht] using this⟩ : Ro.DFst p Lv.zero l k (-1))
      go_wp2
      go_ret
      exact ⟨-1, rfl, HF.out, hbel⟩

theorem tat_t {l : List (Lv.T)} {k : Nat} (hk : k < l.length) {x1 x2 x3 : Int} {x4 x5 : ByteArray} (hx : l.getD k Lv.zero = ⟨x1, x2, x3, x4, x5⟩) : (tcells le l)[k * 5]? = some (.int .i64 x1) ∧ (tcells le l)[k * 5 + 1]? = some (.int .i64 x2) ∧ (tcells le l)[k * 5 + 2]? = some (.int .i64 x3) ∧ (tcells le l)[k * 5 + 3]? = some (.string x4) ∧ (tcells le l)[k * 5 + 4]? = some (.string x5) := by
  have hg := fun j hj => tcells_get (d := Lv.zero) leE l k j hk hj
  rw [hx] at hg
  exact ⟨hg 0 (by omega), hg 1 (by omega), hg 2 (by omega), hg 3 (by omega), hg 4 (by omega)⟩
theorem tany_t {l : List (Lv.T)} {k : Nat} (hk : k < l.length) : ∃ u0 u1 u2 u3 u4, (tcells le l)[k * 5]? = some u0 ∧ (tcells le l)[k * 5 + 1]? = some u1 ∧ (tcells le l)[k * 5 + 2]? = some u2 ∧ (tcells le l)[k * 5 + 3]? = some u3 ∧ (tcells le l)[k * 5 + 4]? = some u4 := by
  obtain ⟨x1, x2, x3, x4, x5, hx⟩ : ∃ x1 x2 x3 x4 x5, l.getD k Lv.zero = ⟨x1, x2, x3, x4, x5⟩ := ⟨_, _, _, _, _, rfl⟩
  obtain ⟨h0, h1, h2, h3, h4⟩ := tat_t hk hx
  exact ⟨_, _, _, _, _, h0, h1, h2, h3, h4⟩

set_option maxRecDepth 100000 in
set_option maxHeartbeats 4000000 in
theorem rdel_t (p : Lv.T → Bool) (c1 c2 : Nat) (F : Value) (nn : Int) (hcl : ∀ (x1 x2 x3 : Int) (x4 x5 : ByteArray) (V : World), CapAt 138 c1 c2 F nn V → Calls Tryz.prog 134 #[.agg #[.int .i64 x1, .int .i64 x2, .int .i64 x3, .string x4, .string x5], .pointer (some ⟨c1, 0, none⟩), .pointer (some ⟨c2, 0, none⟩)] V fun e w' => e = .returned (.bool (p ⟨x1, x2, x3, x4, x5⟩)) ∧ Below V.heap.size V w')
    (a : Option Addr) (n c B : Nat) (l : List (Lv.T)) (w : World) (hn : n ≤ 1000000) (hown : w.ownsRow B 50 5 (.slice a n c) n (tcells le l)) (hC : CapAt 138 c1 c2 F nn w) :
    Calls Tryz.prog 133 #[.slice a n c, .func (.func 134) #[] #[.pointer (some ⟨c1, 0, none⟩), .pointer (some ⟨c2, 0, none⟩)]] w fun e w' => ∃ a' c', e = .returned (.slice a' (Ro.keep p l).length c') ∧ w'.ownsRow B 50 5 (.slice a' (Ro.keep p l).length c') (Ro.keep p l).length (tcells le (Ro.keep p l)) ∧ w.grownBy w' (Value.slice a n c).ownBlock := by
  have hl : l.length = n := by have := hown.1; rw [tcells_length leE] at this; omega
  have hll : Hid (l.length = n) := hl
  have hix := rindex_t p c1 c2 F nn hcl a n c l w hn (trow_of_owns leE hown (by omega) (by omega)) hC
  obtain ⟨K, hK⟩ : ∃ K, K = Ro.keep p l := ⟨_, rfl⟩
  rw [← hK]
  have HK : Hid (K = Ro.keep p l) := hK
  have hne1 : ∀ k : Nat, (((k : Nat) : Int) == -1) = false := fun k => beq_eq_false_iff_ne.2 (by omega)
  clear hK hl
  go_enter Tryz.func133, Tryz.ntmps133
  go_wp2_with (go_at_call 178; go_must (refine hix.mono ?_; rintro e w1 ⟨r, rfl, hf, hb1⟩; have hown1 := own_keptB hown hb1; have hC1 := hC.below hb1; have hbB := grown_any hb1 (Value.slice a n c).ownBlock; clear hix hown hb1 hC; rcases hf with ⟨rfl, hall⟩ | ⟨k0, rfl, hk0, hz, hbef⟩))
  · go_ret
    have e1 : K = l := by rw [HK.out, Ro.keep_all hall]
    subst e1
    obtain rfl := hll.out
    exact ⟨a, c, rfl, hown1, hbB⟩
  · have hd := Ro.del_start (p := p) (l := l) (by rw [hll.out]; exact hk0) hz hbef
    have HD : Hid (Ro.Del p l k0 (k0 + 1) l) := hd
    obtain ⟨g, rfl⟩ := town_blk hown1 (by omega)
    have hgb := own_lt hown1
    have hnc : n ≤ c := by
      obtain ⟨_, _, e, _, h⟩ := t_shape hown1
      simp only [Value.slice.injEq] at e
      omega
    have hg1 : ¬ (c1 = g) := fun e => obr_apart hC1.1 hown1 (by decide) (by rw [e]; rfl)
    have hg2 : ¬ (c2 = g) := fun e => obr_apart hC1.2 hown1 (by decide) (by rw [e]; rfl)
    clear hd hz hbef hne1
    go_wp2
    go_loopw [5, 6, 7] (fun u v _ wr => ∃ (i j : Nat) (cur : List (Lv.T)), u = .int .i64 i ∧ v = .int .i64 j ∧ i < j ∧ j ≤ n ∧ Hid (Ro.Del p l i j cur) ∧ wr.ownsRow B 50 5 (.slice (some ⟨g, 0, none⟩) n c) n (tcells le cur) ∧ w.grownBy wr (some g) ∧ CapAt 138 c1 c2 F nn wr) (fun _ v _ _ => n - (intOf v).toNat)
    case atStart => exact ⟨k0, k0 + 1, l, rfl, by go_num, by omega, by omega, HD, hown1, hbB, hC1⟩
    case round =>
      obtain ⟨i, j, cur, rfl, rfl, hij, hjn, D, hown, hbel, hC⟩ := hrel
      clear hown1 hbB HD hC1
      by_cases hlt : j < n
      · have hjl : j < l.length := by rw [hll.out]; exact hlt
        have hcl' : cur.length = n := by rw [D.out.len]; exact hll.out
        obtain ⟨x1, x2, x3, x4, x5, hx⟩ : ∃ x1 x2 x3 x4 x5, l.getD j Lv.zero = ⟨x1, x2, x3, x4, x5⟩ := ⟨_, _, _, _, _, rfl⟩
        have hxc : cur.getD j Lv.zero = ⟨x1, x2, x3, x4, x5⟩ := by rw [Ro.del_at D.out]; exact hx
        obtain ⟨t0, t1, t2, t3, t4⟩ := tat_t (l := cur) (by omega) hxc
        obtain ⟨y0, z0⟩ := own_cells hown t0; obtain ⟨y1, z1⟩ := own_cells hown t1; obtain ⟨y2, z2⟩ := own_cells hown t2; obtain ⟨y3, z3⟩ := own_cells hown t3; obtain ⟨y4, z4⟩ := own_cells hown t4
        have Hs : Hid (p ⟨x1, x2, x3, x4, x5⟩ = true → Ro.Del p l i (j + 1) cur) := (fun h => Ro.del_skip (d := Lv.zero) D.out hjl (by rw [hx]; exact h) : _ → _)
        have Hk : Hid (p ⟨x1, x2, x3, x4, x5⟩ = false → Ro.Del p l (i + 1) (j + 1) (cur.set i ⟨x1, x2, x3, x4, x5⟩)) := (fun h => by have := Ro.del_keep (d := Lv.zero) D.out hjl (by rw [hx]; exact h); rwa [hx] at this : _ → _)
        have HC : Hid (i < cur.length) := (by omega : i < cur.length)
        have i0 : (0 : Int) ≤ (j : Int) := by omega
        have i1 : (j : Int) < (n : Int) := by omega
        have i2 : (0 : Int) ≤ (i : Int) := by omega
        have i3 : (i : Int) < (n : Int) := by omega
        have ha := below_alloc wr (.cells #[.int .i64 x1, .int .i64 x2, .int .i64 x3, .string x4, .string x5] 50)
        have hb2 := hbel.trans (grown_any ha (some g))
        have hown2 := hown.alloc (.cells #[.int .i64 x1, .int .i64 x2, .int .i64 x3, .string x4, .string x5] 50)
        have hC2 := hC.below ha
        have s0 := cell_new wr #[.int .i64 x1, .int .i64 x2, .int .i64 x3, .string x4, .string x5] 50 0; have s1 := cell_new wr #[.int .i64 x1, .int .i64 x2, .int .i64 x3, .string x4, .string x5] 50 1; have s2 := cell_new wr #[.int .i64 x1, .int .i64 x2, .int .i64 x3, .string x4, .string x5] 50 2; have s3 := cell_new wr #[.int .i64 x1, .int .i64 x2, .int .i64 x3, .string x4, .string x5] 50 3; have s4 := cell_new wr #[.int .i64 x1, .int .i64 x2, .int .i64 x3, .string x4, .string x5] 50 4
        have HW : Hid (∀ W, Below (wr.alloc (.cells #[.int .i64 x1, .int .i64 x2, .int .i64 x3, .string x4, .string x5] 50)).heap.size (wr.alloc (.cells #[.int .i64 x1, .int .i64 x2, .int .i64 x3, .string x4, .string x5] 50)) W → W.cell? ⟨wr.heap.size, 0, none⟩ = some (.int .i64 x1) ∧ W.cell? ⟨wr.heap.size, 1, none⟩ = some (.int .i64 x2) ∧ W.cell? ⟨wr.heap.size, 2, none⟩ = some (.int .i64 x3) ∧ W.cell? ⟨wr.heap.size, 3, none⟩ = some (.string x4) ∧ W.cell? ⟨wr.heap.size, 4, none⟩ = some (.string x5)) := (fun W hW => ⟨(hW.cell (p := ⟨wr.heap.size, 0, none⟩) (by simp)).trans s0, (hW.cell (p := ⟨wr.heap.size, 1, none⟩) (by simp)).trans s1, (hW.cell (p := ⟨wr.heap.size, 2, none⟩) (by simp)).trans s2, (hW.cell (p := ⟨wr.heap.size, 3, none⟩) (by simp)).trans s3, (hW.cell (p := ⟨wr.heap.size, 4, none⟩) (by simp)).trans s4⟩ : ∀ W, _ → _)
        have HI : Hid (∀ W : World, W.ownsRow B 50 5 (.slice (some ⟨g, 0, none⟩) n c) n (tcells le cur) → ∃ o0 o1 o2 o3 o4, (W.cell? ⟨g, i * 5, none⟩ = some o0 ∧ W.frozen? ⟨g, i * 5, none⟩ = false) ∧ (W.cell? ⟨g, i * 5 + 1, none⟩ = some o1 ∧ W.frozen? ⟨g, i * 5 + 1, none⟩ = false) ∧ (W.cell? ⟨g, i * 5 + 2, none⟩ = some o2 ∧ W.frozen? ⟨g, i * 5 + 2, none⟩ = false) ∧ (W.cell? ⟨g, i * 5 + 3, none⟩ = some o3 ∧ W.frozen? ⟨g, i * 5 + 3, none⟩ = false) ∧ (W.cell? ⟨g, i * 5 + 4, none⟩ = some o4 ∧ W.frozen? ⟨g, i * 5 + 4, none⟩ = false)) := (fun W hW => by
          obtain ⟨u0, u1, u2, u3, u4, q0, q1, q2, q3, q4⟩ := tany_t (l := cur) (k := i) HC.out
          exact ⟨_, _, _, _, _, own_cells hW q0, own_cells hW q1, own_cells hW q2, own_cells hW q3, own_cells hW q4⟩ : ∀ W : World, _ → _)
        have hd := fun V h => hcl x1 x2 x3 x4 x5 V h
        clear t0 t1 t2 t3 t4 hcl' hjl D hown hbel hx hxc hcl
        cases hz : p ⟨x1, x2, x3, x4, x5⟩ with
        | true =>
          rw [hz] at hd
          have H2 : Hid (Ro.Del p l i (j + 1) cur) := Hs.out hz
          clear hz Hs Hk HI
          go_wp2_with (go_at_call 134; go_must (refine (hd _ hC2).mono ?_; rintro e w2 ⟨rfl, hb3⟩))
          go_roundw
          case rel => exact ⟨i, j + 1, cur, rfl, by go_num, by omega, by omega, H2, own_keptB hown2 hb3, hb2.trans (grown_any hb3 (some g)), hC2.below hb3⟩
          case measure => simp [intOf]; omega
        | false =>
          rw [hz] at hd
          have H2 : Hid (Ro.Del p l (i + 1) (j + 1) (cur.set i ⟨x1, x2, x3, x4, x5⟩)) := Hk.out hz
          clear hz Hs Hk
          go_wp2_with (go_at_call 134; go_must (refine (hd _ hC2).mono ?_; rintro e w2 ⟨rfl, hb3⟩; have hown3 := own_keptB hown2 hb3; have hb4 := hb2.trans (grown_any hb3 (some g)); have hC3 := hC2.below hb3; obtain ⟨r0, r1, r2, r3, r4⟩ := HW.out w2 hb3; obtain ⟨o0, o1, o2, o3, o4, ⟨f0, h0⟩, ⟨f1, h1⟩, ⟨f2, h2⟩, ⟨f3, h3⟩, ⟨f4, h4⟩⟩ := HI.out w2 hown3; clear hown2 hb2 s0 y0 z0 s1 y1 z1 s2 y2 z2 s3 y3 z3 s4 y4 z4))
          have hst := own_setL [.int .i64 x1, .int .i64 x2, .int .i64 x3, .string x4, .string x5] (i * 5) hown3
          have htc := tcells_setL leE cur i ⟨x1, x2, x3, x4, x5⟩ HC.out
          have hbs := hb4.trans (turned_setL g [.int .i64 x1, .int .i64 x2, .int .i64 x3, .string x4, .string x5] (i * 5) w2)
          have hCs := hC3.grown (turned_setL g [.int .i64 x1, .int .i64 x2, .int .i64 x3, .string x4, .string x5] (i * 5) w2) (fun e => hg1 (Option.some.inj e)) (fun e => hg2 (Option.some.inj e))
          rw [show [.int .i64 x1, .int .i64 x2, .int .i64 x3, .string x4, .string x5] = le ⟨x1, x2, x3, x4, x5⟩ from rfl, htc] at hst
          go_roundw
          case rel => exact ⟨i + 1, j + 1, cur.set i ⟨x1, x2, x3, x4, x5⟩, by go_num, by go_num, by omega, by omega, H2, hst, hbs, hCs⟩
          case measure => simp [intOf]; omega
      · obtain rfl : j = n := by omega
        have hcl' : cur.length = j := by rw [D.out.len]; exact hll.out
        have hcells : ∀ t, t < j * 5 → (wr.cell? ⟨g, t, none⟩).isSome = true ∧ wr.frozen? ⟨g, t, none⟩ = false := fun t ht => by
          have h1 : t < (tcells le cur).length := by rw [tcells_length leE, hcl']; exact ht
          have h2 := own_cells hown (j := t) (v := (tcells le cur)[t]) (List.getElem?_eq_getElem h1)
          exact ⟨by rw [h2.1]; rfl, h2.2⟩
        have hclr : ∀ ty, (Builtin.clear_ #[29] ty #[.slice (some ⟨g, i * 5, none⟩) (j - i) (c - i)]).run Tryz.prog wr = .ok (.tuple #[]) (wr.setCells g (i * 5) (Builtin.zeroCells (Value.agg #[.int .i64 0, .int .i64 0, .int .i64 0, .string ⟨#[]⟩, .string ⟨#[]⟩]).cells (j - i)).toList) :=
          fun ty => run_clear_s tabE (by decide) wr ty g (i * 5) (j - i) (c - i) (by omega) (fun t ht => (hcells (i * 5 + t) (by omega)).1) (fun t ht => (hcells (i * 5 + t) (by omega)).2)
        have hfin := own_sets (Builtin.zeroCells (Value.agg #[.int .i64 0, .int .i64 0, .int .i64 0, .string ⟨#[]⟩, .string ⟨#[]⟩]).cells (j - i)).toList (i * 5) (Nat.le_refl _) (own_take hown (m := i) (by omega))
        have hbf := hbel.trans (turned_setL g (Builtin.zeroCells (Value.agg #[.int .i64 0, .int .i64 0, .int .i64 0, .string ⟨#[]⟩, .string ⟨#[]⟩]).cells (j - i)).toList (i * 5) wr)
        obtain ⟨d1, d2⟩ := Ro.del_end (l := l) (i := i) (cur := cur) (by rw [hll.out]; exact D.out)
        rw [tcells_take_s leE, d1] at hfin
        rw [← HK.out] at hfin d2
        generalize (Builtin.zeroCells (Value.agg #[.int .i64 0, .int .i64 0, .int .i64 0, .string ⟨#[]⟩, .string ⟨#[]⟩]).cells (j - i)).toList = Z at *
        have HF : Hid (World.ownsRow _ _ _ _ _ _ _) := hfin
        have HD2 : Hid (K.length = i) := d2
        clear hfin d1 d2 hcells hcl' D
        go_wp2
        go_ret
        obtain rfl := HD2.out
        exact ⟨some ⟨g, 0, none⟩, c, rfl, HF.out, hbf⟩

set_option maxRecDepth 100000 in
set_option maxHeartbeats 1000000 in
theorem rwithout_t (f : Lv.T → Int) (fid : Nat) (eg : ∀ args w, (callFunc fid args).run Tryz.prog w = .ok (.enter fid args) w)
    (hdo : ∀ (x1 x2 x3 : Int) (x4 x5 : ByteArray) (W : World), Calls Tryz.prog fid #[.agg #[.int .i64 x1, .int .i64 x2, .int .i64 x3, .string x4, .string x5]] W fun e W' => e = .returned (.int .i64 (f ⟨x1, x2, x3, x4, x5⟩)) ∧ Below W.heap.size W W')
    (nn : Int) (a : Option Addr) (n c B : Nat) (l : List (Lv.T)) (w : World) (hn : n ≤ 1000000) (hown : w.ownsRow B 50 5 (.slice a n c) n (tcells le l)) :
    Calls Tryz.prog 74 #[.slice a n c, .func (.func fid) #[] #[], .int .i64 nn] w fun e w' => ∃ a' c', e = .returned (.tuple #[.slice a' (Ro.out f nn l).length c', .bool (decide ((Ro.out f nn l).length < n))]) ∧ w'.ownsRow B 50 5 (.slice a' (Ro.out f nn l).length c') (Ro.out f nn l).length (tcells le (Ro.out f nn l)) ∧ w.grownBy w' (Value.slice a n c).ownBlock := by
  have hb0 := below_two w (.cells #[.func (.func fid) #[] #[]] 138) (.cells #[.int .i64 nn] 3)
  have hC : CapAt 138 w.heap.size (w.heap.size + 1) (.func (.func fid) #[] #[]) nn ((w.alloc (.cells #[.func (.func fid) #[] #[]] 138)).alloc (.cells #[.int .i64 nn] 3)) :=
    ⟨(Below.heap_alloc _ _ _ (by simp)).trans (heap_alloc_new _ _), by have := heap_alloc_new (w.alloc (.cells #[.func (.func fid) #[] #[]] 138)) (.cells #[.int .i64 nn] 3); rwa [World.size_alloc] at this⟩
  have hde := rdel_t (fun x => decide (f x = nn)) w.heap.size (w.heap.size + 1) (.func (.func fid) #[] #[]) nn (fun x1 x2 x3 x4 x5 V h => rwo1_t f fid eg hdo w.heap.size (w.heap.size + 1) nn x1 x2 x3 x4 x5 V h) a n c B l _ hn (own_keptB hown hb0) hC
  have hk : Ro.keep (fun x => decide (f x = nn)) l = Ro.out f nn l := rfl
  rw [hk] at hde
  generalize Ro.out f nn l = K at *
  have hg0 := grown_any hb0 (Value.slice a n c).ownBlock
  have hdd : decide ((K.length : Int) < (n : Int)) = decide (K.length < n) := decide_eq_decide.mpr (by omega)
  clear hk hC hown hb0
  go_enter Tryz.func74, Tryz.ntmps74
  go_wp2_with (go_at_call 133; go_must (refine hde.mono ?_; rintro e w2 ⟨a', c', rfl, hown2, hg2⟩))
  go_ret2
  exact ⟨a', c', rfl, hown2, hg0.trans hg2⟩

set_option maxRecDepth 100000 in
set_option maxHeartbeats 400000 in
theorem rwo1_k (f : Int × Int × Int → Int) (fid : Nat) (eg : ∀ args w, (callFunc fid args).run Tryz.prog w = .ok (.enter fid args) w)
    (hdo : ∀ (x y z : Int) (W : World), Calls Tryz.prog fid #[.agg #[.int .i64 x, .int .i64 y, .int .i64 z]] W fun e W' => e = .returned (.int .i64 (f (x, y, z))) ∧ Below W.heap.size W W')
    (c1 c2 : Nat) (nn : Int) (x y z : Int) (w : World) (hC : CapAt 140 c1 c2 (.func (.func fid) #[] #[]) nn w) :
    Calls Tryz.prog 140 #[.agg #[.int .i64 x, .int .i64 y, .int .i64 z], .pointer (some ⟨c1, 0, none⟩), .pointer (some ⟨c2, 0, none⟩)] w fun e w' => e = .returned (.bool (decide (f (x, y, z) = nn))) ∧ Below w.heap.size w w' := by
  have hd := fun W => hdo x y z W
  generalize f (x, y, z) = yy at *
  obtain ⟨R, hR⟩ : ∃ R, R = decide (yy = nn) := ⟨_, rfl⟩
  rw [← hR]
  have hRe : (yy == nn) = R := by rw [hR]; by_cases h : yy = nn <;> simp [h]
  obtain ⟨U, hU⟩ : ∃ U, U = w.alloc (.cells #[.int .i64 x, .int .i64 y, .int .i64 z] 66) := ⟨_, rfl⟩
  have hbU : Below w.heap.size w U := by rw [hU]; exact below_alloc _ _
  have hq : U.heap[w.heap.size]? = some (.cells #[.int .i64 x, .int .i64 y, .int .i64 z] 66 (0, 0)) := by rw [hU]; exact heap_alloc_new _ _
  have hCU := hC.below hbU
  have HV : Hid (∀ W, Below U.heap.size U W → (W.cell? ⟨c1, 0, none⟩ = some (.func (.func fid) #[] #[]) ∧ W.cell? ⟨c2, 0, none⟩ = some (.int .i64 nn) ∧ W.cell? ⟨w.heap.size, 0, none⟩ = some (.int .i64 x) ∧ W.cell? ⟨w.heap.size, 1, none⟩ = some (.int .i64 y) ∧ W.cell? ⟨w.heap.size, 2, none⟩ = some (.int .i64 z))) := (fun W h => by
    have a := (blkc ((h.block _ (ob_ltB hq)).trans hq)).1
    have b := hCU.below h
    exact ⟨(blkc b.1).1 0, (blkc b.2).1 0, a 0, a 1, a 2⟩ : ∀ W, Below U.heap.size U W → _)
  obtain ⟨v1, v2, l0, l1, l2⟩ := HV.out U (Below.refl _ _)
  have HU : Hid (Below w.heap.size w U) := hbU
  have hUe : w.alloc (.cells #[.int .i64 x, .int .i64 y, .int .i64 z] 66) = U := hU.symm
  clear hC hCU hq hU hbU hR hdo
  go_enter Tryz.func140, Tryz.ntmps140
  go_wp2_with fail
  clear hUe
  go_region_held3 (fun W => W.cell? ⟨c1, 0, none⟩ = some (.func (.func fid) #[] #[]) ∧ W.cell? ⟨c2, 0, none⟩ = some (.int .i64 nn) ∧ W.cell? ⟨w.heap.size, 0, none⟩ = some (.int .i64 x) ∧ W.cell? ⟨w.heap.size, 1, none⟩ = some (.int .i64 y) ∧ W.cell? ⟨w.heap.size, 2, none⟩ = some (.int .i64 z)) (first | go_keep | (refine ⟨?_, ?_, ?_, ?_, ?_⟩ <;> assumption))
    ((go_at_fn fid; go_must (refine (hd _).mono ?_; rintro e w5 ⟨rfl, b5⟩; have hb5 := below_of_drew b5; obtain ⟨v1', v2', l0', l1', l2'⟩ := HV.out w5 hb5)))
  all_goals
    go_wp2
    go_ret
    exact ⟨rfl, HU.out.trans (hb5.mono HU.out.size)⟩

set_option maxRecDepth 100000 in
set_option maxHeartbeats 1000000 in
theorem rindex_k (p : Int × Int × Int → Bool) (c1 c2 : Nat) (F : Value) (nn : Int) (hcl : ∀ (x y z : Int) (V : World), CapAt 140 c1 c2 F nn V → Calls Tryz.prog 140 #[.agg #[.int .i64 x, .int .i64 y, .int .i64 z], .pointer (some ⟨c1, 0, none⟩), .pointer (some ⟨c2, 0, none⟩)] V fun e w' => e = .returned (.bool (p (x, y, z))) ∧ Below V.heap.size V w')
    (a : Option Addr) (n c : Nat) (l : List (Int × Int × Int)) (w : World) (hn : n ≤ 1000000) (hr : KRow w a n l) (hC : CapAt 140 c1 c2 F nn w) :
    Calls Tryz.prog 182 #[.slice a n c, .func (.func 140) #[] #[.pointer (some ⟨c1, 0, none⟩), .pointer (some ⟨c2, 0, none⟩)]] w fun e w' => ∃ r : Int, e = .returned (.int .i64 r) ∧ Ro.DFst p (0, 0, 0) l n r ∧ Below w.heap.size w w' := by
  have hll : Hid (l.length = n) := hr.1
  go_enter Tryz.func182, Tryz.ntmps182
  go_wp2
  go_loopw [8] (fun i wr => ∃ k : Nat, k ≤ n ∧ i = .int .i64 k ∧ Hid (∀ j, j < k → p (l.getD j (0, 0, 0)) = false) ∧ Below w.heap.size w wr) (fun i _ => n - (intOf i).toNat)
  case atStart => exact ⟨0, by omega, rfl, (fun j hj => by omega : ∀ j, j < 0 → p (l.getD j (0, 0, 0)) = false), Below.refl _ _⟩
  case round =>
    obtain ⟨k, hk, rfl, H, hbel⟩ := hrel
    by_cases hlt : k < n
    · obtain ⟨b, off, x, y, z, rfl, hx, q0, q1, q2⟩ := kget hr hbel hlt
      have hd := hcl x y z wr (hC.below hbel)
      have i0 : (0 : Int) ≤ (k : Int) := by omega
      have i1 : (k : Int) < (n : Int) := by omega
      cases hz : p (x, y, z) with
      | true =>
        rw [hz] at hd
        have HE : Hid (p (l.getD k (0, 0, 0)) = true) := (by rw [hx.out]; exact hz : _ = _)
        clear hx hz hcl
        go_wp2_with (go_at_call 140; go_must (refine hd.mono ?_; rintro e w2 ⟨rfl, hb2⟩))
        go_ret
        exact ⟨(k : Int), rfl, .inr ⟨k, rfl, hlt, HE.out, H.out⟩, hbel.trans (hb2.mono hbel.size)⟩
      | false =>
        rw [hz] at hd
        have H2 : Hid (∀ j, j < k + 1 → p (l.getD j (0, 0, 0)) = false) := (fun j hj => by
          rcases Nat.lt_or_ge j k with h | h
          · exact H.out j h
          · obtain rfl : j = k := by omega
            rw [hx.out]; exact hz : ∀ j, j < k + 1 → p (l.getD j (0, 0, 0)) = false)
        clear hx hz hcl
        go_wp2_with (go_at_call 140; go_must (refine hd.mono ?_; rintro e w2 ⟨rfl, hb2⟩))
        go_roundw
        case rel => exact ⟨k + 1, by omega, by go_num, H2, hbel.trans (hb2.mono hbel.size)⟩
        case measure => simp [intOf]; omega
    · obtain rfl : k = n := by omega
      have HF : Hid (Ro.DFst p (0, 0, 0) l k (-1)) := (.inl ⟨rfl, fun x hx => by
        obtain ⟨t, ht, rfl⟩ := List.getElem_of_mem hx
        have := H.out t (by rw [← hll.out]; exact ht)
        simpa [ht] using this⟩ : Ro.DFst p (0, 0, 0) l k (-1))
      go_wp2
      go_ret
      exact ⟨-1, rfl, HF.out, hbel⟩

theorem tat_k {l : List (Int × Int × Int)} {k : Nat} (hk : k < l.length) {x y z : Int} (hx : l.getD k (0, 0, 0) = (x, y, z)) : (tcells ke l)[k * 3]? = some (.int .i64 x) ∧ (tcells ke l)[k * 3 + 1]? = some (.int .i64 y) ∧ (tcells ke l)[k * 3 + 2]? = some (.int .i64 z) := by
  have hg := fun j hj => tcells_get (d := (0, 0, 0)) keE l k j hk hj
  rw [hx] at hg
  exact ⟨hg 0 (by omega), hg 1 (by omega), hg 2 (by omega)⟩
theorem tany_k {l : List (Int × Int × Int)} {k : Nat} (hk : k < l.length) : ∃ u0 u1 u2, (tcells ke l)[k * 3]? = some u0 ∧ (tcells ke l)[k * 3 + 1]? = some u1 ∧ (tcells ke l)[k * 3 + 2]? = some u2 := by
  obtain ⟨x, y, z, hx⟩ : ∃ x y z, l.getD k (0, 0, 0) = (x, y, z) := ⟨_, _, _, rfl⟩
  obtain ⟨h0, h1, h2⟩ := tat_k hk hx
  exact ⟨_, _, _, h0, h1, h2⟩

set_option maxRecDepth 100000 in
set_option maxHeartbeats 4000000 in
theorem rdel_k (p : Int × Int × Int → Bool) (c1 c2 : Nat) (F : Value) (nn : Int) (hcl : ∀ (x y z : Int) (V : World), CapAt 140 c1 c2 F nn V → Calls Tryz.prog 140 #[.agg #[.int .i64 x, .int .i64 y, .int .i64 z], .pointer (some ⟨c1, 0, none⟩), .pointer (some ⟨c2, 0, none⟩)] V fun e w' => e = .returned (.bool (p (x, y, z))) ∧ Below V.heap.size V w')
    (a : Option Addr) (n c B : Nat) (l : List (Int × Int × Int)) (w : World) (hn : n ≤ 1000000) (hown : w.ownsRow B 66 3 (.slice a n c) n (tcells ke l)) (hC : CapAt 140 c1 c2 F nn w) :
    Calls Tryz.prog 139 #[.slice a n c, .func (.func 140) #[] #[.pointer (some ⟨c1, 0, none⟩), .pointer (some ⟨c2, 0, none⟩)]] w fun e w' => ∃ a' c', e = .returned (.slice a' (Ro.keep p l).length c') ∧ w'.ownsRow B 66 3 (.slice a' (Ro.keep p l).length c') (Ro.keep p l).length (tcells ke (Ro.keep p l)) ∧ w.grownBy w' (Value.slice a n c).ownBlock := by
  have hl : l.length = n := by have := hown.1; rw [tcells_length keE] at this; omega
  have hll : Hid (l.length = n) := hl
  have hix := rindex_k p c1 c2 F nn hcl a n c l w hn (trow_of_owns keE hown (by omega) (by omega)) hC
  obtain ⟨K, hK⟩ : ∃ K, K = Ro.keep p l := ⟨_, rfl⟩
  rw [← hK]
  have HK : Hid (K = Ro.keep p l) := hK
  have hne1 : ∀ k : Nat, (((k : Nat) : Int) == -1) = false := fun k => beq_eq_false_iff_ne.2 (by omega)
  clear hK hl
  go_enter Tryz.func139, Tryz.ntmps139
  go_wp2_with (go_at_call 182; go_must (refine hix.mono ?_; rintro e w1 ⟨r, rfl, hf, hb1⟩; have hown1 := own_keptB hown hb1; have hC1 := hC.below hb1; have hbB := grown_any hb1 (Value.slice a n c).ownBlock; clear hix hown hb1 hC; rcases hf with ⟨rfl, hall⟩ | ⟨k0, rfl, hk0, hz, hbef⟩))
  · go_ret
    have e1 : K = l := by rw [HK.out, Ro.keep_all hall]
    subst e1
    obtain rfl := hll.out
    exact ⟨a, c, rfl, hown1, hbB⟩
  · have hd := Ro.del_start (p := p) (l := l) (by rw [hll.out]; exact hk0) hz hbef
    have HD : Hid (Ro.Del p l k0 (k0 + 1) l) := hd
    obtain ⟨g, rfl⟩ := town_blk hown1 (by omega)
    have hgb := own_lt hown1
    have hnc : n ≤ c := by
      obtain ⟨_, _, e, _, h⟩ := t_shape hown1
      simp only [Value.slice.injEq] at e
      omega
    have hg1 : ¬ (c1 = g) := fun e => obr_apart hC1.1 hown1 (by decide) (by rw [e]; rfl)
    have hg2 : ¬ (c2 = g) := fun e => obr_apart hC1.2 hown1 (by decide) (by rw [e]; rfl)
    clear hd hz hbef hne1
    go_wp2
    go_loopw [5, 6, 7] (fun u v _ wr => ∃ (i j : Nat) (cur : List (Int × Int × Int)), u = .int .i64 i ∧ v = .int .i64 j ∧ i < j ∧ j ≤ n ∧ Hid (Ro.Del p l i j cur) ∧ wr.ownsRow B 66 3 (.slice (some ⟨g, 0, none⟩) n c) n (tcells ke cur) ∧ w.grownBy wr (some g) ∧ CapAt 140 c1 c2 F nn wr) (fun _ v _ _ => n - (intOf v).toNat)
    case atStart => exact ⟨k0, k0 + 1, l, rfl, by go_num, by omega, by omega, HD, hown1, hbB, hC1⟩
    case round =>
      obtain ⟨i, j, cur, rfl, rfl, hij, hjn, D, hown, hbel, hC⟩ := hrel
      clear hown1 hbB HD hC1
      by_cases hlt : j < n
      · have hjl : j < l.length := by rw [hll.out]; exact hlt
        have hcl' : cur.length = n := by rw [D.out.len]; exact hll.out
        obtain ⟨x, y, z, hx⟩ : ∃ x y z, l.getD j (0, 0, 0) = (x, y, z) := ⟨_, _, _, rfl⟩
        have hxc : cur.getD j (0, 0, 0) = (x, y, z) := by rw [Ro.del_at D.out]; exact hx
        obtain ⟨t0, t1, t2⟩ := tat_k (l := cur) (by omega) hxc
        obtain ⟨y0, z0⟩ := own_cells hown t0; obtain ⟨y1, z1⟩ := own_cells hown t1; obtain ⟨y2, z2⟩ := own_cells hown t2
        have Hs : Hid (p (x, y, z) = true → Ro.Del p l i (j + 1) cur) := (fun h => Ro.del_skip (d := (0, 0, 0)) D.out hjl (by rw [hx]; exact h) : _ → _)
        have Hk : Hid (p (x, y, z) = false → Ro.Del p l (i + 1) (j + 1) (cur.set i (x, y, z))) := (fun h => by have := Ro.del_keep (d := (0, 0, 0)) D.out hjl (by rw [hx]; exact h); rwa [hx] at this : _ → _)
        have HC : Hid (i < cur.length) := (by omega : i < cur.length)
        have i0 : (0 : Int) ≤ (j : Int) := by omega
        have i1 : (j : Int) < (n : Int) := by omega
        have i2 : (0 : Int) ≤ (i : Int) := by omega
        have i3 : (i : Int) < (n : Int) := by omega
        have ha := below_alloc wr (.cells #[.int .i64 x, .int .i64 y, .int .i64 z] 66)
        have hb2 := hbel.trans (grown_any ha (some g))
        have hown2 := hown.alloc (.cells #[.int .i64 x, .int .i64 y, .int .i64 z] 66)
        have hC2 := hC.below ha
        have s0 := cell_new wr #[.int .i64 x, .int .i64 y, .int .i64 z] 66 0; have s1 := cell_new wr #[.int .i64 x, .int .i64 y, .int .i64 z] 66 1; have s2 := cell_new wr #[.int .i64 x, .int .i64 y, .int .i64 z] 66 2
        have HW : Hid (∀ W, Below (wr.alloc (.cells #[.int .i64 x, .int .i64 y, .int .i64 z] 66)).heap.size (wr.alloc (.cells #[.int .i64 x, .int .i64 y, .int .i64 z] 66)) W → W.cell? ⟨wr.heap.size, 0, none⟩ = some (.int .i64 x) ∧ W.cell? ⟨wr.heap.size, 1, none⟩ = some (.int .i64 y) ∧ W.cell? ⟨wr.heap.size, 2, none⟩ = some (.int .i64 z)) := (fun W hW => ⟨(hW.cell (p := ⟨wr.heap.size, 0, none⟩) (by simp)).trans s0, (hW.cell (p := ⟨wr.heap.size, 1, none⟩) (by simp)).trans s1, (hW.cell (p := ⟨wr.heap.size, 2, none⟩) (by simp)).trans s2⟩ : ∀ W, _ → _)
        have HI : Hid (∀ W : World, W.ownsRow B 66 3 (.slice (some ⟨g, 0, none⟩) n c) n (tcells ke cur) → ∃ o0 o1 o2, (W.cell? ⟨g, i * 3, none⟩ = some o0 ∧ W.frozen? ⟨g, i * 3, none⟩ = false) ∧ (W.cell? ⟨g, i * 3 + 1, none⟩ = some o1 ∧ W.frozen? ⟨g, i * 3 + 1, none⟩ = false) ∧ (W.cell? ⟨g, i * 3 + 2, none⟩ = some o2 ∧ W.frozen? ⟨g, i * 3 + 2, none⟩ = false)) := (fun W hW => by
          obtain ⟨u0, u1, u2, q0, q1, q2⟩ := tany_k (l := cur) (k := i) HC.out
          exact ⟨_, _, _, own_cells hW q0, own_cells hW q1, own_cells hW q2⟩ : ∀ W : World, _ → _)
        have hd := fun V h => hcl x y z V h
        clear t0 t1 t2 hcl' hjl D hown hbel hx hxc hcl
        cases hz : p (x, y, z) with
        | true =>
          rw [hz] at hd
          have H2 : Hid (Ro.Del p l i (j + 1) cur) := Hs.out hz
          clear hz Hs Hk HI
          go_wp2_with (go_at_call 140; go_must (refine (hd _ hC2).mono ?_; rintro e w2 ⟨rfl, hb3⟩))
          go_roundw
          case rel => exact ⟨i, j + 1, cur, rfl, by go_num, by omega, by omega, H2, own_keptB hown2 hb3, hb2.trans (grown_any hb3 (some g)), hC2.below hb3⟩
          case measure => simp [intOf]; omega
        | false =>
          rw [hz] at hd
          have H2 : Hid (Ro.Del p l (i + 1) (j + 1) (cur.set i (x, y, z))) := Hk.out hz
          clear hz Hs Hk
          go_wp2_with (go_at_call 140; go_must (refine (hd _ hC2).mono ?_; rintro e w2 ⟨rfl, hb3⟩; have hown3 := own_keptB hown2 hb3; have hb4 := hb2.trans (grown_any hb3 (some g)); have hC3 := hC2.below hb3; obtain ⟨r0, r1, r2⟩ := HW.out w2 hb3; obtain ⟨o0, o1, o2, ⟨f0, h0⟩, ⟨f1, h1⟩, ⟨f2, h2⟩⟩ := HI.out w2 hown3; clear hown2 hb2 s0 y0 z0 s1 y1 z1 s2 y2 z2))
          have hst := own_setL [.int .i64 x, .int .i64 y, .int .i64 z] (i * 3) hown3
          have htc := tcells_setL keE cur i (x, y, z) HC.out
          have hbs := hb4.trans (turned_setL g [.int .i64 x, .int .i64 y, .int .i64 z] (i * 3) w2)
          have hCs := hC3.grown (turned_setL g [.int .i64 x, .int .i64 y, .int .i64 z] (i * 3) w2) (fun e => hg1 (Option.some.inj e)) (fun e => hg2 (Option.some.inj e))
          rw [show [.int .i64 x, .int .i64 y, .int .i64 z] = ke (x, y, z) from rfl, htc] at hst
          go_roundw
          case rel => exact ⟨i + 1, j + 1, cur.set i (x, y, z), by go_num, by go_num, by omega, by omega, H2, hst, hbs, hCs⟩
          case measure => simp [intOf]; omega
      · obtain rfl : j = n := by omega
        have hcl' : cur.length = j := by rw [D.out.len]; exact hll.out
        have hcells : ∀ t, t < j * 3 → (wr.cell? ⟨g, t, none⟩).isSome = true ∧ wr.frozen? ⟨g, t, none⟩ = false := fun t ht => by
          have h1 : t < (tcells ke cur).length := by rw [tcells_length keE, hcl']; exact ht
          have h2 := own_cells hown (j := t) (v := (tcells ke cur)[t]) (List.getElem?_eq_getElem h1)
          exact ⟨by rw [h2.1]; rfl, h2.2⟩
        have hclr : ∀ ty, (Builtin.clear_ #[30] ty #[.slice (some ⟨g, i * 3, none⟩) (j - i) (c - i)]).run Tryz.prog wr = .ok (.tuple #[]) (wr.setCells g (i * 3) (Builtin.zeroCells (Value.agg #[.int .i64 0, .int .i64 0, .int .i64 0]).cells (j - i)).toList) :=
          fun ty => run_clear_s stillE (by decide) wr ty g (i * 3) (j - i) (c - i) (by omega) (fun t ht => (hcells (i * 3 + t) (by omega)).1) (fun t ht => (hcells (i * 3 + t) (by omega)).2)
        have hfin := own_sets (Builtin.zeroCells (Value.agg #[.int .i64 0, .int .i64 0, .int .i64 0]).cells (j - i)).toList (i * 3) (Nat.le_refl _) (own_take hown (m := i) (by omega))
        have hbf := hbel.trans (turned_setL g (Builtin.zeroCells (Value.agg #[.int .i64 0, .int .i64 0, .int .i64 0]).cells (j - i)).toList (i * 3) wr)
        obtain ⟨d1, d2⟩ := Ro.del_end (l := l) (i := i) (cur := cur) (by rw [hll.out]; exact D.out)
        rw [tcells_take_s keE, d1] at hfin
        rw [← HK.out] at hfin d2
        generalize (Builtin.zeroCells (Value.agg #[.int .i64 0, .int .i64 0, .int .i64 0]).cells (j - i)).toList = Z at *
        have HF : Hid (World.ownsRow _ _ _ _ _ _ _) := hfin
        have HD2 : Hid (K.length = i) := d2
        clear hfin d1 d2 hcells hcl' D
        go_wp2
        go_ret
        obtain rfl := HD2.out
        exact ⟨some ⟨g, 0, none⟩, c, rfl, HF.out, hbf⟩

set_option maxRecDepth 100000 in
set_option maxHeartbeats 1000000 in
theorem rwithout_k (f : Int × Int × Int → Int) (fid : Nat) (eg : ∀ args w, (callFunc fid args).run Tryz.prog w = .ok (.enter fid args) w)
    (hdo : ∀ (x y z : Int) (W : World), Calls Tryz.prog fid #[.agg #[.int .i64 x, .int .i64 y, .int .i64 z]] W fun e W' => e = .returned (.int .i64 (f (x, y, z))) ∧ Below W.heap.size W W')
    (nn : Int) (a : Option Addr) (n c B : Nat) (l : List (Int × Int × Int)) (w : World) (hn : n ≤ 1000000) (hown : w.ownsRow B 66 3 (.slice a n c) n (tcells ke l)) :
    Calls Tryz.prog 78 #[.slice a n c, .func (.func fid) #[] #[], .int .i64 nn] w fun e w' => ∃ a' c', e = .returned (.tuple #[.slice a' (Ro.out f nn l).length c', .bool (decide ((Ro.out f nn l).length < n))]) ∧ w'.ownsRow B 66 3 (.slice a' (Ro.out f nn l).length c') (Ro.out f nn l).length (tcells ke (Ro.out f nn l)) ∧ w.grownBy w' (Value.slice a n c).ownBlock := by
  have hb0 := below_two w (.cells #[.func (.func fid) #[] #[]] 140) (.cells #[.int .i64 nn] 3)
  have hC : CapAt 140 w.heap.size (w.heap.size + 1) (.func (.func fid) #[] #[]) nn ((w.alloc (.cells #[.func (.func fid) #[] #[]] 140)).alloc (.cells #[.int .i64 nn] 3)) :=
    ⟨(Below.heap_alloc _ _ _ (by simp)).trans (heap_alloc_new _ _), by have := heap_alloc_new (w.alloc (.cells #[.func (.func fid) #[] #[]] 140)) (.cells #[.int .i64 nn] 3); rwa [World.size_alloc] at this⟩
  have hde := rdel_k (fun x => decide (f x = nn)) w.heap.size (w.heap.size + 1) (.func (.func fid) #[] #[]) nn (fun x y z V h => rwo1_k f fid eg hdo w.heap.size (w.heap.size + 1) nn x y z V h) a n c B l _ hn (own_keptB hown hb0) hC
  have hk : Ro.keep (fun x => decide (f x = nn)) l = Ro.out f nn l := rfl
  rw [hk] at hde
  generalize Ro.out f nn l = K at *
  have hg0 := grown_any hb0 (Value.slice a n c).ownBlock
  have hdd : decide ((K.length : Int) < (n : Int)) = decide (K.length < n) := decide_eq_decide.mpr (by omega)
  clear hk hC hown hb0
  go_enter Tryz.func78, Tryz.ntmps78
  go_wp2_with (go_at_call 139; go_must (refine hde.mono ?_; rintro e w2 ⟨a', c', rfl, hown2, hg2⟩))
  go_ret2
  exact ⟨a', c', rfl, hown2, hg0.trans hg2⟩
end Go.Proofs.YtfogodbbgbnhkaaGreatDoor
