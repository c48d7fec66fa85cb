/- What the reference's Add and Sub of tallies do. -/
import Derived.Test.YtfeaablomceejaaTA3
namespace Go.Proofs.Ytfeaablomceejaa
open Go.RowKit

namespace Ta
theorem get_le {l : List S} (h : may l = true) (s : Int) : 0 ≤ get l s ∧ get l s ≤ 1099511627776 := by
  have h1 := ((may_iff l).mp h).1
  clear h
  induction l with
  | nil => simp [get]
  | cons x l ih =>
    have := h1 x List.mem_cons_self
    simp only [okOne, decide_eq_true_eq] at this
    rw [get]
    split
    · omega
    · exact ih (fun y hy => h1 y (List.mem_cons_of_mem _ hy))
theorem points_take {ps : List Po.P} (h : points ps = true) (k : Nat) : points (ps.take k) = true :=
  List.all_eq_true.mpr (fun p hp => List.all_eq_true.mp h p (List.mem_of_mem_take hp))
theorem add_bound {l : List S} {ps : List Po.P} (hl : may l = true) (hp : points ps = true) (hn : ps.length ≤ 100000) (s : Int) : 0 ≤ get (add l ps) s ∧ get (add l ps) s ≤ 2000000000000 := by
  have h := add_up ps (may_up hl) (points_nonneg hp)
  have h1 := get_le hl s
  have h2 := weigh_le ps s (fun p hp' => (points_len hp p hp').2)
  have h3 := weigh_nonneg (a := ps) s (points_nonneg hp)
  rw [h.2]
  omega
theorem add_take {ps : List Po.P} {k : Nat} (hk : k < ps.length) (l : List S) : add l (ps.take (k + 1)) = set (add l (ps.take k)) (ps.getD k Po.zero).1 (get (add l (ps.take k)) (ps.getD k Po.zero).1 + (ps.getD k Po.zero).2.2.1) := by
  rw [List.take_succ_eq_append_getElem hk, show ps.getD k Po.zero = ps[k] by simp [hk]]
  unfold add
  rw [List.foldl_append]
  rfl
end Ta

def TRes (w : World) (l : List Ta.S) (e : Ending) (w' : World) : Prop :=
  ∃ a c, e = .returned (.slice a l.length c) ∧ ShRow w' a l.length l ∧ Below w.heap.size w w'

set_option maxRecDepth 100000 in
set_option maxHeartbeats 4000000 in
theorem tadd_any (a : Option Addr) (len cap : Nat) (l : List Ta.S) (a' : Option Addr) (len' cap' : Nat) (ps : List Po.P) (w : World) (hr : ShRow w a len l) (hr' : PRow w a' len' ps) (hl : len ≤ 10000) (hl' : len' ≤ 10000) (hm : Ta.may l = true) (hp : Ta.points ps = true) :
    Calls Try.prog 14 #[.slice a len cap, .slice a' len' cap'] w (TRes w (Ta.add l ps)) := by
  have hll : Hid (l.length = len) := hr.1
  have hpl : Hid (ps.length = len') := hr'.1
  have Hm : Hid (Ta.may l = true) := hm
  have Hp : Hid (Ta.points ps = true) := hp
  clear hm hp
  go_enter Try.func14, Try.ntmps14
  go_wp2
  go_loopw [0, 5] (fun v i wr => ∃ (k m c : Nat) (g : Option Addr) (O : List Ta.S), k ≤ len' ∧ m ≤ len + k ∧ i = .int .i64 k ∧ v = .slice g m c ∧ Hid (O = Ta.add l (ps.take k)) ∧ ShRow wr g m O ∧ Below w.heap.size w wr)
    (fun _ i _ => len' - (intOf i).toNat)
  case atStart => exact ⟨0, len, cap, a, l, by omega, by omega, rfl, rfl, (rfl : l = Ta.add l (ps.take 0)), hr, Below.refl _ _⟩
  case round =>
    obtain ⟨k, m, c, g, O, hk, hmk, rfl, rfl, HO, hrow, hbel⟩ := hrel
    by_cases hlt : k < len'
    · obtain ⟨b, off, rfl, hc⟩ := hr'.at (by omega)
      obtain ⟨p0, _, p2, _, _⟩ := (hc k hlt)
      have C0 : Hid (∀ W, Below w.heap.size w W → W.cell? ⟨b, off + k * 4, none⟩ = some (.int .i64 (ps.getD k Po.zero).1) ∧ W.cell? ⟨b, off + k * 4 + 2, none⟩ = some (.int .i64 (ps.getD k Po.zero).2.2.1)) := (fun W hW => ⟨(hW.cell (p := ⟨b, off + k * 4, none⟩) (cell_lt p0)).trans p0, (hW.cell (p := ⟨b, off + k * 4 + 2, none⟩) (cell_lt p2)).trans p2⟩ : ∀ W, Below w.heap.size w W → W.cell? ⟨b, off + k * 4, none⟩ = some (.int .i64 (ps.getD k Po.zero).1) ∧ W.cell? ⟨b, off + k * 4 + 2, none⟩ = some (.int .i64 (ps.getD k Po.zero).2.2.1))
      have hk' : k < ps.length := by rw [hpl.out]; exact hlt
      have hst : Hid (Ta.add l (ps.take (k + 1)) = Ta.set O (ps.getD k Po.zero).1 (Ta.get O (ps.getD k Po.zero).1 + (ps.getD k Po.zero).2.2.1)) := (by rw [HO.out]; exact Ta.add_take hk' l : Ta.add l (ps.take (k + 1)) = Ta.set O (ps.getD k Po.zero).1 (Ta.get O (ps.getD k Po.zero).1 + (ps.getD k Po.zero).2.2.1))
      have hbd := Ta.add_bound Hm.out (Ta.points_take Hp.out k) (by rw [List.length_take, hpl.out]; omega) (ps.getD k Po.zero).1
      rw [← HO.out] at hbd
      have hpk := (Ta.points_len Hp.out (ps.getD k Po.zero) (by rw [show ps.getD k Po.zero = ps[k] by simp [hk']]; exact List.getElem_mem _)).2
      generalize ps.getD k Po.zero = p at *
      obtain ⟨y0, y1, y2, y3⟩ := p
      simp only at hst hbd hpk C0
      have hget := fun W hW => tget_any g m c O y0 W (hrow.below (B := wr.heap.size) hW (Nat.le_refl _))
      obtain ⟨G, hG⟩ : ∃ G, G = Ta.get O y0 := ⟨_, rfl⟩
      rw [← hG] at hst hbd hget
      obtain ⟨Z, hZ⟩ : ∃ Z, Z = G + y2 := ⟨_, rfl⟩
      rw [← hZ] at hst
      have j1 : IntKind.i64.wrap (G + y2) = Z := by rw [IntKind.wrap_i64]; omega
      have hset := fun W hW => tset_any g m c O y0 Z W (by omega) (hrow.below (B := wr.heap.size) hW (Nat.le_refl _))
      obtain ⟨k0, k2⟩ := C0.out wr hbel
      have i0 : (0 : Int) ≤ (k : Int) := by omega
      have i1 : (k : Int) < (len' : Int) := by omega
      have hlen2 : Hid ((Ta.set O y0 Z).length ≤ m + 1) := (by have := Ta.setGo_len y0 Z (decide (Z = 0)) O; rw [hrow.1] at this; exact this : (Ta.set O y0 Z).length ≤ m + 1)
      clear hc p0 p2 hG hZ hbd hpk hk'
      go_wp2_with fail
      go_region_held3 (fun w' => w'.cell? ⟨b, off + k * 4, none⟩ = some (.int .i64 y0) ∧ w'.cell? ⟨b, off + k * 4 + 2, none⟩ = some (.int .i64 y2)) (first | go_keep | (refine ⟨?_, ?_⟩ <;> assumption))
        (first
          | ((go_at_call 17; refine (hget _ (Below.refl _ _).drew).mono ?_; rintro e w1 ⟨rfl, hb1⟩; have hB1 := below_of_drew hb1; have hw1 := hbel.trans (hB1.mono hbel.size); obtain ⟨k4, k5⟩ := C0.out w1 hw1))
          | ((go_at_call 26; refine (hset _ hB1).mono ?_; rintro e w2 ⟨a2, c2, rfl, hown2, hb2⟩; have hw2 := hw1.trans (hb2.mono hw1.size); obtain ⟨k6, k7⟩ := C0.out w2 hw2)))
      all_goals
        go_wp2
        go_roundw
        case rel => exact ⟨k + 1, _, c2, a2, _, by omega, Nat.le_trans hlen2.out (by omega), by go_num, rfl, (hst.out.symm : Ta.set O y0 Z = Ta.add l (ps.take (k + 1))), trow_of_owns seE hown2 (by omega) (Nat.le_trans hlen2.out (by omega)), hw2⟩
        case measure => simp [intOf]; omega
    · obtain rfl : k = len' := by omega
      obtain rfl : O = Ta.add l ps := by rw [HO.out, List.take_of_length_le (by rw [hpl.out]; omega)]
      obtain rfl : m = (Ta.add l ps).length := hrow.1.symm
      go_wp2
      go_ret
      exact ⟨g, c, rfl, hrow, hbel⟩

def TSubRes (w : World) (r : Option (List Ta.S)) (e : Ending) (w' : World) : Prop :=
  match r with
  | none => e = .returned (.tuple #[.slice none 0 0, .bool false]) ∧ Below w.heap.size w w'
  | some L => ∃ a c, e = .returned (.tuple #[.slice a L.length c, .bool true]) ∧ ShRow w' a L.length L ∧ Below w.heap.size w w'

set_option maxRecDepth 100000 in
set_option maxHeartbeats 4000000 in
theorem tsub_any (a : Option Addr) (len cap : Nat) (l : List Ta.S) (a' : Option Addr) (len' cap' : Nat) (ps : List Po.P) (w : World) (hr : ShRow w a len l) (hr' : PRow w a' len' ps) (hl : len ≤ 10000) (hl' : len' ≤ 10000) (hm : Ta.may l = true) (hp : Ta.points ps = true) :
    Calls Try.prog 19 #[.slice a len cap, .slice a' len' cap'] w (TSubRes w (Ta.sub l ps)) := by
  have hll : Hid (l.length = len) := hr.1
  have hpl : Hid (ps.length = len') := hr'.1
  have Hup : Hid (Ta.Up l ∧ ∀ s, 0 ≤ Ta.get l s ∧ Ta.get l s ≤ 2000000000000) := (⟨Ta.may_up hm, fun s => by have := Ta.get_le hm s; omega⟩ : Ta.Up l ∧ ∀ s, 0 ≤ Ta.get l s ∧ Ta.get l s ≤ 2000000000000)
  have Hp : Hid (Ta.points ps = true) := hp
  obtain ⟨R, hR⟩ : ∃ R, R = Ta.sub l ps := ⟨_, rfl⟩
  rw [← hR]
  have HR : Hid (R = Ta.sub l ps) := hR
  clear hm hp hR
  go_enter Try.func19, Try.ntmps19
  go_wp2
  go_loopw [0, 6] (fun v i wr => ∃ (k m c : Nat) (g : Option Addr) (O : List Ta.S), k ≤ len' ∧ m ≤ len + k ∧ i = .int .i64 k ∧ v = .slice g m c ∧ Hid (R = Ta.sub O (ps.drop k)) ∧ Hid (Ta.Up O ∧ ∀ s, 0 ≤ Ta.get O s ∧ Ta.get O s ≤ 2000000000000) ∧ ShRow wr g m O ∧ Below w.heap.size w wr)
    (fun _ i _ => len' - (intOf i).toNat)
  case atStart => exact ⟨0, len, cap, a, l, by omega, by omega, rfl, rfl, (HR.out : R = Ta.sub l (ps.drop 0)), Hup, hr, Below.refl _ _⟩
  case round =>
    obtain ⟨k, m, c, g, O, hk, hmk, rfl, rfl, H, HU, hrow, hbel⟩ := hrel
    clear Hup HR
    by_cases hlt : k < len'
    · obtain ⟨b, off, rfl, hc⟩ := hr'.at (by omega)
      obtain ⟨p0, _, p2, _, _⟩ := (hc k hlt)
      have C0 : Hid (∀ W, Below w.heap.size w W → W.cell? ⟨b, off + k * 4, none⟩ = some (.int .i64 (ps.getD k Po.zero).1) ∧ W.cell? ⟨b, off + k * 4 + 2, none⟩ = some (.int .i64 (ps.getD k Po.zero).2.2.1)) := (fun W hW => ⟨(hW.cell (p := ⟨b, off + k * 4, none⟩) (cell_lt p0)).trans p0, (hW.cell (p := ⟨b, off + k * 4 + 2, none⟩) (cell_lt p2)).trans p2⟩ : ∀ W, Below w.heap.size w W → W.cell? ⟨b, off + k * 4, none⟩ = some (.int .i64 (ps.getD k Po.zero).1) ∧ W.cell? ⟨b, off + k * 4 + 2, none⟩ = some (.int .i64 (ps.getD k Po.zero).2.2.1))
      have hk' : k < ps.length := by rw [hpl.out]; exact hlt
      have hst : Hid (R = if Ta.get O (ps.getD k Po.zero).1 - (ps.getD k Po.zero).2.2.1 < 0 then none else Ta.sub (Ta.set O (ps.getD k Po.zero).1 (Ta.get O (ps.getD k Po.zero).1 - (ps.getD k Po.zero).2.2.1)) (ps.drop (k + 1))) := (by
        rw [H.out, List.drop_eq_getElem_cons hk', show ps.getD k Po.zero = ps[k] by simp [hk']]; rfl : R = if Ta.get O (ps.getD k Po.zero).1 - (ps.getD k Po.zero).2.2.1 < 0 then none else Ta.sub (Ta.set O (ps.getD k Po.zero).1 (Ta.get O (ps.getD k Po.zero).1 - (ps.getD k Po.zero).2.2.1)) (ps.drop (k + 1)))
      have hbd := HU.out.2 (ps.getD k Po.zero).1
      have hpk := (Ta.points_len Hp.out (ps.getD k Po.zero) (by rw [show ps.getD k Po.zero = ps[k] by simp [hk']]; exact List.getElem_mem _)).2
      generalize ps.getD k Po.zero = p at *
      obtain ⟨y0, y1, y2, y3⟩ := p
      simp only at hst hbd hpk C0
      have hget := fun W hW => tget_any g m c O y0 W (hrow.below (B := wr.heap.size) hW (Nat.le_refl _))
      obtain ⟨G, hG⟩ : ∃ G, G = Ta.get O y0 := ⟨_, rfl⟩
      rw [← hG] at hst hbd hget
      obtain ⟨Z, hZ⟩ : ∃ Z, Z = G - y2 := ⟨_, rfl⟩
      rw [← hZ] at hst
      have j1 : IntKind.i64.wrap (G - y2) = Z := by rw [IntKind.wrap_i64]; omega
      have hset := fun W hW => tset_any g m c O y0 Z W (by omega) (hrow.below (B := wr.heap.size) hW (Nat.le_refl _))
      obtain ⟨k0, k2⟩ := C0.out wr hbel
      have i0 : (0 : Int) ≤ (k : Int) := by omega
      have i1 : (k : Int) < (len' : Int) := by omega
      have hlen2 : Hid ((Ta.set O y0 Z).length ≤ m + 1) := (by have := Ta.setGo_len y0 Z (decide (Z = 0)) O; rw [hrow.1] at this; exact this : (Ta.set O y0 Z).length ≤ m + 1)
      have HU2 : Hid (0 ≤ Z → Ta.Up (Ta.set O y0 Z) ∧ ∀ s, 0 ≤ Ta.get (Ta.set O y0 Z) s ∧ Ta.get (Ta.set O y0 Z) s ≤ 2000000000000) := (fun hz => ⟨Ta.up_set HU.out.1 _ _ hz, fun s => by
        rw [Ta.get_set HU.out.1]
        split
        · omega
        · exact HU.out.2 s⟩ : 0 ≤ Z → Ta.Up (Ta.set O y0 Z) ∧ ∀ s, 0 ≤ Ta.get (Ta.set O y0 Z) s ∧ Ta.get (Ta.set O y0 Z) s ≤ 2000000000000)
      clear hc p0 p2 hG hZ hbd hpk hk' H HU
      go_wp2_with fail
      go_region_held3 (fun w' => w'.cell? ⟨b, off + k * 4, none⟩ = some (.int .i64 y0) ∧ w'.cell? ⟨b, off + k * 4 + 2, none⟩ = some (.int .i64 y2)) (first | go_keep | (refine ⟨?_, ?_⟩ <;> assumption))
        ((go_at_call 17; refine (hget _ (Below.refl _ _).drew).mono ?_; rintro e w1 ⟨rfl, hb1⟩; have hB1 := below_of_drew hb1; have hw1 := hbel.trans (hB1.mono hbel.size); obtain ⟨k4, k5⟩ := C0.out w1 hw1))
      all_goals
        by_cases hz : Z < 0
        · have d1 : decide (Z < 0) = true := by simp [hz]
          obtain rfl : R = none := by rw [hst.out, if_pos hz]
          clear hst HU2 hz
          go_wp2
          go_ret2
          exact ⟨rfl, hw1⟩
        · have d1 : decide (Z < 0) = false := by simp [hz]
          have H2 : Hid (R = Ta.sub (Ta.set O y0 Z) (ps.drop (k + 1))) := (by rw [hst.out, if_neg hz] : R = Ta.sub (Ta.set O y0 Z) (ps.drop (k + 1)))
          have HU3 := HU2.out (by omega)
          have HU4 : Hid (Ta.Up (Ta.set O y0 Z) ∧ ∀ s, 0 ≤ Ta.get (Ta.set O y0 Z) s ∧ Ta.get (Ta.set O y0 Z) s ≤ 2000000000000) := HU3
          clear hst HU2 HU3 hz
          go_wp2_with (go_at_call 26; go_must (refine (hset _ hB1).mono ?_; rintro e w2 ⟨a2, c2, rfl, hown2, hb2⟩; have hw2 := hw1.trans (hb2.mono hw1.size)))
          go_roundw
          case rel => exact ⟨k + 1, _, c2, a2, _, by omega, Nat.le_trans hlen2.out (by omega), by go_num, rfl, H2, HU4, trow_of_owns seE hown2 (by omega) (Nat.le_trans hlen2.out (by omega)), hw2⟩
          case measure => simp [intOf]; omega
    · obtain rfl : k = len' := by omega
      obtain rfl : R = some O := by rw [H.out, List.drop_of_length_le (by rw [hpl.out]; omega)]; rfl
      obtain rfl : m = O.length := hrow.1.symm
      clear H
      go_wp2
      go_ret2
      exact ⟨g, c, rfl, hrow, hbel⟩
end Go.Proofs.Ytfeaablomceejaa
