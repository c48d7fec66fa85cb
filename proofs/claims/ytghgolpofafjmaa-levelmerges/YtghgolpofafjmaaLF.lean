/- Reading a row of tables; nums, ofLevel, meeting of the program. -/
import Derived.Test.YtghgolpofafjmaaLE
namespace Go.Proofs.Ytghgolpofafjmaa
open Go.RowKit

theorem lget {w wr : World} {a : Option Addr} {n k : Nat} {l : List Lv.T} (h : LRow w a n l) (hb : Below w.heap.size w wr) (hk : k < n) :
    ∃ b off x1 x2 x3 x4 x5, a = some ⟨b, off, none⟩ ∧ Hid (l.getD k Lv.zero = ⟨x1, x2, x3, x4, x5⟩) ∧ wr.cell? ⟨b, off + k * 5, none⟩ = some (.int .i64 x1) ∧ wr.cell? ⟨b, off + k * 5 + 1, none⟩ = some (.int .i64 x2) ∧ wr.cell? ⟨b, off + k * 5 + 2, none⟩ = some (.int .i64 x3) ∧ wr.cell? ⟨b, off + k * 5 + 3, none⟩ = some (.string x4) ∧ wr.cell? ⟨b, off + k * 5 + 4, none⟩ = some (.string x5) := by
  obtain ⟨b, off, rfl, hc⟩ := h.at (by omega)
  have hr := hc k hk
  generalize hx : l.getD k Lv.zero = x at hr
  obtain ⟨x1, x2, x3, x4, x5⟩ := x
  refine ⟨b, off, x1, x2, x3, x4, x5, rfl, (rfl : _ = _), ?_, ?_, ?_, ?_, ?_⟩
  · have := hr 0 _ rfl; exact (hb.cell (p := ⟨b, off + k * 5, none⟩) (cell_lt this)).trans this
  · have := hr 1 _ rfl; exact (hb.cell (p := ⟨b, off + k * 5 + 1, none⟩) (cell_lt this)).trans this
  · have := hr 2 _ rfl; exact (hb.cell (p := ⟨b, off + k * 5 + 2, none⟩) (cell_lt this)).trans this
  · have := hr 3 _ rfl; exact (hb.cell (p := ⟨b, off + k * 5 + 3, none⟩) (cell_lt this)).trans this
  · have := hr 4 _ rfl; exact (hb.cell (p := ⟨b, off + k * 5 + 4, none⟩) (cell_lt this)).trans this
theorem ldrop {l : List Lv.T} {k : Nat} (hk : k < l.length) : l.drop k = l.getD k Lv.zero :: l.drop (k + 1) := by
  rw [List.drop_eq_getElem_cons hk]; simp [hk]
theorem lowns_base {w : World} {B B' e size n : Nat} {v : Value} {xs : List Value} (h : w.ownsRow B e size v n xs) (hB : B' ≤ B) : w.ownsRow B' e size v n xs := by
  refine ⟨h.1, ?_⟩
  rcases h.2 with hn | ⟨g, cap, cur, rfl, hg, rest⟩
  · exact .inl hn
  · exact .inr ⟨g, cap, cur, rfl, Nat.le_trans hB hg, rest⟩
theorem lit_tab (w : World) (x1 x2 x3 : Int) (x4 x5 : ByteArray) {g : Nat} (hg : w.heap.size = g) : LRow (w.alloc (.cells #[.int .i64 x1, .int .i64 x2, .int .i64 x3, .string x4, .string x5] 30)) (some ⟨g, 0, none⟩) 1 [⟨x1, x2, x3, x4, x5⟩] :=
  trow_lit w _ _ _ hg (fun j v hj => by
    match j, hj with
    | 0, hj | 1, hj | 2, hj | 3, hj | 4, hj => exact hj
    | j + 5, hj => simp [le] at hj)
abbrev otab (x1 x2 x3 : Int) (x4 x5 : ByteArray) : Obj := .cells #[.int .i64 x1, .int .i64 x2, .int .i64 x3, .string x4, .string x5] 30

theorem tab_past {w w2 : World} {x1 x2 x3 : Int} {x4 x5 : ByteArray} {B : Nat} (hb : Below B (w.alloc (otab x1 x2 x3 x4 x5)) w2) (hB : w.heap.size < B) :
    w2.cell? ⟨w.heap.size, 0, none⟩ = some (.int .i64 x1) ∧ w2.cell? ⟨w.heap.size, 1, none⟩ = some (.int .i64 x2) ∧ w2.cell? ⟨w.heap.size, 2, none⟩ = some (.int .i64 x3) ∧ w2.cell? ⟨w.heap.size, 3, none⟩ = some (.string x4) ∧ w2.cell? ⟨w.heap.size, 4, none⟩ = some (.string x5) := by
  refine ⟨?_, ?_, ?_, ?_, ?_⟩ <;> exact (hb.cell (p := ⟨w.heap.size, _, none⟩) hB).trans (cell_new _ _ _ _)

/-- tables' numbers, none of them below nought -/
def nm (l : List Lv.T) : List Nat := l.map (fun t => t.num.toNat)
def NRes (w : World) (l : List Nat) (e : Ending) (w' : World) : Prop := ∃ g c, e = .returned (.slice g l.length c) ∧ w'.ownsRow w.heap.size 3 1 (.slice g l.length c) l.length (tcells ie l) ∧ Below w.heap.size w w'

set_option maxRecDepth 100000 in
set_option maxHeartbeats 1000000 in
theorem lnums_any (a : Option Addr) (len cap : Nat) (l : List Lv.T) (w : World) (hlen : len ≤ 100000) (hr : LRow w a len l) (h0 : ∀ x ∈ l, 0 ≤ x.num) :
    Calls Try.prog 22 #[.slice a len cap] w (NRes w (nm l)) := by
  have hll : Hid (l.length = len) := hr.1
  obtain ⟨L, hL⟩ : ∃ L, L = nm l := ⟨_, rfl⟩
  rw [← hL]
  have HL : Hid (L = nm l) := hL
  clear hL
  go_enter Try.func22, Try.ntmps22
  go_wp2
  go_loopw [3, 8] (fun v i wr => ∃ (k c : Nat) (g : Option Addr) (O : List Nat), k ≤ len ∧ i = .int .i64 k ∧ v = .slice g k c ∧ Hid (L = O ++ nm (l.drop k)) ∧ Hid (O.length = k) ∧ wr.ownsRow w.heap.size 3 1 (.slice g k c) k (tcells ie O) ∧ Below w.heap.size w wr)
    (fun _ i _ => len - (intOf i).toNat)
  case atStart => exact ⟨0, 0, none, [], by omega, rfl, rfl, (HL.out : L = [] ++ nm (l.drop 0)), (rfl : ([] : List Nat).length = 0), ⟨rfl, .inl ⟨rfl, rfl⟩⟩, Below.refl _ _⟩
  case round =>
    obtain ⟨k, c, g, O, hk, rfl, rfl, H, HO, hown, hbel⟩ := hrel
    by_cases hlt : k < len
    · obtain ⟨b, off, x1, x2, x3, x4, x5, rfl, hx, q0, q1, q2, q3, q4⟩ := lget hr hbel hlt
      have hk' : k < l.length := by rw [hll.out]; exact hlt
      have hx0 : 0 ≤ x1 := by
        have := h0 (l.getD k Lv.zero) (by simp [hk'])
        rw [hx.out] at this; exact this
      obtain ⟨y, rfl⟩ := Int.eq_ofNat_of_zero_le hx0
      have H2 : Hid (L = (O ++ [y]) ++ nm (l.drop (k + 1))) := (by rw [H.out, ldrop hk', hx.out]; simp [nm] : L = (O ++ [y]) ++ nm (l.drop (k + 1)))
      have HO2 : Hid ((O ++ [y]).length = k + 1) := (by rw [List.length_append, HO.out]; rfl : (O ++ [y]).length = k + 1)
      have i0 : (0 : Int) ≤ (k : Int) := by omega
      have i1 : (k : Int) < (len : Int) := by omega
      have hb2 := hbel.alloc hbel.size (otab y x2 x3 x4 x5)
      have hown2 := hown.alloc (otab y x2 x3 x4 x5)
      have hls := lit_int (wr.alloc (otab y x2 x3 x4 x5)) y (g := wr.heap.size + 1) (by simp)
      clear hx H HO hx0
      go_wp2_with (at_builtin; go_must (refine append_t intE ieE (w0 := w) (B := w.heap.size) rfl (.tmp 12) (.tmp 15) rfl _ _ _ rfl (hown2.alloc _) (some ⟨wr.heap.size + 1, 0, none⟩) 1 1 [y] rfl hls (fun h => by cases h) (by omega) (hb2.alloc hb2.size _) (hb2.alloc hb2.size _).size ?_; intro a3 c3 w3 _ _ _ hown3 hb3 _))
      go_roundw
      case rel => exact ⟨k + 1, c3, a3, _, by omega, by go_num, rfl, H2, HO2, hown3, hb3⟩
      case measure => simp [intOf]; omega
    · obtain rfl : k = len := by omega
      have HE : Hid (L = O) := (by rw [H.out, List.drop_of_length_le (by rw [hll.out]; omega)]; simp [nm] : L = O)
      clear H HL
      go_wp2
      go_ret
      obtain rfl := HE.out
      obtain rfl := HO.out
      exact ⟨g, c, rfl, hown, hbel⟩

set_option maxRecDepth 100000 in
set_option maxHeartbeats 1000000 in
theorem loflevel_any (a : Option Addr) (len cap : Nat) (l : List Lv.T) (n : Int) (w : World) (hlen : len ≤ 100000) (hr : LRow w a len l) :
    Calls Try.prog 29 #[.slice a len cap, .int .i64 n] w (LRes w (Lv.lv l n)) := by
  have hll : Hid (l.length = len) := hr.1
  obtain ⟨L, hL⟩ : ∃ L, L = Lv.lv l n := ⟨_, rfl⟩
  rw [← hL]
  have HL : Hid (L = Lv.lv l n) := hL
  clear hL
  go_enter Try.func29, Try.ntmps29
  go_wp2
  go_loopw [5, 10] (fun v i wr => ∃ (k m c : Nat) (g : Option Addr) (O : List Lv.T), k ≤ len ∧ m ≤ k ∧ i = .int .i64 k ∧ v = .slice g m c ∧ Hid (L = O ++ Lv.lv (l.drop k) n) ∧ Hid (O.length = m) ∧ wr.ownsRow w.heap.size 30 5 (.slice g m c) m (tcells le O) ∧ Below w.heap.size w wr)
    (fun _ i _ => len - (intOf i).toNat)
  case atStart => exact ⟨0, 0, 0, none, [], by omega, by omega, rfl, rfl, (HL.out : L = [] ++ Lv.lv (l.drop 0) n), (rfl : ([] : List Lv.T).length = 0), ⟨rfl, .inl ⟨rfl, rfl⟩⟩, Below.refl _ _⟩
  case round =>
    obtain ⟨k, m, c, g, O, hk, hmk, rfl, rfl, H, HO, hown, hbel⟩ := hrel
    by_cases hlt : k < len
    · obtain ⟨b, off, x1, x2, x3, x4, x5, rfl, hx, q0, q1, q2, q3, q4⟩ := lget hr hbel hlt
      have hk' : k < l.length := by rw [hll.out]; exact hlt
      have i0 : (0 : Int) ≤ (k : Int) := by omega
      have i1 : (k : Int) < (len : Int) := by omega
      have hb2 := hbel.alloc hbel.size (otab x1 x2 x3 x4 x5)
      have hown2 := hown.alloc (otab x1 x2 x3 x4 x5)
      by_cases hz : x2 = n
      · have d0 : (x2 == n) = true := by simp [hz]
        have H2 : Hid (L = (O ++ [⟨x1, x2, x3, x4, x5⟩]) ++ Lv.lv (l.drop (k + 1)) n) := (by rw [H.out, ldrop hk', hx.out]; simp [Lv.lv, hz] : L = (O ++ [⟨x1, x2, x3, x4, x5⟩]) ++ Lv.lv (l.drop (k + 1)) n)
        have HO2 : Hid ((O ++ [Lv.T.mk x1 x2 x3 x4 x5]).length = m + 1) := (by rw [List.length_append, HO.out]; rfl : (O ++ [Lv.T.mk x1 x2 x3 x4 x5]).length = m + 1)
        have hls := lit_tab (wr.alloc (otab x1 x2 x3 x4 x5)) x1 x2 x3 x4 x5 (g := wr.heap.size + 1) (by simp)
        clear hx H HO hz
        go_wp2_with (at_builtin; go_must (refine append_t tabE leE (w0 := w) (B := w.heap.size) rfl (.tmp 18) (.tmp 20) rfl _ _ _ rfl (hown2.alloc _) (some ⟨wr.heap.size + 1, 0, none⟩) 1 1 [⟨x1, x2, x3, x4, x5⟩] rfl hls (fun h => by cases h) (by omega) (hb2.alloc hb2.size _) (hb2.alloc hb2.size _).size ?_; intro a3 c3 w3 _ _ _ hown3 hb3 _))
        go_roundw
        case rel => exact ⟨k + 1, m + 1, c3, a3, _, by omega, by omega, by go_num, rfl, H2, HO2, hown3, hb3⟩
        case measure => simp [intOf]; omega
      · have d0 : (x2 == n) = false := by simp [hz]
        have H2 : Hid (L = O ++ Lv.lv (l.drop (k + 1)) n) := (by rw [H.out, ldrop hk', hx.out]; simp [Lv.lv, hz] : L = O ++ Lv.lv (l.drop (k + 1)) n)
        clear hx H hz
        go_wp2
        go_roundw
        case rel => exact ⟨k + 1, m, c, g, O, by omega, by omega, by go_num, rfl, H2, HO, hown2, hb2⟩
        case measure => simp [intOf]; omega
    · obtain rfl : k = len := by omega
      have HE : Hid (L = O) := (by rw [H.out, List.drop_of_length_le (by rw [hll.out]; omega)]; simp [Lv.lv] : L = O)
      clear H HL
      go_wp2
      go_ret
      obtain rfl := HE.out
      obtain rfl := HO.out
      exact ⟨g, c, rfl, hown, hbel⟩

set_option maxRecDepth 100000 in
set_option maxHeartbeats 1000000 in
theorem lmeeting_any (a : Option Addr) (len cap : Nat) (l : List Lv.T) (s1 s2 s3 : Int) (s4 s5 : ByteArray) (w : World) (hlen : len ≤ 100000) (hr : LRow w a len l) :
    Calls Try.prog 24 #[.slice a len cap, .agg #[.int .i64 s1, .int .i64 s2, .int .i64 s3, .string s4, .string s5]] w (LRes w (l.filter (fun x => Lv.meet x ⟨s1, s2, s3, s4, s5⟩))) := by
  have hll : Hid (l.length = len) := hr.1
  obtain ⟨W, hW⟩ : ∃ W, W = w.alloc (otab s1 s2 s3 s4 s5) := ⟨_, rfl⟩
  have hWs : W.heap.size = w.heap.size + 1 := by rw [hW]; simp
  have hbW : Below w.heap.size w W := hW ▸ below_alloc _ _
  have hrW : LRow W a len l := hr.below hbW (Nat.le_refl _)
  have c0 : W.cell? ⟨w.heap.size, 0, none⟩ = some (.int .i64 s1) := by rw [hW]; exact cell_new _ _ _ _
  have c1 : W.cell? ⟨w.heap.size, 1, none⟩ = some (.int .i64 s2) := by rw [hW]; exact cell_new _ _ _ _
  have c2 : W.cell? ⟨w.heap.size, 2, none⟩ = some (.int .i64 s3) := by rw [hW]; exact cell_new _ _ _ _
  have c3 : W.cell? ⟨w.heap.size, 3, none⟩ = some (.string s4) := by rw [hW]; exact cell_new _ _ _ _
  have c4 : W.cell? ⟨w.heap.size, 4, none⟩ = some (.string s5) := by rw [hW]; exact cell_new _ _ _ _
  have hm := fun x1 x2 x3 x4 x5 V => lmeet_any x1 x2 x3 x4 x5 s1 s2 s3 s4 s5 V
  obtain ⟨p, hp⟩ : ∃ p : Lv.T → Bool, p = fun x => Lv.meet x ⟨s1, s2, s3, s4, s5⟩ := ⟨_, rfl⟩
  rw [← hp]
  have hm2 : ∀ x1 x2 x3 x4 x5 V, Calls Try.prog 10 #[.agg #[.int .i64 x1, .int .i64 x2, .int .i64 x3, .string x4, .string x5], .agg #[.int .i64 s1, .int .i64 s2, .int .i64 s3, .string s4, .string s5]] V fun e w' => e = .returned (.bool (p ⟨x1, x2, x3, x4, x5⟩)) ∧ Below V.heap.size V w' := by rw [hp]; exact hm
  clear hm hp
  obtain ⟨L, hL⟩ : ∃ L, L = l.filter p := ⟨_, rfl⟩
  rw [← hL]
  have HL : Hid (L = l.filter p) := hL
  clear hL
  go_enter Try.func24, Try.ntmps24
  go_wp2
  have e0 : w.alloc (.cells #[.int .i64 s1, .int .i64 s2, .int .i64 s3, .string s4, .string s5] 30) = W := hW.symm
  rw [e0]
  clear e0
  go_loopw [5, 10] (fun v i wr => ∃ (k m c : Nat) (g : Option Addr) (O : List Lv.T), k ≤ len ∧ m ≤ k ∧ i = .int .i64 k ∧ v = .slice g m c ∧ Hid (L = O ++ (l.drop k).filter p) ∧ Hid (O.length = m) ∧ wr.ownsRow W.heap.size 30 5 (.slice g m c) m (tcells le O) ∧ Below W.heap.size W wr)
    (fun _ i _ => len - (intOf i).toNat)
  case atStart => exact ⟨0, 0, 0, none, [], by omega, by omega, rfl, rfl, (HL.out : L = [] ++ (l.drop 0).filter p), (rfl : ([] : List Lv.T).length = 0), ⟨rfl, .inl ⟨rfl, rfl⟩⟩, Below.refl _ _⟩
  case round =>
    obtain ⟨k, m, c, g, O, hk, hmk, rfl, rfl, H, HO, hown, hbel⟩ := hrel
    by_cases hlt : k < len
    · obtain ⟨b, off, x1, x2, x3, x4, x5, rfl, hx, q0, q1, q2, q3, q4⟩ := lget hrW hbel hlt
      have hk' : k < l.length := by rw [hll.out]; exact hlt
      have i0 : (0 : Int) ≤ (k : Int) := by omega
      have i1 : (k : Int) < (len : Int) := by omega
      have hlt2 : w.heap.size < W.heap.size := by omega
      have z0 := (hbel.cell (p := ⟨w.heap.size, 0, none⟩) hlt2).trans c0
      have z1 := (hbel.cell (p := ⟨w.heap.size, 1, none⟩) hlt2).trans c1
      have z2 := (hbel.cell (p := ⟨w.heap.size, 2, none⟩) hlt2).trans c2
      have z3 := (hbel.cell (p := ⟨w.heap.size, 3, none⟩) hlt2).trans c3
      have z4 := (hbel.cell (p := ⟨w.heap.size, 4, none⟩) hlt2).trans c4
      have hb2 := hbel.alloc hbel.size (otab x1 x2 x3 x4 x5)
      have hown2 := hown.alloc (otab x1 x2 x3 x4 x5)
      have hne : w.heap.size < wr.heap.size := by have := hbel.size; omega
      have z0 := (cell_past wr (otab x1 x2 x3 x4 x5) ⟨w.heap.size, 0, none⟩ hne).trans z0
      have z1 := (cell_past wr (otab x1 x2 x3 x4 x5) ⟨w.heap.size, 1, none⟩ hne).trans z1
      have z2 := (cell_past wr (otab x1 x2 x3 x4 x5) ⟨w.heap.size, 2, none⟩ hne).trans z2
      have z3 := (cell_past wr (otab x1 x2 x3 x4 x5) ⟨w.heap.size, 3, none⟩ hne).trans z3
      have z4 := (cell_past wr (otab x1 x2 x3 x4 x5) ⟨w.heap.size, 4, none⟩ hne).trans z4
      cases hz : p ⟨x1, x2, x3, x4, x5⟩ with
      | true =>
        have H2 : Hid (L = (O ++ [⟨x1, x2, x3, x4, x5⟩]) ++ (l.drop (k + 1)).filter p) := (by rw [H.out, ldrop hk', hx.out]; simp [hz] : L = (O ++ [⟨x1, x2, x3, x4, x5⟩]) ++ (l.drop (k + 1)).filter p)
        have HO2 : Hid ((O ++ [Lv.T.mk x1 x2 x3 x4 x5]).length = m + 1) := (by rw [List.length_append, HO.out]; rfl : (O ++ [Lv.T.mk x1 x2 x3 x4 x5]).length = m + 1)
        clear hx H HO
        go_wp2_with (first | (go_at_call 10; go_must (refine (hm2 _ _ _ _ _ _).mono ?_; rintro e w2 ⟨rfl, hbm⟩; obtain ⟨t0, t1, t2, t3, t4⟩ := tab_past hbm (by simp); have hown3 := owns_below hown2 hbm; have hb3 := hb2.trans (hbm.mono hb2.size))) | (at_builtin; go_must (refine append_t tabE leE (w0 := W) (B := W.heap.size) rfl (.tmp 17) (.tmp 19) rfl _ _ _ rfl (hown3.alloc _) (some ⟨w2.heap.size, 0, none⟩) 1 1 [⟨x1, x2, x3, x4, x5⟩] rfl (lit_tab w2 x1 x2 x3 x4 x5 rfl) (fun h => by cases h) (by omega) (hb3.alloc hb3.size _) (hb3.alloc hb3.size _).size ?_; intro a3 c3 w3 _ _ _ hown4 hb4 _)))
        go_roundw
        case rel => exact ⟨k + 1, m + 1, c3, a3, _, by omega, by omega, by go_num, rfl, H2, HO2, hown4, hb4⟩
        case measure => simp [intOf]; omega
      | false =>
        have H2 : Hid (L = O ++ (l.drop (k + 1)).filter p) := (by rw [H.out, ldrop hk', hx.out]; simp [hz] : L = O ++ (l.drop (k + 1)).filter p)
        clear hx H
        go_wp2_with (go_at_call 10; go_must (refine (hm2 _ _ _ _ _ _).mono ?_; rintro e w2 ⟨rfl, hbm⟩))
        go_roundw
        case rel => exact ⟨k + 1, m, c, g, O, by omega, by omega, by go_num, rfl, H2, HO, owns_below hown2 hbm, hb2.trans (hbm.mono hb2.size)⟩
        case measure => simp [intOf]; omega
    · obtain rfl : k = len := by omega
      have HE : Hid (L = O) := (by rw [H.out, List.drop_of_length_le (by rw [hll.out]; omega)]; simp : L = O)
      clear H HL
      go_wp2
      go_ret
      obtain rfl := HE.out
      obtain rfl := HO.out
      exact ⟨g, c, rfl, lowns_base hown (by omega), hbW.trans (hbel.mono (by omega))⟩
end Go.Proofs.Ytghgolpofafjmaa
