/- What the program's Pick and All do. -/
import Derived.Test.YtghgolpofafjmaaLQ
import Derived.Test.YtghgolpofafjmaaLM
namespace Go.Proofs.Ytghgolpofafjmaa
open Go.RowKit

/-- a job, or none -/
def PRes (w : World) (I : List Nat) (n : Int) (D : Bool) (B : Bool) (e : Ending) (w' : World) : Prop := ∃ g c, e = .returned (.tuple #[.agg #[.slice g I.length c, .int .i64 n, .bool D], .bool B]) ∧ w'.ownsRow w.heap.size 3 1 (.slice g I.length c) I.length (tcells ie I) ∧ Below w.heap.size w w'

theorem pres_nil {w W : World} (hb : Below w.heap.size w W) {u : Value} {n : Int} {b : Bool} : PRes w [] 0 false false (.returned (.tuple #[.agg #[.slice none 0 0, .int .i64 0, .bool false], .bool false])) (((W.setCell ⟨w.heap.size, 0, none⟩ u).setCell ⟨w.heap.size, 1, none⟩ (.int .i64 n)).setCell ⟨w.heap.size, 2, none⟩ (.bool b)) :=
  ⟨none, 0, rfl, ⟨rfl, .inl ⟨rfl, rfl⟩⟩, below_set (below_set (below_set hb (Nat.le_refl _) _ _) (Nat.le_refl _) _ _) (Nat.le_refl _) _ _⟩
set_option maxRecDepth 100000 in
set_option maxHeartbeats 400000 in
theorem lpick_no (a : Option Addr) (len cap : Nat) (l : List Lv.T) (base : Int) (w : World) (hlc : len ≤ cap) (hr : LRow w a len l) (hm : Lv.may l = false) :
    Calls Try.prog 18 #[.slice a len cap, .int .i64 base] w (PRes w [] 0 false false) := by
  have hb0 := below_alloc w (oj (.slice none 0 0) 0 false)
  have g0 : (w.alloc (oj (.slice none 0 0) 0 false)).heap[w.heap.size]? = some (oj (.slice none 0 0) 0 false) := heap_alloc_new w _
  have hc := fun W r => lcheck_any a len cap l W hlc r 1 (by rw [hm]; rfl)
  go_enter Try.func18, Try.ntmps18
  go_wp2_with (go_at_call 13; go_must (refine (hc _ (hr.below hb0 (Nat.le_refl _))).mono ?_; rintro e w2 ⟨rfl, hb2⟩; obtain ⟨⟨j0, j1, j2⟩, f0, f1, f2⟩ := blk3 (blk_kept g0 hb2)))
  exact bodyPost_ret (v := .tuple #[.agg #[.slice none 0 0, .int .i64 0, .bool false], .bool false]) (by simp [results, Try.results18, go_sem, j0, j1, j2]) rfl (pres_nil (hb0.trans (hb2.mono hb0.size)))
set_option maxRecDepth 100000 in
set_option maxHeartbeats 400000 in
theorem lpick_base (a : Option Addr) (len cap : Nat) (l : List Lv.T) (base : Int) (w : World) (hlc : len ≤ cap) (hr : LRow w a len l) (hm : Lv.may l = true) (hb : base < 1 ∨ 1048576 < base) :
    Calls Try.prog 18 #[.slice a len cap, .int .i64 base] w (PRes w [] 0 false false) := by
  have hb0 := below_alloc w (oj (.slice none 0 0) 0 false)
  have g0 : (w.alloc (oj (.slice none 0 0) 0 false)).heap[w.heap.size]? = some (oj (.slice none 0 0) 0 false) := heap_alloc_new w _
  have hc := fun W r => lcheck_any a len cap l W hlc r 0 (by rw [hm]; rfl)
  rcases Int.lt_or_le base 1 with h1 | h1
  · clear hb
    go_enter Try.func18, Try.ntmps18
    go_wp2_with (go_at_call 13; go_must (refine (hc _ (hr.below hb0 (Nat.le_refl _))).mono ?_; rintro e w2 ⟨rfl, hb2⟩; obtain ⟨⟨j0, j1, j2⟩, f0, f1, f2⟩ := blk3 (blk_kept g0 hb2)))
    exact bodyPost_ret (v := .tuple #[.agg #[.slice none 0 0, .int .i64 0, .bool false], .bool false]) (by simp [results, Try.results18, go_sem, j0, j1, j2]) rfl (pres_nil (hb0.trans (hb2.mono hb0.size)))
  · have h2 : 1048576 < base := by omega
    clear hb
    go_enter Try.func18, Try.ntmps18
    go_wp2_with (go_at_call 13; go_must (refine (hc _ (hr.below hb0 (Nat.le_refl _))).mono ?_; rintro e w2 ⟨rfl, hb2⟩; obtain ⟨⟨j0, j1, j2⟩, f0, f1, f2⟩ := blk3 (blk_kept g0 hb2)))
    exact bodyPost_ret (v := .tuple #[.agg #[.slice none 0 0, .int .i64 0, .bool false], .bool false]) (by simp [results, Try.results18, go_sem, j0, j1, j2]) rfl (pres_nil (hb0.trans (hb2.mono hb0.size)))
def PickRes (w : World) (D : List Lv.T) (N : Nat) (e : Ending) (w' : World) : Prop := (N = 4 ∧ PRes w [] 0 false false e w') ∨ (N < 4 ∧ PRes w (nm (Lv.inn D N)) ((N : Int) + 1) (!Lv.hides D (Lv.inn D N) ((N : Int) + 1)) true e w')
theorem ljob_any (a : Option Addr) (len cap : Nat) (d : List Lv.T) (n : Nat) (w : World) (hn3 : n ≤ 3) (hr : LRow w a len d) (hm : Lv.May d) (h0 : 0 < (Lv.lv d n).length) :
    Calls Try.prog 30 #[.slice a len cap, .int .i64 (n : Int)] w (JRes w (nm (Lv.inn d n)) ((n : Int) + 1) (!Lv.hides d (Lv.inn d n) ((n : Int) + 1))) := by
  rcases Nat.eq_zero_or_pos n with rfl | h
  · exact ljob0_any a len cap d w hr hm h0
  · exact ljobn_any a len cap d n w h hn3 hr hm h0
set_option maxRecDepth 100000 in
set_option maxHeartbeats 1000000 in
theorem lpick_any (a : Option Addr) (len cap : Nat) (l : List Lv.T) (base : Int) (w : World) (hlc : len ≤ cap) (hr : LRow w a len l) (hnil : a = none → len = 0 ∧ cap = 0) (hm : Lv.May l) (hb1 : 1 ≤ base) (hb2 : base ≤ 1048576) (N : Nat) (hN : N = Lv.pn (Lv.ord l) base) :
    Calls Try.prog 18 #[.slice a len cap, .int .i64 base] w (PickRes w (Lv.ord l) N) := by
  have hb0 := below_alloc w (oj (.slice none 0 0) 0 false)
  have g0 : (w.alloc (oj (.slice none 0 0) 0 false)).heap[w.heap.size]? = some (oj (.slice none 0 0) 0 false) := heap_alloc_new w _
  have hc := fun W r => lcheck_any a len cap l W hlc r 0 (by rw [(Lv.may_iff l).mpr hm]; rfl)
  have ho := fun W r => lordered_any a len cap l W r hnil hm
  have hmo := hm.perm (Lv.ord_perm l)
  have HN : Hid (N = Lv.pn (Lv.ord l) base) := hN
  clear hN
  generalize Lv.ord l = D at *
  have d1 : decide (base < 1) = false := decide_eq_false (by omega)
  have d2 : decide (1048576 < base) = false := decide_eq_false (by omega)
  go_enter Try.func18, Try.ntmps18
  go_wp2_with (first | (go_at_call 13; go_must (refine (hc _ (hr.below hb0 (Nat.le_refl _))).mono ?_; rintro e w2 ⟨rfl, hbc⟩)) | (go_at_call 23; go_must (refine (ho _ ((hr.below hb0 (Nat.le_refl _)).below hbc (Nat.le_refl _))).mono ?_; rintro e w3 ⟨A3, C3, rfl, hown3, hb3⟩)))
  have hle : D.length ≤ 64 := hmo.len
  have hrD := lrow_of hown3 (by omega)
  have hB3 := hbc.trans (hb3.mono hbc.size)
  have hofl := fun (n : Int) V (hV : Below w3.heap.size w3 V) => loflevel_any A3 D.length C3 D n V (by omega) (hrD.below hV (Nat.le_refl _))
  have hlv : ∀ n : Int, (Lv.lv D n).length ≤ 64 := fun n => Nat.le_trans (lv_len D n) hle
  have hful := fun A C (n : Nat) V r (hn : n ≤ 3) => lfull_any A (Lv.lv D n).length C (Lv.lv D n) n base V (hlv n) r (fun x hx => hmo.one x (List.mem_filter.mp hx).1) hn hb1 hb2
  have hjob := fun (n : Nat) V (hV : Below w3.heap.size w3 V) (hn : n ≤ 3) h0 => ljob_any A3 D.length C3 D n V hn (hrD.below hV (Nat.le_refl _)) hmo h0
  clear hc ho hr hown3 hrD
  go_loopw [21] (fun i wr => ∃ k : Nat, k ≤ 4 ∧ i = .int .i64 k ∧ Hid (∀ m : Nat, m < k → Lv.full (Lv.lv D m) m base = false) ∧ Below w3.heap.size w3 wr) (fun i _ => 4 - (intOf i).toNat)
  case atStart => exact ⟨0, by omega, rfl, (fun m hm => by omega : ∀ m : Nat, m < 0 → Lv.full (Lv.lv D m) m base = false), Below.refl _ _⟩
  case round =>
    obtain ⟨k, hk, rfl, HA, hbel⟩ := hrel
    by_cases hlt : k < 4
    · have hk3 : k ≤ 3 := by omega
      cases hf : Lv.full (Lv.lv D k) k base with
      | true =>
        have HE : Hid (N = k) := (by rw [HN.out]; exact Lv.pn_at hlt HA.out hf : N = k)
        have hof := hofl k wr hbel
        have hfu := fun A C V r => hful A C k V r hk3
        rw [hf] at hfu
        have hjo := fun V hV => hjob k V hV hk3 (Lv.full_some (by omega) hf)
        have hlk := hlv k
        clear hofl hful hjob hlv HA HN hf
        generalize Lv.lv D (k : Int) = F at *
        go_wp2_with (first | (go_at_call 29; go_must (refine hof.mono ?_; rintro e w4 ⟨A4, C4, rfl, hown4, hb4⟩)) | (go_at_call 28; go_must (refine (hfu A4 C4 w4 (lrow_of hown4 (by omega))).mono ?_; rintro e w5 ⟨rfl, hb5⟩; have hB5 := (hbel.trans (hb4.mono hbel.size)).trans (hb5.mono (hbel.trans (hb4.mono hbel.size)).size))) | (go_at_call 30; go_must (refine (hjo w5 hB5).mono ?_; rintro e w6 ⟨A6, C6, rfl, hown6, hb6⟩; have hB6 := hB5.trans (hb6.mono hB5.size); have hB7 := hB3.trans (hB6.mono hB3.size); obtain ⟨⟨j0, j1, j2⟩, f0, f1, f2⟩ := blk3 (blk_kept g0 hB7))))
        obtain rfl := HE.out
        have hs6 : w.heap.size < w5.heap.size := by have := (hB3.trans (hB5.mono hB3.size)).size; simp at this; omega
        have hne := own_ne hown6 hs6
        have ho8 := lowns_base (B' := w.heap.size) hown6 (by omega)
        exact bodyPost_ret (v := .tuple #[.agg #[.slice A6 (nm (Lv.inn D N)).length C6, .int .i64 ((N : Int) + 1), .bool (!Lv.hides D (Lv.inn D N) ((N : Int) + 1))], .bool true]) (by simp [results, Try.results18, go_sem, j0, j1, j2]) rfl (.inr ⟨hlt, A6, C6, rfl, own_set (own_set (own_set ho8 hne _ _) hne _ _) hne _ _, below_set (below_set (below_set (hb0.trans (hB7.mono hb0.size)) (Nat.le_refl _) _ _) (Nat.le_refl _) _ _) (Nat.le_refl _) _ _⟩)
      | false =>
        have HA2 : Hid (∀ m : Nat, m < k + 1 → Lv.full (Lv.lv D m) m base = false) := (by
          intro m hm
          rcases Nat.lt_or_ge m k with h | h
          · exact HA.out m h
          · obtain rfl : m = k := by omega
            exact hf : ∀ m : Nat, m < k + 1 → Lv.full (Lv.lv D m) m base = false)
        have hof := hofl k wr hbel
        have hfu := fun A C V r => hful A C k V r hk3
        rw [hf] at hfu
        have hlk := hlv k
        clear hofl hful hjob hlv HA HN hf
        generalize hF : Lv.lv D (k : Int) = F at hof hfu hlk
        clear hF
        go_wp2_with (first | (go_at_call 29; go_must (refine hof.mono ?_; rintro e w4 ⟨A4, C4, rfl, hown4, hb4⟩)) | (go_at_call 28; go_must (refine (hfu A4 C4 w4 (lrow_of hown4 (by omega))).mono ?_; rintro e w5 ⟨rfl, hb5⟩; have hB5 := (hbel.trans (hb4.mono hbel.size)).trans (hb5.mono (hbel.trans (hb4.mono hbel.size)).size))))
        go_roundw
        case rel => exact ⟨k + 1, by omega, by go_num, HA2, hB5⟩
        case measure => simp [intOf]; omega
    · obtain rfl : k = 4 := by omega
      have HE : Hid (N = 4) := (by rw [HN.out]; exact Lv.pn_none HA.out : N = 4)
      clear HA HN hofl hful hjob hlv
      have hB7 := hB3.trans (hbel.mono hB3.size)
      obtain ⟨⟨j0, j1, j2⟩, f0, f1, f2⟩ := blk3 (blk_kept g0 hB7)
      go_wp2
      obtain rfl := HE.out
      exact bodyPost_ret (v := .tuple #[.agg #[.slice none 0 0, .int .i64 0, .bool false], .bool false]) (by simp [results, Try.results18, go_sem, j0, j1, j2]) rfl (.inl ⟨rfl, pres_nil (hb0.trans (hB7.mono hb0.size))⟩)
end Go.Proofs.Ytghgolpofafjmaa
