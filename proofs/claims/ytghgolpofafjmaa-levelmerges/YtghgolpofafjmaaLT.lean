/- What the reference's Find and level do. -/
import Derived.Test.YtghgolpofafjmaaLK
import Derived.Test.YtghgolpofafjmaaLH
import Derived.ArgAppend
namespace Go.Proofs.Ytghgolpofafjmaa
open Go.RowKit

theorem lrowD {w : World} {B n c : Nat} {g : Option Addr} {l : List Lv.T} (h : w.ownsRow B 30 5 (.slice g n c) n (tcells le l)) (hn : n ≤ 1000) : LRow w g n l := trow_of_owns leE h (by omega) (by omega)
/-- append of one table onto a slice without room: a new row -/
theorem append_full {wr : World} {ops : Array Oper} {rest : List Oper} {o : Oper} {a : Act} {Q : Exit → Act → World → Prop} (hgd : o.guard = none) (s x : Operand)
    (ho : o.op = .call { callee := .builtin .append, args := #[s, x], argTypes := #[22, 22] })
    (ao : Option Addr) (n : Nat) (xs : List Lv.T) (hs : a.eval s = .slice ao n n) (hnone : ao = none → n = 0) (hr0 : LRow wr ao n xs)
    (ad : Addr) (c : Nat) (p : Lv.T) (hx : a.eval x = .slice (some ad) 1 c) (hr : LRow wr (some ad) 1 [p]) (hn : n ≤ 100000)
    (h : ∀ g' c' w', w'.ownsRow wr.heap.size 30 5 (.slice g' (n + 1) c') (n + 1) (tcells le (xs ++ [p])) → Below wr.heap.size wr w' → wpList Try.prog ops Q rest (a.put o.dst (.slice g' (n + 1) c')) w') : wpList Try.prog ops Q (o :: rest) a wr := by
  obtain ⟨i0, hi, hz0, hz1, hz2⟩ := info_parts tabE.info
  refine wpList_append_grows wr hgd s x 22 ho 30 i0 _ 5 56 Try.underlying22 hi hz0 hz1 hz2 rfl (by decide) ao n n (tcells le xs) hs (fun e => ⟨hnone e, hnone e⟩) (by rw [tcells_length leE, hr0.1]) (fun b hb j u hj => TRow.cells leE (by decide) (hb ▸ hr0) j u hj) ad 1 c (tcells le [p]) hx rfl (fun j u hj => TRow.cells leE (by decide) hr j u hj) (tcells_one leE [p]) (by omega) (by unfold maxLen; omega) (by omega) ?_
  intro v' w' hown' hg
  obtain ⟨g', c', rfl, _⟩ := lown_pos hown' (by omega)
  exact h _ c' w' (by rw [tcells_append]; exact hown') (lbelow_grown hg)

/-- a row that comes to be: none yet (made elsewhere, without room), or one of its own -/
def OutAt (B0 : Nat) (w2 wr : World) (v : Value) (m : Nat) (O : List Lv.T) : Prop := (v = .slice (some ⟨B0, 0, none⟩) 0 0 ∧ m = 0 ∧ O = []) ∨ ∃ g c, v = .slice g m c ∧ wr.ownsRow w2.heap.size 30 5 (.slice g m c) m (tcells le O)
theorem OutAt.alloc {B0 : Nat} {w2 wr : World} {v : Value} {m : Nat} {O : List Lv.T} (h : OutAt B0 w2 wr v m O) (o : Obj) : OutAt B0 w2 (wr.alloc o) v m O := by
  rcases h with h | ⟨g, c, e, h⟩
  · exact .inl h
  · exact .inr ⟨g, c, e, h.alloc o⟩
theorem append_out {B0 : Nat} {w2 wr : World} {v : Value} {m : Nat} {O : List Lv.T} (hO : OutAt B0 w2 wr v m O) (hbel : Below w2.heap.size w2 wr) {ops : Array Oper} {rest : List Oper} {o : Oper} {a : Act} {Q : Exit → Act → World → Prop} (hgd : o.guard = none) (s x : Operand)
    (ho : o.op = .call { callee := .builtin .append, args := #[s, x], argTypes := #[22, 22] })
    (hs : a.eval s = v) (ad : Addr) (c : Nat) (p : Lv.T) (hx : a.eval x = .slice (some ad) 1 c) (hr : LRow wr (some ad) 1 [p]) (hm : m ≤ 100000)
    (h : ∀ g' c' w', OutAt B0 w2 w' (.slice g' (m + 1) c') (m + 1) (O ++ [p]) → Below w2.heap.size w2 w' → wpList Try.prog ops Q rest (a.put o.dst (.slice g' (m + 1) c')) w') : wpList Try.prog ops Q (o :: rest) a wr := by
  rcases hO with ⟨rfl, rfl, rfl⟩ | ⟨g, c0, rfl, hown⟩
  · refine append_full hgd s x ho (some ⟨B0, 0, none⟩) 0 [] hs (fun e => by cases e) (TRow.nil _ _) ad c p hx hr (by omega) ?_
    intro g' c' w' h1 h2
    exact h g' c' w' (.inr ⟨g', c', rfl, lowns_base h1 hbel.size⟩) (hbel.trans (h2.mono hbel.size))
  · refine append_t tabE leE (w0 := w2) (B := w2.heap.size) hgd s x ho _ m O hs hown (some ad) 1 c [p] hx hr (fun e => by cases e) (by omega) hbel hbel.size ?_
    intro a' c' w' _ _ _ h1 h2 _
    exact h a' c' w' (.inr ⟨a', c', rfl, h1⟩) h2
theorem OutAt.res {w w2 wr : World} {v : Value} {m : Nat} {O : List Lv.T} (h : OutAt w.heap.size w2 wr v m O) (hm : O.length = m) (hb : Below w2.heap.size w2 wr) (h2 : w2.ownsRow w.heap.size 30 5 (.slice (some ⟨w.heap.size, 0, none⟩) 0 0) 0 (tcells le [])) (hw : Below w.heap.size w w2) : LRes w O (.returned v) wr := by
  subst hm
  rcases h with ⟨rfl, _, rfl⟩ | ⟨g, c, rfl, hown⟩
  · exact ⟨_, _, rfl, owns_below h2 hb, hw.trans (hb.mono hw.size)⟩
  · exact ⟨g, c, rfl, lowns_base hown hw.size, hw.trans (hb.mono hw.size)⟩

set_option maxRecDepth 100000 in
set_option maxHeartbeats 1000000 in
theorem rlevel_any (a : Option Addr) (len cap : Nat) (l : List Lv.T) (n : Int) (w : World) (hlen : len ≤ 1000) (hr : LRow w a len l) :
    Calls Try.prog 32 #[.slice a len cap, .int .i64 n] w (LRes w (Lv.lv (Lv.iord l) n)) := by
  have hor := fun W r => rord_any a len cap l W hlen r
  have hb0 := below_alloc w (.cells #[] 30)
  have hm0 := made_t (s := 5) (enc := le) w (B := w.heap.size) (E := 30) (Nat.le_refl _) rfl
  have hlD : (Lv.iord l).length ≤ 1000 := by rw [Lv.iord_len, hr.1]; exact hlen
  generalize Lv.iord l = D at *
  obtain ⟨L, hL⟩ : ∃ L, L = Lv.lv D n := ⟨_, rfl⟩
  rw [← hL]
  have HL : Hid (L = Lv.lv D n) := hL
  clear hL
  go_enter Try.func32, Try.ntmps32
  go_wp2_with (go_at_call 16; go_must (refine (hor _ (hr.below hb0 (Nat.le_refl _))).mono ?_; rintro e w2 ⟨A2, C2, rfl, hown2, hb2⟩))
  have hm2 := owns_below hm0 hb2
  have hw2 := hb0.trans (hb2.mono hb0.size)
  have hrD := lrowD hown2 hlD
  clear hm0 hb0 hb2 hor hr hown2
  go_loopw [5, 6] (fun v i wr => ∃ (k m : Nat) (O : List Lv.T), k ≤ D.length ∧ m ≤ k ∧ i = .int .i64 k ∧ Hid (L = O ++ Lv.lv (D.drop k) n) ∧ Hid (O.length = m) ∧ OutAt w.heap.size w2 wr v m O ∧ Below w2.heap.size w2 wr)
    (fun _ i _ => D.length - (intOf i).toNat)
  case atStart => exact ⟨0, 0, [], by omega, by omega, rfl, (HL.out : L = [] ++ Lv.lv (D.drop 0) n), (rfl : ([] : List Lv.T).length = 0), .inl ⟨rfl, rfl, rfl⟩, Below.refl _ _⟩
  case round =>
    obtain ⟨k, m, O, hk, hmk, rfl, H, HO, hout, hbel⟩ := hrel
    by_cases hlt : k < D.length
    · obtain ⟨b, off, x1, x2, x3, x4, x5, rfl, hx, q0, q1, q2, q3, q4⟩ := lget hrD hbel hlt
      have i0 : (0 : Int) ≤ (k : Int) := by omega
      have i1 : (k : Int) < ((D.length : Nat) : Int) := by omega
      by_cases hz : x2 = n
      · have d0 : (x2 == n) = true := by simp [hz]
        have H2 : Hid (L = (O ++ [⟨x1, x2, x3, x4, x5⟩]) ++ Lv.lv (D.drop (k + 1)) n) := (by rw [H.out, ldrop hlt, hx.out]; simp [Lv.lv, hz] : L = (O ++ [⟨x1, x2, x3, x4, x5⟩]) ++ Lv.lv (D.drop (k + 1)) n)
        have HO2 : Hid ((O ++ [Lv.T.mk x1 x2 x3 x4 x5]).length = m + 1) := (by rw [List.length_append, HO.out]; rfl : (O ++ [Lv.T.mk x1 x2 x3 x4 x5]).length = m + 1)
        have hls := lit_tab wr x1 x2 x3 x4 x5 rfl
        have hout2 := hout.alloc (otab x1 x2 x3 x4 x5)
        have hb3 := hbel.alloc hbel.size (otab x1 x2 x3 x4 x5)
        clear hx H HO hz
        go_wp2_with (at_builtin; go_must (refine append_out hout2 hb3 rfl (.tmp 23) (.tmp 28) rfl rfl ⟨wr.heap.size, 0, none⟩ 1 ⟨x1, x2, x3, x4, x5⟩ rfl hls (by omega) ?_; intro a3 c3 w3 hout3 hb4))
        go_roundw
        case rel => exact ⟨k + 1, m + 1, _, by omega, by omega, by go_num, H2, HO2, hout3, hb4⟩
        case measure => simp [intOf]; omega
      · have d0 : (x2 == n) = false := by simp [hz]
        have H2 : Hid (L = O ++ Lv.lv (D.drop (k + 1)) n) := (by rw [H.out, ldrop hlt, hx.out]; simp [Lv.lv, hz] : L = O ++ Lv.lv (D.drop (k + 1)) n)
        clear hx H hz
        go_wp2
        go_roundw
        case rel => exact ⟨k + 1, m, O, by omega, by omega, by go_num, H2, HO, hout, hbel⟩
        case measure => simp [intOf]; omega
    · obtain rfl : k = D.length := by omega
      have HE : Hid (L = O) := (by rw [H.out, List.drop_of_length_le (by omega)]; simp [Lv.lv] : L = O)
      clear H HL
      go_wp2
      go_ret
      obtain rfl := HE.out
      exact hout.res HO.out hbel hm2 hw2

set_option maxRecDepth 100000 in
set_option maxHeartbeats 1000000 in
theorem rfind_any (a : Option Addr) (len cap : Nat) (l : List Lv.T) (key : ByteArray) (w : World) (hlen : len ≤ 1000) (hr : LRow w a len l) :
    Calls Try.prog 17 #[.slice a len cap, .string key] w (LRes w ((Lv.iord l).filter (Lv.has key))) := by
  have hor := fun W r => rord_any a len cap l W hlen r
  have hb0 := below_alloc w (.cells #[] 30)
  have hm0 := made_t (s := 5) (enc := le) w (B := w.heap.size) (E := 30) (Nat.le_refl _) rfl
  have hlD : (Lv.iord l).length ≤ 1000 := by rw [Lv.iord_len, hr.1]; exact hlen
  generalize Lv.iord l = D at *
  obtain ⟨L, hL⟩ : ∃ L, L = D.filter (Lv.has key) := ⟨_, rfl⟩
  rw [← hL]
  have HL : Hid (L = D.filter (Lv.has key)) := hL
  clear hL
  go_enter Try.func17, Try.ntmps17
  go_wp2_with (go_at_call 16; go_must (refine (hor _ (hr.below hb0 (Nat.le_refl _))).mono ?_; rintro e w2 ⟨A2, C2, rfl, hown2, hb2⟩))
  have hm2 := owns_below hm0 hb2
  have hw2 := hb0.trans (hb2.mono hb0.size)
  have hrD := lrowD hown2 hlD
  clear hm0 hb0 hb2 hor hr hown2
  go_loopw [5, 6] (fun v i wr => ∃ (k m : Nat) (O : List Lv.T), k ≤ D.length ∧ m ≤ k ∧ i = .int .i64 k ∧ Hid (L = O ++ (D.drop k).filter (Lv.has key)) ∧ Hid (O.length = m) ∧ OutAt w.heap.size w2 wr v m O ∧ Below w2.heap.size w2 wr)
    (fun _ i _ => D.length - (intOf i).toNat)
  case atStart => exact ⟨0, 0, [], by omega, by omega, rfl, (HL.out : L = [] ++ (D.drop 0).filter (Lv.has key)), (rfl : ([] : List Lv.T).length = 0), .inl ⟨rfl, rfl, rfl⟩, Below.refl _ _⟩
  case round =>
    obtain ⟨k, m, O, hk, hmk, rfl, H, HO, hout, hbel⟩ := hrel
    by_cases hlt : k < D.length
    · obtain ⟨b, off, x1, x2, x3, x4, x5, rfl, hx, q0, q1, q2, q3, q4⟩ := lget hrD hbel hlt
      have i0 : (0 : Int) ≤ (k : Int) := by omega
      have i1 : (k : Int) < ((D.length : Nat) : Int) := by omega
      have e1 := bl_le x4 key
      have e2 := bl_slt x5 key
      have hz0 : Lv.has key ⟨x1, x2, x3, x4, x5⟩ = (!Lv.slt key x4 && !Lv.slt x5 key) := rfl
      cases c1 : Lv.slt key x4 with
      | true =>
        rw [c1] at e1 hz0
        have H2 : Hid (L = O ++ (D.drop (k + 1)).filter (Lv.has key)) := (by rw [H.out, ldrop hlt, hx.out]; simp [hz0] : L = O ++ (D.drop (k + 1)).filter (Lv.has key))
        clear hx H hz0 c1 e2
        simp only [Bool.not_true, Bool.or_eq_false_iff] at e1
        obtain ⟨e3, e4⟩ := e1
        go_wp2
        go_roundw
        case rel => exact ⟨k + 1, m, O, by omega, by omega, by go_num, H2, HO, hout, hbel⟩
        case measure => simp [intOf]; omega
      | false =>
        rw [c1] at e1 hz0
        cases c2 : Lv.slt x5 key with
        | true =>
          rw [c2] at e2 hz0
          have H2 : Hid (L = O ++ (D.drop (k + 1)).filter (Lv.has key)) := (by rw [H.out, ldrop hlt, hx.out]; simp [hz0] : L = O ++ (D.drop (k + 1)).filter (Lv.has key))
          clear hx H hz0 c1 c2
          go_wp2
          go_roundw
          case rel => exact ⟨k + 1, m, O, by omega, by omega, by go_num, H2, HO, hout, hbel⟩
          case measure => simp [intOf]; omega
        | false =>
          rw [c2] at e2 hz0
          have H2 : Hid (L = (O ++ [⟨x1, x2, x3, x4, x5⟩]) ++ (D.drop (k + 1)).filter (Lv.has key)) := (by rw [H.out, ldrop hlt, hx.out]; simp [hz0] : L = (O ++ [⟨x1, x2, x3, x4, x5⟩]) ++ (D.drop (k + 1)).filter (Lv.has key))
          have HO2 : Hid ((O ++ [Lv.T.mk x1 x2 x3 x4 x5]).length = m + 1) := (by rw [List.length_append, HO.out]; rfl : (O ++ [Lv.T.mk x1 x2 x3 x4 x5]).length = m + 1)
          have hls := lit_tab wr x1 x2 x3 x4 x5 rfl
          have hout2 := hout.alloc (otab x1 x2 x3 x4 x5)
          have hb3 := hbel.alloc hbel.size (otab x1 x2 x3 x4 x5)
          clear hx H HO hz0 c1 c2
          go_wp2_with (at_builtin; go_must (refine append_out hout2 hb3 rfl (.tmp 32) (.tmp 37) rfl rfl ⟨wr.heap.size, 0, none⟩ 1 ⟨x1, x2, x3, x4, x5⟩ rfl hls (by omega) ?_; intro a3 c3 w3 hout3 hb4))
          go_roundw
          case rel => exact ⟨k + 1, m + 1, _, by omega, by omega, by go_num, H2, HO2, hout3, hb4⟩
          case measure => simp [intOf]; omega
    · obtain rfl : k = D.length := by omega
      have HE : Hid (L = O) := (by rw [H.out, List.drop_of_length_le (by omega)]; simp : L = O)
      clear H HL
      go_wp2
      go_ret
      obtain rfl := HE.out
      exact hout.res HO.out hbel hm2 hw2
end Go.Proofs.Ytghgolpofafjmaa
