/- Append of texts. -/
import Derived.Test.YtfogodbbgbnhkaaGreatDoorGa
import Derived.Lib.AppendStr
import Derived.Lib.AppendZeros
import Derived.Test.YtfogodbbgbnhkaaGreatDoorEF
namespace Go.Proofs.YtfogodbbgbnhkaaGreatDoor
open Go.RowKit

theorem str_kcells (s : ByteArray) : Lib.strCells s = kcells .u8 (kb s) := by
  simp [Lib.strCells, kcells, kb]
/-- append of a text's bytes -/
theorem append_str {w0 w : World} {B : Nat} {ops : Array Oper} {rest : List Oper} {o : Oper} {a : Act} {Q : Exit → Act → World → Prop} (hgd : o.guard = none) (s x : Operand)
    (ho : o.op = .call { callee := .builtin .append, args := #[s, x], argTypes := #[67, 9] })
    (v : Value) (n : Nat) (xs : List Nat) (hs : a.eval s = v) (hown : w.ownsRow B 5 1 v n (kcells .u8 xs)) (t : ByteArray) (hx : a.eval x = .string t)
    (hnm : n + t.size ≤ 1000000000000) (hbel : Below B w0 w) (hB : B ≤ w.heap.size)
    (h : ∀ a' c' w', w'.ownsRow B 5 1 (.slice a' (n + t.size) c') (n + t.size) (kcells .u8 (xs ++ kb t)) → Below B w0 w' → B ≤ w'.heap.size → w.grownBy w' v.ownBlock → wpList Tryz.prog ops Q rest (a.put o.dst (.slice a' (n + t.size) c')) w') : wpList Tryz.prog ops Q (o :: rest) a w := by
  obtain ⟨i0, hi, hz0, hz1, hz2⟩ := info_parts Tryz.info5
  obtain ⟨v', w', hrun, hown', hg, _⟩ := Lib.run_append_own_string (P := Tryz.prog) w B 67 9 o.type 5 i0 Tryz.underlying67 Tryz.underlying9 hi hz0 hz1 hz2 v n (kcells .u8 xs) hown t (by unfold maxLen; omega) (by omega) hB
  refine Lib.wpList_append_run w hgd s x _ _ ho _ _ hs hx _ _ hrun ?_
  obtain ⟨a', c', rfl⟩ := slice_of_owns hown'
  rw [str_kcells, ← kcells_append] at hown'
  exact h a' c' w' hown' (hbel.grown hg hB (fun k hk => (hown.lt k hk).1)) (Nat.le_trans hB hg.size) hg
end Go.Proofs.YtfogodbbgbnhkaaGreatDoor

/- Edits: keyBytes, tabBytes of the program. -/
namespace Go.Proofs.YtfogodbbgbnhkaaGreatDoor
open Go.RowKit

theorem eput1 (n : Nat) (W : World) (q : Addr) (h : Row .u64 W (some q) 1 [n]) : Calls Tryz.prog 144 #[.slice (some q) 1 1] W (Made .u8 5 W (Va.one n)) := by
  have := put_any (some q) 1 1 [n] W (by omega) h
  rwa [Va.put_one] at this
set_option maxRecDepth 100000 in
set_option maxHeartbeats 400000 in
theorem ekeyb_any (s : ByteArray) (hs : s.size ≤ 1000000) (w : World) : Calls Tryz.prog 211 #[.string s] w (Made .u8 5 w (Ed.text s)) := by
  have hput := fun W q h => eput1 s.size W q h
  have hl10 : (Va.one s.size).length ≤ 10 := Va.one_len10 (by omega)
  have E : Hid (Ed.text s = Va.one s.size ++ kb s) := (rfl : Ed.text s = _)
  obtain ⟨o, ho⟩ : ∃ o, o = Va.one s.size := ⟨_, rfl⟩
  rw [← ho] at hput hl10 E
  have i1 : ((s.size : Nat) : Int) < 18446744073709551616 := by omega
  generalize Ed.text s = T at *
  clear ho
  go_enter Tryz.func211, Tryz.ntmps211
  go_wp2_with (first | (go_at_call 144; go_must (refine (hput _ _ (row_newz .u64 _ _ _ s.size (by go_num) (by show s.size < 18446744073709551616; omega))).mono ?_; rintro e w2 ⟨a2, c2, rfl, hown2, hb2⟩; have hown3 := lowns_base (B' := w.heap.size) hown2 (by simp); have hb3 := (below_alloc w _).trans (hb2.mono (by simp)))) | (at_builtin; go_must (refine append_str (w0 := w) (B := w.heap.size) rfl (.tmp 7) (.tmp 8) rfl _ o.length o rfl hown3 s rfl (by omega) hb3 hb3.size ?_; intro a6 c6 w6 hown6 hb6 hsz6 hg6)))
  go_ret
  obtain rfl := E.out
  exact ⟨a6, c6, by rw [List.length_append, kb_len]; rfl, by rw [List.length_append, kb_len]; exact hown6, hb6⟩
set_option maxRecDepth 100000 in
set_option maxHeartbeats 400000 in
theorem etabb_any (p q r : Nat) (f g : ByteArray) (hp : p ≤ 2147483647) (hq : q ≤ 2147483647) (hr : r ≤ 2147483647) (hf : f.size ≤ 1000000) (hg : g.size ≤ 1000000) (w : World) :
    Calls Tryz.prog 190 #[.agg #[.int .i64 (p : Nat), .int .i64 (q : Nat), .int .i64 (r : Nat), .string f, .string g]] w (Made .u8 5 w (Va.put [p, q, r] ++ (Ed.text f ++ Ed.text g))) := by
  have hput := fun W x (h : Row .u64 W (some x) 3 [p, q, r]) => put_any (some x) 3 3 [p, q, r] W (by omega) h
  have hkf := fun W => ekeyb_any f hf W
  have hkg := fun W => ekeyb_any g hg W
  have hl3 : (Va.put [p, q, r]).length ≤ 30 := Va.put_len [p, q, r] (by simp; omega)
  have hlf : (Ed.text f).length ≤ 1000010 := by rw [Ed.text, List.length_append, kb_len]; have := Va.one_len10 (u := f.size) (by omega); omega
  have hlg : (Ed.text g).length ≤ 1000010 := by rw [Ed.text, List.length_append, kb_len]; have := Va.one_len10 (u := g.size) (by omega); omega
  have hsf := Ed.text_small f
  have hsg := Ed.text_small g
  generalize Ed.text f = F at *
  generalize Ed.text g = G at *
  generalize Va.put [p, q, r] = O at *
  have i1 : ((p : Nat) : Int) < 18446744073709551616 := by omega
  have i2 : ((q : Nat) : Int) < 18446744073709551616 := by omega
  have i3 : ((r : Nat) : Int) < 18446744073709551616 := by omega
  have hK : ∀ W, Below (w.heap.size + 1) (w.alloc (otab p q r f g)) W → W.cell? ⟨w.heap.size, 3, none⟩ = some (.string f) ∧ W.cell? ⟨w.heap.size, 4, none⟩ = some (.string g) := fun W h => by
    have := tab_past (w := w) (B := w.heap.size + 1) h (by omega)
    exact ⟨this.2.2.2.1, this.2.2.2.2⟩
  have hrow := row_lit .u64 (w.alloc (otab p q r f g)) 196 #[.int .u64 (p : Nat), .int .u64 (q : Nat), .int .u64 (r : Nat)] [p, q, r] 3 rfl rfl (by intro x hx; simp at hx; show x < 18446744073709551616; omega) (by omega)
  have hrow : Row .u64 ((w.alloc (otab p q r f g)).alloc (.cells #[.int .u64 (p : Nat), .int .u64 (q : Nat), .int .u64 (r : Nat)] 196)) (some ⟨w.heap.size + 1, 0, none⟩) 3 [p, q, r] := by simpa using hrow
  have h1 : Below (w.heap.size + 1) (w.alloc (otab p q r f g)) ((w.alloc (otab p q r f g)).alloc (.cells #[.int .u64 (p : Nat), .int .u64 (q : Nat), .int .u64 (r : Nat)] 196)) := (Below.refl _ _).alloc (by simp) _
  have tok : Hid (0 = 0) := (rfl : 0 = 0)
  go_enter Tryz.func190, Tryz.ntmps190
  go_wp2_with (first
    | (go_at_call 144; go_must (refine (hput _ _ hrow).mono ?_; rintro e w2 ⟨a2, c2, rfl, hown2, hb2⟩; have hB2 := h1.trans (hb2.mono (by simp)); have hs2 : w.heap.size + 1 ≤ w2.heap.size := (by have := hB2.size; simpa using this); have hown2 := lowns_base (B' := w.heap.size + 1) hown2 (by simp); obtain ⟨c3, c4⟩ := hK _ hB2; clear hrow h1))
    | (go_at_call 211; clear tok; go_must (refine (hkf _).mono ?_; rintro e w3 ⟨a3, c3', rfl, hown3, hb3⟩; have hk3 := owns_below hown2 hb3; have hB3 := hB2.trans (hb3.mono hs2); have hs3 : w.heap.size + 1 ≤ w3.heap.size := Nat.le_trans hs2 hb3.size; have hr3 := row_of_owns hown3 hsf (by omega); clear hown2))
    | (at_builtin; have := hr3; go_must (refine append_u8g (w0 := w.alloc (otab p q r f g)) (B := w.heap.size + 1) rfl (.tmp 15) (.tmp 18) rfl _ O.length O rfl hk3 a3 F.length c3' F rfl hr3.1 hr3.2.1 (by omega) hB3 hs3 ?_; intro a4 c4' w4 hown4 hB4 hs4 hg4; obtain ⟨d3, d4⟩ := hK _ hB4; clear hk3 hr3 hg4))
    | (go_at_call 211; have := d3; go_must (refine (hkg _).mono ?_; rintro e w5 ⟨a5, c5, rfl, hown5, hb5⟩; have hk5 := owns_below hown4 hb5; have hB5 := hB4.trans (hb5.mono hs4); have hs5 : w.heap.size + 1 ≤ w5.heap.size := Nat.le_trans hs4 hb5.size; have hr5 := row_of_owns hown5 hsg (by omega)))
    | (at_builtin; have := hr5; go_must (refine append_u8g (w0 := w.alloc (otab p q r f g)) (B := w.heap.size + 1) rfl (.tmp 20) (.tmp 23) rfl _ (O.length + F.length) (O ++ F) rfl hk5 a5 G.length c5 G rfl hr5.1 hr5.2.1 (by omega) hB5 hs5 ?_; intro a6 c6 w6 hown6 hB6 hs6 hg6)))
  go_ret
  refine ⟨a6, c6, by simp [Nat.add_assoc], ?_, (below_alloc w _).trans (hB6.mono (by omega))⟩
  have := lowns_base (B' := w.heap.size) hown6 (by omega)
  simpa [Nat.add_assoc] using this
end Go.Proofs.YtfogodbbgbnhkaaGreatDoor

/- A block told by its object. -/
namespace Go.Proofs.YtfogodbbgbnhkaaGreatDoor
open Go.RowKit

theorem ob_lt {W : World} {g : Nat} {x : Obj} (h : W.heap[g]? = some x) : g < W.heap.size := (Array.getElem?_eq_some_iff.1 h).1
theorem ob_below {W W' : World} {g : Nat} {x : Obj} (h : W.heap[g]? = some x) (hb : Below W.heap.size W W') : W'.heap[g]? = some x := (hb.block g (ob_lt h)).trans h
theorem ob_alloc {W : World} {g : Nat} {x : Obj} (h : W.heap[g]? = some x) (o : Obj) : (W.alloc o).heap[g]? = some x := (Below.heap_alloc W o g (ob_lt h)).trans h
theorem ob_apart {W : World} {g B n s e e' : Nat} {v : Value} {cs : Array Value} {xs : List Value} {fz : Nat × Nat} (h : W.heap[g]? = some (.cells cs e' fz)) (hown : W.ownsRow B e s v n xs) (hne : e' ≠ e) : some g ≠ v.ownBlock := by
  intro ee
  rcases hown.2 with ⟨rfl, _⟩ | ⟨k, cap, cur, rfl, _, hk, _⟩
  · cases ee
  · have : g = k := by simpa [Value.ownBlock] using ee
    subst this
    rw [h] at hk
    simp only [Option.some.injEq, Obj.cells.injEq] at hk
    exact absurd hk.2.1 hne
theorem ob_grown {W W' : World} {g B n s e e' : Nat} {v : Value} {cs : Array Value} {xs : List Value} {fz : Nat × Nat} (h : W.heap[g]? = some (.cells cs e' fz)) (hown : W.ownsRow B e s v n xs) (hne : e' ≠ e) (hg : W.grownBy W' v.ownBlock) : W'.heap[g]? = some (.cells cs e' fz) :=
  (hg.block g (ob_lt h) (ob_apart h hown hne)).trans h
end Go.Proofs.YtfogodbbgbnhkaaGreatDoor

/- Edits: bytesOf of the program. -/
namespace Go.Proofs.YtfogodbbgbnhkaaGreatDoor
open Go.RowKit

/-- one of six -/
theorem six_at {W : World} {A : Nat} {x0 x1 x2 x3 x4 x5 : Nat} {e : TypeId} (h : W.heap[A]? = some (.cells #[.int .i64 (x0 : Nat), .int .i64 (x1 : Nat), .int .i64 (x2 : Nat), .int .i64 (x3 : Nat), .int .i64 (x4 : Nat), .int .i64 (x5 : Nat)] e (0, 0))) (j : Nat) (hj : j < 6) :
    W.cell? ⟨A, j, none⟩ = some (.int .i64 ([x0, x1, x2, x3, x4, x5].getD j 0 : Nat)) := by
  simp only [World.cell?, h]
  match j, hj with
  | 0, _ | 1, _ | 2, _ | 3, _ | 4, _ | 5, _ => rfl
theorem own_lit (w : World) (x B : Nat) (hB : B ≤ w.heap.size) {g : Nat} (hg : w.heap.size = g) : (w.alloc (.cells #[.int .u8 (x : Nat)] 5)).ownsRow B 5 1 (.slice (some ⟨g, 0, none⟩) 1 1) 1 (kcells .u8 [x]) := by
  subst hg
  refine ⟨rfl, .inr ⟨w.heap.size, 1, #[.int .u8 (x : Nat)], rfl, hB, heap_alloc_new w _, ?_⟩⟩
  simp [kcells, maxLen]

set_option maxRecDepth 100000 in
set_option maxHeartbeats 1000000 in
theorem ebytes_row (k n i t a b c F T : Nat) (p q r : Int) (f g : ByteArray) (w : World) (hk : k ≤ 255) (hk4 : ¬ (k : Int) = 4) (hF : F < 6) (hFT : F ≤ T) (hT : T ≤ 6) (hs : ∀ x ∈ [n, i, t, a, b, c], x ≤ 2147483647)
    (hn : ∀ W, Calls Tryz.prog 165 #[.int .i64 (k : Nat)] W fun e w' => e = .returned (.tuple #[.int .i64 (F : Nat), .int .i64 (T : Nat)]) ∧ w' = W) :
    Calls Tryz.prog 145 #[ed12 k n i t a b c p q r f g] w (Made .u8 5 w (k :: Va.put (([n, i, t, a, b, c].drop F).take (T - F)))) := by
  have hro := fun k n i t a b c p q r f g W => erow_any k n i t a b c p q r f g W
  have hput := fun x W q h => eput1 x W q h
  have i1 : ((k : Nat) : Int) < 256 := by omega
  have i2 : (0 : Int) ≤ (F : Int) := by omega
  have i3 : (F : Int) ≤ (T : Int) := by omega
  have i4 : (T : Int) ≤ 6 := by omega
  have hown0 := own_lit (w.alloc (oed k n i t a b c p q r f g)) k (w.heap.size + 1) (by simp) (g := w.heap.size + 1) (by simp)
  have he0 : ((w.alloc (oed k n i t a b c p q r f g)).alloc (.cells #[.int .u8 (k : Nat)] 5)).heap[w.heap.size]? = some (oed k n i t a b c p q r f g) := ob_alloc (heap_alloc_new w _) _
  have hb0 := below_two w (oed k n i t a b c p q r f g) (.cells #[.int .u8 (k : Nat)] 5)
  have he0 : Hid (_ = _) := he0
  go_enter Tryz.func145, Tryz.ntmps145
  go_wp2_with (first | (go_at_call 164; refine (hro _ _ _ _ _ _ _ _ _ _ _ _ _).mono ?_; rintro e w2 ⟨rfl, hb2⟩; have hown2 := (owns_below hown0 hb2).alloc (.cells #[.int .i64 (n : Nat), .int .i64 (i : Nat), .int .i64 (t : Nat), .int .i64 (a : Nat), .int .i64 (b : Nat), .int .i64 (c : Nat)] 216); have K4 : Hid (_ = _) := heap_alloc_new w2 (.cells #[.int .i64 (n : Nat), .int .i64 (i : Nat), .int .i64 (t : Nat), .int .i64 (a : Nat), .int .i64 (b : Nat), .int .i64 (c : Nat)] 216); obtain ⟨c0, c1, c2, c3, c4, c5, c6, c7, c8, c9, c10, c11⟩ := blk12 (ob_alloc (ob_below he0.out hb2) (.cells #[.int .i64 (n : Nat), .int .i64 (i : Nat), .int .i64 (t : Nat), .int .i64 (a : Nat), .int .i64 (b : Nat), .int .i64 (c : Nat)] 216)); have hb3 := (hb0.trans (hb2.mono (by simp; omega))).alloc (by have := hb2.size; simp at this; omega) (.cells #[.int .i64 (n : Nat), .int .i64 (i : Nat), .int .i64 (t : Nat), .int .i64 (a : Nat), .int .i64 (b : Nat), .int .i64 (c : Nat)] 216); clear hown0 hb0 he0 hb2) | (go_at_call 165; refine (hn _).mono ?_; rintro e w3 ⟨rfl, rfl⟩))
  clear c0 c1 c2 c3 c4 c5 c6 c7 c8 c9 c10 c11
  obtain ⟨RL, hRL⟩ : ∃ RL : List Nat, RL = [n, i, t, a, b, c] := ⟨_, rfl⟩
  have HRL : Hid (RL = [n, i, t, a, b, c]) := hRL
  rw [← hRL] at hs ⊢
  have hlRL : Hid (RL.length = 6) := (by rw [hRL]; rfl : RL.length = 6)
  clear hRL
  have hs : Hid (∀ x ∈ RL, x ≤ 2147483647) := hs
  have hown2 := lowns_base (B' := w.heap.size) hown2 (by omega)
  go_loopw [3, 33] (fun v iv wr => ∃ (j : Nat) (a' : Option Addr) (m c' : Nat), j ≤ T - F ∧ iv = .int .i64 j ∧ v = .slice a' m c' ∧ m ≤ 1 + 10 * j ∧ wr.ownsRow w.heap.size 5 1 (.slice a' m c') m (kcells .u8 (k :: Va.put ((RL.drop F).take j))) ∧ Hid (wr.heap[w2.heap.size]? = some (.cells #[.int .i64 (n : Nat), .int .i64 (i : Nat), .int .i64 (t : Nat), .int .i64 (a : Nat), .int .i64 (b : Nat), .int .i64 (c : Nat)] 216 (0, 0))) ∧ Below w.heap.size w wr) (fun _ iv _ => T - F - (intOf iv).toNat)
  case atStart => exact ⟨0, _, _, _, by omega, rfl, rfl, by omega, hown2, K4, hb3⟩
  case round =>
    obtain ⟨j, a', m, c', hj, rfl, rfl, hm, hown, HA, hbel⟩ := hrel
    by_cases hlt : j < T - F
    · have hcell := six_at HA.out (F + j) (by omega)
      rw [← HRL.out] at hcell
      have hx0 : RL.getD (F + j) 0 ≤ 2147483647 := by
        have hlt' : F + j < RL.length := by rw [hlRL.out]; omega
        rw [List.getD_eq_getElem?_getD, List.getElem?_eq_getElem hlt']
        exact hs.out _ (List.getElem_mem hlt')
      have HP : Hid (Va.put ((RL.drop F).take (j + 1)) = Va.put ((RL.drop F).take j) ++ Va.one (RL.getD (F + j) 0)) := (by
        have hlt' : j < (RL.drop F).length := by rw [List.length_drop, hlRL.out]; omega
        rw [Va.take_snoc _ _ hlt', Va.put_snoc]
        congr 2
        simp [List.getD_eq_getElem?_getD] : Va.put ((RL.drop F).take (j + 1)) = _)
      generalize RL.getD (F + j) 0 = x at *
      have hl10 : (Va.one x).length ≤ 10 := Va.one_len10 (by omega)
      have hsm := Va.one_small x
      have hpx := fun W q h => hput x W q h
      generalize Va.one x = o at *
      have i0 : (0 : Int) ≤ (j : Int) := by omega
      have i5 : (j : Int) < ((T - F : Nat) : Int) := by omega
      have i6 : ((x : Nat) : Int) < 18446744073709551616 := by omega
      go_wp2_with (first
        | (go_at_call 144; go_must (refine (hpx _ _ (row_newz .u64 _ _ _ x (by go_num) (by show x < 18446744073709551616; omega))).mono ?_; rintro e w5 ⟨a5, c5, rfl, hown5, hb5⟩; have hk5 := owns_below (hown.alloc (.cells #[.int .u64 (x : Nat)] 196)) hb5; have hB5 := (hbel.alloc hbel.size (.cells #[.int .u64 (x : Nat)] 196)).trans (hb5.mono (by have := hbel.size; simp; omega)); have HA5 : Hid (_ = _) := ob_below (ob_alloc HA.out (.cells #[.int .u64 (x : Nat)] 196)) hb5; have hr5 := row_of_owns hown5 hsm (by omega)))
        | (at_builtin; go_must (refine append_u8g (w0 := w) (B := w.heap.size) rfl (.tmp 37) (.tmp 41) rfl _ m _ rfl hk5 a5 o.length c5 o rfl hr5.1 hr5.2.1 (by omega) hB5 hB5.size ?_; intro a6 c6 w6 hown6 hb6 hsz6 hg6; have HA6 : Hid (_ = _) := ob_grown HA5.out hk5 (by decide) hg6)))
      go_roundw
      case rel => exact ⟨j + 1, a6, m + o.length, c6, by omega, by go_num, rfl, by omega, by rw [HP.out]; exact hown6, HA6, hb6⟩
      case measure => simp [intOf]; omega
    · obtain rfl : j = T - F := by omega
      go_wp2
      go_ret
      have hl := hown.1
      rw [kcells_length, Nat.mul_one] at hl
      subst hl
      obtain rfl := HRL.out
      exact ⟨a', c', rfl, hown, hbel⟩

set_option maxRecDepth 100000 in
set_option maxHeartbeats 1000000 in
theorem ebytes_tab (n i t a b c : Int) (p q r : Nat) (f g : ByteArray) (hp : p ≤ 2147483647) (hq : q ≤ 2147483647) (hr : r ≤ 2147483647) (hf : f.size ≤ 64) (hg : g.size ≤ 64) (w : World) :
    Calls Tryz.prog 145 #[ed12 4 n i t a b c p q r f g] w (Made .u8 5 w (4 :: (Va.put [p, q, r] ++ (Ed.text f ++ Ed.text g)))) := by
  have htb := fun W => etabb_any p q r f g hp hq hr (by omega) (by omega) W
  have hl3 : (Va.put [p, q, r]).length ≤ 30 := Va.put_len [p, q, r] (by simp; omega)
  have hlf : (Ed.text f).length ≤ 74 := by rw [Ed.text, List.length_append, kb_len]; have := Va.one_len10 (u := f.size) (by omega); omega
  have hlg : (Ed.text g).length ≤ 74 := by rw [Ed.text, List.length_append, kb_len]; have := Va.one_len10 (u := g.size) (by omega); omega
  have hl : (Va.put [p, q, r] ++ (Ed.text f ++ Ed.text g)).length ≤ 1000 := by rw [List.length_append, List.length_append]; omega
  have hsm : ∀ x ∈ Va.put [p, q, r] ++ (Ed.text f ++ Ed.text g), x < 256 := by
    intro x hx
    rcases List.mem_append.mp hx with hx | hx
    · exact Va.put_small _ x hx
    · rcases List.mem_append.mp hx with hx | hx
      · exact Ed.text_small _ x hx
      · exact Ed.text_small _ x hx
  clear hl3 hlf hlg
  generalize Va.put [p, q, r] ++ (Ed.text f ++ Ed.text g) = O at *
  have hown0 := own_lit (w.alloc (oed 4 n i t a b c p q r f g)) 4 w.heap.size (by simp) (g := w.heap.size + 1) (by simp)
  have hb0 := below_two w (oed 4 n i t a b c p q r f g) (.cells #[.int .u8 (4 : Nat)] 5)
  go_enter Tryz.func145, Tryz.ntmps145
  go_wp2_with (first
    | (go_at_call 190; go_must (refine (htb _).mono ?_; rintro e w2 ⟨a2, c2, rfl, hown2, hb2⟩; have hk2 := owns_below hown0 hb2; have hr2 := row_of_owns hown2 hsm (by omega); have hb3 := hb0.trans (hb2.mono (by simp; omega))))
    | (at_builtin; go_must (refine append_u8g (w0 := w) (B := w.heap.size) rfl (.tmp 16) (.tmp 19) rfl _ 1 _ rfl hk2 a2 O.length c2 O rfl hr2.1 hr2.2.1 (by omega) hb3 hb3.size ?_; intro a6 c6 w6 hown6 hb6 hsz6 hg6)))
  go_ret
  have e : 1 + O.length = (4 :: O).length := by rw [List.length_cons]; omega
  exact ⟨a6, c6, by rw [← e]; rfl, by rw [← e]; exact hown6, hb6⟩
/-- the numbers of a kind that is no table's, out of the row -/
theorem row_nums {k n i t a b c : Nat} {tab : Lv.T} (h : (k : Int) ≠ 4) : (Ed.nums ⟨k, n, i, t, a, b, c, tab⟩).map Int.toNat = ([n, i, t, a, b, c].drop (pfr k)).take (pto k - pfr k) := by
  rcases Ed.kinds (k : Int) with h1 | h1 | h1 | h1 | h1 | h1 | h1 | h1 | h1 | h1
  case inr.inr.inr.inl => exact absurd h1 h
  case inr.inr.inr.inr.inr.inr.inr.inr.inr =>
    have e2 : pto k = 0 := by unfold pto; rw [if_neg (by omega), if_neg (by omega), if_neg (by omega), if_neg (by omega)]
    rw [e2]
    simp [Ed.nums, Ed.parts_none h1]
  all_goals
    simp only [Ed.nums, h1]
    rfl
theorem row_le {k : Int} : pfr k < 6 ∧ pfr k ≤ pto k ∧ pto k ≤ 6 := by
  unfold pfr pto
  repeat' split
  all_goals omega
theorem ebytes_any (k n i t a b c p q r : Int) (f g : ByteArray) (w : World) (hm : Ed.may ⟨k, n, i, t, a, b, c, ⟨p, q, r, f, g⟩⟩ = true) :
    Calls Tryz.prog 145 #[ed12 k n i t a b c p q r f g] w (Made .u8 5 w (Ed.one ⟨k, n, i, t, a, b, c, ⟨p, q, r, f, g⟩⟩)) := by
  obtain ⟨m1, m2, m3, m4, m5, m6⟩ := Ed.may_nums hm
  simp only at m2 m3 m5 m6
  by_cases h4 : k = 4
  · subst h4
    obtain ⟨m7, m8, m9⟩ := m6 rfl
    have x1 := m1 p (by simp [Ed.nums, Ed.parts, Ed.letter])
    have x2 := m1 q (by simp [Ed.nums, Ed.parts, Ed.letter])
    have x3 := m1 r (by simp [Ed.nums, Ed.parts, Ed.letter])
    obtain ⟨P, rfl⟩ : ∃ P : Nat, p = P := ⟨p.toNat, by omega⟩
    obtain ⟨Q, rfl⟩ : ∃ P : Nat, q = P := ⟨q.toNat, by omega⟩
    obtain ⟨R, rfl⟩ : ∃ P : Nat, r = P := ⟨r.toNat, by omega⟩
    exact ebytes_tab n i t a b c P Q R f g (by omega) (by omega) (by omega) m8 m9 w
  · have hall : ∀ x ∈ [n, i, t, a, b, c], 0 ≤ x ∧ x ≤ 2147483647 := by
      have hm' := hm
      rcases Ed.kinds k with h | h | h | h | h | h | h | h | h | h
      case inr.inr.inr.inl => exact absurd h h4
      case inr.inr.inr.inr.inr.inr.inr.inr.inr => rw [Ed.may_none h] at hm; cases hm
      all_goals
        subst h
        simp [Ed.may, Ed.hz, Ed.tz_iff, Ed.counts_iff, Ed.cz_iff] at hm'
        intro x hx
        simp at hx
        omega
    have y1 := hall n (by simp)
    have y2 := hall i (by simp)
    have y3 := hall t (by simp)
    have y4 := hall a (by simp)
    have y5 := hall b (by simp)
    have y6 := hall c (by simp)
    obtain ⟨K, rfl⟩ : ∃ P : Nat, k = P := ⟨k.toNat, by omega⟩
    obtain ⟨N, rfl⟩ : ∃ P : Nat, n = P := ⟨n.toNat, by omega⟩
    obtain ⟨I, rfl⟩ : ∃ P : Nat, i = P := ⟨i.toNat, by omega⟩
    obtain ⟨T, rfl⟩ : ∃ P : Nat, t = P := ⟨t.toNat, by omega⟩
    obtain ⟨A, rfl⟩ : ∃ P : Nat, a = P := ⟨a.toNat, by omega⟩
    obtain ⟨B, rfl⟩ : ∃ P : Nat, b = P := ⟨b.toNat, by omega⟩
    obtain ⟨C, rfl⟩ : ∃ P : Nat, c = P := ⟨c.toNat, by omega⟩
    have hw := ebytes_row K N I T A B C (pfr K) (pto K) p q r f g w (by omega) h4 row_le.1 row_le.2.1 row_le.2.2 (by intro x hx; simp at hx; omega) (fun W => enamed_any K W)
    have e : Ed.one ⟨K, N, I, T, A, B, C, ⟨p, q, r, f, g⟩⟩ = K :: Va.put (([N, I, T, A, B, C].drop (pfr K)).take (pto K - pfr K)) := by
      rw [Ed.one, row_nums h4, Ed.texts, if_neg h4]; simp
    rw [e]
    exact hw
end Go.Proofs.YtfogodbbgbnhkaaGreatDoor
