/- Edits: keyBytes, tabBytes of the program. -/
import Derived.Test.YtkbnojjjfonniaaEF
import Derived.Test.YtkbnojjjfonniaaASt
namespace Go.Proofs.Ytkbnojjjfonniaa
open Go.RowKit

theorem eput1 (n : Nat) (W : World) (q : Addr) (h : Row .u64 W (some q) 1 [n]) : Calls Try.prog 23 #[.slice (some q) 1 1] W (Made .u8 5 W (Va.one n)) := by
  have := put_any (some q) 1 1 [n] W (by omega) h
  rwa [Va.put_one] at this
set_option maxRecDepth 100000 in
set_option maxHeartbeats 400000 in
theorem ekeyb_any (s : ByteArray) (hs : s.size ≤ 1000000) (w : World) : Calls Try.prog 54 #[.string s] w (Made .u8 5 w (Ed.text s)) := by
  have hput := fun W q h => eput1 s.size W q h
  have hl10 : (Va.one s.size).length ≤ 10 := Va.one_len10 (by omega)
  have E : Hid (Ed.text s = Va.one s.size ++ kb s) := (rfl : Ed.text s = _)
  obtain ⟨o, ho⟩ : ∃ o, o = Va.one s.size := ⟨_, rfl⟩
  rw [← ho] at hput hl10 E
  have i1 : ((s.size : Nat) : Int) < 18446744073709551616 := by omega
  generalize Ed.text s = T at *
  clear ho
  go_enter Try.func54, Try.ntmps54
  go_wp2_with (first | (go_at_call 23; go_must (refine (hput _ _ (row_newz .u64 _ _ _ s.size (by go_num) (by show s.size < 18446744073709551616; omega))).mono ?_; rintro e w2 ⟨a2, c2, rfl, hown2, hb2⟩; have hown3 := lowns_base (B' := w.heap.size) hown2 (by simp); have hb3 := (below_alloc w _).trans (hb2.mono (by simp)))) | (at_builtin; go_must (refine append_str (w0 := w) (B := w.heap.size) rfl (.tmp 7) (.tmp 8) rfl _ o.length o rfl hown3 s rfl (by omega) hb3 hb3.size ?_; intro a6 c6 w6 hown6 hb6 hsz6 hg6)))
  go_ret
  obtain rfl := E.out
  exact ⟨a6, c6, by rw [List.length_append, kb_len]; rfl, by rw [List.length_append, kb_len]; exact hown6, hb6⟩
set_option maxRecDepth 100000 in
set_option maxHeartbeats 400000 in
theorem etabb_any (p q r : Nat) (f g : ByteArray) (hp : p ≤ 2147483647) (hq : q ≤ 2147483647) (hr : r ≤ 2147483647) (hf : f.size ≤ 1000000) (hg : g.size ≤ 1000000) (w : World) :
    Calls Try.prog 44 #[.agg #[.int .i64 (p : Nat), .int .i64 (q : Nat), .int .i64 (r : Nat), .string f, .string g]] w (Made .u8 5 w (Va.put [p, q, r] ++ (Ed.text f ++ Ed.text g))) := by
  have hput := fun W x (h : Row .u64 W (some x) 3 [p, q, r]) => put_any (some x) 3 3 [p, q, r] W (by omega) h
  have hkf := fun W => ekeyb_any f hf W
  have hkg := fun W => ekeyb_any g hg W
  have hl3 : (Va.put [p, q, r]).length ≤ 30 := Va.put_len [p, q, r] (by simp; omega)
  have hlf : (Ed.text f).length ≤ 1000010 := by rw [Ed.text, List.length_append, kb_len]; have := Va.one_len10 (u := f.size) (by omega); omega
  have hlg : (Ed.text g).length ≤ 1000010 := by rw [Ed.text, List.length_append, kb_len]; have := Va.one_len10 (u := g.size) (by omega); omega
  have hsf := Ed.text_small f
  have hsg := Ed.text_small g
  generalize Ed.text f = F at *
  generalize Ed.text g = G at *
  generalize Va.put [p, q, r] = O at *
  have i1 : ((p : Nat) : Int) < 18446744073709551616 := by omega
  have i2 : ((q : Nat) : Int) < 18446744073709551616 := by omega
  have i3 : ((r : Nat) : Int) < 18446744073709551616 := by omega
  have hK : ∀ W, Below (w.heap.size + 1) (w.alloc (otab p q r f g)) W → W.cell? ⟨w.heap.size, 3, none⟩ = some (.string f) ∧ W.cell? ⟨w.heap.size, 4, none⟩ = some (.string g) := fun W h => by
    have := tab_past (w := w) (B := w.heap.size + 1) h (by omega)
    exact ⟨this.2.2.2.1, this.2.2.2.2⟩
  have hrow := row_lit .u64 (w.alloc (otab p q r f g)) 52 #[.int .u64 (p : Nat), .int .u64 (q : Nat), .int .u64 (r : Nat)] [p, q, r] 3 rfl rfl (by intro x hx; simp at hx; show x < 18446744073709551616; omega) (by omega)
  have hrow : Row .u64 ((w.alloc (otab p q r f g)).alloc (.cells #[.int .u64 (p : Nat), .int .u64 (q : Nat), .int .u64 (r : Nat)] 52)) (some ⟨w.heap.size + 1, 0, none⟩) 3 [p, q, r] := by simpa using hrow
  have h1 : Below (w.heap.size + 1) (w.alloc (otab p q r f g)) ((w.alloc (otab p q r f g)).alloc (.cells #[.int .u64 (p : Nat), .int .u64 (q : Nat), .int .u64 (r : Nat)] 52)) := (Below.refl _ _).alloc (by simp) _
  have tok : Hid (0 = 0) := (rfl : 0 = 0)
  go_enter Try.func44, Try.ntmps44
  go_wp2_with (first
    | (go_at_call 23; go_must (refine (hput _ _ hrow).mono ?_; rintro e w2 ⟨a2, c2, rfl, hown2, hb2⟩; have hB2 := h1.trans (hb2.mono (by simp)); have hs2 : w.heap.size + 1 ≤ w2.heap.size := (by have := hB2.size; simpa using this); have hown2 := lowns_base (B' := w.heap.size + 1) hown2 (by simp); obtain ⟨c3, c4⟩ := hK _ hB2; clear hrow h1))
    | (go_at_call 54; clear tok; go_must (refine (hkf _).mono ?_; rintro e w3 ⟨a3, c3', rfl, hown3, hb3⟩; have hk3 := owns_below hown2 hb3; have hB3 := hB2.trans (hb3.mono hs2); have hs3 : w.heap.size + 1 ≤ w3.heap.size := Nat.le_trans hs2 hb3.size; have hr3 := row_of_owns hown3 hsf (by omega); clear hown2))
    | (at_builtin; have := hr3; go_must (refine append_u8g (w0 := w.alloc (otab p q r f g)) (B := w.heap.size + 1) rfl (.tmp 15) (.tmp 18) rfl _ O.length O rfl hk3 a3 F.length c3' F rfl hr3.1 hr3.2.1 (by omega) hB3 hs3 ?_; intro a4 c4' w4 hown4 hB4 hs4 hg4; obtain ⟨d3, d4⟩ := hK _ hB4; clear hk3 hr3 hg4))
    | (go_at_call 54; have := d3; go_must (refine (hkg _).mono ?_; rintro e w5 ⟨a5, c5, rfl, hown5, hb5⟩; have hk5 := owns_below hown4 hb5; have hB5 := hB4.trans (hb5.mono hs4); have hs5 : w.heap.size + 1 ≤ w5.heap.size := Nat.le_trans hs4 hb5.size; have hr5 := row_of_owns hown5 hsg (by omega)))
    | (at_builtin; have := hr5; go_must (refine append_u8g (w0 := w.alloc (otab p q r f g)) (B := w.heap.size + 1) rfl (.tmp 20) (.tmp 23) rfl _ (O.length + F.length) (O ++ F) rfl hk5 a5 G.length c5 G rfl hr5.1 hr5.2.1 (by omega) hB5 hs5 ?_; intro a6 c6 w6 hown6 hB6 hs6 hg6)))
  go_ret
  refine ⟨a6, c6, by simp [Nat.add_assoc], ?_, (below_alloc w _).trans (hB6.mono (by omega))⟩
  have := lowns_base (B' := w.heap.size) hown6 (by omega)
  simpa [Nat.add_assoc] using this
end Go.Proofs.Ytkbnojjjfonniaa
