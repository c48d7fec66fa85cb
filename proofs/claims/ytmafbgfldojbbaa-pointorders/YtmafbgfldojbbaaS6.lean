/- The laws PointGets and PointReads, given the program's contracts. -/
import Derived.Test.YtmafbgfldojbbaaS5
namespace Go.Proofs.Ytmafbgfldojbbaa
open Go.RowKit

set_option maxRecDepth 100000 in
set_option maxHeartbeats 1000000 in
theorem pogets_long (hP : PPutC) (a : Option Addr) (len cap : Nat) (w : World) (hl : 1000 < len) :
    Calls Try.prog 4 #[.slice a len cap] w fun e w' => e = .returned (.bool true) ∧ Below w.heap.size w w' := by
  have hA := fun w => poawake hP w
  go_enter Try.func4, Try.ntmps4
  go_wp2_with (go_at_call 10; refine (hA _).mono ?_; rintro e w1 ⟨rfl, hbel⟩)
  go_ret
  exact ⟨rfl, hbel⟩

theorem four_keep {w W : World} {c0 c1 c2 c3 : Value} {e : TypeId} (h : Below (w.alloc (.cells #[c0, c1, c2, c3] e)).heap.size (w.alloc (.cells #[c0, c1, c2, c3] e)) W) :
    W.cell? ⟨w.heap.size, 0, none⟩ = some c0 ∧ W.cell? ⟨w.heap.size, 1, none⟩ = some c1 ∧ W.cell? ⟨w.heap.size, 2, none⟩ = some c2 ∧ W.cell? ⟨w.heap.size, 3, none⟩ = some c3 ∧ w.heap.size < W.heap.size ∧ Below w.heap.size w W := by
  obtain ⟨k0, k1, k2, k3⟩ := cell_four w c0 c1 c2 c3 e rfl
  have hl : w.heap.size < (w.alloc (.cells #[c0, c1, c2, c3] e)).heap.size := by simp
  exact ⟨(h.cell (p := ⟨w.heap.size, 0, none⟩) hl).trans k0, (h.cell (p := ⟨w.heap.size, 1, none⟩) hl).trans k1, (h.cell (p := ⟨w.heap.size, 2, none⟩) hl).trans k2, (h.cell (p := ⟨w.heap.size, 3, none⟩) hl).trans k3, Nat.lt_of_lt_of_le hl h.size, (below_alloc _ _).trans (h.mono (by simp))⟩

theorem own_shape {w : World} {B n c : Nat} {a : Option Addr} {e : TypeId} {xs : List Value} (h : w.ownsRow B e 1 (.slice a n c) n xs) : Shape a n c := by
  rcases h.2 with ⟨e, h0⟩ | ⟨g, cap, cur, e, _, _, hnc, _⟩
  · simp only [Value.slice.injEq] at e
    exact .inl ⟨h0, e.2.2⟩
  · simp only [Value.slice.injEq] at e
    obtain ⟨rfl, _, rfl⟩ := e
    exact .inr ⟨g, 0, rfl, hnc⟩

set_option maxRecDepth 100000 in
set_option maxHeartbeats 1000000 in
theorem pogets_any (hP : PPutC) (hG : PGetC) (a : Option Addr) (len cap : Nat) (bs : List Nat) (w : World) (hl : len ≤ 1000) (hshape : Shape a len cap) (hnil : a = none → len = 0 ∧ cap = 0) (hr : Row .u8 w a len bs) :
    Calls Try.prog 4 #[.slice a len cap] w fun e w' => e = .returned (.bool true) ∧ Below w.heap.size w w' := by
  have hA := fun w => poawake hP w
  have hlen : Hid (bs.length = len) := hr.1
  have hg1 := fun b c W (h1 : Shape b len c) (h2 : len ≤ c) (h : Row .u8 W b len bs) => hG b len c bs W h1 h2 (by omega) h
  have hg2 := fun W (h : Below w.heap.size w W) => porefget_any a len cap bs W (by omega) hshape (hr.below h (Nat.le_refl _))
  have hr2 := hr.below (below_alloc w (.cells #[] 5)) (Nat.le_refl _)
  have hsm := hr.2.2.1
  unfold RGetRes at hg2
  have hfit := Po.get_fits (bs := bs) hsm
  have hle := Po.get_le bs
  rw [hlen.out] at hle
  generalize Po.get bs = R at *
  obtain ⟨⟨s, y, l, m⟩, n⟩ := R
  obtain ⟨hf1, hf2, hf3, hf4⟩ := hfit
  simp only [pv] at hg1 hg2 hf1 hf2 hf3 hf4 hle
  rcases Nat.eq_zero_or_pos n with rfl | hn
  · rw [code_zero] at hg1
    go_enter Try.func4, Try.ntmps4
    go_wp2_with (first
      | (go_at_call 10; go_must (have := hlt3; refine (hA _).mono ?_; rintro e w4 ⟨rfl, hbel4⟩))
      | (at_builtin; go_must (refine append_u8 (w0 := w) (B := w.heap.size) rfl (.tmp 13) (.tmp 14) rfl _ 0 [] rfl (made_at w 5 w.heap.size rfl (Nat.le_refl _)) a len cap bs rfl hr2 hnil (by omega) (below_alloc _ _) (by simp) ?_; intro a1 c1 w1 hown1 hbel1 hsz1; rw [Nat.zero_add, List.nil_append] at hown1; rw [Nat.zero_add]; have hrow1 := (row_of_owns hown1 hsm (by omega)).1; have hcap1 := (row_of_owns hown1 hsm (by omega)).2.2))
      | (go_at_call 14; go_must (have := hbel2; refine (hg2 _ ?_).mono ?_; exact (hbel1.trans (hbel2.mono hsz1)).alloc (Nat.le_trans hsz1 hbel2.size) _; rintro e w3 ⟨rfl, hbel3⟩; obtain ⟨z0, z1, z2, z3, hlt3, hbel3'⟩ := four_keep hbel3))
      | (go_at_call 13; go_must (refine (hg1 _ _ _ (own_shape hown1) hcap1 hrow1).mono ?_; rintro e w2 ⟨rfl, hbel2⟩)))
    have hb3 := (hbel1.trans (hbel2.mono hsz1)).trans (hbel3'.mono (Nat.le_trans hsz1 hbel2.size))
    have hb4 := hb3.alloc hb3.size (.cells #[.int .i64 s, .int .i64 y, .int .i64 l, .int .u32 (m : Nat)] 24)
    go_ret
    exact ⟨rfl, hb4.trans (hbel4.mono hb4.size)⟩
  · have hc : code n = 0 := by unfold code; rw [if_neg (by omega)]
    rw [hc] at hg1
    clear hc
    have hd1 : ((n : Int) == 0) = false := by simp; omega
    have hd2 : decide (0 < (n : Int)) = true := by simp; omega
    go_enter Try.func4, Try.ntmps4
    go_wp2_with (first
      | (go_at_call 10; go_must (have := hlt3; refine (hA _).mono ?_; rintro e w4 ⟨rfl, hbel4⟩))
      | (at_builtin; go_must (refine append_u8 (w0 := w) (B := w.heap.size) rfl (.tmp 13) (.tmp 14) rfl _ 0 [] rfl (made_at w 5 w.heap.size rfl (Nat.le_refl _)) a len cap bs rfl hr2 hnil (by omega) (below_alloc _ _) (by simp) ?_; intro a1 c1 w1 hown1 hbel1 hsz1; rw [Nat.zero_add, List.nil_append] at hown1; rw [Nat.zero_add]; have hrow1 := (row_of_owns hown1 hsm (by omega)).1; have hcap1 := (row_of_owns hown1 hsm (by omega)).2.2))
      | (go_at_call 14; go_must (have := hbel2; refine (hg2 _ ?_).mono ?_; exact (hbel1.trans (hbel2.mono hsz1)).alloc (Nat.le_trans hsz1 hbel2.size) _; rintro e w3 ⟨rfl, hbel3⟩; obtain ⟨z0, z1, z2, z3, hlt3, hbel3'⟩ := four_keep hbel3))
      | (go_at_call 13; go_must (refine (hg1 _ _ _ (own_shape hown1) hcap1 hrow1).mono ?_; rintro e w2 ⟨rfl, hbel2⟩)))
    have hb3 := (hbel1.trans (hbel2.mono hsz1)).trans (hbel3'.mono (Nat.le_trans hsz1 hbel2.size))
    have hb4 := hb3.alloc hb3.size (.cells #[.int .i64 s, .int .i64 y, .int .i64 l, .int .u32 (m : Nat)] 24)
    go_ret
    exact ⟨rfl, hb4.trans (hbel4.mono hb4.size)⟩

set_option maxRecDepth 100000 in
set_option maxHeartbeats 1000000 in
theorem poreads_any (hP : PPutC) (hG : PGetC) (p : Po.P) (a : Option Addr) (len cap : Nat) (ms : List Nat) (w : World) (hf : Po.Fits p) (hnil : a = none → len = 0 ∧ cap = 0) (hr : Row .u8 w a len ms) :
    Calls Try.prog 5 #[pv p, .slice a len cap] w fun e w' => e = .returned (.bool true) ∧ Below w.heap.size w w' := by
  have hA := fun w => poawake hP w
  have hp := fun W => hP p W hf
  have hlb := hr.2.1
  have hml : Hid (ms.length = len) := hr.1
  have hgp := fun h => Po.get_put (p := p) h hf.2.2.2 ms hr.2.2.1
  obtain ⟨s, y, l, m⟩ := p
  have hm := fun W => pomay_any s y l m W
  have hm4 : m < 4294967296 := hf.2.2.2
  simp only [pv] at hp ⊢
  by_cases hmay : Po.may (s, y, l, m) = true
  · rw [hmay] at hm
    by_cases hl : len ≤ 1000
    · have hp2 : ∀ W, Calls Try.prog 7 #[.agg #[.int .i64 s, .int .i64 y, .int .i64 l, .int .u32 m]] W fun e w' => ∃ a c, e = .returned (.tuple #[.slice a (Po.put (s, y, l, m)).length c, .int .i64 0]) ∧ w'.ownsRow W.heap.size 5 1 (.slice a (Po.put (s, y, l, m)).length c) (Po.put (s, y, l, m)).length (kcells .u8 (Po.put (s, y, l, m))) ∧ Below W.heap.size W w' := fun W => by
        refine (hp W).mono ?_
        rintro e w' (⟨_, h⟩ | ⟨h, _⟩)
        · exact h
        · rw [hmay] at h; cases h
      have hsm : ∀ u ∈ Po.put (s, y, l, m), u < lim .u8 := Po.put_small
      have hql := Po.put_len hmay
      have hget : ∀ b n c W, n = (Po.put (s, y, l, m)).length + len → Shape b n c → n ≤ c → Row .u8 W b n (Po.put (s, y, l, m) ++ ms) → Calls Try.prog 13 #[.slice b n c] W fun e w' => e = .returned (.tuple #[.agg #[.int .i64 s, .int .i64 y, .int .i64 l, .int .u32 m], .int .i64 ((Po.put (s, y, l, m)).length : Nat), .int .i64 0]) ∧ Below W.heap.size W w' := fun b n c W hn h1 h2 h3 => by
        have h := hG b n c _ W h1 h2 (by omega) h3
        rw [hgp hmay, show code (Po.put (s, y, l, m)).length = 0 by unfold code; rw [if_neg]; rw [Po.put, List.length_append, Fr.le4_len]; omega] at h
        exact h
      clear hp hgp hmay
      generalize Po.put (s, y, l, m) = q at *
      have hsm2 : ∀ u ∈ q ++ ms, u < lim .u8 := by intro u hu; rcases List.mem_append.mp hu with h | h; exact hsm u h; exact hr.2.2.1 u h
      go_enter Try.func5, Try.ntmps5
      go_wp2_with (first
        | (go_at_call 10; go_must (have := hbel5; refine (hA _).mono ?_; rintro e w6 ⟨rfl, hbel6⟩))
        | (go_at_call 13; go_must (have := hown4; refine (hget _ _ _ _ rfl (own_shape hown4) (row_of_owns hown4 hsm2 (by omega)).2.2 (row_of_owns hown4 hsm2 (by omega)).1).mono ?_; rintro e w5 ⟨rfl, hbel5⟩; have hB5 := hB4.trans (hbel5.mono hB4.size); obtain ⟨z0, z1, z2, z3, hlt5, hb5⟩ := four_keep hB5))
        | (at_builtin; have := hown3; go_must (refine append_u8 (w0 := w.alloc (.cells #[.int .i64 s, .int .i64 y, .int .i64 l, .int .u32 m] 24)) (B := (w.alloc (.cells #[.int .i64 s, .int .i64 y, .int .i64 l, .int .u32 m] 24)).heap.size) rfl (.tmp 27) (.tmp 28) rfl _ q.length q rfl hown3 a len cap ms rfl (hr.below (below_alloc w _) (Nat.le_refl _) |>.below hB3 (Nat.le_refl _)) hnil (by omega) hB3 hB3.size ?_; intro a4 c4 w4 hown4 hB4 hsz4))
        | (at_builtin; have := hown2; go_must (refine append_u8 (w0 := w.alloc (.cells #[.int .i64 s, .int .i64 y, .int .i64 l, .int .u32 m] 24)) (B := (w.alloc (.cells #[.int .i64 s, .int .i64 y, .int .i64 l, .int .u32 m] 24)).heap.size) rfl (.tmp 25) (.tmp 26) rfl _ 0 [] rfl (made_at w2 5 _ rfl hB2.size) a2 q.length c2 q rfl (hrow2.below (below_alloc _ _) (Nat.le_refl _)) hnil2 (by omega) (hB2.alloc hB2.size _) (by simp; have := hB2.size; simp at this; omega) ?_; intro a3 c3 w3 hown3 hB3 hsz3; rw [Nat.zero_add, List.nil_append] at hown3; rw [Nat.zero_add]))
        | (go_at_call 7; go_must (have := hbel1; refine (hp2 _).mono ?_; rintro e w2 ⟨a2, c2, rfl, hown2, hbel2⟩; have hB2 := hbel1.trans (hbel2.mono hbel1.size); obtain ⟨hrow2, hnil2, hcap2⟩ := row_of_owns hown2 hsm (by omega)))
        | (go_at_call 8; go_must (refine (hm _).mono ?_; rintro e w1 ⟨rfl, hbel1⟩; obtain ⟨t0, t1, t2, t3, ht1, hb1⟩ := four_keep hbel1)))
      have hb5' := hb5.alloc hb5.size (.cells #[.int .i64 s, .int .i64 y, .int .i64 l, .int .u32 (m : Nat)] 24)
      go_ret
      exact ⟨rfl, hb5'.trans (hbel6.mono hb5'.size)⟩
    · go_enter Try.func5, Try.ntmps5
      go_wp2_with (first
        | (go_at_call 10; go_must (have := hbel1; refine (hA _).mono ?_; rintro e w2 ⟨rfl, hbel2⟩))
        | (go_at_call 8; go_must (refine (hm _).mono ?_; rintro e w1 ⟨rfl, hbel1⟩)))
      obtain ⟨_, _, _, _, _, hb1⟩ := four_keep hbel1
      go_ret
      exact ⟨rfl, hb1.trans (hbel2.mono hb1.size)⟩
  · have hmay : Po.may (s, y, l, m) = false := by simpa using hmay
    rw [hmay] at hm
    go_enter Try.func5, Try.ntmps5
    go_wp2_with (first
      | (go_at_call 10; go_must (have := hbel1; refine (hA _).mono ?_; rintro e w2 ⟨rfl, hbel2⟩))
      | (go_at_call 8; go_must (refine (hm _).mono ?_; rintro e w1 ⟨rfl, hbel1⟩)))
    obtain ⟨_, _, _, _, _, hb1⟩ := four_keep hbel1
    go_ret
    exact ⟨rfl, hb1.trans (hbel2.mono hb1.size)⟩

set_option maxRecDepth 100000 in
set_option maxHeartbeats 1000000 in
theorem poreads_long (hP : PPutC) (p : Po.P) (a : Option Addr) (len cap : Nat) (w : World) (hl : 1000 < len) :
    Calls Try.prog 5 #[pv p, .slice a len cap] w fun e w' => e = .returned (.bool true) ∧ Below w.heap.size w w' := by
  have hA := fun w => poawake hP w
  obtain ⟨s, y, l, m⟩ := p
  have hm := fun W => pomay_any s y l m W
  simp only [pv]
  generalize Po.may (s, y, l, m) = M at *
  cases M
  all_goals
    go_enter Try.func5, Try.ntmps5
    go_wp2_with (first
      | (go_at_call 10; go_must (have := hbel1; refine (hA _).mono ?_; rintro e w2 ⟨rfl, hbel2⟩))
      | (go_at_call 8; go_must (refine (hm _).mono ?_; rintro e w1 ⟨rfl, hbel1⟩)))
    obtain ⟨_, _, _, _, _, hb1⟩ := four_keep hbel1
    go_ret
    exact ⟨rfl, hb1.trans (hbel2.mono hb1.size)⟩
end Go.Proofs.Ytmafbgfldojbbaa
