/- What is asked of the program's own functions over cells; the laws CellGets and CellReads, given that. -/
import Derived.Test.YtgmcjalcpgldhaaV3
namespace Go.Proofs.Ytgmcjalcpgldhaa
open Go.RowKit

def CPutRes (w : World) (x : Ce.C) (e : Ending) (w' : World) : Prop :=
  (Ce.may x = true ∧ ∃ a c, e = .returned (.tuple #[.slice a (Ce.put x).length c, .int .i64 0]) ∧ w'.ownsRow w.heap.size 5 1 (.slice a (Ce.put x).length c) (Ce.put x).length (kcells .u8 (Ce.put x)) ∧ Below w.heap.size w w') ∨
  (Ce.may x = false ∧ ∃ a c, e = .returned (.tuple #[.slice a 0 c, .int .i64 1]) ∧ Below w.heap.size w w')
def CCheckC : Prop := ∀ (f : Bool) (a : Option Addr) (n c : Nat) (bs : List Nat) (p : Po.P) (w : World), Row .u8 w a n bs → Po.Fits p → Calls Try.prog 12 #[cv f a n c p] w fun e w' => e = .returned (.int .i64 (if Ce.may (f, bs, p) = true then 0 else 1 : Nat)) ∧ Below w.heap.size w w'
def CPutC : Prop := ∀ (f : Bool) (a : Option Addr) (n c : Nat) (bs : List Nat) (p : Po.P) (w : World), Row .u8 w a n bs → (a = none → n = 0 ∧ c = 0) → Po.Fits p → Calls Try.prog 8 #[cv f a n c p] w (CPutRes w (f, bs, p))
def CGetRes (w : World) (R : Ce.C × Nat) (e : Ending) (w' : World) : Prop :=
  ∃ a c, e = .returned (.tuple #[cv R.1.1 a R.1.2.1.length c R.1.2.2, .int .i64 (R.2 : Nat), .int .i64 (code R.2 : Nat)]) ∧ Row .u8 w' a R.1.2.1.length R.1.2.1 ∧ (a = none → R.1.2.1.length = 0 ∧ c = 0) ∧ Below w.heap.size w w'
def CGetC : Prop := ∀ (a : Option Addr) (len cap : Nat) (bs : List Nat) (w : World), Shape a len cap → len ≤ cap → len ≤ 100000 → Row .u8 w a len bs → Calls Try.prog 15 #[.slice a len cap] w (CGetRes w (Ce.get bs))

def CSameC : Prop := ∀ (f : Bool) (a : Option Addr) (n c : Nat) (bs : List Nat) (p : Po.P) (f' : Bool) (a' : Option Addr) (n' c' : Nat) (bs' : List Nat) (p' : Po.P) (w : World), n ≤ 5000 → n' ≤ 5000 → Row .u8 w a n bs → Row .u8 w a' n' bs' → Calls Try.prog 9 #[cv f a n c p, cv f' a' n' c' p'] w fun e w' => e = .returned (.bool (Ce.same (f, bs, p) (f', bs', p'))) ∧ Below w.heap.size w w'

def CFitsC : Prop := ∀ (p : Po.P) (a : Option Addr) (n c : Nat) (vs : List Nat) (w : World), Po.Fits p → Row .u8 w a n vs → Calls Try.prog 18 #[pv p, .slice a n c] w fun e w' => e = .returned (.bool (Ce.fits p vs)) ∧ Below w.heap.size w w'
def CNearC : Prop := ∀ (a : Option Addr) (n c : Nat) (z : Int) (vs : List Nat) (w : World), n ≤ 5000 → Row .u8 w a n vs → (a = none → n = 0 ∧ c = 0) → Calls Try.prog 17 #[.slice a n c, .int .i64 z] w fun e w' =>
  (((n : Int) ≤ z ∧ n ≤ 32) ∧ ∃ a' c', e = .returned (.tuple #[cv false a' n c' Po.zero, .bool true]) ∧ Row .u8 w' a' n vs ∧ Below w.heap.size w w') ∨
  (¬ ((n : Int) ≤ z ∧ n ≤ 32) ∧ ∃ a' c', e = .returned (.tuple #[cv false a' 0 c' Po.zero, .bool false]) ∧ Below w.heap.size w w')
def CFarC : Prop := ∀ (s y : Int) (a : Option Addr) (n c : Nat) (vs : List Nat) (w : World), n ≤ 5000 → (-9223372036854775808 ≤ s ∧ s ≤ 9223372036854775807) → (-9223372036854775808 ≤ y ∧ y ≤ 9223372036854775807) → Row .u8 w a n vs → Calls Try.prog 20 #[.int .i64 s, .int .i64 y, .slice a n c] w fun e w' =>
  (Po.may (s, y, (n : Int), 0) = true ∧ ∃ a' c', e = .returned (.tuple #[cv true a' 0 c' (s, y, (n : Int), Crc.more 0 vs), .int .i64 0]) ∧ Below w.heap.size w w') ∨
  (Po.may (s, y, (n : Int), 0) = false ∧ ∃ a' c', e = .returned (.tuple #[cv false a' 0 c' Po.zero, .int .i64 1]) ∧ Below w.heap.size w w')

theorem row_nil (k : IntKind) (w : World) (a : Option Addr) : Row k w a 0 [] := ⟨rfl, by omega, by simp, .inl rfl⟩
theorem ce78 : Ce.put (false, [7, 8], Po.zero) = [0, 2, 7, 8] := by
  have h2 : Va.one 2 = [2] := Va.one_lo (by omega)
  simp [Ce.put, h2]

set_option maxRecDepth 100000 in
set_option maxHeartbeats 1000000 in
theorem ceawake (hP : CPutC) (w : World) : Calls Try.prog 7 #[] w fun e w' => e = .returned (.bool true) ∧ Below w.heap.size w w' := by
  have hsm : ∀ x ∈ [7, 8], x < lim .u8 := by intro x hx; simp at hx; show x < 256; omega
  have hp : ∀ W : World, Calls Try.prog 8 #[cv false (some ⟨W.heap.size, 0, none⟩) 2 2 Po.zero] (W.alloc (.cells #[.int .u8 7, .int .u8 8] 5)) fun e w' => ∃ a c, e = .returned (.tuple #[.slice a 4 c, .int .i64 0]) ∧ w'.ownsRow (W.alloc (.cells #[.int .u8 7, .int .u8 8] 5)).heap.size 5 1 (.slice a 4 c) 4 (kcells .u8 [0, 2, 7, 8]) ∧ Below (W.alloc (.cells #[.int .u8 7, .int .u8 8] 5)).heap.size (W.alloc (.cells #[.int .u8 7, .int .u8 8] 5)) w' := fun W => by
    refine (hP false _ 2 2 [7, 8] Po.zero _ (row_lit .u8 W 5 _ [7, 8] 2 rfl rfl hsm (by omega)) (fun h => by cases h) ⟨by decide, by decide, by decide, by decide⟩).mono ?_
    rintro e w' (⟨_, a, c, h⟩ | ⟨h, _⟩)
    · rw [ce78] at h; exact ⟨a, c, h⟩
    · exact absurd h (by decide)
  have hsm4 : ∀ x ∈ [0, 2, 7, 8], x < lim .u8 := by intro x hx; simp at hx; show x < 256; omega
  simp only [cv, Po.zero] at hp
  have hb0 := below_alloc w (.cells #[.int .u8 7, .int .u8 8] 5)
  go_enter Try.func7, Try.ntmps7
  go_wp2_with (first
    | (go_at_call 13; go_must (have := hown1; refine (bytes_any _ _ _ [0, 2, 7, 8] _ _ _ [0, 2, 7, 8] _ ((row_of_owns hown1 hsm4 (by omega)).1.below (below_alloc _ _) (Nat.le_refl _)) (row_lit .u8 w1 5 _ [0, 2, 7, 8] 4 rfl rfl hsm4 (by omega))).mono ?_; rintro e w2 ⟨rfl, n2, rfl⟩))
    | (go_at_call 8; go_must (refine (hp _).mono ?_; rintro e w1 ⟨a1, c1, rfl, hown1, hbel1⟩)))
  have hb1 := hb0.trans (hbel1.mono hb0.size)
  go_ret
  exact ⟨by simp, (hb1.alloc hb1.size _).trans (below_drewN _ _ _)⟩

set_option maxRecDepth 100000 in
set_option maxHeartbeats 1000000 in
theorem cegets_long (hP : CPutC) (a : Option Addr) (len cap : Nat) (w : World) (hl : 1000 < len) :
    Calls Try.prog 4 #[.slice a len cap] w fun e w' => e = .returned (.bool true) ∧ Below w.heap.size w w' := by
  have hA := fun w => ceawake hP w
  go_enter Try.func4, Try.ntmps4
  go_wp2_with (go_at_call 7; refine (hA _).mono ?_; rintro e w1 ⟨rfl, hbel⟩)
  go_ret
  exact ⟨rfl, hbel⟩

theorem ce_same_self (x : Ce.C) : Ce.same x x = true := by simp [Ce.same]

set_option maxRecDepth 100000 in
set_option maxHeartbeats 2000000 in
theorem cegets_any (hP : CPutC) (hG : CGetC) (a : Option Addr) (len cap : Nat) (bs : List Nat) (w : World) (hl : len ≤ 1000) (hshape : Shape a len cap) (hnil : a = none → len = 0 ∧ cap = 0) (hr : Row .u8 w a len bs) :
    Calls Try.prog 4 #[.slice a len cap] w fun e w' => e = .returned (.bool true) ∧ Below w.heap.size w w' := by
  have hA := fun w => ceawake hP w
  have hlen : Hid (bs.length = len) := hr.1
  have hg1 := fun b c W (h1 : Shape b len c) (h2 : len ≤ c) (h : Row .u8 W b len bs) => hG b len c bs W h1 h2 (by omega) h
  have hg2 := fun W (h : Below w.heap.size w W) => cerefget_any a len cap bs W (by omega) hshape (hr.below h (Nat.le_refl _))
  have hr2 := hr.below (below_alloc w (.cells #[] 5)) (Nat.le_refl _)
  have hsm := hr.2.2.1
  unfold RCGet at hg2
  unfold CGetRes at hg1
  have hle := Ce.get_le bs
  rw [hlen.out] at hle
  have hss := fun f v p a1 n1 c1 a2 n2 c2 W (e1 : v.length = n1) (e2 : v.length = n2) (h1 : Row .u8 W a1 n1 v) (h2 : Row .u8 W a2 n2 v) => cesame_any f a1 n1 c1 v p f a2 n2 c2 v p W h1 h2
  simp only [ce_same_self] at hss
  generalize Ce.get bs = R at *
  obtain ⟨⟨f, v, s, y, l, m⟩, n⟩ := R
  simp only [cv] at hg1 hg2 hle hss
  rcases Nat.eq_zero_or_pos n with rfl | hn
  · rw [code_zero] at hg1
    go_enter Try.func4, Try.ntmps4
    go_wp2_with (first
      | (go_at_call 7; go_must (have := hbel4; refine (hA _).mono ?_; rintro e w5 ⟨rfl, hbel5⟩))
      | (go_at_call 10; go_must (have := hbel3; refine (hss f v (s, y, l, m) a2 _ c2 a3 _ c3 _ rfl rfl ((r2.below h23 (Nat.le_refl _)).below (below_alloc _ _) (Nat.le_refl _)) (r3.below (below_alloc _ _) (Nat.le_refl _))).mono ?_; rintro e w4 ⟨rfl, hbel4⟩))
      | (at_builtin; go_must (refine append_u8 (w0 := w) (B := w.heap.size) rfl (.tmp 13) (.tmp 14) rfl _ 0 [] rfl (made_at w 5 w.heap.size rfl (Nat.le_refl _)) a len cap bs rfl hr2 hnil (by omega) (below_alloc _ _) (by simp) ?_; intro a1 c1 w1 hown1 hbel1 hsz1; rw [Nat.zero_add, List.nil_append] at hown1; rw [Nat.zero_add]; have hrow1 := (row_of_owns hown1 hsm (by omega)).1; have hcap1 := (row_of_owns hown1 hsm (by omega)).2.2))
      | (go_at_call 16; go_must (have := hbel2; refine (hg2 _ ?_).mono ?_; exact (hbel1.trans (hbel2.mono hsz1)).alloc (Nat.le_trans hsz1 hbel2.size) _; rintro e w3 ⟨a3, c3, rfl, r3, nl3, hbel3⟩; obtain ⟨⟨z0, z1, z2, z3, z4, z5⟩, hlt3, h23⟩ := six_keep hbel3))
      | (go_at_call 15; go_must (refine (hg1 _ _ _ (own_shape hown1) hcap1 hrow1).mono ?_; rintro e w2 ⟨a2, c2, rfl, r2, nl2, hbel2⟩)))
    have hb2 := hbel1.trans (hbel2.mono hsz1)
    have hb3 := hb2.trans (h23.mono hb2.size)
    have hb4 := hb3.alloc hb3.size (.cells #[.bool f, .slice a3 v.length c3, .int .i64 s, .int .i64 y, .int .i64 l, .int .u32 (m : Nat)] 27)
    have hb5 := hb4.trans (hbel4.mono hb4.size)
    go_ret
    exact ⟨by simp, hb5.trans (hbel5.mono hb5.size)⟩
  · have hc : code n = 0 := by unfold code; rw [if_neg (by omega)]
    rw [hc] at hg1
    clear hc
    have hd1 : ((n : Int) == 0) = false := by simp; omega
    have hd2 : decide (0 < (n : Int)) = true := by simp; omega
    go_enter Try.func4, Try.ntmps4
    go_wp2_with (first
      | (go_at_call 7; go_must (have := hbel4; refine (hA _).mono ?_; rintro e w5 ⟨rfl, hbel5⟩))
      | (go_at_call 10; go_must (have := hbel3; refine (hss f v (s, y, l, m) a2 _ c2 a3 _ c3 _ rfl rfl ((r2.below h23 (Nat.le_refl _)).below (below_alloc _ _) (Nat.le_refl _)) (r3.below (below_alloc _ _) (Nat.le_refl _))).mono ?_; rintro e w4 ⟨rfl, hbel4⟩))
      | (at_builtin; go_must (refine append_u8 (w0 := w) (B := w.heap.size) rfl (.tmp 13) (.tmp 14) rfl _ 0 [] rfl (made_at w 5 w.heap.size rfl (Nat.le_refl _)) a len cap bs rfl hr2 hnil (by omega) (below_alloc _ _) (by simp) ?_; intro a1 c1 w1 hown1 hbel1 hsz1; rw [Nat.zero_add, List.nil_append] at hown1; rw [Nat.zero_add]; have hrow1 := (row_of_owns hown1 hsm (by omega)).1; have hcap1 := (row_of_owns hown1 hsm (by omega)).2.2))
      | (go_at_call 16; go_must (have := hbel2; refine (hg2 _ ?_).mono ?_; exact (hbel1.trans (hbel2.mono hsz1)).alloc (Nat.le_trans hsz1 hbel2.size) _; rintro e w3 ⟨a3, c3, rfl, r3, nl3, hbel3⟩; obtain ⟨⟨z0, z1, z2, z3, z4, z5⟩, hlt3, h23⟩ := six_keep hbel3))
      | (go_at_call 15; go_must (refine (hg1 _ _ _ (own_shape hown1) hcap1 hrow1).mono ?_; rintro e w2 ⟨a2, c2, rfl, r2, nl2, hbel2⟩)))
    have hb2 := hbel1.trans (hbel2.mono hsz1)
    have hb3 := hb2.trans (h23.mono hb2.size)
    have hb4 := hb3.alloc hb3.size (.cells #[.bool f, .slice a3 v.length c3, .int .i64 s, .int .i64 y, .int .i64 l, .int .u32 (m : Nat)] 27)
    have hb5 := hb4.trans (hbel4.mono hb4.size)
    go_ret
    exact ⟨by simp, hb5.trans (hbel5.mono hb5.size)⟩

end Go.Proofs.Ytgmcjalcpgldhaa
