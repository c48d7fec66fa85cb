/- What slices.Clone, slices.Grow and slices.Concat of three rows of bytes do. -/
import Derived.Test.YtikieblokfjphaaGreatGa
import Derived.Lib.AppendZeros
import Derived.Test.YtikieblokfjphaaGreatWa
namespace Go.Proofs.YtikieblokfjphaaGreat
open Go.RowKit

set_option maxRecDepth 100000 in
set_option maxHeartbeats 400000 in
theorem grow_nil (n : Nat) (w : World) (h0 : 0 < n) (hn : n ≤ 100000) :
    Calls Tryz.prog 115 #[.slice none 0 0, .int .i64 (n : Nat)] w fun e w' => ∃ g c, e = .returned (.slice (some ⟨g, 0, none⟩) 0 c) ∧ w'.ownsRow w.heap.size 5 1 (.slice (some ⟨g, 0, none⟩) 0 c) 0 (kcells .u8 []) ∧ Below w.heap.size w w' := by
  obtain ⟨i0, hi0, hz0, hz1, hz2⟩ := info_parts Tryz.info5
  have hrun := Lib.run_append_nil_zeros (P := Tryz.prog) w 22 3 22 5 i0 (.int .u8 0) .i64 .i64 Tryz.underlying22 Tryz.underlying3 hi0 hz0 n h0 (by rw [hz1]; decide) (by omega) (by rw [hz2]; omega)
  have hm := grownCap_le_maxLen w n 0 5 (by unfold maxLen; omega)
  have hge := grownCap_ge w n 0 5
  clear hi0 hz0 hz1 hz2
  generalize grownCap w n 0 5 = C at *
  have hsz : (Builtin.zeroCells (Value.int .u8 0).cells n ++ Builtin.zeroCells (Value.int .u8 0).cells (C - n)).size = C * 1 := by
    simp [Builtin.zeroCells, Value.cells]; omega
  generalize Builtin.zeroCells (Value.int .u8 0).cells n ++ Builtin.zeroCells (Value.int .u8 0).cells (C - n) = cs at *
  go_enter Tryz.func115, Tryz.ntmps115
  go_wp2_with (at_builtin; refine Lib.wpList_append_run _ rfl _ _ _ _ rfl _ _ rfl rfl _ _ hrun ?_)
  go_ret
  exact ⟨_, _, rfl, ⟨rfl, .inr ⟨_, _, _, rfl, Nat.le_refl _, heap_alloc_new _ _, Nat.zero_le _, hm, hsz, rfl⟩⟩, ((Below.refl _ _).drew).alloc (Nat.le_refl _) _⟩

/-- a copy: a row of the call's own, nil if it was nil -/
def Copied (w : World) (n : Nat) (bs : List Nat) (e : Ending) (w' : World) : Prop :=
  ∃ a c, e = .returned (.slice a n c) ∧ Row .u8 w' a n bs ∧ (a = none → n = 0 ∧ c = 0) ∧ w'.ownsRow w.heap.size 5 1 (.slice a n c) n (kcells .u8 bs) ∧ Below w.heap.size w w'

set_option maxRecDepth 100000 in
set_option maxHeartbeats 400000 in
theorem copy_any (a : Option Addr) (n c : Nat) (bs : List Nat) (w : World) (hn : n ≤ 1000000) (hr : Row .u8 w a n bs) (hnil : a = none → n = 0 ∧ c = 0) :
    Calls Tryz.prog 63 #[.slice a n c] w (Copied w n bs) := by
  cases a with
  | none =>
    obtain ⟨rfl, rfl⟩ := hnil rfl
    go_enter Tryz.func63, Tryz.ntmps63
    go_wp2_with fail
    rw [Lib.run_eql_slice_nil _ 22 5 none 0 0 0 0 Tryz.underlying22]
    go_wp2
    go_ret
    obtain rfl : bs = [] := List.length_eq_zero_iff.mp hr.1
    exact ⟨none, 0, rfl, hr, fun _ => ⟨rfl, rfl⟩, ⟨rfl, .inl ⟨rfl, rfl⟩⟩, Below.refl _ _⟩
  | some p =>
    have hsm := hr.2.2.1
    have hr2 := hr.below (below_alloc w (.cells #[] 5)) (Nat.le_refl _)
    go_enter Tryz.func63, Tryz.ntmps63
    go_wp2_with fail
    rw [Lib.run_eql_slice_nil _ 22 5 (some p) n c 0 0 Tryz.underlying22]
    go_wp2_with (at_builtin; refine append_u8 (w0 := w) (B := w.heap.size) rfl (.tmp 5) (.tmp 6) rfl _ 0 [] rfl (made_at w 5 w.heap.size rfl (Nat.le_refl _)) (some p) n c bs rfl hr2 (fun h => by cases h) (by omega) (below_alloc _ _) (by simp) ?_; intro A C w2 hown2 hbel2 hsz2)
    rw [Nat.zero_add, List.nil_append] at hown2
    have k := row_of_owns hown2 hsm (by omega)
    go_ret
    exact ⟨A, C, rfl, k.1, k.2.1, hown2, hbel2⟩

set_option maxRecDepth 100000 in
set_option maxHeartbeats 1000000 in
theorem concat3 (g : Nat) (a1 : Option Addr) (n1 c1 : Nat) (b1 : List Nat) (a2 : Option Addr) (n2 c2 : Nat) (b2 : List Nat) (a3 : Option Addr) (n3 c3 : Nat) (b3 : List Nat) (w : World)
    (h1 : w.cell? ⟨g, 0, none⟩ = some (.slice a1 n1 c1)) (h2 : w.cell? ⟨g, 1, none⟩ = some (.slice a2 n2 c2)) (h3 : w.cell? ⟨g, 2, none⟩ = some (.slice a3 n3 c3))
    (r1 : Row .u8 w a1 n1 b1) (r2 : Row .u8 w a2 n2 b2) (r3 : Row .u8 w a3 n3 b3) (z1 : a1 = none → n1 = 0 ∧ c1 = 0) (z2 : a2 = none → n2 = 0 ∧ c2 = 0) (z3 : a3 = none → n3 = 0 ∧ c3 = 0)
    (hgl : g < w.heap.size) (p1 : 0 < n1) (m1 : n1 ≤ 1000) (m2 : n2 ≤ 1000) (m3 : n3 ≤ 1000) :
    Calls Tryz.prog 112 #[.slice (some ⟨g, 0, none⟩) 3 3] w (Made .u8 5 w (b1 ++ b2 ++ b3)) := by
  have hl1 : Hid (b1.length = n1) := r1.1
  have hl2 : Hid (b2.length = n2) := r2.1
  have hl3 : Hid (b3.length = n3) := r3.1
  go_enter Tryz.func112, Tryz.ntmps112
  go_wp2
  go_loop [3, 11] (fun t i => ∃ k : Nat, k ≤ 3 ∧ i = .int .i64 k ∧ ((k = 0 ∧ t = .int .i64 (0 : Nat)) ∨ (k = 1 ∧ t = .int .i64 (n1 : Nat)) ∨ (k = 2 ∧ t = .int .i64 (n1 + n2 : Nat)) ∨ (k = 3 ∧ t = .int .i64 (n1 + n2 + n3 : Nat)))) (fun _ i => 3 - (intOf i).toNat)
  case atStart => exact ⟨0, by omega, rfl, .inl ⟨rfl, rfl⟩⟩
  case round =>
    obtain ⟨k, hk, rfl, ⟨rfl, rfl⟩ | ⟨rfl, rfl⟩ | ⟨rfl, rfl⟩ | ⟨rfl, rfl⟩⟩ := hrel
    · go_wp2
      go_round
      case rel => exact ⟨1, by omega, rfl, .inr (.inl ⟨rfl, val_int (by omega)⟩)⟩
      case measure => simp [intOf]
    · go_wp2
      go_round
      case rel => exact ⟨2, by omega, rfl, .inr (.inr (.inl ⟨rfl, val_int (by omega)⟩))⟩
      case measure => simp [intOf]
    · go_wp2
      go_round
      case rel => exact ⟨3, by omega, rfl, .inr (.inr (.inr ⟨rfl, val_int (by omega)⟩))⟩
      case measure => simp [intOf]
    · have hg := fun W => grow_nil (n1 + n2 + n3) W (by omega) (by omega)
      go_wp2_with (go_at_call 115; go_must (refine (hg _).mono ?_; rintro e w2 ⟨gg, gc, rfl, hown2, hbel2⟩))
      go_loopw [6, 27] (fun v i wr => ∃ (k : Nat) (a' : Option Addr) (n c : Nat), k ≤ 3 ∧ i = .int .i64 k ∧ v = .slice a' n c ∧ Below w.heap.size w wr ∧ ((k = 0 ∧ n = 0 ∧ wr.ownsRow w.heap.size 5 1 (.slice a' n c) n (kcells .u8 [])) ∨ (k = 1 ∧ n1 = n ∧ wr.ownsRow w.heap.size 5 1 (.slice a' n c) n (kcells .u8 b1)) ∨ (k = 2 ∧ n = n1 + n2 ∧ wr.ownsRow w.heap.size 5 1 (.slice a' n c) n (kcells .u8 (b1 ++ b2))) ∨ (k = 3 ∧ n = n1 + n2 + n3 ∧ wr.ownsRow w.heap.size 5 1 (.slice a' n c) n (kcells .u8 (b1 ++ b2 ++ b3))))) (fun _ i _ => 3 - (intOf i).toNat)
      case atStart => exact ⟨0, _, 0, gc, by omega, rfl, rfl, hbel2, .inl ⟨rfl, rfl, hown2⟩⟩
      case round =>
        obtain ⟨k, a', n, c, hk, rfl, rfl, hbel, hcase⟩ := hrel
        have hsz := hbel.size
        have q1 := (hbel.cell (p := ⟨g, 0, none⟩) hgl).trans h1
        have q2 := (hbel.cell (p := ⟨g, 1, none⟩) hgl).trans h2
        have q3 := (hbel.cell (p := ⟨g, 2, none⟩) hgl).trans h3
        clear hown2 hbel2 hg
        rcases hcase with ⟨rfl, rfl, hown⟩ | ⟨rfl, rfl, hown⟩ | ⟨rfl, rfl, hown⟩ | ⟨rfl, rfl, hown⟩
        · go_wp2_with (at_builtin; go_must (refine append_u8 (w0 := w) (B := w.heap.size) rfl (.tmp 31) (.tmp 32) rfl _ 0 [] rfl hown a1 n1 c1 b1 rfl (r1.below hbel (Nat.le_refl _)) z1 (by omega) hbel hsz ?_; intro a6 c6 w6 hown6 hbel6 hsz6))
          go_roundw
          case rel => exact ⟨1, a6, _, c6, by omega, rfl, rfl, hbel6, .inr (.inl ⟨rfl, by omega, by simpa using hown6⟩)⟩
          case measure => simp [intOf]
        · go_wp2_with (at_builtin; go_must (refine append_u8 (w0 := w) (B := w.heap.size) rfl (.tmp 31) (.tmp 32) rfl _ n1 b1 rfl hown a2 n2 c2 b2 rfl (r2.below hbel (Nat.le_refl _)) z2 (by omega) hbel hsz ?_; intro a6 c6 w6 hown6 hbel6 hsz6))
          go_roundw
          case rel => exact ⟨2, a6, _, c6, by omega, rfl, rfl, hbel6, .inr (.inr (.inl ⟨rfl, rfl, hown6⟩))⟩
          case measure => simp [intOf]
        · go_wp2_with (at_builtin; go_must (refine append_u8 (w0 := w) (B := w.heap.size) rfl (.tmp 31) (.tmp 32) rfl _ (n1 + n2) (b1 ++ b2) rfl hown a3 n3 c3 b3 rfl (r3.below hbel (Nat.le_refl _)) z3 (by omega) hbel hsz ?_; intro a6 c6 w6 hown6 hbel6 hsz6))
          go_roundw
          case rel => exact ⟨3, a6, _, c6, by omega, rfl, rfl, hbel6, .inr (.inr (.inr (⟨rfl, rfl, hown6⟩)))⟩
          case measure => simp [intOf]
        · go_wp2
          go_ret
          refine ⟨a', c, ?_, ?_, hbel⟩
          · rw [List.length_append, List.length_append, hl1.out, hl2.out, hl3.out]; rfl
          · rw [List.length_append, List.length_append, hl1.out, hl2.out, hl3.out]; exact hown
end Go.Proofs.YtikieblokfjphaaGreat

/- What the program's getBytes of a near cell does. -/
namespace Go.Proofs.YtikieblokfjphaaGreat
open Go.RowKit

/-- the bytes of a near cell that bytes begin with, and how many these and their number are; 0: there are none -/
def nearOf (bs : List Nat) : List Nat × Nat :=
  if (Va.get bs).2 = 0 ∨ 32 < (Va.get bs).1 ∨ bs.length < (Va.get bs).2 + (Va.get bs).1 then ([], 0)
  else ((bs.drop (Va.get bs).2).take (Va.get bs).1, (Va.get bs).2 + (Va.get bs).1)

def NearRes (w : World) (R : List Nat × Nat) (e : Ending) (w' : World) : Prop :=
  ∃ a c, e = .returned (.tuple #[.slice a R.1.length c, .int .i64 (R.2 : Nat), .int .i64 (code R.2 : Nat)]) ∧ Row .u8 w' a R.1.length R.1 ∧ (a = none → R.1.length = 0 ∧ c = 0) ∧ w'.ownsRow w.heap.size 5 1 (.slice a R.1.length c) R.1.length (kcells .u8 R.1) ∧ Below w.heap.size w w'
theorem nearres_none {w : World} {G : List Nat × Nat} (hG : G = ([], 0)) : NearRes w G (.returned (.tuple #[.slice none 0 0, .int .i64 0, .int .i64 2])) w := by
  subst hG
  exact ⟨none, 0, rfl, ⟨rfl, by simp, by simp, .inl rfl⟩, fun _ => ⟨rfl, rfl⟩, ⟨rfl, .inl ⟨rfl, rfl⟩⟩, Below.refl _ _⟩
theorem nearres_some {w w' : World} {G : List Nat × Nat} {v : List Nat} {n u k c : Nat} {a : Option Addr} (hG : G = (v, k)) (hk : 0 < k) (hv : v.length = u) (hr : Row .u8 w' a u v) (hnil : a = none → u = 0 ∧ c = 0) (hnew : w'.ownsRow w.heap.size 5 1 (.slice a u c) u (kcells .u8 v)) (hb : Below w.heap.size w w') (hn : n = k) : NearRes w G (.returned (.tuple #[.slice a u c, .int .i64 (n : Nat), .int .i64 0])) w' := by
  subst hG; subst hv; subst hn
  refine ⟨a, c, ?_, hr, hnil, hnew, hb⟩
  have : code n = 0 := by unfold code; rw [if_neg (by omega)]
  simp only [this]; rfl

set_option maxRecDepth 100000 in
set_option maxHeartbeats 1000000 in
theorem getbytes_any (a : Option Addr) (len cap : Nat) (bs : List Nat) (w : World) (hlc : len ≤ cap) (hbig : len ≤ 100000) (hr : Row .u8 w a len bs) :
    Calls Tryz.prog 105 #[.slice a len cap] w (NearRes w (nearOf bs)) := by
  have hlen : Hid (bs.length = len) := hr.1
  have hgv := get_any a len cap bs w hr
  have hvle := Va.get_le (bs := bs)
  have hvlt := Va.get_lt bs
  rw [hlen.out] at hvle
  obtain ⟨G, hG⟩ : ∃ G, G = nearOf bs := ⟨_, rfl⟩
  rw [← hG]
  have HG : Hid (G = if (Va.get bs).2 = 0 ∨ 32 < (Va.get bs).1 ∨ len < (Va.get bs).2 + (Va.get bs).1 then ([], 0) else ((bs.drop (Va.get bs).2).take (Va.get bs).1, (Va.get bs).2 + (Va.get bs).1)) := by
    have : G = if (Va.get bs).2 = 0 ∨ 32 < (Va.get bs).1 ∨ len < (Va.get bs).2 + (Va.get bs).1 then ([], 0) else ((bs.drop (Va.get bs).2).take (Va.get bs).1, (Va.get bs).2 + (Va.get bs).1) := by rw [hG, nearOf, hlen.out]
    exact this
  clear hG
  generalize Va.get bs = R at *
  obtain ⟨u, n⟩ := R
  simp only at hgv hvle hvlt
  have H0 : Hid ((n = 0 ∨ 32 < u ∨ len < n + u) → G = ([], 0)) := (fun h => by rw [HG.out, if_pos h] : (n = 0 ∨ 32 < u ∨ len < n + u) → G = ([], 0))
  have H1 : Hid (¬ (n = 0 ∨ 32 < u ∨ len < n + u) → G = ((bs.drop n).take u, n + u)) := (fun h => by rw [HG.out, if_neg h] : ¬ (n = 0 ∨ 32 < u ∨ len < n + u) → G = ((bs.drop n).take u, n + u))
  clear HG
  by_cases hn : n = 0
  · subst hn
    rw [code_zero] at hgv
    have H : Hid (G = ([], 0)) := H0.out (.inl rfl)
    clear H0 H1
    go_enter Tryz.func105, Tryz.ntmps105
    go_wp2_with (go_at_call 66; go_must (refine hgv.mono ?_; rintro e w1 ⟨rfl, hw⟩; obtain rfl : w = w1 := hw.symm))
    go_ret3
    exact nearres_none H.out
  · have hc : code n = 0 := by unfold code; rw [if_neg hn]
    rw [hc] at hgv
    clear hc
    by_cases hu : 32 < u
    · have hdu : decide (32 < (u : Int)) = true := by simp; omega
      have H : Hid (G = ([], 0)) := H0.out (.inr (.inl hu))
      clear H0 H1
      go_enter Tryz.func105, Tryz.ntmps105
      go_wp2_with (go_at_call 66; go_must (refine hgv.mono ?_; rintro e w1 ⟨rfl, hw⟩; obtain rfl : w = w1 := hw.symm))
      go_ret3
      exact nearres_none H.out
    · have hdu : decide (32 < (u : Int)) = false := by simp; omega
      have j1 : IntKind.i64.wrap (u : Int) = (u : Int) := by rw [IntKind.wrap_i64]; omega
      have j2 : IntKind.i64.wrap ((len : Int) - (n : Int)) = (len : Int) - (n : Int) := by rw [IntKind.wrap_i64]; omega
      have j3 : IntKind.i64.wrap ((n : Int) + (u : Int)) = (n : Int) + (u : Int) := by rw [IntKind.wrap_i64]; omega
      by_cases hs : len < n + u
      · have hds : decide ((len : Int) - (n : Int) < (u : Int)) = true := by simp; omega
        have H : Hid (G = ([], 0)) := H0.out (.inr (.inr hs))
        clear H0 H1
        go_enter Tryz.func105, Tryz.ntmps105
        go_wp2_with (go_at_call 66; go_must (refine hgv.mono ?_; rintro e w1 ⟨rfl, hw⟩; obtain rfl : w = w1 := hw.symm))
        go_ret3
        exact nearres_none H.out
      · have hds : decide ((len : Int) - (n : Int) < (u : Int)) = false := by simp; omega
        have H : Hid (G = ((bs.drop n).take u, n + u)) := H1.out (by omega)
        have hvl : Hid (((bs.drop n).take u).length = u) := (by rw [List.length_take, List.length_drop, hlen.out]; omega : ((bs.drop n).take u).length = u)
        obtain ⟨b, off, rfl, _⟩ := hr.at (by omega)
        have hvr : ∀ z : Nat, z = u → Row .u8 w (some ⟨b, off + n, none⟩) z ((bs.drop n).take u) := fun z hz => hz ▸ (hr.drop n (by omega)).take u (by omega)
        have hv0 : Hid (u = 0 → ∀ a, Row .u8 w a 0 ((bs.drop n).take u)) := (fun h a => ⟨by rw [hvl.out, h], by omega, by subst h; simp, .inl rfl⟩ : u = 0 → ∀ a, Row .u8 w a 0 ((bs.drop n).take u))
        have hcp := fun a z c v (hz : z ≤ 1000000) (h : Row .u8 w a z v) (h2 : a = none → z = 0 ∧ c = 0) => copy_any a z c v w hz h h2
        clear H0 H1 hr
        have k1 : (0 : Int) ≤ (n : Int) := by omega
        have k2 : (n : Int) ≤ (n : Int) + (u : Int) := by omega
        have k3 : (n : Int) + (u : Int) ≤ (cap : Int) := by omega
        generalize (bs.drop n).take u = v at *
        by_cases hcn : cap = n
        · subst hcn
          obtain rfl : u = 0 := by omega
          have hvz : ∀ a, Row .u8 w a 0 v := hv0.out rfl
          clear hv0
          go_enter Tryz.func105, Tryz.ntmps105
          go_wp2_with (first
            | (go_at_call 66; go_must (refine hgv.mono ?_; rintro e w1 ⟨rfl, hw⟩; obtain rfl : w = w1 := hw.symm))
            | (go_at_call 63; go_must (refine (hcp _ _ _ v ?_ (hvz _) ?_).mono ?_; omega; intro h; cases h; rintro e w2 ⟨a2, c2, rfl, r2, n2, nw2, hbel2⟩)))
          go_ret3
          exact nearres_some H.out (by omega) hvl.out r2 (fun h => ⟨rfl, (n2 h).2⟩) nw2 hbel2 (by omega)
        · go_enter Tryz.func105, Tryz.ntmps105
          go_wp2_with (first
            | (go_at_call 66; go_must (refine hgv.mono ?_; rintro e w1 ⟨rfl, hw⟩; obtain rfl : w = w1 := hw.symm))
            | (go_at_call 63; go_must (refine (hcp _ _ _ v ?_ (hvr _ ?_) ?_).mono ?_; omega; omega; intro h; cases h; rintro e w2 ⟨a2, c2, rfl, r2, n2, nw2, hbel2⟩)))
          go_ret3
          exact nearres_some H.out (by omega) hvl.out r2 n2 nw2 hbel2 (by omega)
end Go.Proofs.YtikieblokfjphaaGreat
