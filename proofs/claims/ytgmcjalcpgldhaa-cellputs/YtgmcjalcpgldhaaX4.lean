/- What the program's getBytes of a near cell does. -/
import Derived.Test.YtgmcjalcpgldhaaX2
import Derived.Test.YtgmcjalcpgldhaaW9
import Derived.Test.YtgmcjalcpgldhaaW12
namespace Go.Proofs.Ytgmcjalcpgldhaa
open Go.RowKit

/-- the bytes of a near cell that bytes begin with, and how many these and their number are; 0: there are none -/
def nearOf (bs : List Nat) : List Nat × Nat :=
  if (Va.get bs).2 = 0 ∨ 32 < (Va.get bs).1 ∨ bs.length < (Va.get bs).2 + (Va.get bs).1 then ([], 0)
  else ((bs.drop (Va.get bs).2).take (Va.get bs).1, (Va.get bs).2 + (Va.get bs).1)

def NearRes (w : World) (R : List Nat × Nat) (e : Ending) (w' : World) : Prop :=
  ∃ a c, e = .returned (.tuple #[.slice a R.1.length c, .int .i64 (R.2 : Nat), .int .i64 (code R.2 : Nat)]) ∧ Row .u8 w' a R.1.length R.1 ∧ (a = none → R.1.length = 0 ∧ c = 0) ∧ (∀ b o, a = some ⟨b, o, none⟩ → w.heap.size ≤ b) ∧ Below w.heap.size w w'
theorem nearres_none {w : World} {G : List Nat × Nat} (hG : G = ([], 0)) : NearRes w G (.returned (.tuple #[.slice none 0 0, .int .i64 0, .int .i64 2])) w := by
  subst hG
  exact ⟨none, 0, rfl, ⟨rfl, by simp, by simp, .inl rfl⟩, fun _ => ⟨rfl, rfl⟩, (fun _ _ h => by cases h), Below.refl _ _⟩
theorem nearres_some {w w' : World} {G : List Nat × Nat} {v : List Nat} {n u k c : Nat} {a : Option Addr} (hG : G = (v, k)) (hk : 0 < k) (hv : v.length = u) (hr : Row .u8 w' a u v) (hnil : a = none → u = 0 ∧ c = 0) (hnew : ∀ b o, a = some ⟨b, o, none⟩ → w.heap.size ≤ b) (hb : Below w.heap.size w w') (hn : n = k) : NearRes w G (.returned (.tuple #[.slice a u c, .int .i64 (n : Nat), .int .i64 0])) w' := by
  subst hG; subst hv; subst hn
  refine ⟨a, c, ?_, hr, hnil, hnew, hb⟩
  have : code n = 0 := by unfold code; rw [if_neg (by omega)]
  simp only [this]; rfl

set_option maxRecDepth 100000 in
set_option maxHeartbeats 1000000 in
theorem getbytes_any (a : Option Addr) (len cap : Nat) (bs : List Nat) (w : World) (hlc : len ≤ cap) (hbig : len ≤ 100000) (hr : Row .u8 w a len bs) :
    Calls Try.prog 30 #[.slice a len cap] w (NearRes w (nearOf bs)) := by
  have hlen : Hid (bs.length = len) := hr.1
  have hgv := get_any a len cap bs w hr
  have hvle := Va.get_le (bs := bs)
  have hvlt := Va.get_lt bs
  rw [hlen.out] at hvle
  obtain ⟨G, hG⟩ : ∃ G, G = nearOf bs := ⟨_, rfl⟩
  rw [← hG]
  have HG : Hid (G = if (Va.get bs).2 = 0 ∨ 32 < (Va.get bs).1 ∨ len < (Va.get bs).2 + (Va.get bs).1 then ([], 0) else ((bs.drop (Va.get bs).2).take (Va.get bs).1, (Va.get bs).2 + (Va.get bs).1)) := by
    have : G = if (Va.get bs).2 = 0 ∨ 32 < (Va.get bs).1 ∨ len < (Va.get bs).2 + (Va.get bs).1 then ([], 0) else ((bs.drop (Va.get bs).2).take (Va.get bs).1, (Va.get bs).2 + (Va.get bs).1) := by rw [hG, nearOf, hlen.out]
    exact this
  clear hG
  generalize Va.get bs = R at *
  obtain ⟨u, n⟩ := R
  simp only at hgv hvle hvlt
  have H0 : Hid ((n = 0 ∨ 32 < u ∨ len < n + u) → G = ([], 0)) := (fun h => by rw [HG.out, if_pos h] : (n = 0 ∨ 32 < u ∨ len < n + u) → G = ([], 0))
  have H1 : Hid (¬ (n = 0 ∨ 32 < u ∨ len < n + u) → G = ((bs.drop n).take u, n + u)) := (fun h => by rw [HG.out, if_neg h] : ¬ (n = 0 ∨ 32 < u ∨ len < n + u) → G = ((bs.drop n).take u, n + u))
  clear HG
  by_cases hn : n = 0
  · subst hn
    rw [code_zero] at hgv
    have H : Hid (G = ([], 0)) := H0.out (.inl rfl)
    clear H0 H1
    go_enter Try.func30, Try.ntmps30
    go_wp2_with (go_at_call 41; go_must (refine hgv.mono ?_; rintro e w1 ⟨rfl, hw⟩; obtain rfl : w = w1 := hw.symm))
    go_ret3
    exact nearres_none H.out
  · have hc : code n = 0 := by unfold code; rw [if_neg hn]
    rw [hc] at hgv
    clear hc
    by_cases hu : 32 < u
    · have hdu : decide (32 < (u : Int)) = true := by simp; omega
      have H : Hid (G = ([], 0)) := H0.out (.inr (.inl hu))
      clear H0 H1
      go_enter Try.func30, Try.ntmps30
      go_wp2_with (go_at_call 41; go_must (refine hgv.mono ?_; rintro e w1 ⟨rfl, hw⟩; obtain rfl : w = w1 := hw.symm))
      go_ret3
      exact nearres_none H.out
    · have hdu : decide (32 < (u : Int)) = false := by simp; omega
      have j1 : IntKind.i64.wrap (u : Int) = (u : Int) := by rw [IntKind.wrap_i64]; omega
      have j2 : IntKind.i64.wrap ((len : Int) - (n : Int)) = (len : Int) - (n : Int) := by rw [IntKind.wrap_i64]; omega
      have j3 : IntKind.i64.wrap ((n : Int) + (u : Int)) = (n : Int) + (u : Int) := by rw [IntKind.wrap_i64]; omega
      by_cases hs : len < n + u
      · have hds : decide ((len : Int) - (n : Int) < (u : Int)) = true := by simp; omega
        have H : Hid (G = ([], 0)) := H0.out (.inr (.inr hs))
        clear H0 H1
        go_enter Try.func30, Try.ntmps30
        go_wp2_with (go_at_call 41; go_must (refine hgv.mono ?_; rintro e w1 ⟨rfl, hw⟩; obtain rfl : w = w1 := hw.symm))
        go_ret3
        exact nearres_none H.out
      · have hds : decide ((len : Int) - (n : Int) < (u : Int)) = false := by simp; omega
        have H : Hid (G = ((bs.drop n).take u, n + u)) := H1.out (by omega)
        have hvl : Hid (((bs.drop n).take u).length = u) := (by rw [List.length_take, List.length_drop, hlen.out]; omega : ((bs.drop n).take u).length = u)
        obtain ⟨b, off, rfl, _⟩ := hr.at (by omega)
        have hvr : ∀ z : Nat, z = u → Row .u8 w (some ⟨b, off + n, none⟩) z ((bs.drop n).take u) := fun z hz => hz ▸ (hr.drop n (by omega)).take u (by omega)
        have hv0 : Hid (u = 0 → ∀ a, Row .u8 w a 0 ((bs.drop n).take u)) := (fun h a => ⟨by rw [hvl.out, h], by omega, by subst h; simp, .inl rfl⟩ : u = 0 → ∀ a, Row .u8 w a 0 ((bs.drop n).take u))
        have hcp := fun a z c v (hz : z ≤ 1000000) (h : Row .u8 w a z v) (h2 : a = none → z = 0 ∧ c = 0) => copy_any a z c v w hz h h2
        clear H0 H1 hr
        have k1 : (0 : Int) ≤ (n : Int) := by omega
        have k2 : (n : Int) ≤ (n : Int) + (u : Int) := by omega
        have k3 : (n : Int) + (u : Int) ≤ (cap : Int) := by omega
        generalize (bs.drop n).take u = v at *
        by_cases hcn : cap = n
        · subst hcn
          obtain rfl : u = 0 := by omega
          have hvz : ∀ a, Row .u8 w a 0 v := hv0.out rfl
          clear hv0
          go_enter Try.func30, Try.ntmps30
          go_wp2_with (first
            | (go_at_call 41; go_must (refine hgv.mono ?_; rintro e w1 ⟨rfl, hw⟩; obtain rfl : w = w1 := hw.symm))
            | (go_at_call 34; go_must (refine (hcp _ _ _ v ?_ (hvz _) ?_).mono ?_; omega; intro h; cases h; rintro e w2 ⟨a2, c2, rfl, r2, n2, nw2, hbel2⟩)))
          go_ret3
          exact nearres_some H.out (by omega) hvl.out r2 (fun h => ⟨rfl, (n2 h).2⟩) nw2 hbel2 (by omega)
        · go_enter Try.func30, Try.ntmps30
          go_wp2_with (first
            | (go_at_call 41; go_must (refine hgv.mono ?_; rintro e w1 ⟨rfl, hw⟩; obtain rfl : w = w1 := hw.symm))
            | (go_at_call 34; go_must (refine (hcp _ _ _ v ?_ (hvr _ ?_) ?_).mono ?_; omega; omega; intro h; cases h; rintro e w2 ⟨a2, c2, rfl, r2, n2, nw2, hbel2⟩)))
          go_ret3
          exact nearres_some H.out (by omega) hvl.out r2 n2 nw2 hbel2 (by omega)
end Go.Proofs.Ytgmcjalcpgldhaa
