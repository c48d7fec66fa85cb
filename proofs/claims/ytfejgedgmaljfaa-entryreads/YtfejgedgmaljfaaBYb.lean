/- What the program's getKey does. -/
import Derived.Test.YtfejgedgmaljfaaBEb
import Derived.Test.YtfejgedgmaljfaaBW
import Derived.Test.YtfejgedgmaljfaaBXb
import Derived.Test.YtfejgedgmaljfaaBMa
namespace Go.Proofs.Ytfejgedgmaljfaa
open Go.RowKit

/-- the key that bytes begin with, and how many bytes it and its number have; 0: there is none -/
def keyOf (bs : List Nat) : List Nat × Nat :=
  if (Va.get bs).2 = 0 ∨ 64 < (Va.get bs).1 ∨ bs.length < (Va.get bs).2 + (Va.get bs).1 then ([], 0)
  else ((bs.drop (Va.get bs).2).take (Va.get bs).1, (Va.get bs).2 + (Va.get bs).1)
theorem keyOf_le (bs : List Nat) : (keyOf bs).2 ≤ bs.length := by
  unfold keyOf; split <;> simp only [] <;> omega
theorem keyOf_len (bs : List Nat) : (keyOf bs).1.length ≤ 64 := by
  unfold keyOf; split
  · simp
  · simp only [List.length_take]; omega
theorem bstr_nil : bstr [] = ⟨#[]⟩ := rfl
def KeyRes (w : World) (R : List Nat × Nat) (e : Ending) (w' : World) : Prop :=
  e = .returned (.tuple #[.string (bstr R.1), .int .i64 (R.2 : Nat), .int .i64 (code R.2 : Nat)]) ∧ w' = w
theorem keyres_none {w : World} {G : List Nat × Nat} (hG : G = ([], 0)) : KeyRes w G (.returned (.tuple #[.string ⟨#[]⟩, .int .i64 0, .int .i64 2])) w := by
  subst hG; exact ⟨rfl, rfl⟩
theorem keyres_some {w : World} {G : List Nat × Nat} {v : List Nat} {n k : Nat} (hG : G = (v, k)) (hk : 0 < k) (hn : n = k) : KeyRes w G (.returned (.tuple #[.string (bstr v), .int .i64 (n : Nat), .int .i64 0])) w := by
  subst hG; subst hn
  have : code n = 0 := by unfold code; rw [if_neg (by omega)]
  refine ⟨?_, rfl⟩
  simp only [this]; rfl

set_option maxRecDepth 100000 in
set_option maxHeartbeats 1000000 in
theorem getkey_any (a : Option Addr) (len cap : Nat) (bs : List Nat) (w : World) (hlc : len ≤ cap) (hbig : len ≤ 100000) (hr : Row .u8 w a len bs) :
    Calls Try.prog 45 #[.slice a len cap] w (KeyRes w (keyOf bs)) := by
  have hlen : Hid (bs.length = len) := hr.1
  have hgv := get_any a len cap bs w hr
  have hvle := Va.get_le (bs := bs)
  have hvlt := Va.get_lt bs
  rw [hlen.out] at hvle
  obtain ⟨G, hG⟩ : ∃ G, G = keyOf bs := ⟨_, rfl⟩
  rw [← hG]
  have HG : Hid (G = if (Va.get bs).2 = 0 ∨ 64 < (Va.get bs).1 ∨ len < (Va.get bs).2 + (Va.get bs).1 then ([], 0) else ((bs.drop (Va.get bs).2).take (Va.get bs).1, (Va.get bs).2 + (Va.get bs).1)) := by
    have : G = if (Va.get bs).2 = 0 ∨ 64 < (Va.get bs).1 ∨ len < (Va.get bs).2 + (Va.get bs).1 then ([], 0) else ((bs.drop (Va.get bs).2).take (Va.get bs).1, (Va.get bs).2 + (Va.get bs).1) := by rw [hG, keyOf, hlen.out]
    exact this
  clear hG
  generalize Va.get bs = R at *
  obtain ⟨u, n⟩ := R
  simp only at hgv hvle hvlt
  have H0 : Hid ((n = 0 ∨ 64 < u ∨ len < n + u) → G = ([], 0)) := (fun h => by rw [HG.out, if_pos h] : (n = 0 ∨ 64 < u ∨ len < n + u) → G = ([], 0))
  have H1 : Hid (¬ (n = 0 ∨ 64 < u ∨ len < n + u) → G = ((bs.drop n).take u, n + u)) := (fun h => by rw [HG.out, if_neg h] : ¬ (n = 0 ∨ 64 < u ∨ len < n + u) → G = ((bs.drop n).take u, n + u))
  clear HG
  by_cases hn : n = 0
  · subst hn
    rw [code_zero] at hgv
    have H : Hid (G = ([], 0)) := H0.out (.inl rfl)
    clear H0 H1
    go_enter Try.func45, Try.ntmps45
    go_wp2_with (go_at_call 44; go_must (refine hgv.mono ?_; rintro e w1 ⟨rfl, hw⟩; obtain rfl : w = w1 := hw.symm))
    go_ret3
    exact keyres_none H.out
  · have hc : code n = 0 := by unfold code; rw [if_neg hn]
    rw [hc] at hgv
    clear hc
    by_cases hu : 64 < u
    · have hdu : decide (64 < (u : Int)) = true := by simp; omega
      have H : Hid (G = ([], 0)) := H0.out (.inr (.inl hu))
      clear H0 H1
      go_enter Try.func45, Try.ntmps45
      go_wp2_with (go_at_call 44; go_must (refine hgv.mono ?_; rintro e w1 ⟨rfl, hw⟩; obtain rfl : w = w1 := hw.symm))
      go_ret3
      exact keyres_none H.out
    · have hdu : decide (64 < (u : Int)) = false := by simp; omega
      have j1 : IntKind.i64.wrap (u : Int) = (u : Int) := by rw [IntKind.wrap_i64]; omega
      have j2 : IntKind.i64.wrap ((len : Int) - (n : Int)) = (len : Int) - (n : Int) := by rw [IntKind.wrap_i64]; omega
      by_cases hs : len < n + u
      · have hds : decide ((len : Int) - (n : Int) < (u : Int)) = true := by simp; omega
        have H : Hid (G = ([], 0)) := H0.out (.inr (.inr hs))
        clear H0 H1
        go_enter Try.func45, Try.ntmps45
        go_wp2_with (go_at_call 44; go_must (refine hgv.mono ?_; rintro e w1 ⟨rfl, hw⟩; obtain rfl : w = w1 := hw.symm))
        go_ret3
        exact keyres_none H.out
      · have hds : decide ((len : Int) - (n : Int) < (u : Int)) = false := by simp; omega
        have H : Hid (G = ((bs.drop n).take u, n + u)) := H1.out (by omega)
        have hvl : Hid (((bs.drop n).take u).length = u) := (by rw [List.length_take, List.length_drop, hlen.out]; omega : ((bs.drop n).take u).length = u)
        obtain ⟨b, off, rfl, _⟩ := hr.at (by omega)
        have hvr : Row .u8 w (some ⟨b, off + n, none⟩) u ((bs.drop n).take u) := (hr.drop n (by omega)).take u (by omega)
        clear H0 H1 hr
        generalize (bs.drop n).take u = v at *
        obtain ⟨E1, hE1⟩ : ∃ E1 : Nat, E1 = n + u := ⟨_, rfl⟩
        have j3 : IntKind.i64.wrap ((n : Int) + (u : Int)) = (E1 : Int) := by rw [IntKind.wrap_i64]; omega
        have z1 : E1 - n = u := by omega
        have k1 : (0 : Int) ≤ (n : Int) := by omega
        have k2 : (n : Int) ≤ (E1 : Int) := by omega
        have k3 : (E1 : Int) ≤ (cap : Int) := by omega
        have hp : 0 < n + u := by omega
        have HE : Hid (E1 = n + u) := hE1
        clear hE1
        by_cases hcn : cap = n
        · subst hcn
          obtain rfl : u = 0 := by have := HE.out; omega
          obtain rfl : E1 = cap := by have := HE.out; omega
          obtain rfl : v = [] := List.length_eq_zero_iff.mp hvl.out
          have hcv := fun a c => conv_zero w a c
          go_enter Try.func45, Try.ntmps45
          go_wp2_with (go_at_call 44; go_must (refine hgv.mono ?_; rintro e w1 ⟨rfl, hw⟩; obtain rfl : w = w1 := hw.symm))
          go_ret3
          exact keyres_some (v := []) H.out hp (by omega)
        · have hcv := conv_row (cap := cap - n) hvr
          go_enter Try.func45, Try.ntmps45
          go_wp2_with (go_at_call 44; go_must (refine hgv.mono ?_; rintro e w1 ⟨rfl, hw⟩; obtain rfl : w = w1 := hw.symm))
          go_ret3
          exact keyres_some H.out hp HE.out
end Go.Proofs.Ytfejgedgmaljfaa

/- What the program's getEntry does. -/
namespace Go.Proofs.Ytfejgedgmaljfaa
open Go.RowKit

/-- one entry, in the order in which the program asks -/
theorem En.one_prog {bs : List Nat} {ix : Int} {t n : Nat} {K : List Nat × Nat} (h1 : Va.get bs = (t, n)) (h2 : keyOf (bs.drop (n + 1)) = K) :
    En.one bs ix = if n = 0 ∨ 2147483647 < t ∨ n = bs.length then (En.zero, 0) else if K.2 = 0 then (En.zero, 0)
      else if bs.getD n 0 = 2 then ((ix, (t : Int), 2, K.1, Ce.zero), n + 1 + K.2)
      else if (Ce.get (bs.drop (n + 1 + K.2))).2 = 0 then (En.zero, 0)
      else ((ix, (t : Int), ((bs.getD n 0 : Nat) : Int), K.1, (Ce.get (bs.drop (n + 1 + K.2))).1), n + 1 + K.2 + (Ce.get (bs.drop (n + 1 + K.2))).2) := by
  have hle := Va.get_le (bs := bs)
  rw [h1] at hle
  simp only at hle
  by_cases c1 : n = 0 ∨ 2147483647 < t
  · have e : En.number bs 2147483647 = (0, 0) := by unfold En.number; rw [h1, if_pos c1]
    rw [if_pos (by omega)]
    unfold En.one
    rw [e, if_pos (.inl rfl)]
  · have e : En.number bs 2147483647 = (t, n) := by unfold En.number; rw [h1, if_neg c1]
    by_cases c2 : n = bs.length
    · rw [if_pos (by omega)]
      unfold En.one
      rw [e, if_pos (.inr c2)]
    · rw [if_neg (by omega)]
      obtain ⟨u, k, hg⟩ : ∃ u k, Va.get (bs.drop (n + 1)) = (u, k) := ⟨_, _, rfl⟩
      have hd : (bs.drop (n + 1)).length = bs.length - (n + 1) := List.length_drop
      unfold keyOf at h2
      rw [hg, hd] at h2
      simp only at h2
      by_cases c3 : k = 0 ∨ 64 < u
      · have e2 : En.number (bs.drop (n + 1)) 64 = (0, 0) := by unfold En.number; rw [hg, if_pos c3]
        rw [if_pos (by omega)] at h2
        subst h2
        rw [if_pos rfl]
        unfold En.one
        rw [e]
        simp only
        rw [e2, if_neg (by omega), if_pos (.inl rfl)]
      · have e2 : En.number (bs.drop (n + 1)) 64 = (u, k) := by unfold En.number; rw [hg, if_neg c3]
        by_cases c4 : bs.length < n + 1 + k + u
        · rw [if_pos (by omega)] at h2
          subst h2
          rw [if_pos rfl]
          unfold En.one
          rw [e]
          simp only
          rw [e2, if_neg (by omega), if_pos (.inr c4)]
        · rw [if_neg (by omega)] at h2
          subst h2
          simp only
          rw [if_neg (by omega : ¬ (k + u = 0))]
          unfold En.one
          rw [e]
          simp only
          rw [e2, if_neg (by omega)]
          simp only
          rw [if_neg (by omega), List.drop_drop, show n + 1 + (k + u) = n + 1 + k + u by omega]

def PEnt (w : World) (R : En.E × Nat) (e : Ending) (w' : World) : Prop :=
  ∃ s a c, e = .returned (.tuple #[ev R.1.1 R.1.2.1 R.1.2.2.1 s R.1.2.2.2.2.1 a R.1.2.2.2.2.2.1.length c R.1.2.2.2.2.2.2, .int .i64 (R.2 : Nat), .int .i64 (code R.2 : Nat)]) ∧ kb s = R.1.2.2.2.1 ∧ Row .u8 w' a R.1.2.2.2.2.2.1.length R.1.2.2.2.2.2.1 ∧ (a = none → R.1.2.2.2.2.2.1.length = 0 ∧ c = 0) ∧ w'.ownsRow w.heap.size 5 1 (.slice a R.1.2.2.2.2.2.1.length c) R.1.2.2.2.2.2.1.length (kcells .u8 R.1.2.2.2.2.2.1) ∧ Below w.heap.size w w'
theorem pent_zero {w W : World} {G : En.E × Nat} (hG : G = (En.zero, 0)) (hb : Below w.heap.size w W) : PEnt w G (.returned (.tuple #[ev 0 0 0 ⟨#[]⟩ false none 0 0 Po.zero, .int .i64 0, .int .i64 2])) W := by
  subst hG
  exact ⟨⟨#[]⟩, none, 0, rfl, rfl, ⟨rfl, by simp [En.zero, Ce.zero], by simp [En.zero, Ce.zero], .inl rfl⟩, fun _ => ⟨rfl, rfl⟩, ⟨rfl, .inl ⟨rfl, rfl⟩⟩, hb⟩
theorem pent_some {w W : World} {G : En.E × Nat} {i t k : Int} {s : ByteArray} {key : List Nat} {f : Bool} {a : Option Addr} {n c m : Nat} {bs : List Nat} {p : Po.P} (hG : G = ((i, t, k, key, (f, bs, p)), m)) (hm : 0 < m) (hk : kb s = key) (hn : bs.length = n) (hr : Row .u8 W a n bs) (hnil : a = none → n = 0 ∧ c = 0) (hown : W.ownsRow w.heap.size 5 1 (.slice a n c) n (kcells .u8 bs)) (hb : Below w.heap.size w W) :
    PEnt w G (.returned (.tuple #[ev i t k s f a n c p, .int .i64 (m : Nat), .int .i64 0])) W := by
  subst hG; subst hn
  have hc : code m = 0 := by unfold code; rw [if_neg (by omega)]
  refine ⟨s, a, c, ?_, hk, hr, hnil, hown, hb⟩
  simp only [hc]; rfl

/-- two blocks of ten cells of the call's own -/
theorem twenty_keep {w W : World} {c0 c1 c2 c3 c4 c5 c6 c7 c8 c9 d0 d1 d2 d3 d4 d5 d6 d7 d8 d9 : Value} {e e' : TypeId} (h : Below ((w.alloc (.cells #[c0, c1, c2, c3, c4, c5, c6, c7, c8, c9] e)).alloc (.cells #[d0, d1, d2, d3, d4, d5, d6, d7, d8, d9] e')).heap.size ((w.alloc (.cells #[c0, c1, c2, c3, c4, c5, c6, c7, c8, c9] e)).alloc (.cells #[d0, d1, d2, d3, d4, d5, d6, d7, d8, d9] e')) W) :
    Ten W w.heap.size c0 c1 c2 c3 c4 c5 c6 c7 c8 c9 ∧ Ten W (w.heap.size + 1) d0 d1 d2 d3 d4 d5 d6 d7 d8 d9 ∧ Below w.heap.size w W ∧ w.heap.size + 1 < W.heap.size := by
  have hs : (w.alloc (.cells #[c0, c1, c2, c3, c4, c5, c6, c7, c8, c9] e)).heap.size = w.heap.size + 1 := by simp
  have k := ten_new h
  have k2 := (ten_keep h).2.1
  rw [hs] at k k2
  have hb := (below_alloc (w.alloc (.cells #[c0, c1, c2, c3, c4, c5, c6, c7, c8, c9] e)) (.cells #[d0, d1, d2, d3, d4, d5, d6, d7, d8, d9] e')).trans (h.mono (by simp))
  exact ⟨ten_new hb, k, (ten_keep hb).2.2, k2⟩

set_option maxRecDepth 100000 in
set_option maxHeartbeats 2000000 in
theorem pent_head (a : Option Addr) (len cap t n : Nat) (w : World) (G : En.E × Nat) (hlc : len ≤ cap) (hnl : n ≤ len) (hbig : len ≤ 100000)
    (hgv : ∀ W, Below w.heap.size w W → Calls Try.prog 44 #[.slice a len cap] W fun e w' => e = .returned (.tuple #[.int .u64 (t : Nat), .int .i64 (n : Nat), .int .i64 (code n : Nat)]) ∧ w' = W)
    (H : Hid (G = (En.zero, 0))) (h : n = 0 ∨ 2147483647 < t ∨ n = len) :
    Calls Try.prog 33 #[.slice a len cap] w (PEnt w G) := by
  have hb0 := below_alloc w (.cells #[.int .i64 0, .int .i64 0, .int .i64 0, .string ⟨#[]⟩, .bool false, .slice none 0 0, .int .i64 0, .int .i64 0, .int .i64 0, .int .u32 0] 34)
  obtain ⟨⟨m0, m1, m2, m3, m4, m5, m6, m7, m8, m9⟩, ⟨g0, g1, g2, g3, g4, g5, g6, g7, g8, g9⟩⟩ := ten_new (w := w) (Below.refl _ (w.alloc (.cells #[.int .i64 0, .int .i64 0, .int .i64 0, .string ⟨#[]⟩, .bool false, .slice none 0 0, .int .i64 0, .int .i64 0, .int .i64 0, .int .u32 0] 34)))
  by_cases hn : n = 0
  · subst hn
    rw [code_zero] at hgv
    clear h
    go_enter Try.func33, Try.ntmps33
    go_wp2_with (go_at_call 44; go_must (refine (hgv _ hb0).mono ?_; rintro e w1 ⟨rfl, rfl⟩))
    exact bodyPost_ret (v := .tuple #[ev 0 0 0 ⟨#[]⟩ false none 0 0 Po.zero, .int .i64 0, .int .i64 2]) (by simp [ev, Po.zero, results, Try.results33, go_sem, m0, m1, m2, m3, m4, m5, m6, m7, m8, m9]) rfl (pent_zero H.out hb0)
  · have hc : code n = 0 := by unfold code; rw [if_neg hn]
    rw [hc] at hgv
    clear hc
    by_cases ht : 2147483647 < t
    · have hdt : decide (2147483647 < (t : Int)) = true := by simp; omega
      clear h
      go_enter Try.func33, Try.ntmps33
      go_wp2_with (go_at_call 44; go_must (refine (hgv _ hb0).mono ?_; rintro e w1 ⟨rfl, rfl⟩))
      exact bodyPost_ret (v := .tuple #[ev 0 0 0 ⟨#[]⟩ false none 0 0 Po.zero, .int .i64 0, .int .i64 2]) (by simp [ev, Po.zero, results, Try.results33, go_sem, m0, m1, m2, m3, m4, m5, m6, m7, m8, m9]) rfl (pent_zero H.out hb0)
    · have hdt : decide (2147483647 < (t : Int)) = false := by simp; omega
      obtain rfl : n = len := by omega
      clear h
      go_enter Try.func33, Try.ntmps33
      go_wp2_with (go_at_call 44; go_must (refine (hgv _ hb0).mono ?_; rintro e w1 ⟨rfl, rfl⟩))
      exact bodyPost_ret (v := .tuple #[ev 0 0 0 ⟨#[]⟩ false none 0 0 Po.zero, .int .i64 0, .int .i64 2]) (by simp [ev, Po.zero, results, Try.results33, go_sem, m0, m1, m2, m3, m4, m5, m6, m7, m8, m9]) rfl (pent_zero H.out hb0)
end Go.Proofs.Ytfejgedgmaljfaa

/- What the program's getEntry does. -/
namespace Go.Proofs.Ytfejgedgmaljfaa
open Go.RowKit

set_option maxRecDepth 100000 in
set_option maxHeartbeats 4000000 in
theorem pent_body (b off len cap t n N1 A kd : Nat) (v : List Nat) (k : Nat) (w : World) (G : En.E × Nat) (fr : Bool) (vb : List Nat) (ps py pl : Int) (pm m : Nat) (hlc : len ≤ cap) (hbig : len ≤ 100000) (hn0 : 0 < n) (hnl : n < len) (ht : t ≤ 2147483647)
    (hgv : ∀ W, Below w.heap.size w W → Calls Try.prog 44 #[.slice (some ⟨b, off, none⟩) len cap] W fun e w' => e = .returned (.tuple #[.int .u64 (t : Nat), .int .i64 (n : Nat), .int .i64 0]) ∧ w' = W)
    (hN1 : Hid (N1 = n + 1)) (hA : Hid (A = N1 + k)) (hAl : A ≤ len)
    (hkd : w.cell? ⟨b, off + n, none⟩ = some (.int .u8 (kd : Nat))) (hkd8 : kd < 256) (hv8 : ∀ x ∈ v, x < 256)
    (hky : ∀ W a' z c', Below w.heap.size w W → z = len - N1 → ((z = 0 ∧ c' = 0) ∨ (a' = some ⟨b, off + N1, none⟩ ∧ c' = cap - N1)) → Calls Try.prog 45 #[.slice a' z c'] W fun e w' => e = .returned (.tuple #[.string (bstr v), .int .i64 (k : Nat), .int .i64 (code k : Nat)]) ∧ w' = W)
    (hcg : ∀ W a' z c', Below w.heap.size w W → z = len - A → ((z = 0 ∧ c' = 0) ∨ (a' = some ⟨b, off + A, none⟩ ∧ c' = cap - A)) → Calls Try.prog 46 #[.slice a' z c'] W (CGetOwn W ((fr, vb, ps, py, pl, pm), m)))
    (hml : m ≤ len - A) (hk0v : k = 0 → v = [])
    (HG : Hid (G = if k = 0 then (En.zero, 0) else if kd = 2 then ((0, (t : Int), 2, v, Ce.zero), A) else if m = 0 then (En.zero, 0) else ((0, (t : Int), (kd : Int), v, (fr, vb, ps, py, pl, pm)), A + m))) :
    Calls Try.prog 33 #[.slice (some ⟨b, off, none⟩) len cap] w (PEnt w G) := by
  have qa := hN1.out
  have qb := hA.out
  have hb0 := below_alloc w (.cells #[.int .i64 0, .int .i64 0, .int .i64 0, .string ⟨#[]⟩, .bool false, .slice none 0 0, .int .i64 0, .int .i64 0, .int .i64 0, .int .u32 0] 34)
  have hbE : Below w.heap.size w ((w.alloc (.cells #[.int .i64 0, .int .i64 0, .int .i64 0, .string ⟨#[]⟩, .bool false, .slice none 0 0, .int .i64 0, .int .i64 0, .int .i64 0, .int .u32 0] 34)).alloc (.cells #[.int .i64 0, .int .i64 (t : Nat), .int .i64 (kd : Nat), .string ⟨#[]⟩, .bool false, .slice none 0 0, .int .i64 0, .int .i64 0, .int .i64 0, .int .u32 0] 34)) := hb0.alloc hb0.size _
  have hbE2 : Below w.heap.size w ((w.alloc (.cells #[.int .i64 0, .int .i64 0, .int .i64 0, .string ⟨#[]⟩, .bool false, .slice none 0 0, .int .i64 0, .int .i64 0, .int .i64 0, .int .u32 0] 34)).alloc (.cells #[.int .i64 0, .int .i64 (t : Nat), .int .i64 (kd : Nat), .string (bstr v), .bool false, .slice none 0 0, .int .i64 0, .int .i64 0, .int .i64 0, .int .u32 0] 34)) := hb0.alloc hb0.size _
  have hkd1 := (hb0.cell (p := ⟨b, off + n, none⟩) (cell_lt hkd)).trans hkd
  have j1 : (0 : Int) ≤ (n : Int) := by omega
  have j2 : (n : Int) < (len : Int) := by omega
  have hd2 : ((n : Int) == (len : Int)) = false := by simp; omega
  have hdt : decide (2147483647 < (t : Int)) = false := by simp; omega
  have j3 : IntKind.i64.wrap ((n : Int) + 1) = (N1 : Int) := by rw [IntKind.wrap_i64]; omega
  have j4 : IntKind.i64.wrap ((N1 : Int) + (k : Int)) = (A : Int) := by rw [IntKind.wrap_i64]; omega
  have j5 : IntKind.i64.wrap (t : Int) = (t : Int) := by rw [IntKind.wrap_i64]; omega
  have j11 : IntKind.i64.wrap (kd : Int) = (kd : Int) := by rw [IntKind.wrap_i64]; omega
  have j6 : (N1 : Int) ≤ (len : Int) := by omega
  have j7 : (len : Int) ≤ (cap : Int) := by omega
  have j8 : (N1 : Int) ≤ (cap : Int) := by omega
  have j9 : (A : Int) ≤ (len : Int) := by omega
  have j10 : (A : Int) ≤ (cap : Int) := by omega
  by_cases hk : k = 0
  · subst hk
    obtain rfl : v = [] := hk0v rfl
    rw [code_zero] at hky
    simp only [bstr_nil] at hky
    have H : Hid (G = (En.zero, 0)) := (by rw [HG.out, if_pos rfl] : G = (En.zero, 0))
    obtain ⟨⟨⟨m0, m1, m2, m3, m4, m5, m6, m7, m8, m9⟩, ⟨g0, g1, g2, g3, g4, g5, g6, g7, g8, g9⟩⟩, ⟨⟨q0, q1, q2, q3, q4, q5, q6, q7, q8, q9⟩, ⟨f0, f1, f2, f3, f4, f5, f6, f7, f8, f9⟩⟩, hb3, hs3⟩ := twenty_keep (w := w) (Below.refl _ ((w.alloc (.cells #[.int .i64 0, .int .i64 0, .int .i64 0, .string ⟨#[]⟩, .bool false, .slice none 0 0, .int .i64 0, .int .i64 0, .int .i64 0, .int .u32 0] 34)).alloc (.cells #[.int .i64 0, .int .i64 (t : Nat), .int .i64 (kd : Nat), .string ⟨#[]⟩, .bool false, .slice none 0 0, .int .i64 0, .int .i64 0, .int .i64 0, .int .u32 0] 34)))
    clear HG hcg qa qb hkd hA
    by_cases hcN : cap = N1
    · subst hcN
      obtain rfl : len = cap := by omega
      go_enter Try.func33, Try.ntmps33
      go_wp2_with (first | (go_at_call 44; go_must (refine (hgv _ hb0).mono ?_; rintro e w1 ⟨rfl, rfl⟩)) | (go_at_call 45; go_must (refine (hky _ _ 0 0 hbE (by omega) (.inl ⟨rfl, rfl⟩)).mono ?_; rintro e w2 ⟨rfl, rfl⟩)))
      exact bodyPost_ret (v := .tuple #[ev 0 0 0 ⟨#[]⟩ false none 0 0 Po.zero, .int .i64 0, .int .i64 2]) (by simp [ev, Po.zero, results, Try.results33, go_sem, m0, m1, m2, m3, m4, m5, m6, m7, m8, m9]) rfl (pent_zero H.out hbE)
    · go_enter Try.func33, Try.ntmps33
      go_wp2_with (first | (go_at_call 44; go_must (refine (hgv _ hb0).mono ?_; rintro e w1 ⟨rfl, rfl⟩)) | (go_at_call 45; go_must (refine (hky _ _ _ _ hbE (by omega) (.inr ⟨rfl, by omega⟩)).mono ?_; rintro e w2 ⟨rfl, rfl⟩)))
      exact bodyPost_ret (v := .tuple #[ev 0 0 0 ⟨#[]⟩ false none 0 0 Po.zero, .int .i64 0, .int .i64 2]) (by simp [ev, Po.zero, results, Try.results33, go_sem, m0, m1, m2, m3, m4, m5, m6, m7, m8, m9]) rfl (pent_zero H.out hbE)
  · have hc : code k = 0 := by unfold code; rw [if_neg hk]
    rw [hc] at hky
    have hcN : ¬ (cap = N1) := by omega
    have hAp : 0 < A := by omega
    have HG2 : Hid (G = if kd = 2 then ((0, (t : Int), 2, v, Ce.zero), A) else if m = 0 then (En.zero, 0) else ((0, (t : Int), (kd : Int), v, (fr, vb, ps, py, pl, pm)), A + m)) := (by rw [HG.out, if_neg hk] : G = if kd = 2 then ((0, (t : Int), 2, v, Ce.zero), A) else if m = 0 then (En.zero, 0) else ((0, (t : Int), (kd : Int), v, (fr, vb, ps, py, pl, pm)), A + m))
    clear hc HG qa qb hkd hk0v
    by_cases hk2 : kd = 2
    · subst hk2
      have H : Hid (G = ((0, (t : Int), 2, v, Ce.zero), A)) := (by rw [HG2.out, if_pos rfl] : G = ((0, (t : Int), 2, v, Ce.zero), A))
      obtain ⟨⟨⟨m0, m1, m2, m3, m4, m5, m6, m7, m8, m9⟩, ⟨g0, g1, g2, g3, g4, g5, g6, g7, g8, g9⟩⟩, ⟨⟨q0, q1, q2, q3, q4, q5, q6, q7, q8, q9⟩, ⟨f0, f1, f2, f3, f4, f5, f6, f7, f8, f9⟩⟩, hb3, hs3⟩ := twenty_keep (w := w) (Below.refl _ ((w.alloc (.cells #[.int .i64 0, .int .i64 (t : Nat), .int .i64 2, .string (bstr v), .bool false, .slice none 0 0, .int .i64 0, .int .i64 0, .int .i64 0, .int .u32 0] 34)).alloc (.cells #[.int .i64 0, .int .i64 (t : Nat), .int .i64 2, .string (bstr v), .bool false, .slice none 0 0, .int .i64 0, .int .i64 0, .int .i64 0, .int .u32 0] 34)))
      have hbE3 : Below w.heap.size w ((w.alloc (.cells #[.int .i64 0, .int .i64 (t : Nat), .int .i64 2, .string (bstr v), .bool false, .slice none 0 0, .int .i64 0, .int .i64 0, .int .i64 0, .int .u32 0] 34)).alloc (.cells #[.int .i64 0, .int .i64 (t : Nat), .int .i64 2, .string (bstr v), .bool false, .slice none 0 0, .int .i64 0, .int .i64 0, .int .i64 0, .int .u32 0] 34)) := (below_alloc _ _).alloc (by simp) _
      have hbE : Below w.heap.size w ((w.alloc (.cells #[.int .i64 0, .int .i64 0, .int .i64 0, .string ⟨#[]⟩, .bool false, .slice none 0 0, .int .i64 0, .int .i64 0, .int .i64 0, .int .u32 0] 34)).alloc (.cells #[.int .i64 0, .int .i64 (t : Nat), .int .i64 2, .string ⟨#[]⟩, .bool false, .slice none 0 0, .int .i64 0, .int .i64 0, .int .i64 0, .int .u32 0] 34)) := hb0.alloc hb0.size _
      clear HG2 hcg hbE2
      go_enter Try.func33, Try.ntmps33
      go_wp2_with (first | (go_at_call 44; go_must (refine (hgv _ hb0).mono ?_; rintro e w1 ⟨rfl, rfl⟩)) | (go_at_call 45; go_must (refine (hky _ _ _ _ hbE (by omega) (.inr ⟨rfl, by omega⟩)).mono ?_; rintro e w2 ⟨rfl, rfl⟩)))
      exact bodyPost_ret (v := .tuple #[ev 0 t 2 (bstr v) false none 0 0 Po.zero, .int .i64 (A : Nat), .int .i64 0]) (by simp [ev, Po.zero, results, Try.results33, go_sem, m0, m1, m2, m3, m4, m5, m6, m7, m8, m9]) rfl (pent_some H.out hAp (kb_bstr hv8) rfl ⟨rfl, by omega, by simp, .inl rfl⟩ (fun _ => ⟨rfl, rfl⟩) ⟨rfl, .inl ⟨rfl, rfl⟩⟩ hbE3)
    · have hdd : ((kd : Int) == 2) = false := by simp; omega
      unfold CGetOwn at hcg
      simp only [cv] at hcg
      by_cases hm : m = 0
      · subst hm
        have H : Hid (G = (En.zero, 0)) := (by rw [HG2.out, if_neg hk2, if_pos rfl] : G = (En.zero, 0))
        rw [code_zero] at hcg
        clear HG2
        by_cases hcA : cap = A
        · subst hcA
          obtain rfl : len = cap := by omega
          go_enter Try.func33, Try.ntmps33
          go_wp2_with (first | (go_at_call 46; go_must (refine (hcg _ _ 0 0 hbE2 (by omega) (.inl ⟨rfl, rfl⟩)).mono ?_; rintro e w3 ⟨a3, c3, rfl, r3, nl3, ow3, hbel3⟩; obtain ⟨⟨⟨m0, m1, m2, m3, m4, m5, m6, m7, m8, m9⟩, ⟨g0, g1, g2, g3, g4, g5, g6, g7, g8, g9⟩⟩, ⟨⟨q0, q1, q2, q3, q4, q5, q6, q7, q8, q9⟩, ⟨f0, f1, f2, f3, f4, f5, f6, f7, f8, f9⟩⟩, hb3, hs3⟩ := twenty_keep hbel3)) | (go_at_call 44; go_must (refine (hgv _ hb0).mono ?_; rintro e w1 ⟨rfl, rfl⟩)) | (go_at_call 45; go_must (refine (hky _ _ _ _ hbE (by omega) (.inr ⟨rfl, by omega⟩)).mono ?_; rintro e w2 ⟨rfl, rfl⟩)))
          exact bodyPost_ret (v := .tuple #[ev 0 0 0 ⟨#[]⟩ false none 0 0 Po.zero, .int .i64 0, .int .i64 2]) (by simp [ev, Po.zero, results, Try.results33, go_sem, m0, m1, m2, m3, m4, m5, m6, m7, m8, m9]) rfl (pent_zero H.out (below_ten (below_cell6 hb3 (Nat.le_succ _) _ _ _ _ _ _) _ _ _ _ _ _ _ _ _ _))
        · go_enter Try.func33, Try.ntmps33
          go_wp2_with (first | (go_at_call 46; go_must (refine (hcg _ _ _ _ hbE2 (by omega) (.inr ⟨rfl, by omega⟩)).mono ?_; rintro e w3 ⟨a3, c3, rfl, r3, nl3, ow3, hbel3⟩; obtain ⟨⟨⟨m0, m1, m2, m3, m4, m5, m6, m7, m8, m9⟩, ⟨g0, g1, g2, g3, g4, g5, g6, g7, g8, g9⟩⟩, ⟨⟨q0, q1, q2, q3, q4, q5, q6, q7, q8, q9⟩, ⟨f0, f1, f2, f3, f4, f5, f6, f7, f8, f9⟩⟩, hb3, hs3⟩ := twenty_keep hbel3)) | (go_at_call 44; go_must (refine (hgv _ hb0).mono ?_; rintro e w1 ⟨rfl, rfl⟩)) | (go_at_call 45; go_must (refine (hky _ _ _ _ hbE (by omega) (.inr ⟨rfl, by omega⟩)).mono ?_; rintro e w2 ⟨rfl, rfl⟩)))
          exact bodyPost_ret (v := .tuple #[ev 0 0 0 ⟨#[]⟩ false none 0 0 Po.zero, .int .i64 0, .int .i64 2]) (by simp [ev, Po.zero, results, Try.results33, go_sem, m0, m1, m2, m3, m4, m5, m6, m7, m8, m9]) rfl (pent_zero H.out (below_ten (below_cell6 hb3 (Nat.le_succ _) _ _ _ _ _ _) _ _ _ _ _ _ _ _ _ _))
      · have hcm : code m = 0 := by unfold code; rw [if_neg hm]
        have H : Hid (G = ((0, (t : Int), (kd : Int), v, (fr, vb, ps, py, pl, pm)), A + m)) := (by rw [HG2.out, if_neg hk2, if_neg hm] : G = ((0, (t : Int), (kd : Int), v, (fr, vb, ps, py, pl, pm)), A + m))
        rw [hcm] at hcg
        have j12 : IntKind.i64.wrap ((A : Int) + (m : Int)) = (A : Int) + (m : Int) := by rw [IntKind.wrap_i64]; omega
        have hcA : ¬ (cap = A) := by omega
        clear HG2 hcm
        go_enter Try.func33, Try.ntmps33
        go_wp2_with (first | (go_at_call 46; go_must (refine (hcg _ _ _ _ hbE2 (by omega) (.inr ⟨rfl, by omega⟩)).mono ?_; rintro e w3 ⟨a3, c3, rfl, r3, nl3, ow3, hbel3⟩; obtain ⟨⟨⟨m0, m1, m2, m3, m4, m5, m6, m7, m8, m9⟩, ⟨g0, g1, g2, g3, g4, g5, g6, g7, g8, g9⟩⟩, ⟨⟨q0, q1, q2, q3, q4, q5, q6, q7, q8, q9⟩, ⟨f0, f1, f2, f3, f4, f5, f6, f7, f8, f9⟩⟩, hb3, hs3⟩ := twenty_keep hbel3)) | (go_at_call 44; go_must (refine (hgv _ hb0).mono ?_; rintro e w1 ⟨rfl, rfl⟩)) | (go_at_call 45; go_must (refine (hky _ _ _ _ hbE (by omega) (.inr ⟨rfl, by omega⟩)).mono ?_; rintro e w2 ⟨rfl, rfl⟩)))
        have hab : ∀ b o, a3 = some ⟨b, o, none⟩ → w.heap.size + 1 < b := fun b o e => Nat.lt_of_lt_of_le (by simp) (own_above ow3 b o e)
        have hab2 : ∀ b o, a3 = some ⟨b, o, none⟩ → w.heap.size < b := fun b o e => Nat.lt_of_succ_lt (hab b o e)
        have ow4 := ow3.mono (base' := w.heap.size) (by simp only [World.size_alloc]; omega)
        exact bodyPost_ret (v := .tuple #[ev 0 t kd (bstr v) fr a3 vb.length c3 (ps, py, pl, pm), .int .i64 ((A + m : Nat) : Int), .int .i64 0]) (by simp [ev, results, Try.results33, go_sem, m0, m1, m2, m3, m4, m5, m6, m7, m8, m9]) rfl (pent_some H.out (by omega) (kb_bstr hv8) rfl (row_ten (row_cell6 r3 hab _ _ _ _ _ _) hab2 _ _ _ _ _ _ _ _ _ _) nl3 (own_ten (own_cell6 ow4 hab _ _ _ _ _ _) hab2 _ _ _ _ _ _ _ _ _ _) (below_ten (below_cell6 hb3 (Nat.le_succ _) _ _ _ _ _ _) _ _ _ _ _ _ _ _ _ _))

theorem getentry_any (a : Option Addr) (len cap : Nat) (bs : List Nat) (w : World) (hlc : len ≤ cap) (hbig : len ≤ 100000) (hr : Row .u8 w a len bs) :
    Calls Try.prog 33 #[.slice a len cap] w (PEnt w (En.one bs 0)) := by
  have hlen := hr.1
  have hle := Va.get_le (bs := bs)
  rw [hlen] at hle
  obtain ⟨t, n, e1⟩ : ∃ t n, Va.get bs = (t, n) := ⟨_, _, rfl⟩
  obtain ⟨v, k, e2⟩ : ∃ v k, keyOf (bs.drop (n + 1)) = (v, k) := ⟨_, _, rfl⟩
  have HG := En.one_prog (ix := 0) e1 e2
  rw [e1] at hle
  simp only at hle HG
  have hgv : ∀ W, Below w.heap.size w W → Calls Try.prog 44 #[.slice a len cap] W fun e w' => e = .returned (.tuple #[.int .u64 (t : Nat), .int .i64 (n : Nat), .int .i64 (code n : Nat)]) ∧ w' = W := fun W hW => by
    have := get_any a len cap bs W (hr.below hW (Nat.le_refl _))
    rw [e1] at this
    exact this
  by_cases h : n = 0 ∨ 2147483647 < t ∨ n = len
  · exact pent_head a len cap t n w _ hlc hle hbig hgv (by rw [if_pos (by rw [hlen]; exact h)] at HG; exact HG) h
  · rw [if_neg (by rw [hlen]; exact h)] at HG
    have hc : code n = 0 := by unfold code; rw [if_neg (by omega)]
    rw [hc] at hgv
    obtain ⟨b, off, rfl, _⟩ := hr.at (by omega)
    have hkd := hr.cell n (by omega)
    have hkd8 := getD_lt8 hr.2.2.1 n
    have hkl := keyOf_le (bs.drop (n + 1))
    rw [e2, List.length_drop, hlen] at hkl
    simp only at hkl
    have hcl := Ce.get_le (bs.drop (n + 1 + k))
    rw [List.length_drop, hlen] at hcl
    have hv8 : ∀ x ∈ v, x < 256 := by
      intro x hx
      have e3 : v = (keyOf (bs.drop (n + 1))).1 := by rw [e2]
      rw [e3] at hx
      unfold keyOf at hx
      split at hx
      · cases hx
      · exact hr.2.2.1 x (List.mem_of_mem_drop (List.mem_of_mem_drop (List.mem_of_mem_take hx)))
    have hk0v : k = 0 → v = [] := by
      intro h0
      have e3 : (keyOf (bs.drop (n + 1))) = (v, 0) := by rw [e2, h0]
      unfold keyOf at e3
      split at e3
      · exact (Prod.mk.inj e3).1.symm
      · next c => have := (Prod.mk.inj e3).2; omega
    have hky : ∀ W a' z c', Below w.heap.size w W → z = len - (n + 1) → ((z = 0 ∧ c' = 0) ∨ (a' = some ⟨b, off + (n + 1), none⟩ ∧ c' = cap - (n + 1))) → Calls Try.prog 45 #[.slice a' z c'] W fun e w' => e = .returned (.tuple #[.string (bstr v), .int .i64 (k : Nat), .int .i64 (code k : Nat)]) ∧ w' = W := fun W a' z c' hW hz hc => by
      have h1 := (hr.below hW (Nat.le_refl _)).drop (n + 1) (by omega)
      rcases hc with ⟨rfl, rfl⟩ | ⟨rfl, rfl⟩
      · have := getkey_any a' 0 0 _ W (Nat.le_refl _) (by omega) ⟨by rw [List.length_drop, hlen]; omega, by omega, h1.2.2.1, .inl rfl⟩
        rw [e2] at this
        exact this
      · subst hz
        have := getkey_any _ _ (cap - (n + 1)) _ W (by omega) (by omega) h1
        rw [e2] at this
        exact this
    have hcg : ∀ W a' z c', Below w.heap.size w W → z = len - (n + 1 + k) → ((z = 0 ∧ c' = 0) ∨ (a' = some ⟨b, off + (n + 1 + k), none⟩ ∧ c' = cap - (n + 1 + k))) → Calls Try.prog 46 #[.slice a' z c'] W (CGetOwn W (Ce.get (bs.drop (n + 1 + k)))) := fun W a' z c' hW hz hc => by
      have h1 := (hr.below hW (Nat.le_refl _)).drop (n + 1 + k) (by omega)
      rcases hc with ⟨rfl, rfl⟩ | ⟨rfl, rfl⟩
      · exact cget_own a' 0 0 _ W (Nat.le_refl _) (by omega) ⟨by rw [List.length_drop, hlen]; omega, by omega, h1.2.2.1, .inl rfl⟩
      · subst hz
        exact cget_own _ _ _ _ W (by omega) (by omega) h1
    generalize En.one bs 0 = G at *
    generalize bs.getD n 0 = kd at *
    generalize Ce.get (bs.drop (n + 1 + k)) = R at *
    obtain ⟨⟨fr, vb, ps, py, pl, pm⟩, m⟩ := R
    simp only at HG hcl
    refine pent_body b off len cap t n (n + 1) (n + 1 + k) kd v k w G fr vb ps py pl pm m hlc hbig (by omega) (by omega) (by omega) hgv rfl rfl (by omega) hkd hkd8 hv8 hky hcg hcl hk0v ?_
    have : G = if k = 0 then (En.zero, 0) else if kd = 2 then ((0, (t : Int), 2, v, Ce.zero), n + 1 + k) else if m = 0 then (En.zero, 0) else ((0, (t : Int), (kd : Int), v, (fr, vb, ps, py, pl, pm)), n + 1 + k + m) := HG
    exact this
end Go.Proofs.Ytfejgedgmaljfaa
