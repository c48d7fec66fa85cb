/- Edits: the first one of bytes, as the reference reads it. -/
import Derived.Test.YtkbnojjjfonniaaEU
namespace Go.Proofs.Ytkbnojjjfonniaa
open Go.RowKit

namespace Ed
def letterAt (e : E) (l : List Nat) (j c : Nat) : E :=
  if c = 78 then { e with num := l.getD j 0 } else if c = 73 then { e with index := l.getD j 0 } else if c = 84 then { e with term := l.getD j 0 }
  else if c = 72 then { e with ht := l.getD j 0, hv := l.getD (j + 1) 0, hc := l.getD (j + 2) 0 }
  else if c = 66 then { e with tab := ⟨l.getD 0 0, l.getD 1 0, l.getD 2 0, ⟨#[]⟩, ⟨#[]⟩⟩ } else e
def fillTo (k : Int) (l : List Nat) : Nat → E
  | 0 => { zero with kind := k }
  | j + 1 => letterAt (fillTo k l j) l j ((parts k).getD j 0)
theorem fillTo_end {k : Int} {l : List Nat} (hp : parts k ≠ []) (hl : l.length = cnt k) : fillTo k l (parts k).length = fill k l := by
  obtain ⟨c1, c2, c3, c4, c5, c6, c7, c8, c9⟩ := cnt_of
  rcases kinds k with rfl | rfl | rfl | rfl | rfl | rfl | rfl | rfl | rfl | h1
  · rw [c1] at hl; obtain ⟨a, rfl⟩ := len1 hl; rfl
  · rw [c2] at hl; obtain ⟨a, b, rfl⟩ := len2 hl; rfl
  · rw [c3] at hl; obtain ⟨a, rfl⟩ := len1 hl; rfl
  · rw [c4] at hl; obtain ⟨a, b, c, rfl⟩ := len3 hl; rfl
  · rw [c5] at hl; obtain ⟨a, rfl⟩ := len1 hl; rfl
  · rw [c6] at hl; obtain ⟨a, b, c, rfl⟩ := len3 hl; rfl
  · rw [c7] at hl; obtain ⟨a, rfl⟩ := len1 hl; rfl
  · rw [c8] at hl; obtain ⟨a, b, c, d, e, f, rfl⟩ := len6 hl; rfl
  · rw [c9] at hl; obtain ⟨a, rfl⟩ := len1 hl; rfl
  · exact absurd (parts_none h1) hp
theorem parts_room (k : Int) (j : Nat) (hj : j < (parts k).length) : j < cnt k ∧ ((parts k).getD j 0 = 72 → j + 2 < cnt k) ∧ ((parts k).getD j 0 = 66 → 2 < cnt k) := by
  rcases kinds k with rfl | rfl | rfl | rfl | rfl | rfl | rfl | rfl | rfl | h1
  case inr.inr.inr.inr.inr.inr.inr.inr.inr => rw [parts_none h1] at hj; simp at hj
  all_goals
    have hj' := hj
    simp [parts] at hj'
    match j, hj' with
    | 0, _ => decide
    | 1, _ => first | decide | (simp [parts] at hj; done)
    | 2, _ => first | decide | (simp [parts] at hj; done)
    | 3, _ => first | decide | (simp [parts] at hj; done)
    | j + 4, h => omega
theorem nums_zero (k : Int) : ∀ x ∈ nums { zero with kind := k }, 0 ≤ x ∧ x ≤ 2147483647 := by
  intro x hx
  obtain ⟨c, _, hx⟩ := List.mem_flatMap.mp hx
  have : x = 0 := by
    unfold letter at hx
    repeat' split at hx
    all_goals (simp [zero, Lv.zero] at hx; try exact hx)
  omega
theorem nread_no {N j : Nat} (hj : j < N) {bs : List Nat} {a : Nat} {l : List Nat} (h : (number (bs.drop a)).2 = 0) : nread (N - j) bs a l = none := by
  rw [show N - j = (N - (j + 1)) + 1 by omega, nread, if_pos h]
theorem nread_yes {N j : Nat} (hj : j < N) {bs : List Nat} {a u k : Nat} {l : List Nat} (h : number (bs.drop a) = (u, k)) (hk : k ≠ 0) : nread (N - j) bs a l = nread (N - (j + 1)) bs (a + k) (l ++ [u]) := by
  rw [show N - j = (N - (j + 1)) + 1 by omega, nread, h, if_neg hk]
theorem number_le (bs : List Nat) : (number bs).2 ≤ bs.length ∧ (number bs).1 ≤ 2147483647 := by
  unfold number
  split
  · exact ⟨by simp, by simp⟩
  · exact ⟨Va.get_le, by omega⟩
theorem fillTo_kind (k : Int) (l : List Nat) : ∀ j, (fillTo k l j).kind = k
  | 0 => rfl
  | j + 1 => by
    unfold fillTo letterAt
    repeat' split
    all_goals exact fillTo_kind k l j
theorem rtext_no {bs : List Nat} {A u k : Nat} (h : number (bs.drop A) = (u, k)) (hk : k = 0 ∨ bs.length < A + k + u) : rtext bs A = none := by
  unfold rtext
  rw [h, if_pos hk]
theorem rtext_yes {bs : List Nat} {A u k : Nat} (h : number (bs.drop A) = (u, k)) (hk : k ≠ 0) (hl : A + k + u ≤ bs.length) : rtext bs A = some (bstr ((bs.drop (A + k)).take u), A + k + u) := by
  unfold rtext
  rw [h, if_neg (by simp only; omega)]
/-- how far the texts are read -/
def stage (bs : List Nat) (e : E) (m A : Nat) (f g : ByteArray) : Option (E × Nat) :=
  if m = 0 then first2 bs e A else if m = 1 then (match rtext bs A with | none => none | some (g', a2) => some (keyed e f g', a2)) else some (keyed e f g, A)
theorem stage_no {bs : List Nat} {e : E} {m A : Nat} {f g : ByteArray} (hm : m < 2) (h : rtext bs A = none) : stage bs e m A f g = none := by
  unfold stage
  match m, hm with
  | 0, _ => simp [first2, h]
  | 1, _ => simp [h]
theorem stage_yes0 {bs : List Nat} {e : E} {A A2 : Nat} {f g s : ByteArray} (h : rtext bs A = some (s, A2)) : stage bs e 0 A f g = stage bs e 1 A2 s g := by
  unfold stage
  simp only [first2, h]
  rfl
theorem stage_yes1 {bs : List Nat} {e : E} {A A2 : Nat} {f g s : ByteArray} (h : rtext bs A = some (s, A2)) : stage bs e 1 A f g = stage bs e 2 A2 f s := by
  unfold stage
  simp [h]
theorem number_nil : number [] = (0, 0) := by decide
end Ed
def RFRes (w : World) (R : Option (Ed.E × Nat)) (e : Ending) (w' : World) : Prop := match R with
  | none => e = .returned (.tuple #[ed12 0 0 0 0 0 0 0 0 0 0 ⟨#[]⟩ ⟨#[]⟩, .int .i64 0]) ∧ Below w.heap.size w w'
  | some (x, m) => e = .returned (.tuple #[ed12 x.kind x.num x.index x.term x.ht x.hv x.hc x.tab.num x.tab.lev x.tab.size x.tab.first x.tab.last, .int .i64 (m : Nat)]) ∧ Below w.heap.size w w'
theorem blk_put {W : World} {g : Nat} {C : Array Value} {e : TypeId} (h : W.heap[g]? = some (.cells C e (0, 0))) (i : Nat) (v : Value) : (W.setCell ⟨g, i, none⟩ v).heap[g]? = some (.cells (C.setIfInBounds i v) e (0, 0)) := by
  rw [setCell_eq_setRow W g i C e (0, 0) v h]
  exact setRow_heap W g C _ e _ h
theorem own_keep {w : World} {B e s n g : Nat} {v : Value} {xs : List Value} (h : w.ownsRow B e s v n xs) (hne : some g ≠ v.ownBlock) (i : Nat) (u : Value) : (w.setCell ⟨g, i, none⟩ u).ownsRow B e s v n xs := by
  refine ⟨h.1, ?_⟩
  rcases h.2 with ⟨rfl, h0⟩ | ⟨g', cap, cur, rfl, hB, hg, rest⟩
  · exact .inl ⟨rfl, h0⟩
  · refine .inr ⟨g', cap, cur, rfl, hB, ?_, rest⟩
    rw [← hg]
    exact Below.heap_setCell w ⟨g, i, none⟩ u g' (fun e => hne (by have : g' = g := e; rw [← this]; rfl))

set_option maxRecDepth 100000 in
set_option maxHeartbeats 2000000 in
theorem rfirst_nil (a : Option Addr) (cap : Nat) (w : World) : Calls Try.prog 32 #[.slice a 0 cap] w (RFRes w none) := by
  have hb1 := below_alloc w (oed 0 0 0 0 0 0 0 0 0 0 ⟨#[]⟩ ⟨#[]⟩)
  go_enter Try.func32, Try.ntmps32
  go_wp2
  exact bodyPost_ret (v := .tuple #[ed12 0 0 0 0 0 0 0 0 0 0 ⟨#[]⟩ ⟨#[]⟩, .int .i64 0]) (by simp [results, Try.results32, go_sem]) rfl ⟨rfl, hb1⟩
set_option maxRecDepth 100000 in
set_option maxHeartbeats 2000000 in
theorem rfirst_other (b off len cap : Nat) (bs : List Nat) (w : World) (K : Nat) (hK : bs.getD 0 0 = K) (hpos : 0 < len) (hK256 : K < 256) (RR : Option (Ed.E × Nat)) (HN : Hid (RR = none)) (hr : Row .u8 w (some ⟨b, off, none⟩) len bs)
    (P : ByteArray) (hP : P.toList = [])
    (hpar : ∀ W, Calls Try.prog 19 #[.int .i64 (K : Nat)] W fun e w' => e = .returned (.string P) ∧ Below W.heap.size W w') :
    Calls Try.prog 32 #[.slice (some ⟨b, off, none⟩) len cap] w (RFRes w RR) := by
  have hb1 := below_alloc w (oed 0 0 0 0 0 0 0 0 0 0 ⟨#[]⟩ ⟨#[]⟩)
  have hZ : ∀ W, Below (w.heap.size + 1) (w.alloc (oed 0 0 0 0 0 0 0 0 0 0 ⟨#[]⟩ ⟨#[]⟩)) W → W.heap[w.heap.size]? = some (oed 0 0 0 0 0 0 0 0 0 0 ⟨#[]⟩ ⟨#[]⟩) := fun W h => (h.block _ (by omega)).trans (heap_alloc_new w _)
  have hZ : Hid (∀ W, Below (w.heap.size + 1) (w.alloc (oed 0 0 0 0 0 0 0 0 0 0 ⟨#[]⟩ ⟨#[]⟩)) W → W.heap[w.heap.size]? = some (oed 0 0 0 0 0 0 0 0 0 0 ⟨#[]⟩ ⟨#[]⟩)) := hZ
  have hlen : Hid (bs.length = len) := hr.1
  have hr1 := hr.below hb1 (Nat.le_refl _)
  have hc0 : (w.alloc (oed 0 0 0 0 0 0 0 0 0 0 ⟨#[]⟩ ⟨#[]⟩)).cell? ⟨b, off, none⟩ = some (.int .u8 (K : Nat)) := by have := hr1.cell 0 (by omega); rw [hK] at this; simpa using this
  have i0 : (0 : Int) < (len : Int) := by omega
  have i3 : ¬ (len : Int) = 0 := by omega
  have i4 : ¬ len = 0 := by omega
  go_enter Try.func32, Try.ntmps32
  go_wp2_with (go_at_call 19; refine (hpar _).mono ?_; rintro e w2 ⟨rfl, hb2⟩; have hB2 := hb1.trans (hb2.mono hb1.size); have hzz := hZ.out w2 (by simpa using hb2); obtain ⟨z0, z1, z2, z3, z4, z5, z6, z7, z8, z9, z10, z11⟩ := blk12 hzz; have zf := blk_thaw hzz)
  exact bodyPost_ret (v := .tuple #[ed12 0 0 0 0 0 0 0 0 0 0 ⟨#[]⟩ ⟨#[]⟩, .int .i64 0]) (by simp [results, Try.results32, go_sem, z0, z1, z2, z3, z4, z5, z6, z7, z8, z9, z10, z11]) rfl (by rw [HN.out]; exact ⟨rfl, (below_put (below_put (below_put (below_put (below_put (below_put (below_put (below_put (below_put (below_put (below_put (below_put hB2 (Nat.le_refl _) _ _) (Nat.le_refl _) _ _) (Nat.le_refl _) _ _) (Nat.le_refl _) _ _) (Nat.le_refl _) _ _) (Nat.le_refl _) _ _) (Nat.le_refl _) _ _) (Nat.le_refl _) _ _) (Nat.le_refl _) _ _) (Nat.le_refl _) _ _) (Nat.le_refl _) _ _) (Nat.le_refl _) _ _)⟩)
set_option maxRecDepth 100000 in
set_option maxHeartbeats 20000000 in
theorem rfirst_main (b off len cap : Nat) (bs : List Nat) (w : World) (K : Nat) (P : ByteArray) (N : Nat) (RR : Option (Ed.E × Nat)) (hK : bs.getD 0 0 = K) (hpos : 0 < len) (hbig : len ≤ 100000) (hlc : len ≤ cap) (hK256 : K < 256) (hN6 : N ≤ 6) (hr : Row .u8 w (some ⟨b, off, none⟩) len bs)
    (hP : P.toList.isEmpty = false) (hkb : Hid (kb P = Ed.parts (K : Nat))) (hcnt : Hid (Ed.cnt (K : Nat) = N))
    (HR : Hid (RR = match Ed.nread N bs 1 [] with | none => none | some (l, a) => if K = 4 then Ed.first2 bs (Ed.fillTo (K : Nat) l (Ed.parts (K : Nat)).length) a else some (Ed.fillTo (K : Nat) l (Ed.parts (K : Nat)).length, a)))
    (hpar : ∀ W, Calls Try.prog 19 #[.int .i64 (K : Nat)] W fun e w' => e = .returned (.string P) ∧ Below W.heap.size W w')
    (hnums : ∀ W, Calls Try.prog 46 #[ed12 (K : Nat) 0 0 0 0 0 0 0 0 0 ⟨#[]⟩ ⟨#[]⟩] W fun e w' => ∃ a2 c2, e = .returned (.slice a2 N c2) ∧ Below W.heap.size W w') :
    Calls Try.prog 32 #[.slice (some ⟨b, off, none⟩) len cap] w (RFRes w RR) := by
  have hb1 := below_alloc w (oed 0 0 0 0 0 0 0 0 0 0 ⟨#[]⟩ ⟨#[]⟩)
  have hZ : ∀ W, Below (w.heap.size + 1) (w.alloc (oed 0 0 0 0 0 0 0 0 0 0 ⟨#[]⟩ ⟨#[]⟩)) W → W.heap[w.heap.size]? = some (oed 0 0 0 0 0 0 0 0 0 0 ⟨#[]⟩ ⟨#[]⟩) := fun W h => (h.block _ (by omega)).trans (heap_alloc_new w _)
  have hZ : Hid (∀ W, Below (w.heap.size + 1) (w.alloc (oed 0 0 0 0 0 0 0 0 0 0 ⟨#[]⟩ ⟨#[]⟩)) W → W.heap[w.heap.size]? = some (oed 0 0 0 0 0 0 0 0 0 0 ⟨#[]⟩ ⟨#[]⟩)) := hZ
  have hlen : Hid (bs.length = len) := hr.1
  have hr1 := hr.below hb1 (Nat.le_refl _)
  have hc0 : (w.alloc (oed 0 0 0 0 0 0 0 0 0 0 ⟨#[]⟩ ⟨#[]⟩)).cell? ⟨b, off, none⟩ = some (.int .u8 (K : Nat)) := by have := hr1.cell 0 (by omega); rw [hK] at this; simpa using this
  have i0 : (0 : Int) < (len : Int) := by omega
  have i3 : ¬ (len : Int) = 0 := by omega
  have i4 : ¬ len = 0 := by omega
  have hnb : ∀ (A : Nat) W q l' c', A ≤ len → Row .u8 W (some ⟨b, off, none⟩) len bs → ERest b off len cap A q l' c' → Calls Try.prog 31 #[.slice q l' c'] W fun e w' => e = .returned (.tuple #[.int .i64 ((Ed.number (bs.drop A)).1 : Nat), .int .i64 ((Ed.number (bs.drop A)).2 : Nat)]) ∧ Below W.heap.size W w' := fun A W q l' c' hA hW hR => by
    obtain ⟨r1, r2⟩ := hR.row hW hA hlc
    exact rnumber_any q l' c' _ W (by have := hR.1; omega) (by rcases r2 with ⟨h1, h2⟩ | ⟨_, _, _, h⟩; (· omega); (· exact h)) r1
  have hsm : Hid (∀ x ∈ bs, x < 256) := (hr.2.2.1 : ∀ x ∈ bs, x < 256)
  obtain ⟨NP, hNP⟩ : ∃ NP, P.size = NP := ⟨_, rfl⟩
  have hNPl : Hid ((Ed.parts (K : Nat)).length = NP) := (by rw [← hkb.out, kb_len, hNP] : _ = NP)
  have hNP4 : NP ≤ 4 := by rw [← hNPl.out]; exact parts_len _
  have tok : Hid (0 = 0) := (rfl : 0 = 0)
  go_enter Try.func32, Try.ntmps32
  go_wp2_with (first
    | (go_at_call 19; clear tok; go_must (refine (hpar _).mono ?_; rintro e w2 ⟨rfl, hb2⟩; have hB2 : Below (w.heap.size + 1) (w.alloc (oed 0 0 0 0 0 0 0 0 0 0 ⟨#[]⟩ ⟨#[]⟩)) w2 := (by simpa using hb2); have hs2 : w.heap.size + 1 ≤ w2.heap.size := (by have := hB2.size; simpa using this); have hr2 := hr1.below hb2 (Nat.le_refl _); have hc2 := hr2.cell 0 (by omega); rw [hK] at hc2; simp only [Nat.add_zero] at hc2))
    | (go_at_call 19; go_must (refine (hpar _).mono ?_; rintro e w4 ⟨rfl, hb4⟩; have hE4 : Hid (_ = _) := ob_below (heap_alloc_new w2 (oed (K : Nat) 0 0 0 0 0 0 0 0 0 ⟨#[]⟩ ⟨#[]⟩)) hb4; have hs4 : w2.heap.size + 1 ≤ w4.heap.size := (by have := hb4.size; simpa using this); have hB4 : Below (w2.heap.size + 1) (w2.alloc (oed (K : Nat) 0 0 0 0 0 0 0 0 0 ⟨#[]⟩ ⟨#[]⟩)) w4 := (by simpa using hb4); have hm4 := made_t (s := 1) (enc := ie) w4 (B := w2.heap.size + 1) (E := 3) hs4 rfl; have hB5 := hB4.alloc hs4 (.cells #[] 3))))
  have hE5 : ∀ W, Below (w2.heap.size + 1) (w2.alloc (oed (K : Nat) 0 0 0 0 0 0 0 0 0 ⟨#[]⟩ ⟨#[]⟩)) W → W.heap[w2.heap.size]? = some (oed (K : Nat) 0 0 0 0 0 0 0 0 0 ⟨#[]⟩ ⟨#[]⟩) := fun W h => (h.block _ (by omega)).trans (heap_alloc_new w2 _)
  have hE5 : Hid (∀ W, Below (w2.heap.size + 1) (w2.alloc (oed (K : Nat) 0 0 0 0 0 0 0 0 0 ⟨#[]⟩ ⟨#[]⟩)) W → W.heap[w2.heap.size]? = some (oed (K : Nat) 0 0 0 0 0 0 0 0 0 ⟨#[]⟩ ⟨#[]⟩)) := hE5
  have hU : ∀ W, Below (w2.heap.size + 1) (w2.alloc (oed (K : Nat) 0 0 0 0 0 0 0 0 0 ⟨#[]⟩ ⟨#[]⟩)) W → Below (w.heap.size + 1) (w.alloc (oed 0 0 0 0 0 0 0 0 0 0 ⟨#[]⟩ ⟨#[]⟩)) W := fun W h => (hB2.alloc hs2 _).trans (h.mono (by omega))
  have hU : Hid (∀ W, Below (w2.heap.size + 1) (w2.alloc (oed (K : Nat) 0 0 0 0 0 0 0 0 0 ⟨#[]⟩ ⟨#[]⟩)) W → Below (w.heap.size + 1) (w.alloc (oed 0 0 0 0 0 0 0 0 0 0 ⟨#[]⟩ ⟨#[]⟩)) W) := hU
  have HS0 : Hid (Ed.nread N bs 1 [] = Ed.nread (N - 0) bs 1 []) := (rfl : _ = _)
  obtain ⟨S0, hS0⟩ : ∃ S0, S0 = Ed.nread N bs 1 [] := ⟨_, rfl⟩
  rw [← hS0] at HR HS0
  clear hS0 hE4 hB4 hc2
  go_loopw [6, 7, 8] (fun lv av iv wr => ∃ (j A c' : Nat) (a' : Option Addr) (L : List Nat), j ≤ N ∧ A ≤ len ∧ iv = .int .i64 j ∧ av = .int .i64 A ∧ lv = .slice a' j c' ∧ Hid (S0 = Ed.nread (N - j) bs A L) ∧ wr.ownsRow (w2.heap.size + 1) 3 1 (.slice a' j c') j (tcells ie L) ∧ Below (w2.heap.size + 1) (w2.alloc (oed (K : Nat) 0 0 0 0 0 0 0 0 0 ⟨#[]⟩ ⟨#[]⟩)) wr) (fun _ _ iv _ => N - (intOf iv).toNat)
  case atStart => exact ⟨0, 1, 0, _, [], by omega, by omega, rfl, rfl, rfl, HS0, hm4, hB5⟩
  case round =>
    obtain ⟨j, A, c', a', L, hj, hA, rfl, rfl, rfl, HS, hown, hbel⟩ := hrel
    have hu := hU.out wr hbel
    have hs5 : w2.heap.size + 1 ≤ wr.heap.size := by have := hbel.size; simpa using this
    obtain ⟨e0, e1, e2, e3, e4, e5, e6, e7, e8, e9, e10, e11⟩ := blk12 (hE5.out wr hbel)
    by_cases hlt : j < N
    · have j0 : (j : Int) < (N : Int) := by omega
      have hnA := fun W q l' c' => hnb A W q l' c' hA
      obtain ⟨hnl, hnm⟩ := Ed.number_le (bs.drop A)
      rw [List.length_drop, hlen.out] at hnl
      have HNo : Hid ((Ed.number (bs.drop A)).2 = 0 → RR = none) := (fun h => by rw [HR.out, HS.out, Ed.nread_no hlt h] : _ → RR = none)
      have HYes : Hid (∀ u k, Ed.number (bs.drop A) = (u, k) → k ≠ 0 → S0 = Ed.nread (N - (j + 1)) bs (A + k) (L ++ [u])) := (fun u k h hk => by rw [HS.out, Ed.nread_yes hlt h hk] : ∀ u k, _)
      have a0 : (0 : Int) ≤ (A : Int) := by omega
      have a1 : (A : Int) ≤ (len : Int) := by omega
      have a2 : (len : Int) ≤ (cap : Int) := by omega
      by_cases hcA : cap = A
      · have hd : bs.drop A = [] := List.drop_of_length_le (by rw [hlen.out]; omega)
        have HN : Hid (RR = none) := (HNo.out (by rw [hd, Ed.number_nil]) : RR = none)
        rw [hd, Ed.number_nil] at hnA
        clear HNo HYes hd hnl hnm HS
        subst hcA
        go_wp2_with (first
          | (go_at_call 46; go_must (refine (hnums _).mono ?_; rintro e w6 ⟨a6, c6, rfl, hb6⟩; have hB6 := hbel.trans (hb6.mono hs5); have hu6 := hU.out w6 hB6; have hr6 := hr1.below hu6 (by simp)))
          | (go_at_call 31; go_must (refine (hnA _ _ _ _ hr6 ⟨by omega, .inl ⟨by omega, by omega⟩⟩).mono ?_; rintro e w7 ⟨rfl, hb7⟩; have hB7 := hB6.trans (hb7.mono (by have := hB6.size; simp at this; omega)); have hu7 := hU.out w7 hB7; have hzz := hZ.out w7 hu7; obtain ⟨z0, z1, z2, z3, z4, z5, z6, z7, z8, z9, z10, z11⟩ := blk12 hzz; have zf := blk_thaw hzz; have hw7 := hb1.trans (hu7.mono (by omega)))))
        exact bodyPost_ret (v := .tuple #[ed12 0 0 0 0 0 0 0 0 0 0 ⟨#[]⟩ ⟨#[]⟩, .int .i64 0]) (by simp [results, Try.results32, go_sem, z0, z1, z2, z3, z4, z5, z6, z7, z8, z9, z10, z11]) rfl (by rw [HN.out]; exact ⟨rfl, (below_put (below_put (below_put (below_put (below_put (below_put (below_put (below_put (below_put (below_put (below_put (below_put hw7 (by omega) _ _) (by omega) _ _) (by omega) _ _) (by omega) _ _) (by omega) _ _) (by omega) _ _) (by omega) _ _) (by omega) _ _) (by omega) _ _) (by omega) _ _) (by omega) _ _) (by omega) _ _)⟩)
      obtain ⟨u, k, huk⟩ : ∃ u k, Ed.number (bs.drop A) = (u, k) := ⟨_, _, rfl⟩
      rw [huk] at hnA hnl hnm HNo
      simp only at hnA hnl hnm HNo
      by_cases hk0 : k = 0
      · subst hk0
        have HN : Hid (RR = none) := (HNo.out rfl : RR = none)
        clear HNo HYes huk HS
        go_wp2_with (first
          | (go_at_call 46; go_must (refine (hnums _).mono ?_; rintro e w6 ⟨a6, c6, rfl, hb6⟩; have hB6 := hbel.trans (hb6.mono hs5); have hu6 := hU.out w6 hB6; have hr6 := hr1.below hu6 (by simp)))
          | (go_at_call 31; go_must (refine (hnA _ _ _ _ hr6 ⟨rfl, .inr ⟨rfl, rfl⟩⟩).mono ?_; rintro e w7 ⟨rfl, hb7⟩; have hB7 := hB6.trans (hb7.mono (by have := hB6.size; simp at this; omega)); have hu7 := hU.out w7 hB7; have hzz := hZ.out w7 hu7; obtain ⟨z0, z1, z2, z3, z4, z5, z6, z7, z8, z9, z10, z11⟩ := blk12 hzz; have zf := blk_thaw hzz; have hw7 := hb1.trans (hu7.mono (by omega)))))
        exact bodyPost_ret (v := .tuple #[ed12 0 0 0 0 0 0 0 0 0 0 ⟨#[]⟩ ⟨#[]⟩, .int .i64 0]) (by simp [results, Try.results32, go_sem, z0, z1, z2, z3, z4, z5, z6, z7, z8, z9, z10, z11]) rfl (by rw [HN.out]; exact ⟨rfl, (below_put (below_put (below_put (below_put (below_put (below_put (below_put (below_put (below_put (below_put (below_put (below_put hw7 (by omega) _ _) (by omega) _ _) (by omega) _ _) (by omega) _ _) (by omega) _ _) (by omega) _ _) (by omega) _ _) (by omega) _ _) (by omega) _ _) (by omega) _ _) (by omega) _ _) (by omega) _ _)⟩)
      have HS2 : Hid (S0 = Ed.nread (N - (j + 1)) bs (A + k) (L ++ [u])) := (HYes.out u k huk hk0 : S0 = _)
      have k0 : ¬ (k : Int) = 0 := by omega
      have jk : IntKind.i64.wrap ((A : Int) + (k : Int)) = ((A + k : Nat) : Int) := by rw [IntKind.wrap_i64]; omega
      clear HNo HYes huk HS
      go_wp2_with (first
        | (go_at_call 46; go_must (refine (hnums _).mono ?_; rintro e w6 ⟨a6, c6, rfl, hb6⟩; have hB6 := hbel.trans (hb6.mono hs5); have hu6 := hU.out w6 hB6; have hr6 := hr1.below hu6 (by simp); have hk6 := owns_below hown hb6))
        | (go_at_call 31; go_must (refine (hnA _ _ _ _ hr6 ⟨rfl, .inr ⟨rfl, rfl⟩⟩).mono ?_; rintro e w7 ⟨rfl, hb7⟩; have hs6 : w2.heap.size + 1 ≤ w6.heap.size := Nat.le_trans hs5 hb6.size; have hB7 := hB6.trans (hb7.mono hs6); have hs7 : w2.heap.size + 1 ≤ w7.heap.size := Nat.le_trans hs6 hb7.size; have hk7 := owns_below hk6 hb7; have hls := lit_ints w7 #[.int .i64 (u : Nat)] [u] 1 rfl rfl (by omega) (g := w7.heap.size) rfl))
        | (at_builtin; go_must (refine append_t intE ieE (w0 := w2.alloc (oed (K : Nat) 0 0 0 0 0 0 0 0 0 ⟨#[]⟩ ⟨#[]⟩)) (B := w2.heap.size + 1) rfl (.tmp 54) (.tmp 56) rfl _ _ _ rfl (hk7.alloc _) (some ⟨w7.heap.size, 0, none⟩) 1 1 [u] rfl hls (fun h => by cases h) (by omega) (hB7.alloc hs7 _) (by simp; omega) ?_; intro a8 c8 w8 _ _ _ hown8 hb8 _)))
      go_roundw
      case rel => exact ⟨j + 1, A + k, c8, a8, L ++ [u], by omega, by omega, by go_num, by simp, rfl, HS2, hown8, hb8⟩
      case measure => simp [intOf]; omega
    · obtain rfl : j = N := by omega
      have j0 : ¬ (j : Int) < (j : Int) := by omega
      have HR2 : Hid (RR = if K = 4 then Ed.first2 bs (Ed.fillTo (K : Nat) L (Ed.parts (K : Nat)).length) A else some (Ed.fillTo (K : Nat) L (Ed.parts (K : Nat)).length, A)) := (by rw [HR.out, HS.out, Nat.sub_self]; rfl : RR = _)
      have hLl := hown.1
      rw [tcells_length ieE, Nat.mul_one, Nat.mul_one] at hLl
      have hLl : Hid (L.length = j) := hLl
      clear HR HS HS0
      go_wp2_with (go_at_call 46; go_must (refine (hnums _).mono ?_; rintro e w6 ⟨a6, c6, rfl, hb6⟩; have hB6 := hbel.trans (hb6.mono hs5); have hu6 := hU.out w6 hB6; have hk6 := owns_below hown hb6; have hE6 : Hid (_ = _) := hE5.out w6 hB6; have hw6 := Below.trans ((Below.refl w2.heap.size w2).alloc (Nat.le_refl _) (oed (K : Nat) 0 0 0 0 0 0 0 0 0 ⟨#[]⟩ ⟨#[]⟩)) (hB6.mono (by omega))))
      go_loopw [11] (fun iv wr => ∃ (m : Nat) (k n i t a bb c p q r : Int) (f g : ByteArray), m ≤ NP ∧ iv = .int .i64 m ∧ Hid (Ed.fillTo (K : Nat) L m = ⟨k, n, i, t, a, bb, c, ⟨p, q, r, f, g⟩⟩) ∧ Hid (wr.heap[w2.heap.size]? = some (oed k n i t a bb c p q r f g)) ∧ wr.ownsRow (w2.heap.size + 1) 3 1 (.slice a' j c') j (tcells ie L) ∧ Below w2.heap.size w2 wr) (fun iv _ => NP - (intOf iv).toNat)
      case atStart => exact ⟨0, K, 0, 0, 0, 0, 0, 0, 0, 0, 0, ⟨#[]⟩, ⟨#[]⟩, by omega, rfl, (rfl : _ = _), hE6, hk6, hw6⟩
      case round =>
        obtain ⟨m, k, n, i, t, a, bb, c, p, q, r, f, g, hm, rfl, HF, HE, hownl, hbel2⟩ := hrel
        have hne : some w2.heap.size ≠ (Value.slice a' j c').ownBlock := ob_apart HE.out hownl (by decide)
        by_cases hlt2 : m < NP
        · have hmP : m < P.size := by omega
          have hg := kb_getD hmP
          have i5 : (0 : Int) ≤ (m : Int) := by omega
          have i6 : (m : Int) < (NP : Int) := by omega
          obtain ⟨x, hx⟩ : ∃ x, (P[m]'hmP).toNat = x := ⟨_, rfl⟩
          rw [hx, hkb.out] at hg
          have hmL : m < (Ed.parts (K : Nat)).length := by rw [hNPl.out]; exact hlt2
          have hxx := parts_letters (K : Nat) x (by rw [← hg, List.getD_eq_getElem?_getD, List.getElem?_eq_getElem hmL]; exact List.getElem_mem _)
          obtain ⟨rm1, rm2, rm3⟩ := Ed.parts_room (K : Nat) m hmL
          rw [hcnt.out] at rm1 rm2 rm3
          rw [hg] at rm2 rm3
          have HF2 : Hid (Ed.fillTo (K : Nat) L (m + 1) = Ed.letterAt ⟨k, n, i, t, a, bb, c, ⟨p, q, r, f, g⟩⟩ L m x) := (by rw [Ed.fillTo, HF.out, hg] : _ = _)
          obtain ⟨G, OG, rfl, hGc⟩ := IRow.cell (trow_of_owns (d := 0) ieE hownl (by omega) (by omega) : IRow wr a' j L) (by omega)
          obtain ⟨v0, v1, v2, v3, v4, v5, v6, v7, v8, v9, v10, v11⟩ := blk12 HE.out
          have vf := blk_thaw HE.out
          have g0 := hGc m rm1
          clear hg HF
          rcases hxx with rfl | rfl | rfl | rfl | rfl
          · have HF3 : Hid (Ed.fillTo (K : Nat) L (m + 1) = ⟨k, (L.getD m 0 : Nat), i, t, a, bb, c, ⟨p, q, r, f, g⟩⟩) := (by rw [HF2.out]; rfl : _ = _)
            have HE2 := blk_put HE.out 1 (.int .i64 (L.getD m 0 : Nat))
            have hown3 := own_keep hownl hne 1 (.int .i64 (L.getD m 0 : Nat))
            have i11 : (m : Int) < (j : Int) := by omega
            clear HF2 HE hownl hGc rm1 rm2 rm3
            generalize L.getD m 0 = y at *
            go_wp2
            go_roundw
            case rel => exact ⟨m + 1, k, (y : Nat), i, t, a, bb, c, p, q, r, f, g, by omega, by go_num, HF3, HE2, hown3, below_put hbel2 (Nat.le_refl _) _ _⟩
            case measure => simp [intOf]; omega
          · have HF3 : Hid (Ed.fillTo (K : Nat) L (m + 1) = ⟨k, n, (L.getD m 0 : Nat), t, a, bb, c, ⟨p, q, r, f, g⟩⟩) := (by rw [HF2.out]; rfl : _ = _)
            have HE2 := blk_put HE.out 2 (.int .i64 (L.getD m 0 : Nat))
            have hown3 := own_keep hownl hne 2 (.int .i64 (L.getD m 0 : Nat))
            have i11 : (m : Int) < (j : Int) := by omega
            clear HF2 HE hownl hGc rm1 rm2 rm3
            generalize L.getD m 0 = y at *
            go_wp2
            go_roundw
            case rel => exact ⟨m + 1, k, n, (y : Nat), t, a, bb, c, p, q, r, f, g, by omega, by go_num, HF3, HE2, hown3, below_put hbel2 (Nat.le_refl _) _ _⟩
            case measure => simp [intOf]; omega
          · have HF3 : Hid (Ed.fillTo (K : Nat) L (m + 1) = ⟨k, n, i, (L.getD m 0 : Nat), a, bb, c, ⟨p, q, r, f, g⟩⟩) := (by rw [HF2.out]; rfl : _ = _)
            have HE2 := blk_put HE.out 3 (.int .i64 (L.getD m 0 : Nat))
            have hown3 := own_keep hownl hne 3 (.int .i64 (L.getD m 0 : Nat))
            have i11 : (m : Int) < (j : Int) := by omega
            clear HF2 HE hownl hGc rm1 rm2 rm3
            generalize L.getD m 0 = y at *
            go_wp2
            go_roundw
            case rel => exact ⟨m + 1, k, n, i, (y : Nat), a, bb, c, p, q, r, f, g, by omega, by go_num, HF3, HE2, hown3, below_put hbel2 (Nat.le_refl _) _ _⟩
            case measure => simp [intOf]; omega
          · have rm4 := rm2 rfl
            have g1 := hGc (m + 1) (by omega)
            have g2 := hGc (m + 2) (by omega)
            have i7 : IntKind.i64.wrap ((m : Int) + 1) = ((m + 1 : Nat) : Int) := by rw [IntKind.wrap_i64]; omega
            have i8 : IntKind.i64.wrap ((m : Int) + 2) = ((m + 2 : Nat) : Int) := by rw [IntKind.wrap_i64]; omega
            have i9 : ((m + 1 : Nat) : Int) < (j : Int) := by omega
            have i10 : ((m + 2 : Nat) : Int) < (j : Int) := by omega
            have i11 : (m : Int) < (j : Int) := by omega
            obtain ⟨y0, ey0⟩ : ∃ y, L.getD m 0 = y := ⟨_, rfl⟩
            obtain ⟨y1, ey1⟩ : ∃ y, L.getD (m + 1) 0 = y := ⟨_, rfl⟩
            obtain ⟨y2, ey2⟩ : ∃ y, L.getD (m + 2) 0 = y := ⟨_, rfl⟩
            rw [ey0] at g0
            rw [ey1] at g1
            rw [ey2] at g2
            have HF3 : Hid (Ed.fillTo (K : Nat) L (m + 1) = ⟨k, n, i, t, (y0 : Nat), (y1 : Nat), (y2 : Nat), ⟨p, q, r, f, g⟩⟩) := (by rw [HF2.out, ← ey0, ← ey1, ← ey2]; rfl : _ = _)
            clear ey0 ey1 ey2
            have HE2 := (blk_put (blk_put (blk_put HE.out 4 (.int .i64 (y0 : Nat))) 5 (.int .i64 (y1 : Nat))) 6 (.int .i64 (y2 : Nat)))
            have hown3 := (own_keep (own_keep (own_keep hownl hne 4 (.int .i64 (y0 : Nat))) hne 5 (.int .i64 (y1 : Nat))) hne 6 (.int .i64 (y2 : Nat)))
            clear HF2 HE hownl hGc rm1 rm2 rm3 rm4
            go_wp2_with fail
            go_region
            go_wp2
            go_roundw
            case rel => exact ⟨m + 1, k, n, i, t, (y0 : Nat), (y1 : Nat), (y2 : Nat), p, q, r, f, g, by omega, by go_num, HF3, HE2, hown3, (below_put (below_put (below_put hbel2 (Nat.le_refl _) _ _) (Nat.le_refl _) _ _) (Nat.le_refl _) _ _).drew⟩
            case measure => simp [intOf]; omega
          · have rm4 := rm3 rfl
            have h0 := hGc 0 (by omega)
            have g1 := hGc 1 (by omega)
            have g2 := hGc 2 (by omega)
            simp only [Nat.add_zero] at h0
            have i9 : (1 : Int) < (j : Int) := by omega
            have i10 : (2 : Int) < (j : Int) := by omega
            have i11 : (0 : Int) < (j : Int) := by omega
            obtain ⟨y0, ey0⟩ : ∃ y, L.getD 0 0 = y := ⟨_, rfl⟩
            obtain ⟨y1, ey1⟩ : ∃ y, L.getD 1 0 = y := ⟨_, rfl⟩
            obtain ⟨y2, ey2⟩ : ∃ y, L.getD 2 0 = y := ⟨_, rfl⟩
            rw [ey0] at h0
            rw [ey1] at g1
            rw [ey2] at g2
            have HF3 : Hid (Ed.fillTo (K : Nat) L (m + 1) = ⟨k, n, i, t, a, bb, c, ⟨(y0 : Nat), (y1 : Nat), (y2 : Nat), ⟨#[]⟩, ⟨#[]⟩⟩⟩) := (by rw [HF2.out, ← ey0, ← ey1, ← ey2]; rfl : _ = _)
            clear ey0 ey1 ey2
            have HE2 := (blk_put (blk_put (blk_put (blk_put (blk_put HE.out 7 (.int .i64 (y0 : Nat))) 8 (.int .i64 (y1 : Nat))) 9 (.int .i64 (y2 : Nat))) 10 (.string ⟨#[]⟩)) 11 (.string ⟨#[]⟩))
            have hown3 := (own_keep (own_keep (own_keep (own_keep (own_keep hownl hne 7 (.int .i64 (y0 : Nat))) hne 8 (.int .i64 (y1 : Nat))) hne 9 (.int .i64 (y2 : Nat))) hne 10 (.string ⟨#[]⟩)) hne 11 (.string ⟨#[]⟩))
            clear HF2 HE hownl hGc rm1 rm2 rm3 rm4
            go_wp2_with fail
            go_region
            go_wp2
            go_roundw
            case rel => exact ⟨m + 1, k, n, i, t, a, bb, c, (y0 : Nat), (y1 : Nat), (y2 : Nat), ⟨#[]⟩, ⟨#[]⟩, by omega, by go_num, HF3, HE2, hown3, (below_put (below_put (below_put (below_put (below_put hbel2 (Nat.le_refl _) _ _) (Nat.le_refl _) _ _) (Nat.le_refl _) _ _) (Nat.le_refl _) _ _) (Nat.le_refl _) _ _).drew⟩
            case measure => simp [intOf]; omega
        · obtain rfl : m = NP := by omega
          have hkK := Ed.fillTo_kind (K : Nat) L m
          rw [HF.out] at hkK
          simp only at hkK
          subst hkK
          have HR3 : Hid (RR = if K = 4 then Ed.first2 bs ⟨(K : Nat), n, i, t, a, bb, c, ⟨p, q, r, f, g⟩⟩ A else some (⟨(K : Nat), n, i, t, a, bb, c, ⟨p, q, r, f, g⟩⟩, A)) := (by rw [HR2.out, hNPl.out, HF.out] : RR = _)
          have hff : Hid (K = 4 → f = ⟨#[]⟩ ∧ g = ⟨#[]⟩) := (by
            intro h4
            subst h4
            have hm1 : m = 1 := by rw [← hNPl.out]; rfl
            subst hm1
            have := HF.out
            rw [show Ed.fillTo ((4 : Nat) : Int) L 1 = ⟨4, 0, 0, 0, 0, 0, 0, ⟨L.getD 0 0, L.getD 1 0, L.getD 2 0, ⟨#[]⟩, ⟨#[]⟩⟩⟩ from rfl] at this
            simp only [Ed.E.mk.injEq, Lv.T.mk.injEq] at this
            exact ⟨this.2.2.2.2.2.2.2.2.2.2.1.symm, this.2.2.2.2.2.2.2.2.2.2.2.symm⟩ : K = 4 → _)
          clear HF HR2
          obtain ⟨V, rfl⟩ : ∃ V, V = wr := ⟨_, rfl⟩
          by_cases hK4 : K = 4
          · obtain ⟨rfl, rfl⟩ := hff.out hK4
            have HR4 : Hid (RR = Ed.stage bs ⟨(K : Nat), n, i, t, a, bb, c, ⟨p, q, r, ⟨#[]⟩, ⟨#[]⟩⟩⟩ 0 A ⟨#[]⟩ ⟨#[]⟩) := (by rw [HR3.out, if_pos hK4]; rfl : RR = _)
            have d4 : ((K : Int) == 4) = true := by simp; omega
            clear HR3 hff hK4
            obtain ⟨x0, x1, x2, x3, x4, x5, x6, x7, x8, x9, x10, x11⟩ := blk12 HE.out
            go_wp2
            clear hownl
            go_loopw [7, 12] (fun av iv wr => ∃ (m A' : Nat) (f g : ByteArray), m ≤ 2 ∧ A' ≤ len ∧ iv = .int .i64 m ∧ av = .int .i64 A' ∧ Hid (RR = Ed.stage bs ⟨(K : Nat), n, i, t, a, bb, c, ⟨p, q, r, ⟨#[]⟩, ⟨#[]⟩⟩⟩ m A' f g) ∧ Hid (wr.heap[w2.heap.size]? = some (oed (K : Nat) n i t a bb c p q r f g)) ∧ Below w2.heap.size w2 wr) (fun _ iv _ => 2 - (intOf iv).toNat)
            case atStart => exact ⟨0, A, ⟨#[]⟩, ⟨#[]⟩, by omega, hA, rfl, rfl, HR4, HE, hbel2⟩
            case round =>
              obtain ⟨m3, A3, f, g, hm3, hA3, rfl, rfl, HS3, HE3, hbel3⟩ := hrel
              obtain ⟨v0, v1, v2, v3, v4, v5, v6, v7, v8, v9, v10, v11⟩ := blk12 HE3.out
              have hu9 := hB2.trans (hbel3.mono hs2)
              have hr9 := hr1.below hu9 (by simp)
              have hw9 := hb1.trans (hu9.mono (by omega))
              by_cases hlt3 : m3 < 2
              · have j3 : (m3 : Int) < 2 := by omega
                have hnA := fun W q l' c' => hnb A3 W q l' c' hA3
                obtain ⟨hnl, hnm⟩ := Ed.number_le (bs.drop A3)
                rw [List.length_drop, hlen.out] at hnl
                have a0 : (0 : Int) ≤ (A3 : Int) := by omega
                have a1 : (A3 : Int) ≤ (len : Int) := by omega
                have a2 : (len : Int) ≤ (cap : Int) := by omega
                have hs9 := hbel3.size
                by_cases hcA : cap = A3
                · have hd : bs.drop A3 = [] := List.drop_of_length_le (by rw [hlen.out]; omega)
                  have HN : Hid (RR = none) := (by rw [HS3.out, Ed.stage_no hlt3 (Ed.rtext_no (u := 0) (k := 0) (by rw [hd, Ed.number_nil]) (.inl rfl))] : RR = none)
                  rw [hd, Ed.number_nil] at hnA
                  clear hd hnl hnm HS3 HR4
                  subst hcA
                  go_wp2_with (go_at_call 31; go_must (refine (hnA _ _ _ _ hr9 ⟨by omega, .inl ⟨by omega, by omega⟩⟩).mono ?_; rintro e w7 ⟨rfl, hb7⟩; have hu7 := hu9.trans (hb7.mono (by omega)); have hzz := hZ.out w7 hu7; obtain ⟨z0, z1, z2, z3, z4, z5, z6, z7, z8, z9, z10, z11⟩ := blk12 hzz; have zf := blk_thaw hzz; have hw7 := hb1.trans (hu7.mono (by omega))))
                  exact bodyPost_ret (v := .tuple #[ed12 0 0 0 0 0 0 0 0 0 0 ⟨#[]⟩ ⟨#[]⟩, .int .i64 0]) (by simp [results, Try.results32, go_sem, z0, z1, z2, z3, z4, z5, z6, z7, z8, z9, z10, z11]) rfl (by rw [HN.out]; exact ⟨rfl, (below_put (below_put (below_put (below_put (below_put (below_put (below_put (below_put (below_put (below_put (below_put (below_put hw7 (by omega) _ _) (by omega) _ _) (by omega) _ _) (by omega) _ _) (by omega) _ _) (by omega) _ _) (by omega) _ _) (by omega) _ _) (by omega) _ _) (by omega) _ _) (by omega) _ _) (by omega) _ _)⟩)
                obtain ⟨u, k, huk⟩ : ∃ u k, Ed.number (bs.drop A3) = (u, k) := ⟨_, _, rfl⟩
                rw [huk] at hnA hnl hnm
                simp only at hnA hnl hnm
                by_cases hk0 : k = 0
                · subst hk0
                  have HN : Hid (RR = none) := (by rw [HS3.out, Ed.stage_no hlt3 (Ed.rtext_no huk (.inl rfl))] : RR = none)
                  clear huk HS3 HR4
                  go_wp2_with (go_at_call 31; go_must (refine (hnA _ _ _ _ hr9 ⟨rfl, .inr ⟨rfl, rfl⟩⟩).mono ?_; rintro e w7 ⟨rfl, hb7⟩; have hu7 := hu9.trans (hb7.mono (by omega)); have hzz := hZ.out w7 hu7; obtain ⟨z0, z1, z2, z3, z4, z5, z6, z7, z8, z9, z10, z11⟩ := blk12 hzz; have zf := blk_thaw hzz; have hw7 := hb1.trans (hu7.mono (by omega))))
                  exact bodyPost_ret (v := .tuple #[ed12 0 0 0 0 0 0 0 0 0 0 ⟨#[]⟩ ⟨#[]⟩, .int .i64 0]) (by simp [results, Try.results32, go_sem, z0, z1, z2, z3, z4, z5, z6, z7, z8, z9, z10, z11]) rfl (by rw [HN.out]; exact ⟨rfl, (below_put (below_put (below_put (below_put (below_put (below_put (below_put (below_put (below_put (below_put (below_put (below_put hw7 (by omega) _ _) (by omega) _ _) (by omega) _ _) (by omega) _ _) (by omega) _ _) (by omega) _ _) (by omega) _ _) (by omega) _ _) (by omega) _ _) (by omega) _ _) (by omega) _ _) (by omega) _ _)⟩)
                have k0 : ¬ (k : Int) = 0 := by omega
                have dk0 : ((k : Int) == 0) = false := by simp; omega
                obtain ⟨D1, hD1⟩ : ∃ D : Nat, D = len - A3 := ⟨_, rfl⟩
                obtain ⟨D2, hD2⟩ : ∃ D : Nat, D = len - A3 - k := ⟨_, rfl⟩
                have jd1 : IntKind.i64.wrap ((len : Int) - (A3 : Int)) = (D1 : Int) := by rw [IntKind.wrap_i64]; omega
                have jd2 : IntKind.i64.wrap ((D1 : Int) - (k : Int)) = (D2 : Int) := by rw [IntKind.wrap_i64]; omega
                by_cases hDu : D2 < u
                · have d2 : (D2 : Int) < (u : Int) := by omega
                  have HN : Hid (RR = none) := (by rw [HS3.out, Ed.stage_no hlt3 (Ed.rtext_no huk (.inr (by rw [hlen.out]; omega)))] : RR = none)
                  clear huk HS3 HR4 hD1 hD2
                  go_wp2_with (go_at_call 31; go_must (refine (hnA _ _ _ _ hr9 ⟨rfl, .inr ⟨rfl, rfl⟩⟩).mono ?_; rintro e w7 ⟨rfl, hb7⟩; have hu7 := hu9.trans (hb7.mono (by omega)); have hzz := hZ.out w7 hu7; obtain ⟨z0, z1, z2, z3, z4, z5, z6, z7, z8, z9, z10, z11⟩ := blk12 hzz; have zf := blk_thaw hzz; have hw7 := hb1.trans (hu7.mono (by omega))))
                  exact bodyPost_ret (v := .tuple #[ed12 0 0 0 0 0 0 0 0 0 0 ⟨#[]⟩ ⟨#[]⟩, .int .i64 0]) (by simp [results, Try.results32, go_sem, z0, z1, z2, z3, z4, z5, z6, z7, z8, z9, z10, z11]) rfl (by rw [HN.out]; exact ⟨rfl, (below_put (below_put (below_put (below_put (below_put (below_put (below_put (below_put (below_put (below_put (below_put (below_put hw7 (by omega) _ _) (by omega) _ _) (by omega) _ _) (by omega) _ _) (by omega) _ _) (by omega) _ _) (by omega) _ _) (by omega) _ _) (by omega) _ _) (by omega) _ _) (by omega) _ _) (by omega) _ _)⟩)
                have d2 : ¬ (D2 : Int) < (u : Int) := by omega
                have hyes := Ed.rtext_yes huk hk0 (by rw [hlen.out]; omega)
                obtain ⟨B1, hB1⟩ : ∃ B : Nat, B = A3 + k := ⟨_, rfl⟩
                obtain ⟨B2', hB2'⟩ : ∃ B : Nat, B = A3 + k + u := ⟨_, rfl⟩
                have jb1 : IntKind.i64.wrap ((A3 : Int) + (k : Int)) = (B1 : Int) := by rw [IntKind.wrap_i64]; omega
                have jb2 : IntKind.i64.wrap ((B1 : Int) + (u : Int)) = (B2' : Int) := by rw [IntKind.wrap_i64]; omega
                have b0 : (0 : Int) ≤ (B1 : Int) := by omega
                have b1 : (B1 : Int) ≤ (B2' : Int) := by omega
                have b2 : (B2' : Int) ≤ (cap : Int) := by omega
                have hB2l : B2' ≤ len := by omega
                have hBu : B2' - B1 = u := by omega
                rw [← hB2', ← hB1] at hyes
                obtain ⟨S, hS⟩ : ∃ S, S = bstr ((bs.drop B1).take u) := ⟨_, rfl⟩
                rw [← hS] at hyes
                have hcv : Hid (∀ W, Row .u8 W (some ⟨b, off, none⟩) len bs → (convert 34 9 (.slice (some ⟨b, off + B1, none⟩) (B2' - B1) (cap - B1))).run Try.prog W = .ok (.string S) W) := (fun W hW => by
                  have := econv_row (cap := cap - B1) ((hW.drop B1 (by omega)).take u (by omega))
                  rw [hS, hBu]; exact this : ∀ W, _)
                have hcz : Hid (u = 0 → S = ⟨#[]⟩) := (fun h => by rw [hS, h]; rfl : _ → _)
                clear hS huk HR4 hD1 hD2
                have hm01 : m3 = 0 ∨ m3 = 1 := by omega
                by_cases hcB : cap = B1
                · have hu0 : u = 0 := by omega
                  have hS0 := hcz.out hu0
                  subst hu0 hS0
                  obtain rfl : B2' = B1 := by omega
                  have hz : ∀ q c W, (convert 34 9 (.slice q 0 c)).run Try.prog W = .ok (.string ⟨#[]⟩) W := fun q c W => econv_zero W q c
                  clear hcv hcz hB1 hB2' hBu
                  subst hcB
                  rcases hm01 with rfl | rfl
                  · have HS4 : Hid (RR = _) := (by rw [HS3.out, Ed.stage_yes0 hyes] : RR = Ed.stage bs _ 1 _ ⟨#[]⟩ g)
                    clear HS3 hyes
                    go_wp2_with (go_at_call 31; go_must (refine (hnA _ _ _ _ hr9 ⟨rfl, .inr ⟨rfl, rfl⟩⟩).mono ?_; rintro e w7 ⟨rfl, hb7⟩; have hu7 := hu9.trans (hb7.mono (by omega)); have HE7 : Hid (_ = _) := ob_below HE3.out hb7; obtain ⟨y0, y1, y2, y3, y4, y5, y6, y7, y8, y9, y10, y11⟩ := blk12 HE7.out; have yf := blk_thaw HE7.out; have hbel7 := hbel3.trans (hb7.mono hs9)))
                    go_roundw
                    case rel => exact ⟨1, _, ⟨#[]⟩, g, by omega, by omega, by go_num, rfl, HS4, blk_put HE7.out 10 _, below_put hbel7 (Nat.le_refl _) _ _⟩
                    case measure => simp [intOf]; try omega
                  · have HS4 : Hid (RR = _) := (by rw [HS3.out, Ed.stage_yes1 hyes] : RR = Ed.stage bs _ 2 _ f ⟨#[]⟩)
                    clear HS3 hyes
                    go_wp2_with (go_at_call 31; go_must (refine (hnA _ _ _ _ hr9 ⟨rfl, .inr ⟨rfl, rfl⟩⟩).mono ?_; rintro e w7 ⟨rfl, hb7⟩; have hu7 := hu9.trans (hb7.mono (by omega)); have HE7 : Hid (_ = _) := ob_below HE3.out hb7; obtain ⟨y0, y1, y2, y3, y4, y5, y6, y7, y8, y9, y10, y11⟩ := blk12 HE7.out; have yf := blk_thaw HE7.out; have hbel7 := hbel3.trans (hb7.mono hs9)))
                    go_roundw
                    case rel => exact ⟨2, _, f, ⟨#[]⟩, by omega, by omega, by go_num, rfl, HS4, blk_put HE7.out 11 _, below_put hbel7 (Nat.le_refl _) _ _⟩
                    case measure => simp [intOf]; try omega
                · rcases hm01 with rfl | rfl
                  · have HS4 : Hid (RR = _) := (by rw [HS3.out, Ed.stage_yes0 hyes] : RR = Ed.stage bs _ 1 B2' S g)
                    clear HS3 hyes hcz hB1 hB2' hBu
                    go_wp2_with (go_at_call 31; go_must (refine (hnA _ _ _ _ hr9 ⟨rfl, .inr ⟨rfl, rfl⟩⟩).mono ?_; rintro e w7 ⟨rfl, hb7⟩; have hu7 := hu9.trans (hb7.mono (by omega)); have hcv7 := hcv.out w7 (hr1.below hu7 (by simp)); have HE7 : Hid (_ = _) := ob_below HE3.out hb7; obtain ⟨y0, y1, y2, y3, y4, y5, y6, y7, y8, y9, y10, y11⟩ := blk12 HE7.out; have yf := blk_thaw HE7.out; have hbel7 := hbel3.trans (hb7.mono hs9)))
                    go_roundw
                    case rel => exact ⟨1, _, S, g, by omega, by omega, by go_num, rfl, HS4, blk_put HE7.out 10 _, below_put hbel7 (Nat.le_refl _) _ _⟩
                    case measure => simp [intOf]; try omega
                  · have HS4 : Hid (RR = _) := (by rw [HS3.out, Ed.stage_yes1 hyes] : RR = Ed.stage bs _ 2 B2' f S)
                    clear HS3 hyes hcz hB1 hB2' hBu
                    go_wp2_with (go_at_call 31; go_must (refine (hnA _ _ _ _ hr9 ⟨rfl, .inr ⟨rfl, rfl⟩⟩).mono ?_; rintro e w7 ⟨rfl, hb7⟩; have hu7 := hu9.trans (hb7.mono (by omega)); have hcv7 := hcv.out w7 (hr1.below hu7 (by simp)); have HE7 : Hid (_ = _) := ob_below HE3.out hb7; obtain ⟨y0, y1, y2, y3, y4, y5, y6, y7, y8, y9, y10, y11⟩ := blk12 HE7.out; have yf := blk_thaw HE7.out; have hbel7 := hbel3.trans (hb7.mono hs9)))
                    go_roundw
                    case rel => exact ⟨2, _, f, S, by omega, by omega, by go_num, rfl, HS4, blk_put HE7.out 11 _, below_put hbel7 (Nat.le_refl _) _ _⟩
                    case measure => simp [intOf]; try omega
              · obtain rfl : m3 = 2 := by omega
                have HR5 : Hid (RR = some (⟨(K : Nat), n, i, t, a, bb, c, ⟨p, q, r, f, g⟩⟩, A3)) := (by rw [HS3.out]; rfl : RR = _)
                have hzz := hZ.out wr hu9
                obtain ⟨z0, z1, z2, z3, z4, z5, z6, z7, z8, z9, z10, z11⟩ := blk12 hzz
                have zf := blk_thaw hzz
                clear HS3 HR4
                go_wp2
                exact bodyPost_ret (v := .tuple #[ed12 (K : Nat) n i t a bb c p q r f g, .int .i64 (A3 : Nat)]) (by simp [results, Try.results32, go_sem, z0, z1, z2, z3, z4, z5, z6, z7, z8, z9, z10, z11]) rfl (by rw [HR5.out]; exact ⟨rfl, (below_put (below_put (below_put (below_put (below_put (below_put (below_put (below_put (below_put (below_put (below_put (below_put hw9 (by omega) _ _) (by omega) _ _) (by omega) _ _) (by omega) _ _) (by omega) _ _) (by omega) _ _) (by omega) _ _) (by omega) _ _) (by omega) _ _) (by omega) _ _) (by omega) _ _) (by omega) _ _)⟩)
          · have d4 : ((K : Int) == 4) = false := by simp; omega
            have HR4 : Hid (RR = some (⟨(K : Nat), n, i, t, a, bb, c, ⟨p, q, r, f, g⟩⟩, A)) := (by rw [HR3.out, if_neg hK4] : RR = _)
            clear HR3 hff hownl
            obtain ⟨v0, v1, v2, v3, v4, v5, v6, v7, v8, v9, v10, v11⟩ := blk12 HE.out
            have hu9 := hB2.trans (hbel2.mono hs2)
            have hzz := hZ.out V hu9
            obtain ⟨z0, z1, z2, z3, z4, z5, z6, z7, z8, z9, z10, z11⟩ := blk12 hzz
            have zf := blk_thaw hzz
            have hw9 := hb1.trans (hu9.mono (by omega))
            go_wp2
            go_loopw [7, 12] (fun av iv wr => av = .int .i64 (A : Nat) ∧ iv = .int .i64 0 ∧ wr = V) (fun _ _ _ => 0)
            case atStart => exact ⟨rfl, rfl, rfl⟩
            case round =>
              obtain ⟨rfl, rfl, hwr⟩ := hrel
              obtain rfl : V = wr := hwr.symm
              go_wp2
              exact bodyPost_ret (v := .tuple #[ed12 (K : Nat) n i t a bb c p q r f g, .int .i64 (A : Nat)]) (by simp [results, Try.results32, go_sem, z0, z1, z2, z3, z4, z5, z6, z7, z8, z9, z10, z11]) rfl (by rw [HR4.out]; exact ⟨rfl, (below_put (below_put (below_put (below_put (below_put (below_put (below_put (below_put (below_put (below_put (below_put (below_put hw9 (by omega) _ _) (by omega) _ _) (by omega) _ _) (by omega) _ _) (by omega) _ _) (by omega) _ _) (by omega) _ _) (by omega) _ _) (by omega) _ _) (by omega) _ _) (by omega) _ _) (by omega) _ _)⟩)
end Go.Proofs.Ytkbnojjjfonniaa
