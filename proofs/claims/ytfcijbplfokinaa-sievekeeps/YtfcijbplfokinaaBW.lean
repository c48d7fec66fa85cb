/- What the program's Put and the reference's Put do. -/
import Derived.Test.YtfcijbplfokinaaW4
import Derived.Deep.RegionHeld3
namespace Go.Proofs.Ytfcijbplfokinaa
open Go.RowKit

theorem put_take (l : List Nat) (k : Nat) (h : k < l.length) : Va.put (l.take (k + 1)) = Va.put (l.take k) ++ Va.one (l.getD k 0) := by
  rw [Va.take_snoc l k h, Va.put_snoc]
theorem put_take_len (l : List Nat) (hs : ∀ u ∈ l, u < lim .u64) (k : Nat) (hk : k ≤ 1000) : (Va.put (l.take k)).length ≤ 10000 := by
  have h1 := Va.put_len (l.take k) (fun u hu => hs u (List.mem_of_mem_take hu))
  have h2 : (l.take k).length ≤ k := by rw [List.length_take]; omega
  omega
theorem or128 : ∀ x : Fin 256, x.val ||| 128 = x.val % 128 + 128 := by decide +kernel
theorem or128_walk (u : Nat) : bits .or .u8 ((u : Int) % 256) 128 = ((u % 128 + 128 : Nat) : Int) := by
  have h1 : (u : Int) % 256 = ((u % 256 : Nat) : Int) := by omega
  have h2 := u8_or_nat (u % 256) 128 (by omega) (by omega)
  have h3 := or128 ⟨u % 256, by omega⟩
  simp only at h3
  rw [h1]
  have h4 : ((128 : Nat) : Int) = 128 := rfl
  rw [h4] at h2
  rw [h2, h3]; omega

end Go.Proofs.Ytfcijbplfokinaa


/- What the laws' own test 'awake' does; from the frame's reading to rows. -/
namespace Go.Proofs.Ytfcijbplfokinaa
open Go.RowKit

theorem row_lit (k : IntKind) (w : World) (e : TypeId) (cs : Array Value) (bs : List Nat) (n : Nat) (hcs : cs.toList = kcells k bs) (hn : n = bs.length) (hs : ∀ x ∈ bs, x < lim k) (hb : n ≤ 1000) :
    Row k (w.alloc (.cells cs e)) (some ⟨w.heap.size, 0, none⟩) n bs := by
  refine ⟨hn.symm, by omega, hs, .inr ⟨_, _, rfl, fun i hi => ?_⟩⟩
  have : (w.alloc (.cells cs e)).heap[w.heap.size]? = some (.cells cs e) := heap_alloc_new w _
  simp only [World.cell?, this]
  show (if (none : Option _).isSome then none else cs[0 + i]?) = _
  rw [if_neg (by simp), Nat.zero_add, ← Array.getElem?_toList, hcs]
  simp only [kcells, List.getElem?_map, List.getD_eq_getElem?_getD]
  rw [List.getElem?_eq_getElem (by omega)]; simp
theorem put300 : Va.put [300] = [172, 2] := by
  rw [Va.put_one, Va.one_hi (by omega), Va.one_lo (by omega)]
theorem get300 : Va.get [172, 2, 7] = (300, 2) := by decide +kernel
theorem fold3 : Va.fold (-3) = 5 := by decide

theorem rowA (w : World) : Row .u8 (w.alloc (.cells #[.int .u8 172, .int .u8 2, .int .u8 7] 5)) (some ⟨w.heap.size, 0, none⟩) 3 [172, 2, 7] :=
  row_lit .u8 w 5 _ [172, 2, 7] 3 (by simp [kcells]) rfl (by intro x hx; simp at hx; show x < 256; omega) (by omega)
theorem rowB (w : World) (b : Nat) (hb : w.heap.size = b) : Row .u64 (w.alloc (.cells #[.int .u64 300] 35)) (some ⟨b, 0, none⟩) 1 [300] :=
  hb ▸ row_lit .u64 w 35 _ [300] 1 (by simp [kcells]) rfl (by intro x hx; simp at hx; show x < 18446744073709551616; omega) (by omega)
theorem rowC (w : World) : Row .u8 (w.alloc (.cells #[.int .u8 172, .int .u8 2] 5)) (some ⟨w.heap.size, 0, none⟩) 2 [172, 2] :=
  row_lit .u8 w 5 _ [172, 2] 2 (by simp [kcells]) rfl (by intro x hx; simp at hx; show x < 256; omega) (by omega)
theorem small2 : ∀ x ∈ [172, 2], x < lim .u8 := by intro x hx; simp at hx; show x < 256; omega

/-- what came in, as integers -/
def IsRow (k : IntKind) (w : World) (a : Option Addr) (len cap : Nat) (zs : List Int) : Prop :=
  (a = none ∧ len = 0 ∧ cap = 0 ∧ zs = []) ∨
  ∃ x, a = some x ∧ len ≤ cap ∧ cap ≤ maxLen ∧ zs.length = cap ∧ (∀ i, i < zs.length → w.cell? (x.add i) = some (.int k (zs.getD i 0))) ∧ ∀ n ∈ zs, (Lit.int k n).wf = true

theorem row_of {k : IntKind} (hk : k = .u8 ∨ k = .u64) {w : World} {a : Option Addr} {len cap : Nat} {zs : List Int} (h : IsRow k w a len cap zs) (hl : len ≤ 1000000000000000000) :
    ∃ bs, Row k w a len bs := by
  rcases h with ⟨rfl, rfl, rfl, rfl⟩ | ⟨x, rfl, hlc, hm, hz, hcell, hwz⟩
  · exact ⟨[], rfl, by omega, by simp, .inl rfl⟩
  · have hwz' : ∀ n ∈ zs, 0 ≤ n ∧ n < (lim k : Int) := by
      intro n hn
      have := hwz n hn
      rcases hk with rfl | rfl
      · simp [Lit.wf, IntKind.min, IntKind.max, IntKind.bits, IntKind.signed] at this
        show 0 ≤ n ∧ n < 256
        omega
      · simp [Lit.wf, IntKind.min, IntKind.max, IntKind.bits, IntKind.signed] at this
        show 0 ≤ n ∧ n < 18446744073709551616
        omega
    refine ⟨(zs.take len).map Int.toNat, by simp; omega, by omega, ?_, ?_⟩
    · intro n hn
      simp only [List.mem_map] at hn
      obtain ⟨z, hz', rfl⟩ := hn
      have := hwz' z (List.mem_of_mem_take hz')
      omega
    · by_cases h0 : len = 0
      · exact .inl h0
      · right
        obtain ⟨b, off, spot⟩ := x
        have hs : spot = none := by simpa [Addr.add] using World.cell?_spot (hcell 0 (by omega))
        subst hs
        refine ⟨b, off, rfl, fun i hi => ?_⟩
        have hc := hcell i (by omega)
        have hb := hwz' (zs.getD i 0) (by rw [List.getD_eq_getElem?_getD, List.getElem?_eq_getElem (by omega)]; simp)
        rw [add_at] at hc
        rw [hc]
        have e : ((zs.take len).map Int.toNat).getD i 0 = (zs.getD i 0).toNat := by
          simp [List.getD_eq_getElem?_getD, hi]
          rw [List.getElem?_eq_getElem (by omega)]; simp
        rw [e, Int.toNat_of_nonneg hb.1]
theorem nil_of {k : IntKind} {w : World} {a : Option Addr} {len cap : Nat} {zs : List Int} (h : IsRow k w a len cap zs) : (a = none → len = 0 ∧ cap = 0) ∧ len ≤ cap := by
  rcases h with ⟨rfl, rfl, rfl, rfl⟩ | ⟨x, rfl, hlc, _⟩
  · exact ⟨fun _ => ⟨rfl, rfl⟩, by omega⟩
  · exact ⟨(fun h => by cases h), hlc⟩
end Go.Proofs.Ytfcijbplfokinaa

/- Parts of rows; what the law VarintPrefix does. -/
namespace Go.Proofs.Ytfcijbplfokinaa
open Go.RowKit

theorem Row.take {k : IntKind} {w : World} {a : Option Addr} {n : Nat} {bs : List Nat} (h : Row k w a n bs) (j : Nat) (hj : j ≤ n) : Row k w a j (bs.take j) := by
  obtain ⟨h1, h2, h3, h4⟩ := h
  refine ⟨by rw [List.length_take]; omega, by omega, take_small h3 j, ?_⟩
  rcases Nat.eq_zero_or_pos j with h0 | h0
  · exact .inl h0
  · rcases h4 with h0 | ⟨b, off, e, hc⟩
    · omega
    · refine .inr ⟨b, off, e, fun i hi => ?_⟩
      rw [hc i (by omega)]
      congr 3
      rw [List.getD_eq_getElem?_getD, List.getD_eq_getElem?_getD, List.getElem?_take, if_pos hi]
theorem Row.drop {k : IntKind} {w : World} {b off n : Nat} {bs : List Nat} (h : Row k w (some ⟨b, off, none⟩) n bs) (j : Nat) (hj : j ≤ n) : Row k w (some ⟨b, off + j, none⟩) (n - j) (bs.drop j) := by
  obtain ⟨h1, h2, h3, h4⟩ := h
  refine ⟨by rw [List.length_drop]; omega, by omega, drop_small h3 j, ?_⟩
  rcases Nat.eq_zero_or_pos (n - j) with h0 | h0
  · exact .inl h0
  · rcases h4 with h0 | ⟨b', off', e, hc⟩
    · omega
    · simp only [Option.some.injEq, Addr.mk.injEq] at e
      obtain ⟨rfl, rfl, _⟩ := e
      refine .inr ⟨b, off + j, rfl, fun i hi => ?_⟩
      have := hc (j + i) (by omega)
      rw [← Nat.add_assoc] at this
      rw [this]
      congr 3
      rw [List.getD_eq_getElem?_getD, List.getD_eq_getElem?_getD, List.getElem?_drop]

theorem rowU (w : World) (u : Nat) (h : u < 18446744073709551616) : Row .u64 (w.alloc (.cells #[.int .u64 (u : Nat)] 35)) (some ⟨w.heap.size, 0, none⟩) 1 [u] := row_new .u64 w 35 u h

end Go.Proofs.Ytfcijbplfokinaa


/- What All does, the program's and the reference's. -/
namespace Go.Proofs.Ytfcijbplfokinaa
open Go.RowKit

/-- what a slice looks like: of no room at all, or at a place in a block -/
def Shape (a : Option Addr) (len cap : Nat) : Prop := (len = 0 ∧ cap = 0) ∨ ∃ b off, a = some ⟨b, off, none⟩ ∧ len ≤ cap

theorem shape_of {k : IntKind} {w : World} {a : Option Addr} {len cap : Nat} {zs : List Int} (h : IsRow k w a len cap zs) : Shape a len cap := by
  rcases h with ⟨rfl, rfl, rfl, rfl⟩ | ⟨x, rfl, hlc, hm, hz, hcell, _⟩
  · exact .inl ⟨rfl, rfl⟩
  · rcases Nat.eq_zero_or_pos cap with h0 | h0
    · exact .inl ⟨by omega, h0⟩
    · obtain ⟨b, off, spot⟩ := x
      have hs : spot = none := by simpa [Addr.add] using World.cell?_spot (hcell 0 (by omega))
      subst hs
      exact .inr ⟨b, off, rfl, hlc⟩

/-- what All tells -/
def AllRes (w : World) (R : List Nat × Nat × Nat) (e : Ending) (w' : World) : Prop :=
  ∃ a c, e = .returned (.tuple #[.slice a R.1.length c, .int .i64 (R.2.1 : Nat), .int .i64 (R.2.2 : Nat)]) ∧ w'.ownsRow w.heap.size 35 1 (.slice a R.1.length c) R.1.length (kcells .u64 R.1) ∧ Below w.heap.size w w'
theorem ret_all {v v' : Value} {b b' c c' : Int} (h1 : v = v') (h2 : b = b') (h3 : c = c') :
    Ending.returned (.tuple #[v, .int .i64 b, .int .i64 c]) = .returned (.tuple #[v', .int .i64 b', .int .i64 c']) := by rw [h1, h2, h3]

end Go.Proofs.Ytfcijbplfokinaa

/- What the reference's Get does. -/
namespace Go.Proofs.Ytfcijbplfokinaa
open Go.RowKit

theorem ret2 {k1 k2 : IntKind} {a a' b b' : Int} (h1 : a = a') (h2 : b = b') :
    Ending.returned (.tuple #[.int k1 a, .int k2 b]) = .returned (.tuple #[.int k1 a', .int k2 b']) := by rw [h1, h2]
theorem high_step {bs : List Nat} {k : Nat} (h : ∀ j, j < k → 128 ≤ bs.getD j 0) (hx : 128 ≤ bs.getD k 0) : ∀ j, j < k + 1 → 128 ≤ bs.getD j 0 := by
  intro j hj
  rcases Nat.lt_or_ge j k with h' | h'
  · exact h j h'
  · obtain rfl : j = k := by omega
    exact hx

theorem below_of_drew {B : Nat} {W w1 : World} (h : Below B W.drew w1) : Below B W w1 := ⟨h.os, h.tape, h.output, h.size, h.block⟩

end Go.Proofs.Ytfcijbplfokinaa


/- What the reference's All does. -/
namespace Go.Proofs.Ytfcijbplfokinaa
open Go.RowKit

end Go.Proofs.Ytfcijbplfokinaa
