/- What the laws' own test 'awake' does; from the frame's reading to rows. -/
import Derived.Test.YtgmcjalcpgldhaaW5
namespace Go.Proofs.Ytgmcjalcpgldhaa
open Go.RowKit

theorem row_lit (k : IntKind) (w : World) (e : TypeId) (cs : Array Value) (bs : List Nat) (n : Nat) (hcs : cs.toList = kcells k bs) (hn : n = bs.length) (hs : ∀ x ∈ bs, x < lim k) (hb : n ≤ 1000) :
    Row k (w.alloc (.cells cs e)) (some ⟨w.heap.size, 0, none⟩) n bs := by
  refine ⟨hn.symm, by omega, hs, .inr ⟨_, _, rfl, fun i hi => ?_⟩⟩
  have : (w.alloc (.cells cs e)).heap[w.heap.size]? = some (.cells cs e) := heap_alloc_new w _
  simp only [World.cell?, this]
  show (if (none : Option _).isSome then none else cs[0 + i]?) = _
  rw [if_neg (by simp), Nat.zero_add, ← Array.getElem?_toList, hcs]
  simp only [kcells, List.getElem?_map, List.getD_eq_getElem?_getD]
  rw [List.getElem?_eq_getElem (by omega)]; simp
theorem put300 : Va.put [300] = [172, 2] := by
  rw [Va.put_one, Va.one_hi (by omega), Va.one_lo (by omega)]
theorem get300 : Va.get [172, 2, 7] = (300, 2) := by decide +kernel
theorem fold3 : Va.fold (-3) = 5 := by decide

theorem rowA (w : World) : Row .u8 (w.alloc (.cells #[.int .u8 172, .int .u8 2, .int .u8 7] 5)) (some ⟨w.heap.size, 0, none⟩) 3 [172, 2, 7] :=
  row_lit .u8 w 5 _ [172, 2, 7] 3 (by simp [kcells]) rfl (by intro x hx; simp at hx; show x < 256; omega) (by omega)
theorem rowB (w : World) (b : Nat) (hb : w.heap.size = b) : Row .u64 (w.alloc (.cells #[.int .u64 300] 53)) (some ⟨b, 0, none⟩) 1 [300] :=
  hb ▸ row_lit .u64 w 53 _ [300] 1 (by simp [kcells]) rfl (by intro x hx; simp at hx; show x < 18446744073709551616; omega) (by omega)
theorem rowC (w : World) : Row .u8 (w.alloc (.cells #[.int .u8 172, .int .u8 2] 5)) (some ⟨w.heap.size, 0, none⟩) 2 [172, 2] :=
  row_lit .u8 w 5 _ [172, 2] 2 (by simp [kcells]) rfl (by intro x hx; simp at hx; show x < 256; omega) (by omega)
theorem small2 : ∀ x ∈ [172, 2], x < lim .u8 := by intro x hx; simp at hx; show x < 256; omega

/-- what came in, as integers -/
def IsRow (k : IntKind) (w : World) (a : Option Addr) (len cap : Nat) (zs : List Int) : Prop :=
  (a = none ∧ len = 0 ∧ cap = 0 ∧ zs = []) ∨
  ∃ x, a = some x ∧ len ≤ cap ∧ cap ≤ maxLen ∧ zs.length = cap ∧ (∀ i, i < zs.length → w.cell? (x.add i) = some (.int k (zs.getD i 0))) ∧ ∀ n ∈ zs, (Lit.int k n).wf = true

theorem row_of {k : IntKind} (hk : k = .u8 ∨ k = .u64) {w : World} {a : Option Addr} {len cap : Nat} {zs : List Int} (h : IsRow k w a len cap zs) (hl : len ≤ 1000000000000000000) :
    ∃ bs, Row k w a len bs := by
  rcases h with ⟨rfl, rfl, rfl, rfl⟩ | ⟨x, rfl, hlc, hm, hz, hcell, hwz⟩
  · exact ⟨[], rfl, by omega, by simp, .inl rfl⟩
  · have hwz' : ∀ n ∈ zs, 0 ≤ n ∧ n < (lim k : Int) := by
      intro n hn
      have := hwz n hn
      rcases hk with rfl | rfl
      · simp [Lit.wf, IntKind.min, IntKind.max, IntKind.bits, IntKind.signed] at this
        show 0 ≤ n ∧ n < 256
        omega
      · simp [Lit.wf, IntKind.min, IntKind.max, IntKind.bits, IntKind.signed] at this
        show 0 ≤ n ∧ n < 18446744073709551616
        omega
    refine ⟨(zs.take len).map Int.toNat, by simp; omega, by omega, ?_, ?_⟩
    · intro n hn
      simp only [List.mem_map] at hn
      obtain ⟨z, hz', rfl⟩ := hn
      have := hwz' z (List.mem_of_mem_take hz')
      omega
    · by_cases h0 : len = 0
      · exact .inl h0
      · right
        obtain ⟨b, off, spot⟩ := x
        have hs : spot = none := by simpa [Addr.add] using World.cell?_spot (hcell 0 (by omega))
        subst hs
        refine ⟨b, off, rfl, fun i hi => ?_⟩
        have hc := hcell i (by omega)
        have hb := hwz' (zs.getD i 0) (by rw [List.getD_eq_getElem?_getD, List.getElem?_eq_getElem (by omega)]; simp)
        rw [add_at] at hc
        rw [hc]
        have e : ((zs.take len).map Int.toNat).getD i 0 = (zs.getD i 0).toNat := by
          simp [List.getD_eq_getElem?_getD, hi]
          rw [List.getElem?_eq_getElem (by omega)]; simp
        rw [e, Int.toNat_of_nonneg hb.1]
theorem nil_of {k : IntKind} {w : World} {a : Option Addr} {len cap : Nat} {zs : List Int} (h : IsRow k w a len cap zs) : (a = none → len = 0 ∧ cap = 0) ∧ len ≤ cap := by
  rcases h with ⟨rfl, rfl, rfl, rfl⟩ | ⟨x, rfl, hlc, _⟩
  · exact ⟨fun _ => ⟨rfl, rfl⟩, by omega⟩
  · exact ⟨(fun h => by cases h), hlc⟩
end Go.Proofs.Ytgmcjalcpgldhaa
