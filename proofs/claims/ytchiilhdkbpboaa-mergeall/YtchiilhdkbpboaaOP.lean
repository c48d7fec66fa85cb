/- From the reading of an argument that is a slice of slices of items to the items. -/
import Derived.Test.YtchiilhdkbpboaaO8
import Derived.Test.YtchiilhdkbpboaaPR
namespace Go.Proofs.Ytchiilhdkbpboaa
open Go.ChangeShapes Go.WideShapes Go.RowKit

/-- parts as they may come in -/
def InQ (w : World) (a : Option Addr) (n c : Nat) (ps : List PH) (gss : List (List IH)) (xss : List (List It.I)) : Prop := InP w a n ps gss xss ∧ (a = none → n = 0 ∧ c = 0) ∧ n ≤ c

set_option maxRecDepth 100000 in
theorem open_parts {H : Type} {enc : TypeId × Value → H} {W : World} {fuel : Nat} {cs : List Value} {d : DataW H} {p : List MemPlace} {a : Option Addr} {len cap : Nat} {ts : List TypeId} {ds : List (DataW H)} {j : Nat}
    (hf : DataW.trod enc Try.prog W 0 (fun _ => true) true fuel 22 cs = some (d, p)) (hcs : cs = [.slice a len cap])
    (hsz : (DataW.weightsEach Try.prog ts ds).all (· ≤ reachBytes) = true) (ht : ts[j]? = some 22) (hd : ds[j]? = some d) : ∃ ps gss xss, InQ W a len cap ps gss xss := by
  have hrb : reachBytes ≤ 140737488355328 := Nat.le_of_lt reachBytes_lt
  have hc1 : Try.prog.cellsOf 25 = 1 := by kernel_rfl
  rcases Go.Deep.open_slice Try.underlying22 hf with ⟨h0, _⟩ | ⟨x, l, c, m, n, D, Pl, h0, _, hl, hm, hmm, hx, hall⟩
  · rw [hcs] at h0
    simp only [List.cons.injEq, Value.slice.injEq, and_true] at h0
    obtain ⟨rfl, rfl, rfl⟩ := h0
    exact ⟨[], [], [], ⟨TRow.nil _ _, rfl, rfl, fun i hi => by simp at hi⟩, fun _ => ⟨rfl, rfl⟩, by omega⟩
  · rw [hcs] at h0
    simp only [List.cons.injEq, Value.slice.injEq, and_true] at h0
    obtain ⟨rfl, rfl, rfl⟩ := h0
    simp only [if_true] at hmm
    subst hmm
    simp only [Prod.mk.injEq] at hx
    obtain ⟨rfl, _⟩ := hx
    have hlen : len ≤ 140737488355328 := by
      have := sized_slice hsz ht hd Try.underlying22
      simp only [List.length_map, List.length_range] at this
      have hb : Try.prog.bytesOf 25 = 24 := by kernel_rfl
      rw [hb] at this
      omega
    rw [hc1] at hall
    rcases Nat.eq_zero_or_pos m with h0 | h0
    · obtain rfl : len = 0 := by omega
      exact ⟨[], [], [], ⟨TRow.nil _ _, rfl, rfl, fun i hi => by simp at hi⟩, (fun h => by cases h), by omega⟩
    · obtain ⟨b, off, spot⟩ := x
      have hs : spot = none := by
        obtain ⟨cs', h1, _⟩ := hall 0 h0
        obtain ⟨_, hlen', hcell⟩ := World.cells?_some h1
        have q0 := hcell 0 (by omega)
        have : 0 < cs'.length := by omega
        rw [List.getElem?_eq_getElem this] at q0
        simpa [Addr.add] using World.cell?_spot q0
      subst hs
      have hfr : ∀ i, i < len → ∃ z : PH × List IH × List It.I, TAt phe W b (off + i * 1) z.1 ∧ InI W z.1.a z.1.n z.1.c z.2.1 z.2.2 := by
        intro i hi
        obtain ⟨cs', h1, h2⟩ := hall i (by omega)
        rw [add_at] at h1
        obtain ⟨_, hlen', hcell⟩ := World.cells?_some h1
        match cs', hlen' with
        | [V], _ =>
          have hv : W.cell? ⟨b, off + i * 1, none⟩ = some V := by simpa [Addr.add] using hcell 0 (by omega)
          have hsl : ∃ a' n' c', V = .slice a' n' c' := by
            rcases Go.Deep.open_slice Try.underlying25 h2 with ⟨q0, _⟩ | ⟨x', l', c', m', n', D', Pl', q0, _⟩
            · simp only [List.cons.injEq, and_true] at q0; exact ⟨_, _, _, q0⟩
            · simp only [List.cons.injEq, and_true] at q0; exact ⟨_, _, _, q0⟩
          obtain ⟨a', n', c', rfl⟩ := hsl
          have hsz' : (DataW.weightsEach Try.prog [25] [(D i)]).all (· ≤ reachBytes) = true := by
            rw [List.all_eq_true] at hsz ⊢
            intro k hk
            refine hsz k (DataW.weights_mem_each ht hd _ ?_)
            simp only [DataW.weights, Try.underlying22, List.mem_cons, List.mem_append]
            refine Or.inr (Or.inl (weightsAll_in8 (d := (D i)) ?_ _ ?_))
            · simp only [List.mem_map, List.mem_range]
              exact ⟨i, hi, rfl⟩
            · simpa [DataW.weightsEach] using hk
          obtain ⟨hs, xs, hI⟩ := open_items h2 rfl hsz' (j := 0) rfl rfl
          refine ⟨(⟨a', n', c'⟩, hs, xs), fun j v hj => ?_, hI⟩
          match j, hj with
          | 0, hj => cases hj; exact hv
          | j + 1, hj => simp [phe] at hj
      haveI : Inhabited (PH × List IH × List It.I) := ⟨(phz, [], [])⟩
      obtain ⟨f, hf⟩ := Go.Deep.choose_lt hfr
      refine ⟨(List.range len).map (fun i => (f i).1), (List.range len).map (fun i => (f i).2.1), (List.range len).map (fun i => (f i).2.2), ⟨⟨by simp, by omega, .inr ⟨b, off, rfl, fun i hi => ?_⟩⟩, by simp, by simp, fun i hi => ?_⟩, (fun h => by cases h), hl⟩
      · rw [show ((List.range len).map (fun i => (f i).1)).getD i phz = (f i).1 by simp [hi]]
        exact (hf i hi).1
      · have hi' : i < len := by simpa using hi
        rw [show ((List.range len).map (fun i => (f i).1)).getD i phz = (f i).1 by simp [hi'], show ((List.range len).map (fun i => (f i).2.1)).getD i [] = (f i).2.1 by simp [hi'], show ((List.range len).map (fun i => (f i).2.2)).getD i [] = (f i).2.2 by simp [hi']]
        exact (hf i hi').2
end Go.Proofs.Ytchiilhdkbpboaa
