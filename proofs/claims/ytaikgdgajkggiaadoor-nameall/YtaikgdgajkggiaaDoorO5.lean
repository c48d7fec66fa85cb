/- From the reading of an argument that is a file's name, a text, a slice of texts to what they are. -/
import Derived.Test.YtaikgdgajkggiaaDoorN6
import Derived.Lib.SmallJoins
import Derived.SizedLaws
import Derived.ProofKit
import Derived.SliceStrings
namespace Go.Proofs.YtaikgdgajkggiaaDoor
open Go.ChangeShapes Go.WideShapes Go.RowKit

theorem i64_in {k : Int} (h : (Lit.int .i64 k).wf = true) : -9223372036854775808 ≤ k ∧ k ≤ 9223372036854775807 := by
  simp [Lit.wf, IntKind.min, IntKind.max, IntKind.bits, IntKind.signed] at h
  omega

theorem open_file {H : Type} {enc : TypeId × Value → H} {W : World} {r : Reach} {b0 : Nat} {v : Value} {d : DataW H} {p : List MemPlace}
    (hv : Value.okWide Tryd.prog W r b0 23 v) (h : DataW.Trod enc Tryd.prog W 0 (fun _ => true) true 23 v d p) : ∃ f : Na.F, v = fv f ∧ (-9223372036854775808 ≤ f.1 ∧ f.1 ≤ 9223372036854775807) ∧ (-9223372036854775808 ≤ f.2 ∧ f.2 ≤ 9223372036854775807) := by
  obtain ⟨v0, v1, y0, y1, n, rfl, _, _, t0, t1⟩ := Go.Joins.open_agg2 Tryd.underlying23 (by kernel_rfl) (by kernel_rfl) hv h
  obtain ⟨k0, h0, _, w0⟩ := DataW.trod_int Tryd.underlying3 t0
  obtain ⟨k1, h1, _, w1⟩ := DataW.trod_int Tryd.underlying3 t1
  simp only [List.cons.injEq, and_true] at h0 h1
  subst h0; subst h1
  exact ⟨(k0, k1), rfl, i64_in w0, i64_in w1⟩

theorem open_text {H : Type} {enc : TypeId × Value → H} {W : World} {r : Reach} {b0 : Nat} {v : Value} {d : DataW H} {p : List MemPlace}
    (hv : Value.okWide Tryd.prog W r b0 9 v) (h : DataW.Trod enc Tryd.prog W 0 (fun _ => true) true 9 v d p) : ∃ s : ByteArray, v = .string s ∧ s.size ≤ maxLen := by
  obtain ⟨s, rfl⟩ := okWide_string Tryd.underlying9 hv
  obtain ⟨fuel, hf⟩ := h
  obtain ⟨s', hs, _, hss⟩ := DataW.trod_string Tryd.underlying9 hf
  simp only [Value.cells, List.cons.injEq, Value.string.injEq, and_true] at hs
  subst hs
  exact ⟨_, rfl, hss⟩

/-- what came in, as texts -/
def IsTexts (w : World) (a : Option Addr) (len cap : Nat) (ss : List ByteArray) : Prop :=
  SRow w a len ss ∧ (a = none → len = 0 ∧ cap = 0) ∧ (∀ i, i < len → (ss.getD i ⟨#[]⟩).size ≤ maxLen) ∧ len ≤ cap
theorem open_texts {H : Type} {enc : TypeId × Value → H} {W : World} {fuel : Nat} {cs : List Value} {d : DataW H} {p : List MemPlace} {a : Option Addr} {len cap : Nat} {ts : List TypeId} {ds : List (DataW H)} {j : Nat}
    (hf : DataW.trod enc Tryd.prog W 0 (fun _ => true) true fuel 34 cs = some (d, p)) (hcs : cs = [.slice a len cap])
    (hsz : (DataW.weightsEach Tryd.prog ts ds).all (· ≤ reachBytes) = true) (ht : ts[j]? = some 34) (hd : ds[j]? = some d) : ∃ ss, IsTexts W a len cap ss := by
  have hrb : reachBytes ≤ 140737488355328 := Nat.le_of_lt reachBytes_lt
  rcases open_strings Tryd.underlying34 Tryd.underlying9 (by kernel_rfl) hf with ⟨h0, _⟩ | ⟨x, l, c, ss, h0, _, hl, hm, hlen, hx, hcell, hss⟩
  · rw [hcs] at h0
    simp only [List.cons.injEq, Value.slice.injEq, and_true] at h0
    obtain ⟨rfl, rfl, rfl⟩ := h0
    exact ⟨[], ⟨rfl, by omega, .inl rfl⟩, fun _ => ⟨rfl, rfl⟩, fun i hi => by omega, Nat.le_refl _⟩
  · rw [hcs] at h0
    simp only [List.cons.injEq, Value.slice.injEq, and_true] at h0
    obtain ⟨rfl, rfl, rfl⟩ := h0
    simp only [if_true] at hlen
    simp only [Prod.mk.injEq] at hx
    obtain ⟨rfl, _⟩ := hx
    have hlen2 : len ≤ 140737488355328 := by
      have := sized_slice hsz ht hd Tryd.underlying34
      have hb : Tryd.prog.bytesOf 9 = 16 := by kernel_rfl
      rw [hb] at this
      have e1 : (strs (H := H) (ss.take len)).length = (ss.take len).length := by simp [strs]
      rw [e1, List.length_take] at this
      omega
    have hget : ∀ i, i < len → (ss.take len).getD i ⟨#[]⟩ = ss.getD i ByteArray.empty := fun i hi => by
      have : i < ss.length := by omega
      simp [hi, this]
    have hsm : ∀ i, i < len → ((ss.take len).getD i ⟨#[]⟩).size ≤ maxLen := fun i hi => by
      have h' : i < ss.length := by omega
      rw [hget i hi, show ss.getD i ByteArray.empty = ss[i] by simp [h']]
      exact hss _ (List.getElem_mem h')
    rcases Nat.eq_zero_or_pos len with h0 | h0
    · subst h0
      exact ⟨[], ⟨rfl, by omega, .inl rfl⟩, (fun h => by cases h), fun i hi => by omega, hl⟩
    · obtain ⟨b, off, spot⟩ := x
      have hs : spot = none := by
        have q0 := hcell 0 (by omega)
        simpa [Addr.add] using World.cell?_spot q0
      subst hs
      refine ⟨ss.take len, ⟨by rw [List.length_take]; omega, by omega, .inr ⟨b, off, rfl, fun i hi => ?_⟩⟩, (fun h => by cases h), hsm, hl⟩
      rw [hget i hi, ← add_at]
      exact hcell i (by omega)
end Go.Proofs.YtaikgdgajkggiaaDoor
