/- From the reading of an argument to what it is: ints, texts, slices of flat structs. -/
import Derived.Test.YtgdefibgifcbaaaGa
import Derived.Lib.SmallJoins
import Derived.SizedLaws
import Derived.ProofKit
import Derived.SliceStrings
namespace Go.Proofs.Ytgdefibgifcbaaa
open Go.ChangeShapes Go.WideShapes Go.RowKit

set_option maxRecDepth 100000 in
theorem i64_in {k : Int} (h : (Lit.int .i64 k).wf = true) : -9223372036854775808 ≤ k ∧ k ≤ 9223372036854775807 := by
  simp [Lit.wf, IntKind.min, IntKind.max, IntKind.bits, IntKind.signed] at h
  omega

set_option maxRecDepth 100000 in
theorem open_text {H : Type} {enc : TypeId × Value → H} {W : World} {r : Reach} {b0 : Nat} {v : Value} {d : DataW H} {p : List MemPlace}
    (hv : Value.okWide Try.prog W r b0 9 v) (h : DataW.Trod enc Try.prog W 0 (fun _ => true) true 9 v d p) : ∃ s : ByteArray, v = .string s ∧ s.size ≤ maxLen := by
  obtain ⟨s, rfl⟩ := okWide_string Try.underlying9 hv
  obtain ⟨fuel, hf⟩ := h
  obtain ⟨s', hs, _, hss⟩ := DataW.trod_string Try.underlying9 hf
  simp only [Value.cells, List.cons.injEq, Value.string.injEq, and_true] at hs
  subst hs
  exact ⟨_, rfl, hss⟩

set_option maxRecDepth 100000 in
theorem open_t {α : Type} {s : Nat} {en : α → List Value} {d0 : α} {Good : α → Prop} {T E : TypeId} (und : Try.prog.underlying T = some (.slice E)) (hcE : Try.prog.cellsOf E = s) {by0 : Nat} (hbE : Try.prog.bytesOf E = by0) (hb0 : 0 < by0) (hs : 0 < s)
    {H : Type} {enc : TypeId × Value → H} {W : World} (hel : ∀ (n : Nat) (cs : List Value) (y : DataW H × List MemPlace), cs.length = s → DataW.trod enc Try.prog W 0 (fun _ => true) true n E cs = some y → ∃ x : α, en x = cs ∧ Good x)
    {fuel : Nat} {cs : List Value} {d : DataW H} {p : List MemPlace} {a : Option Addr} {len cap : Nat} {ts : List TypeId} {ds : List (DataW H)} {j : Nat}
    (hf : DataW.trod enc Try.prog W 0 (fun _ => true) true fuel T cs = some (d, p)) (hcs : cs = [.slice a len cap])
    (hsz : (DataW.weightsEach Try.prog ts ds).all (· ≤ reachBytes) = true) (ht : ts[j]? = some T) (hd : ds[j]? = some d) :
    ∃ l, TRow s en d0 W a len l ∧ (∀ x ∈ l, Good x) ∧ (a = none → len = 0 ∧ cap = 0) ∧ len ≤ cap ∧ len ≤ 140737488355328 := by
  have hrb : reachBytes ≤ 140737488355328 := Nat.le_of_lt reachBytes_lt
  rcases Go.Deep.open_slice und hf with ⟨h0, _⟩ | ⟨x, l, c, m, n, D, Pl, h0, _, hl, hm, hmm, hx, hall⟩
  · rw [hcs] at h0
    simp only [List.cons.injEq, Value.slice.injEq, and_true] at h0
    obtain ⟨rfl, rfl, rfl⟩ := h0
    exact ⟨[], ⟨rfl, by omega, .inl rfl⟩, (fun x hx => by cases hx), (fun _ => ⟨rfl, rfl⟩), by omega, by omega⟩
  · rw [hcs] at h0
    simp only [List.cons.injEq, Value.slice.injEq, and_true] at h0
    obtain ⟨rfl, rfl, rfl⟩ := h0
    simp only [if_true] at hmm
    subst hmm
    simp only [Prod.mk.injEq] at hx
    obtain ⟨rfl, _⟩ := hx
    have hlen : len ≤ 140737488355328 := by
      have := sized_slice hsz ht hd und
      simp only [List.length_map, List.length_range] at this
      rw [show len + (m - len) = m by omega, hbE] at this
      have h1 : len * 1 ≤ m * by0 := Nat.mul_le_mul hl hb0
      omega
    rw [hcE] at hall
    rcases Nat.eq_zero_or_pos m with h0 | h0
    · obtain rfl : len = 0 := by omega
      exact ⟨[], ⟨rfl, by omega, .inl rfl⟩, (fun x hx => by cases hx), (fun h => by cases h), by omega, by omega⟩
    · obtain ⟨b, off, spot⟩ := x
      have hsp : spot = none := by
        obtain ⟨cs', h1, _⟩ := hall 0 h0
        obtain ⟨_, hlen', hcell⟩ := World.cells?_some h1
        have h3 := hcell 0 hs
        obtain ⟨v, hv⟩ : ∃ v, cs'[0]? = some v := ⟨cs'[0]'(by omega), List.getElem?_eq_getElem _⟩
        rw [hv] at h3
        simpa [Addr.add] using World.cell?_spot h3
      subst hsp
      have hfr : ∀ i, i < len → ∃ q : α, TAt en W b (off + i * s) q ∧ Good q := by
        intro i hi
        obtain ⟨cs', h1, h2⟩ := hall i (by omega)
        obtain ⟨_, hlen', hcell⟩ := World.cells?_some h1
        obtain ⟨x, rfl, hx⟩ := hel _ _ _ hlen' h2
        refine ⟨x, fun j v hj => ?_, hx⟩
        have hj' : j < s := by
          rcases Nat.lt_or_ge j s with h' | h'
          · exact h'
          · rw [List.getElem?_eq_none (by omega)] at hj; cases hj
        have := hcell j hj'
        rw [hj] at this
        simp only [add_at] at this
        exact this
      haveI : Inhabited α := ⟨d0⟩
      obtain ⟨f, hf⟩ := Go.Deep.choose_lt hfr
      refine ⟨(List.range len).map f, ⟨by simp, by omega, .inr ⟨b, off, rfl, fun i hi => ?_⟩⟩, ?_, (fun h => by cases h), hl, hlen⟩
      · have : ((List.range len).map f).getD i d0 = f i := by simp [hi]
        rw [this]; exact (hf i hi).1
      · intro x hx
        simp only [List.mem_map, List.mem_range] at hx
        obtain ⟨i, hi, rfl⟩ := hx
        exact (hf i hi).2

end Go.Proofs.Ytgdefibgifcbaaa
