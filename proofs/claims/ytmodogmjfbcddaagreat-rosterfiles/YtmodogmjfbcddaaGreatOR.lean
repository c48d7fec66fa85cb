/- From the reading of an argument to what it is: ints, texts, slices of flat structs. -/
import Derived.Test.YtmodogmjfbcddaaGreatGa
import Derived.Lib.SmallJoins
import Derived.SizedLaws
import Derived.ProofKit
import Derived.SliceStrings
import Derived.Test.YtmodogmjfbcddaaGreatEIa
import Derived.Test.YtmodogmjfbcddaaGreatLCk
import Derived.Test.YtmodogmjfbcddaaGreatIG
namespace Go.Proofs.YtmodogmjfbcddaaGreat
open Go.ChangeShapes Go.WideShapes Go.RowKit

set_option maxRecDepth 100000 in
theorem open_t {α : Type} {s : Nat} {en : α → List Value} {d0 : α} {Good : α → Prop} {T E : TypeId} (und : Tryz.prog.underlying T = some (.slice E)) (hcE : Tryz.prog.cellsOf E = s) {by0 : Nat} (hbE : Tryz.prog.bytesOf E = by0) (hb0 : 0 < by0) (hs : 0 < s)
    {H : Type} {enc : TypeId × Value → H} {W : World} (hel : ∀ (n : Nat) (cs : List Value) (y : DataW H × List MemPlace), cs.length = s → DataW.trod enc Tryz.prog W 0 (fun _ => true) true n E cs = some y → ∃ x : α, en x = cs ∧ Good x)
    {fuel : Nat} {cs : List Value} {d : DataW H} {p : List MemPlace} {a : Option Addr} {len cap : Nat} {ts : List TypeId} {ds : List (DataW H)} {j : Nat}
    (hf : DataW.trod enc Tryz.prog W 0 (fun _ => true) true fuel T cs = some (d, p)) (hcs : cs = [.slice a len cap])
    (hsz : (DataW.weightsEach Tryz.prog ts ds).all (· ≤ reachBytes) = true) (ht : ts[j]? = some T) (hd : ds[j]? = some d) :
    ∃ l, TRow s en d0 W a len l ∧ (∀ x ∈ l, Good x) ∧ (a = none → len = 0 ∧ cap = 0) ∧ len ≤ cap ∧ len ≤ 140737488355328 := by
  have hrb : reachBytes ≤ 140737488355328 := Nat.le_of_lt reachBytes_lt
  rcases Go.Deep.open_slice und hf with ⟨h0, _⟩ | ⟨x, l, c, m, n, D, Pl, h0, _, hl, hm, hmm, hx, hall⟩
  · rw [hcs] at h0
    simp only [List.cons.injEq, Value.slice.injEq, and_true] at h0
    obtain ⟨rfl, rfl, rfl⟩ := h0
    exact ⟨[], ⟨rfl, by omega, .inl rfl⟩, (fun x hx => by cases hx), (fun _ => ⟨rfl, rfl⟩), by omega, by omega⟩
  · rw [hcs] at h0
    simp only [List.cons.injEq, Value.slice.injEq, and_true] at h0
    obtain ⟨rfl, rfl, rfl⟩ := h0
    simp only [if_true] at hmm
    subst hmm
    simp only [Prod.mk.injEq] at hx
    obtain ⟨rfl, _⟩ := hx
    have hlen : len ≤ 140737488355328 := by
      have := sized_slice hsz ht hd und
      simp only [List.length_map, List.length_range] at this
      rw [show len + (m - len) = m by omega, hbE] at this
      have h1 : len * 1 ≤ m * by0 := Nat.mul_le_mul hl hb0
      omega
    rw [hcE] at hall
    rcases Nat.eq_zero_or_pos m with h0 | h0
    · obtain rfl : len = 0 := by omega
      exact ⟨[], ⟨rfl, by omega, .inl rfl⟩, (fun x hx => by cases hx), (fun h => by cases h), by omega, by omega⟩
    · obtain ⟨b, off, spot⟩ := x
      have hsp : spot = none := by
        obtain ⟨cs', h1, _⟩ := hall 0 h0
        obtain ⟨_, hlen', hcell⟩ := World.cells?_some h1
        have h3 := hcell 0 hs
        obtain ⟨v, hv⟩ : ∃ v, cs'[0]? = some v := ⟨cs'[0]'(by omega), List.getElem?_eq_getElem _⟩
        rw [hv] at h3
        simpa [Addr.add] using World.cell?_spot h3
      subst hsp
      have hfr : ∀ i, i < len → ∃ q : α, TAt en W b (off + i * s) q ∧ Good q := by
        intro i hi
        obtain ⟨cs', h1, h2⟩ := hall i (by omega)
        obtain ⟨_, hlen', hcell⟩ := World.cells?_some h1
        obtain ⟨x, rfl, hx⟩ := hel _ _ _ hlen' h2
        refine ⟨x, fun j v hj => ?_, hx⟩
        have hj' : j < s := by
          rcases Nat.lt_or_ge j s with h' | h'
          · exact h'
          · rw [List.getElem?_eq_none (by omega)] at hj; cases hj
        have := hcell j hj'
        rw [hj] at this
        simp only [add_at] at this
        exact this
      haveI : Inhabited α := ⟨d0⟩
      obtain ⟨f, hf⟩ := Go.Deep.choose_lt hfr
      refine ⟨(List.range len).map f, ⟨by simp, by omega, .inr ⟨b, off, rfl, fun i hi => ?_⟩⟩, ?_, (fun h => by cases h), hl, hlen⟩
      · have : ((List.range len).map f).getD i d0 = f i := by simp [hi]
        rw [this]; exact (hf i hi).1
      · intro x hx
        simp only [List.mem_map, List.mem_range] at hx
        obtain ⟨i, hi, rfl⟩ := hx
        exact (hf i hi).2

end Go.Proofs.YtmodogmjfbcddaaGreat

/- Edits: the laws' Light; what came in. -/
namespace Go.Proofs.YtmodogmjfbcddaaGreat
open Go.RowKit

theorem lit_edit (w : World) (k n i t a b c p q r : Int) (f g : ByteArray) {o : Nat} (ho : w.heap.size = o) : ERow (w.alloc (oed k n i t a b c p q r f g)) (some ⟨o, 0, none⟩) 1 [⟨k, n, i, t, a, b, c, ⟨p, q, r, f, g⟩⟩] :=
  trow_lit w _ _ _ ho (fun j v hj => by
    match j, hj with
    | 0, hj | 1, hj | 2, hj | 3, hj | 4, hj | 5, hj | 6, hj | 7, hj | 8, hj | 9, hj | 10, hj | 11, hj => exact hj
    | j + 12, hj => simp [ee] at hj)

open Go.ChangeShapes Go.WideShapes
theorem etrod_struct {H : Type} {enc : TypeId × Value → H} {P : Program} {w : World} {base : Nat} {spare : Nat → Bool} {held : Bool} {t : TypeId} {fs : Array Field} {fuel : Nat} {cs : List Value} {x : DataW H × List MemPlace} (ht : P.underlying t = some (.struct fs)) (h : DataW.trod enc P w base spare held fuel t cs = some x) :
    ∃ n, ∀ (j : Nat) (f : Field), fs[j]? = some f → ∃ y, DataW.trod enc P w base spare held n f.type ((cs.drop f.offset).take (P.cellsOf f.type)) = some y := by
  obtain ⟨xs, n, _, rfl, hl, hlen, hf⟩ := DataW.trod_struct ht h
  refine ⟨n, fun j f hj => ?_⟩
  have h1 := (Array.getElem?_eq_some_iff.mp hj).1
  have h2 : j < xs.length := by first | (rw [hlen]; simpa using h1) | (have := hlen; simp at this; omega)
  exact ⟨xs[j], by rw [hf j f hj, List.getElem?_eq_getElem h2]⟩
end Go.Proofs.YtmodogmjfbcddaaGreat

/- From the reading of an argument that is a slice of tables to the row of them. -/
namespace Go.Proofs.YtmodogmjfbcddaaGreat
open Go.ChangeShapes Go.WideShapes Go.RowKit

theorem ltrod_struct5 {H : Type} {enc : TypeId × Value → H} {P : Program} {w : World} {base : Nat} {spare : Nat → Bool} {held : Bool} {t : TypeId} {f0 f1 f2 f3 f4 : Field} {fuel : Nat} {cs : List Value} {x : DataW H × List MemPlace} (ht : P.underlying t = some (.struct #[f0, f1, f2, f3, f4])) (h : DataW.trod enc P w base spare held fuel t cs = some x) :
    ∃ y0 y1 y2 y3 y4 n, x = (.agg [y0.1, y1.1, y2.1, y3.1, y4.1], y0.2 ++ (y1.2 ++ (y2.2 ++ (y3.2 ++ y4.2)))) ∧ cs.length = P.cellsOf t ∧ DataW.trod enc P w base spare held n f0.type ((cs.drop f0.offset).take (P.cellsOf f0.type)) = some y0 ∧
      DataW.trod enc P w base spare held n f1.type ((cs.drop f1.offset).take (P.cellsOf f1.type)) = some y1 ∧ DataW.trod enc P w base spare held n f2.type ((cs.drop f2.offset).take (P.cellsOf f2.type)) = some y2 ∧
      DataW.trod enc P w base spare held n f3.type ((cs.drop f3.offset).take (P.cellsOf f3.type)) = some y3 ∧ DataW.trod enc P w base spare held n f4.type ((cs.drop f4.offset).take (P.cellsOf f4.type)) = some y4 := by
  obtain ⟨xs, n, _, rfl, hl, hlen, hf⟩ := DataW.trod_struct ht h
  match xs, hlen with
  | [y0, y1, y2, y3, y4], _ => exact ⟨y0, y1, y2, y3, y4, n, by simp, hl, by simpa using hf 0 f0 rfl, by simpa using hf 1 f1 rfl, by simpa using hf 2 f2 rfl, by simpa using hf 3 f3 rfl, by simpa using hf 4 f4 rfl⟩

/-- what came in, as tables -/
def IsTabs (w : World) (a : Option Addr) (len cap : Nat) (l : List Lv.T) : Prop := LRow w a len l ∧ (a = none → len = 0 ∧ cap = 0) ∧ len ≤ cap ∧ len ≤ 140737488355328
set_option maxRecDepth 100000 in
theorem open_tabs {H : Type} {enc : TypeId × Value → H} {W : World} {fuel : Nat} {cs : List Value} {d : DataW H} {p : List MemPlace} {a : Option Addr} {len cap : Nat} {ts : List TypeId} {ds : List (DataW H)} {j : Nat}
    (hf : DataW.trod enc Tryz.prog W 0 (fun _ => true) true fuel 24 cs = some (d, p)) (hcs : cs = [.slice a len cap])
    (hsz : (DataW.weightsEach Tryz.prog ts ds).all (· ≤ reachBytes) = true) (ht : ts[j]? = some 24) (hd : ds[j]? = some d) : ∃ l, IsTabs W a len cap l := by
  obtain ⟨l, h1, _, h3, h4, h5⟩ := open_t (en := le) (d0 := Lv.zero) (Good := fun _ => True) Tryz.underlying24 (E := 44) (s := 5) (by kernel_rfl) (by0 := 56) (by kernel_rfl) (by omega) (by omega) (fun n cs y hl ht => by
    match cs, hl with
    | [V0, V1, V2, V3, V4], _ =>
      obtain ⟨y0, y1, y2, y3, y4, n', _, _, t0, t1, t2, t3, t4⟩ := ltrod_struct5 Tryz.underlying44 ht
      have t0' : DataW.trod enc Tryz.prog W 0 (fun _ => true) true n' 3 [V0] = some y0 := t0
      have t1' : DataW.trod enc Tryz.prog W 0 (fun _ => true) true n' 3 [V1] = some y1 := t1
      have t2' : DataW.trod enc Tryz.prog W 0 (fun _ => true) true n' 3 [V2] = some y2 := t2
      have t3' : DataW.trod enc Tryz.prog W 0 (fun _ => true) true n' 9 [V3] = some y3 := t3
      have t4' : DataW.trod enc Tryz.prog W 0 (fun _ => true) true n' 9 [V4] = some y4 := t4
      obtain ⟨k0, h0, _, _⟩ := DataW.trod_int Tryz.underlying3 t0'
      obtain ⟨k1, h1, _, _⟩ := DataW.trod_int Tryz.underlying3 t1'
      obtain ⟨k2, h2, _, _⟩ := DataW.trod_int Tryz.underlying3 t2'
      obtain ⟨s3, h3, _, _⟩ := DataW.trod_string Tryz.underlying9 t3'
      obtain ⟨s4, h4, _, _⟩ := DataW.trod_string Tryz.underlying9 t4'
      simp only [List.cons.injEq, and_true] at h0 h1 h2 h3 h4
      subst h0 h1 h2 h3 h4
      exact ⟨⟨k0, k1, k2, s3, s4⟩, rfl, trivial⟩) hf hcs hsz ht hd
  exact ⟨l, h1, h3, h4, h5⟩
end Go.Proofs.YtmodogmjfbcddaaGreat

/- From the reading of an argument that is a roster to its rows and numbers. -/
namespace Go.Proofs.YtmodogmjfbcddaaGreat
open Go.ChangeShapes Go.WideShapes Go.RowKit

theorem inner_sz {H : Type} {P : Program} {ts : List TypeId} {ds : List (DataW H)} (h : (DataW.weightsEach P ts ds).all (· ≤ reachBytes) = true) {j i : Nat} {t : TypeId} {fs : Array Field} {f : Field} {L : List (DataW H)} {d : DataW H}
    (ht : ts[j]? = some t) (hd : ds[j]? = some (.agg L)) (hs : P.underlying t = some (.struct fs)) (hf : fs[i]? = some f) (hL : L[i]? = some d) :
    (DataW.weightsEach P [f.type] [d]).all (· ≤ reachBytes) = true := by
  refine List.all_eq_true.2 fun x hx => ?_
  have hx' : x ∈ DataW.weights P f.type d := by simpa [DataW.weightsEach] using hx
  have h1 : x ∈ DataW.weightsEach P (fs.toList.map (·.type)) L := DataW.weights_mem_each (by rw [List.getElem?_map, Array.getElem?_toList, hf]; rfl) hL x hx'
  have h2 : x ∈ DataW.weights P t (.agg L) := by simp only [DataW.weights, hs]; exact h1
  exact List.all_eq_true.1 h _ (DataW.weights_mem_each ht hd _ h2)

theorem rtrod_struct {H : Type} {enc : TypeId × Value → H} {P : Program} {w : World} {base : Nat} {spare : Nat → Bool} {held : Bool} {t : TypeId} {fs : Array Field} {fuel : Nat} {cs : List Value} {x : DataW H × List MemPlace} (ht : P.underlying t = some (.struct fs)) (h : DataW.trod enc P w base spare held fuel t cs = some x) :
    ∃ n L, x.1 = .agg L ∧ ∀ (j : Nat) (f : Field), fs[j]? = some f → ∃ y, DataW.trod enc P w base spare held n f.type ((cs.drop f.offset).take (P.cellsOf f.type)) = some y ∧ L[j]? = some y.1 := by
  obtain ⟨xs, n, _, rfl, hl, hlen, hf⟩ := DataW.trod_struct ht h
  refine ⟨n, xs.map (·.1), by simp, fun j f hj => ?_⟩
  have h1 := (Array.getElem?_eq_some_iff.mp hj).1
  have h2 : j < xs.length := by first | (rw [hlen]; simpa using h1) | (have := hlen; simp at this; omega)
  exact ⟨xs[j], by rw [hf j f hj, List.getElem?_eq_getElem h2], by simp [h2]⟩

theorem array11 {α : Type} {cs : Array α} (h : cs.size = 11) : ∃ c0 c1 c2 c3 c4 c5 c6 c7 c8 c9 c10, cs = #[c0, c1, c2, c3, c4, c5, c6, c7, c8, c9, c10] := by
  obtain ⟨l⟩ := cs
  match l, h with
  | [c0, c1, c2, c3, c4, c5, c6, c7, c8, c9, c10], _ => exact ⟨c0, c1, c2, c3, c4, c5, c6, c7, c8, c9, c10, rfl⟩

/-- what came in, as a roster's rows -/
structure IsRos (w : World) (a1 : Option Addr) (n1 c1 : Nat) (a2 : Option Addr) (n2 c2 : Nat) (a3 : Option Addr) (n3 c3 : Nat) (a4 : Option Addr) (n4 c4 : Nat) (r : Ro.R) : Prop where
  r1 : ZRow w a1 n1 r.segs
  r2 : MRow w a2 n2 r.moves
  r3 : LRow w a3 n3 r.tabs
  r4 : KRow w a4 n4 r.stills
  z1 : a1 = none → n1 = 0 ∧ c1 = 0
  z2 : a2 = none → n2 = 0 ∧ c2 = 0
  z3 : a3 = none → n3 = 0 ∧ c3 = 0
  z4 : a4 = none → n4 = 0 ∧ c4 = 0
  c3 : n3 ≤ c3
  s1 : n1 ≤ 140737488355328
  s2 : n2 ≤ 140737488355328
  s3 : n3 ≤ 140737488355328
  s4 : n4 ≤ 140737488355328

theorem slice_of {H : Type} {enc : TypeId × Value → H} {W : World} {n : Nat} {T E : TypeId} {v : Value} {y : DataW H × List MemPlace} (und : Tryz.prog.underlying T = some (.slice E)) (h : DataW.trod enc Tryz.prog W 0 (fun _ => true) true n T [v] = some y) : ∃ a len cap, v = .slice a len cap := by
  obtain ⟨d, p⟩ := y
  rcases Go.Deep.open_slice und h with ⟨h0, _⟩ | ⟨x, l, c, m, n', D, Pl, h0, _⟩
  · simp only [List.cons.injEq, and_true] at h0; exact ⟨_, _, _, h0⟩
  · simp only [List.cons.injEq, and_true] at h0; exact ⟨_, _, _, h0⟩

set_option maxRecDepth 100000 in
set_option maxHeartbeats 1000000 in
theorem open_roster {H : Type} {enc : TypeId × Value → H} {W : World} {r : Reach} {b0 : Nat} {v : Value} {d : DataW H} {p : List MemPlace} {ts : List TypeId} {ds : List (DataW H)} {j : Nat}
    (hv : Value.okWide Tryz.prog W r b0 29 v) (h : DataW.Trod enc Tryz.prog W 0 (fun _ => true) true 29 v d p)
    (hsz : (DataW.weightsEach Tryz.prog ts ds).all (· ≤ reachBytes) = true) (ht : ts[j]? = some 29) (hd : ds[j]? = some d) :
    ∃ s ms tb ks a1 n1 c1 a2 n2 c2 a3 n3 c3 a4 n4 c4 i1 i2 i3 i4 i5 i6 i7, v = .agg #[.slice a1 n1 c1, .slice a2 n2 c2, .slice a3 n3 c3, .slice a4 n4 c4, .int .i64 i1, .int .i64 i2, .int .i64 i3, .int .i64 i4, .int .i64 i5, .int .i64 i6, .int .i64 i7] ∧ IsRos W a1 n1 c1 a2 n2 c2 a3 n3 c3 a4 n4 c4 ⟨s, ms, tb, ks, i1, i2, i3, i4, i5, i6, i7⟩ := by
  obtain ⟨cs, rfl, hcs⟩ := okWide_struct Tryz.underlying29 hv
  obtain ⟨c0, c1, c2, c3, c4, c5, c6, c7, c8, c9, c10, rfl⟩ := array11 (hcs.trans (by kernel_rfl))
  obtain ⟨fuel, hf⟩ := h
  obtain ⟨n, L, hdL, hfi⟩ := rtrod_struct Tryz.underlying29 hf
  dsimp only at hdL
  subst hdL
  obtain ⟨y0, t0, L0⟩ := hfi 0 _ rfl
  obtain ⟨y1, t1, L1⟩ := hfi 1 _ rfl
  obtain ⟨y2, t2, L2⟩ := hfi 2 _ rfl
  obtain ⟨y3, t3, L3⟩ := hfi 3 _ rfl
  obtain ⟨y4, t4, _⟩ := hfi 4 _ rfl
  obtain ⟨y5, t5, _⟩ := hfi 5 _ rfl
  obtain ⟨y6, t6, _⟩ := hfi 6 _ rfl
  obtain ⟨y7, t7, _⟩ := hfi 7 _ rfl
  obtain ⟨y8, t8, _⟩ := hfi 8 _ rfl
  have t0' : DataW.trod enc Tryz.prog W 0 (fun _ => true) true n 22 [c0] = some y0 := t0
  have t1' : DataW.trod enc Tryz.prog W 0 (fun _ => true) true n 23 [c1] = some y1 := t1
  have t2' : DataW.trod enc Tryz.prog W 0 (fun _ => true) true n 24 [c2] = some y2 := t2
  have t3' : DataW.trod enc Tryz.prog W 0 (fun _ => true) true n 25 [c3] = some y3 := t3
  have t4' : DataW.trod enc Tryz.prog W 0 (fun _ => true) true n 3 [c4] = some y4 := t4
  have t5' : DataW.trod enc Tryz.prog W 0 (fun _ => true) true n 3 [c5] = some y5 := t5
  have t6' : DataW.trod enc Tryz.prog W 0 (fun _ => true) true n 3 [c6] = some y6 := t6
  have t7' : DataW.trod enc Tryz.prog W 0 (fun _ => true) true n 27 [c7, c8, c9] = some y7 := t7
  have t8' : DataW.trod enc Tryz.prog W 0 (fun _ => true) true n 3 [c10] = some y8 := t8
  obtain ⟨n4, hf4⟩ := etrod_struct Tryz.underlying27 t7'
  obtain ⟨u0, b0'⟩ := hf4 0 _ rfl
  obtain ⟨u1, b1'⟩ := hf4 1 _ rfl
  obtain ⟨u2, b2'⟩ := hf4 2 _ rfl
  have b0' : DataW.trod enc Tryz.prog W 0 (fun _ => true) true n4 3 [c7] = some u0 := b0'
  have b1' : DataW.trod enc Tryz.prog W 0 (fun _ => true) true n4 3 [c8] = some u1 := b1'
  have b2' : DataW.trod enc Tryz.prog W 0 (fun _ => true) true n4 3 [c9] = some u2 := b2'
  obtain ⟨k4, h4, _, _⟩ := DataW.trod_int Tryz.underlying3 t4'
  obtain ⟨k5, h5, _, _⟩ := DataW.trod_int Tryz.underlying3 t5'
  obtain ⟨k6, h6, _, _⟩ := DataW.trod_int Tryz.underlying3 t6'
  obtain ⟨k7, h7, _, _⟩ := DataW.trod_int Tryz.underlying3 b0'
  obtain ⟨k8, h8, _, _⟩ := DataW.trod_int Tryz.underlying3 b1'
  obtain ⟨k9, h9, _, _⟩ := DataW.trod_int Tryz.underlying3 b2'
  obtain ⟨k10, h10, _, _⟩ := DataW.trod_int Tryz.underlying3 t8'
  simp only [List.cons.injEq, and_true] at h4 h5 h6 h7 h8 h9 h10
  subst h4 h5 h6 h7 h8 h9 h10
  obtain ⟨a1, n1, d1, rfl⟩ := slice_of Tryz.underlying22 t0'
  obtain ⟨a2, n2, d2, rfl⟩ := slice_of Tryz.underlying23 t1'
  obtain ⟨a3, n3, d3, rfl⟩ := slice_of Tryz.underlying24 t2'
  obtain ⟨a4, n4', d4, rfl⟩ := slice_of Tryz.underlying25 t3'
  obtain ⟨s, g1, _, g2, g3, g4⟩ := open_t (en := ze) (d0 := 0) (Good := fun _ => True) Tryz.underlying22 (E := 3) (s := 1) (by kernel_rfl) (by0 := 8) (by kernel_rfl) (by omega) (by omega) (fun n cs y hl ht => by
    match cs, hl with
    | [V0], _ =>
      obtain ⟨k0, h0, _, _⟩ := DataW.trod_int Tryz.underlying3 ht
      exact ⟨k0, h0.symm, trivial⟩) (d := y0.1) (p := y0.2) t0' rfl (inner_sz hsz ht hd Tryz.underlying29 rfl L0) (j := 0) rfl rfl
  obtain ⟨ms, m1, _, m2, m3, m4⟩ := open_t (en := me) (d0 := (0, 0)) (Good := fun _ => True) Tryz.underlying23 (E := 53) (s := 2) (by kernel_rfl) (by0 := 16) (by kernel_rfl) (by omega) (by omega) (fun n cs y hl ht => by
    match cs, hl with
    | [V0, V1], _ =>
      obtain ⟨n', hf⟩ := etrod_struct Tryz.underlying53 ht
      obtain ⟨z0, q0⟩ := hf 0 _ rfl
      obtain ⟨z1, q1⟩ := hf 1 _ rfl
      have q0' : DataW.trod enc Tryz.prog W 0 (fun _ => true) true n' 3 [V0] = some z0 := q0
      have q1' : DataW.trod enc Tryz.prog W 0 (fun _ => true) true n' 3 [V1] = some z1 := q1
      obtain ⟨k0, h0, _, _⟩ := DataW.trod_int Tryz.underlying3 q0'
      obtain ⟨k1, h1, _, _⟩ := DataW.trod_int Tryz.underlying3 q1'
      simp only [List.cons.injEq, and_true] at h0 h1
      subst h0 h1
      exact ⟨(k0, k1), rfl, trivial⟩) (d := y1.1) (p := y1.2) t1' rfl (inner_sz hsz ht hd Tryz.underlying29 rfl L1) (j := 0) rfl rfl
  obtain ⟨tb, l1, l2, l3, l4⟩ := open_tabs (d := y2.1) (p := y2.2) t2' rfl (inner_sz hsz ht hd Tryz.underlying29 rfl L2) (j := 0) rfl rfl
  obtain ⟨ks, k1, _, k2, k3, k4'⟩ := open_t (en := ke) (d0 := (0, 0, 0)) (Good := fun _ => True) Tryz.underlying25 (E := 67) (s := 3) (by kernel_rfl) (by0 := 24) (by kernel_rfl) (by omega) (by omega) (fun n cs y hl ht => by
    match cs, hl with
    | [V0, V1, V2], _ =>
      obtain ⟨n', hf⟩ := etrod_struct Tryz.underlying67 ht
      obtain ⟨z0, q0⟩ := hf 0 _ rfl
      obtain ⟨z1, q1⟩ := hf 1 _ rfl
      obtain ⟨z2, q2⟩ := hf 2 _ rfl
      have q0' : DataW.trod enc Tryz.prog W 0 (fun _ => true) true n' 3 [V0] = some z0 := q0
      have q1' : DataW.trod enc Tryz.prog W 0 (fun _ => true) true n' 3 [V1] = some z1 := q1
      have q2' : DataW.trod enc Tryz.prog W 0 (fun _ => true) true n' 3 [V2] = some z2 := q2
      obtain ⟨k0, h0, _, _⟩ := DataW.trod_int Tryz.underlying3 q0'
      obtain ⟨k1, h1, _, _⟩ := DataW.trod_int Tryz.underlying3 q1'
      obtain ⟨k2, h2, _, _⟩ := DataW.trod_int Tryz.underlying3 q2'
      simp only [List.cons.injEq, and_true] at h0 h1 h2
      subst h0 h1 h2
      exact ⟨(k0, k1, k2), rfl, trivial⟩) (d := y3.1) (p := y3.2) t3' rfl (inner_sz hsz ht hd Tryz.underlying29 rfl L3) (j := 0) rfl rfl
  exact ⟨s, ms, tb, ks, a1, n1, d1, a2, n2, d2, a3, n3, d3, a4, n4', d4, k4, k5, k6, k7, k8, k9, k10, rfl, g1, m1, l1, k1, g2, m2, l2, k2, l3, g4, m4, l4, k4'⟩
end Go.Proofs.YtmodogmjfbcddaaGreat
