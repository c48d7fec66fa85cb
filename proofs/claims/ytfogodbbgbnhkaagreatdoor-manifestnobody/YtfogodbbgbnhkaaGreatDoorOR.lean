/- From the reading of an argument to what it is: ints, texts, slices of flat structs. -/
import Derived.Test.YtfogodbbgbnhkaaGreatDoorGa
import Derived.Lib.SmallJoins
import Derived.SizedLaws
import Derived.ProofKit
import Derived.SliceStrings
import Derived.Test.YtfogodbbgbnhkaaGreatDoorEJ
import Derived.Test.YtfogodbbgbnhkaaGreatDoorLCk
import Derived.Test.YtfogodbbgbnhkaaGreatDoorRH
namespace Go.Proofs.YtfogodbbgbnhkaaGreatDoor
open Go.ChangeShapes Go.WideShapes Go.RowKit

set_option maxRecDepth 100000 in
theorem open_t {α : Type} {s : Nat} {en : α → List Value} {d0 : α} {Good : α → Prop} {T E : TypeId} (und : Tryz.prog.underlying T = some (.slice E)) (hcE : Tryz.prog.cellsOf E = s) {by0 : Nat} (hbE : Tryz.prog.bytesOf E = by0) (hb0 : 0 < by0) (hs : 0 < s)
    {H : Type} {enc : TypeId × Value → H} {W : World} (hel : ∀ (n : Nat) (cs : List Value) (y : DataW H × List MemPlace), cs.length = s → DataW.trod enc Tryz.prog W 0 (fun _ => true) true n E cs = some y → ∃ x : α, en x = cs ∧ Good x)
    {fuel : Nat} {cs : List Value} {d : DataW H} {p : List MemPlace} {a : Option Addr} {len cap : Nat} {ts : List TypeId} {ds : List (DataW H)} {j : Nat}
    (hf : DataW.trod enc Tryz.prog W 0 (fun _ => true) true fuel T cs = some (d, p)) (hcs : cs = [.slice a len cap])
    (hsz : (DataW.weightsEach Tryz.prog ts ds).all (· ≤ reachBytes) = true) (ht : ts[j]? = some T) (hd : ds[j]? = some d) :
    ∃ l, TRow s en d0 W a len l ∧ (∀ x ∈ l, Good x) ∧ (a = none → len = 0 ∧ cap = 0) ∧ len ≤ cap ∧ len ≤ 140737488355328 := by
  have hrb : reachBytes ≤ 140737488355328 := Nat.le_of_lt reachBytes_lt
  rcases Go.Deep.open_slice und hf with ⟨h0, _⟩ | ⟨x, l, c, m, n, D, Pl, h0, _, hl, hm, hmm, hx, hall⟩
  · rw [hcs] at h0
    simp only [List.cons.injEq, Value.slice.injEq, and_true] at h0
    obtain ⟨rfl, rfl, rfl⟩ := h0
    exact ⟨[], ⟨rfl, by omega, .inl rfl⟩, (fun x hx => by cases hx), (fun _ => ⟨rfl, rfl⟩), by omega, by omega⟩
  · rw [hcs] at h0
    simp only [List.cons.injEq, Value.slice.injEq, and_true] at h0
    obtain ⟨rfl, rfl, rfl⟩ := h0
    simp only [if_true] at hmm
    subst hmm
    simp only [Prod.mk.injEq] at hx
    obtain ⟨rfl, _⟩ := hx
    have hlen : len ≤ 140737488355328 := by
      have := sized_slice hsz ht hd und
      simp only [List.length_map, List.length_range] at this
      rw [show len + (m - len) = m by omega, hbE] at this
      have h1 : len * 1 ≤ m * by0 := Nat.mul_le_mul hl hb0
      omega
    rw [hcE] at hall
    rcases Nat.eq_zero_or_pos m with h0 | h0
    · obtain rfl : len = 0 := by omega
      exact ⟨[], ⟨rfl, by omega, .inl rfl⟩, (fun x hx => by cases hx), (fun h => by cases h), by omega, by omega⟩
    · obtain ⟨b, off, spot⟩ := x
      have hsp : spot = none := by
        obtain ⟨cs', h1, _⟩ := hall 0 h0
        obtain ⟨_, hlen', hcell⟩ := World.cells?_some h1
        have h3 := hcell 0 hs
        obtain ⟨v, hv⟩ : ∃ v, cs'[0]? = some v := ⟨cs'[0]'(by omega), List.getElem?_eq_getElem _⟩
        rw [hv] at h3
        simpa [Addr.add] using World.cell?_spot h3
      subst hsp
      have hfr : ∀ i, i < len → ∃ q : α, TAt en W b (off + i * s) q ∧ Good q := by
        intro i hi
        obtain ⟨cs', h1, h2⟩ := hall i (by omega)
        obtain ⟨_, hlen', hcell⟩ := World.cells?_some h1
        obtain ⟨x, rfl, hx⟩ := hel _ _ _ hlen' h2
        refine ⟨x, fun j v hj => ?_, hx⟩
        have hj' : j < s := by
          rcases Nat.lt_or_ge j s with h' | h'
          · exact h'
          · rw [List.getElem?_eq_none (by omega)] at hj; cases hj
        have := hcell j hj'
        rw [hj] at this
        simp only [add_at] at this
        exact this
      haveI : Inhabited α := ⟨d0⟩
      obtain ⟨f, hf⟩ := Go.Deep.choose_lt hfr
      refine ⟨(List.range len).map f, ⟨by simp, by omega, .inr ⟨b, off, rfl, fun i hi => ?_⟩⟩, ?_, (fun h => by cases h), hl, hlen⟩
      · have : ((List.range len).map f).getD i d0 = f i := by simp [hi]
        rw [this]; exact (hf i hi).1
      · intro x hx
        simp only [List.mem_map, List.mem_range] at hx
        obtain ⟨i, hi, rfl⟩ := hx
        exact (hf i hi).2

end Go.Proofs.YtfogodbbgbnhkaaGreatDoor

/- Edits: the laws' Light; what came in. -/
namespace Go.Proofs.YtfogodbbgbnhkaaGreatDoor
open Go.RowKit

def elgt1 (t : Ed.E) : Bool := decide (t.tab.first.size ≤ 200) && decide (t.tab.last.size ≤ 200)
def elgt (l : List Ed.E) : Bool := (l.take 41).all elgt1 && decide (l.length ≤ 40)
theorem etake_drop {l : List Ed.E} {k : Nat} (hk : k < l.length) (h40 : k ≤ 40) : (l.take 41).drop k = l.getD k Ed.zero :: (l.take 41).drop (k + 1) := by
  have h : k < (l.take 41).length := by rw [List.length_take]; omega
  rw [List.drop_eq_getElem_cons h, List.getElem_take]
  simp [hk]
set_option maxRecDepth 100000 in
set_option maxHeartbeats 1000000 in
theorem elight_any (a : Option Addr) (len cap : Nat) (l : List Ed.E) (w : World) (hr : ERow w a len l) (hlen : len ≤ 140737488355328) :
    Calls Tryz.prog 4 #[.slice a len cap] w fun e w' => e = .returned (.bool (elgt l)) ∧ w' = w := by
  have hll : Hid (l.length = len) := hr.1
  obtain ⟨R, hR⟩ : ∃ R, R = elgt l := ⟨_, rfl⟩
  rw [← hR]
  have HR : Hid (R = (((l.take 41).drop 0).all elgt1 && decide ((len : Int) ≤ 40))) := (by rw [hR, elgt, hll.out]; congr 1; exact decide_eq_decide.mpr (by omega) : R = (((l.take 41).drop 0).all elgt1 && decide ((len : Int) ≤ 40)))
  clear hR
  go_enter Tryz.func4, Tryz.ntmps4
  go_wp2
  go_loop [3] (fun i => ∃ k : Nat, k ≤ len ∧ k ≤ 41 ∧ i = .int .i64 k ∧ Hid (R = (((l.take 41).drop k).all elgt1 && decide ((len : Int) ≤ 40)))) (fun i => len - (intOf i).toNat)
  case atStart => exact ⟨0, by omega, by omega, rfl, HR⟩
  case round =>
    obtain ⟨k, hk, hk41, rfl, H⟩ := hrel
    by_cases hlt : k < len
    · by_cases h40 : k ≤ 40
      · obtain ⟨B, O, k9, n, i9, t, a, b, c, p, q, r, x4, x5, rfl, hx, q0, q1, q2, q3, q4, q5, q6, q7, q8, q9, q10, q11⟩ := eget hr (Below.refl _ _) hlt
        have HS : Hid (((l.take 41).drop k).all elgt1 = ((decide (x4.size ≤ 200) && decide (x5.size ≤ 200)) && ((l.take 41).drop (k + 1)).all elgt1)) := (by rw [etake_drop (by rw [hll.out]; exact hlt) h40, hx.out]; rfl : ((l.take 41).drop k).all elgt1 = _)
        have i0 : (0 : Int) ≤ (k : Int) := by omega
        have i1 : (k : Int) < (len : Int) := by omega
        have i2 : (k : Int) ≤ 40 := by omega
        by_cases h4 : x4.size ≤ 200
        · by_cases h5 : x5.size ≤ 200
          · have H2 : Hid (R = (((l.take 41).drop (k + 1)).all elgt1 && decide ((len : Int) ≤ 40))) := (by rw [H.out, HS.out, decide_eq_true h4, decide_eq_true h5]; rfl : R = (((l.take 41).drop (k + 1)).all elgt1 && decide ((len : Int) ≤ 40)))
            have d4 : ((x4.size : Nat) : Int) ≤ 200 := by omega
            have d5 : ((x5.size : Nat) : Int) ≤ 200 := by omega
            clear H HS HR hx
            go_wp2
            go_round
            case rel => exact ⟨k + 1, by omega, by omega, by go_num, H2⟩
            case measure => simp [intOf]; omega
          · have HE : Hid (R = false) := (by rw [H.out, HS.out, decide_eq_false h5]; simp : R = false)
            have d4 : ((x4.size : Nat) : Int) ≤ 200 := by omega
            have d5 : 200 < ((x5.size : Nat) : Int) := by omega
            clear H HS HR hx
            go_wp2
            go_ret
            obtain rfl := HE.out
            exact ⟨rfl, rfl⟩
        · have HE : Hid (R = false) := (by rw [H.out, HS.out, decide_eq_false h4]; simp : R = false)
          have d4 : 200 < ((x4.size : Nat) : Int) := by omega
          clear H HS HR hx
          go_wp2
          go_ret
          obtain rfl := HE.out
          exact ⟨rfl, rfl⟩
      · obtain rfl : k = 41 := by omega
        have HE : Hid (R = false) := (by rw [H.out, decide_eq_false (by omega), Bool.and_false] : R = false)
        have HL : 40 < (len : Int) := by omega
        clear H HR
        go_wp2
        go_ret
        obtain rfl := HE.out
        exact ⟨by first | rfl | exact congrArg _ (congrArg _ (decide_eq_false (by omega))), rfl⟩
    · obtain rfl : k = len := by omega
      have HE : Hid (R = decide ((k : Int) ≤ 40)) := (by rw [H.out, List.drop_of_length_le (by rw [List.length_take, hll.out]; omega)]; rfl : R = decide ((k : Int) ≤ 40))
      clear H HR
      go_wp2
      go_ret
      obtain rfl := HE.out
      exact ⟨rfl, rfl⟩

open Go.ChangeShapes Go.WideShapes
/-- what came in, as edits -/
def IsEdits (w : World) (a : Option Addr) (len cap : Nat) (l : List Ed.E) : Prop := ERow w a len l ∧ (a = none → len = 0 ∧ cap = 0) ∧ len ≤ cap ∧ len ≤ 140737488355328
theorem etrod_struct {H : Type} {enc : TypeId × Value → H} {P : Program} {w : World} {base : Nat} {spare : Nat → Bool} {held : Bool} {t : TypeId} {fs : Array Field} {fuel : Nat} {cs : List Value} {x : DataW H × List MemPlace} (ht : P.underlying t = some (.struct fs)) (h : DataW.trod enc P w base spare held fuel t cs = some x) :
    ∃ n, ∀ (j : Nat) (f : Field), fs[j]? = some f → ∃ y, DataW.trod enc P w base spare held n f.type ((cs.drop f.offset).take (P.cellsOf f.type)) = some y := by
  obtain ⟨xs, n, _, rfl, hl, hlen, hf⟩ := DataW.trod_struct ht h
  refine ⟨n, fun j f hj => ?_⟩
  have h1 := (Array.getElem?_eq_some_iff.mp hj).1
  have h2 : j < xs.length := by first | (rw [hlen]; simpa using h1) | (have := hlen; simp at this; omega)
  exact ⟨xs[j], by rw [hf j f hj, List.getElem?_eq_getElem h2]⟩
set_option maxRecDepth 100000 in
theorem open_edits {H : Type} {enc : TypeId × Value → H} {W : World} {fuel : Nat} {cs : List Value} {d : DataW H} {p : List MemPlace} {a : Option Addr} {len cap : Nat} {ts : List TypeId} {ds : List (DataW H)} {j : Nat}
    (hf : DataW.trod enc Tryz.prog W 0 (fun _ => true) true fuel 22 cs = some (d, p)) (hcs : cs = [.slice a len cap])
    (hsz : (DataW.weightsEach Tryz.prog ts ds).all (· ≤ reachBytes) = true) (ht : ts[j]? = some 22) (hd : ds[j]? = some d) : ∃ l, IsEdits W a len cap l := by
  obtain ⟨l, h1, _, h3, h4, h5⟩ := open_t (en := ee) (d0 := Ed.zero) (Good := fun _ => True) Tryz.underlying22 (E := 52) (s := 12) (by kernel_rfl) (by0 := 112) (by kernel_rfl) (by omega) (by omega) (fun n cs y hl ht => by
    match cs, hl with
    | [V0, V1, V2, V3, V4, V5, V6, V7, V8, V9, V10, V11], _ =>
      obtain ⟨n', hf⟩ := etrod_struct Tryz.underlying52 ht
      obtain ⟨y0, t0⟩ := hf 0 _ rfl
      obtain ⟨y1, t1⟩ := hf 1 _ rfl
      obtain ⟨y2, t2⟩ := hf 2 _ rfl
      obtain ⟨y3, t3⟩ := hf 3 _ rfl
      obtain ⟨y4, t4⟩ := hf 4 _ rfl
      obtain ⟨y5, t5⟩ := hf 5 _ rfl
      have t0' : DataW.trod enc Tryz.prog W 0 (fun _ => true) true n' 3 [V0] = some y0 := t0
      have t1' : DataW.trod enc Tryz.prog W 0 (fun _ => true) true n' 3 [V1] = some y1 := t1
      have t2' : DataW.trod enc Tryz.prog W 0 (fun _ => true) true n' 3 [V2] = some y2 := t2
      have t3' : DataW.trod enc Tryz.prog W 0 (fun _ => true) true n' 3 [V3] = some y3 := t3
      have t4' : DataW.trod enc Tryz.prog W 0 (fun _ => true) true n' 32 [V4, V5, V6] = some y4 := t4
      have t5' : DataW.trod enc Tryz.prog W 0 (fun _ => true) true n' 50 [V7, V8, V9, V10, V11] = some y5 := t5
      obtain ⟨n4, hf4⟩ := etrod_struct Tryz.underlying32 t4'
      obtain ⟨n5, hf5⟩ := etrod_struct Tryz.underlying50 t5'
      obtain ⟨u0, a0⟩ := hf4 0 _ rfl
      obtain ⟨u1, a1⟩ := hf4 1 _ rfl
      obtain ⟨u2, a2⟩ := hf4 2 _ rfl
      obtain ⟨v0, b0⟩ := hf5 0 _ rfl
      obtain ⟨v1, b1⟩ := hf5 1 _ rfl
      obtain ⟨v2, b2⟩ := hf5 2 _ rfl
      obtain ⟨v3, b3⟩ := hf5 3 _ rfl
      obtain ⟨v4, b4⟩ := hf5 4 _ rfl
      have a0' : DataW.trod enc Tryz.prog W 0 (fun _ => true) true n4 3 [V4] = some u0 := a0
      have a1' : DataW.trod enc Tryz.prog W 0 (fun _ => true) true n4 3 [V5] = some u1 := a1
      have a2' : DataW.trod enc Tryz.prog W 0 (fun _ => true) true n4 3 [V6] = some u2 := a2
      have b0' : DataW.trod enc Tryz.prog W 0 (fun _ => true) true n5 3 [V7] = some v0 := b0
      have b1' : DataW.trod enc Tryz.prog W 0 (fun _ => true) true n5 3 [V8] = some v1 := b1
      have b2' : DataW.trod enc Tryz.prog W 0 (fun _ => true) true n5 3 [V9] = some v2 := b2
      have b3' : DataW.trod enc Tryz.prog W 0 (fun _ => true) true n5 9 [V10] = some v3 := b3
      have b4' : DataW.trod enc Tryz.prog W 0 (fun _ => true) true n5 9 [V11] = some v4 := b4
      obtain ⟨k0, h0, _, _⟩ := DataW.trod_int Tryz.underlying3 t0'
      obtain ⟨k1, h1, _, _⟩ := DataW.trod_int Tryz.underlying3 t1'
      obtain ⟨k2, h2, _, _⟩ := DataW.trod_int Tryz.underlying3 t2'
      obtain ⟨k3, h3, _, _⟩ := DataW.trod_int Tryz.underlying3 t3'
      obtain ⟨k4, h4, _, _⟩ := DataW.trod_int Tryz.underlying3 a0'
      obtain ⟨k5, h5, _, _⟩ := DataW.trod_int Tryz.underlying3 a1'
      obtain ⟨k6, h6, _, _⟩ := DataW.trod_int Tryz.underlying3 a2'
      obtain ⟨k7, h7, _, _⟩ := DataW.trod_int Tryz.underlying3 b0'
      obtain ⟨k8, h8, _, _⟩ := DataW.trod_int Tryz.underlying3 b1'
      obtain ⟨k9, h9, _, _⟩ := DataW.trod_int Tryz.underlying3 b2'
      obtain ⟨s3, h10, _, _⟩ := DataW.trod_string Tryz.underlying9 b3'
      obtain ⟨s4, h11, _, _⟩ := DataW.trod_string Tryz.underlying9 b4'
      simp only [List.cons.injEq, and_true] at h0 h1 h2 h3 h4 h5 h6 h7 h8 h9 h10 h11
      subst h0 h1 h2 h3 h4 h5 h6 h7 h8 h9 h10 h11
      exact ⟨⟨k0, k1, k2, k3, k4, k5, k6, ⟨k7, k8, k9, s3, s4⟩⟩, rfl, trivial⟩) hf hcs hsz ht hd
  exact ⟨l, h1, h3, h4, h5⟩
end Go.Proofs.YtfogodbbgbnhkaaGreatDoor

/- From the reading of an argument that is a slice of tables to the row of them. -/
namespace Go.Proofs.YtfogodbbgbnhkaaGreatDoor
open Go.ChangeShapes Go.WideShapes Go.RowKit

end Go.Proofs.YtfogodbbgbnhkaaGreatDoor

/- From the reading of an argument that is a roster to its rows and numbers. -/
namespace Go.Proofs.YtfogodbbgbnhkaaGreatDoor
open Go.ChangeShapes Go.WideShapes Go.RowKit

/-- what came in, as a roster's rows -/
structure IsRos (w : World) (a1 : Option Addr) (n1 c1 : Nat) (a2 : Option Addr) (n2 c2 : Nat) (a3 : Option Addr) (n3 c3 : Nat) (a4 : Option Addr) (n4 c4 : Nat) (r : Ro.R) : Prop where
  r1 : ZRow w a1 n1 r.segs
  r2 : MRow w a2 n2 r.moves
  r3 : LRow w a3 n3 r.tabs
  r4 : KRow w a4 n4 r.stills
  z1 : a1 = none → n1 = 0 ∧ c1 = 0
  z2 : a2 = none → n2 = 0 ∧ c2 = 0
  z3 : a3 = none → n3 = 0 ∧ c3 = 0
  z4 : a4 = none → n4 = 0 ∧ c4 = 0
  c3 : n3 ≤ c3
  s1 : n1 ≤ 140737488355328
  s2 : n2 ≤ 140737488355328
  s3 : n3 ≤ 140737488355328
  s4 : n4 ≤ 140737488355328

end Go.Proofs.YtfogodbbgbnhkaaGreatDoor
