/- Edits: the laws' Light; what came in. -/
import Derived.Test.YtmodogmjfbcddaaGreatEIa
import Derived.Test.YtmodogmjfbcddaaGreatOT
namespace Go.Proofs.YtmodogmjfbcddaaGreat
open Go.RowKit

def elgt1 (t : Ed.E) : Bool := decide (t.tab.first.size ≤ 200) && decide (t.tab.last.size ≤ 200)
def elgt (l : List Ed.E) : Bool := (l.take 41).all elgt1 && decide (l.length ≤ 40)
theorem elgt_len {l : List Ed.E} (h : elgt l = true) : l.length ≤ 40 := by
  simp only [elgt, Bool.and_eq_true, decide_eq_true_eq] at h
  exact h.2
theorem etake_drop {l : List Ed.E} {k : Nat} (hk : k < l.length) (h40 : k ≤ 40) : (l.take 41).drop k = l.getD k Ed.zero :: (l.take 41).drop (k + 1) := by
  have h : k < (l.take 41).length := by rw [List.length_take]; omega
  rw [List.drop_eq_getElem_cons h, List.getElem_take]
  simp [hk]
set_option maxRecDepth 100000 in
set_option maxHeartbeats 1000000 in
theorem elight_any (a : Option Addr) (len cap : Nat) (l : List Ed.E) (w : World) (hr : ERow w a len l) (hlen : len ≤ 140737488355328) :
    Calls Tryz.prog 8 #[.slice a len cap] w fun e w' => e = .returned (.bool (elgt l)) ∧ w' = w := by
  have hll : Hid (l.length = len) := hr.1
  obtain ⟨R, hR⟩ : ∃ R, R = elgt l := ⟨_, rfl⟩
  rw [← hR]
  have HR : Hid (R = (((l.take 41).drop 0).all elgt1 && decide ((len : Int) ≤ 40))) := (by rw [hR, elgt, hll.out]; congr 1; exact decide_eq_decide.mpr (by omega) : R = (((l.take 41).drop 0).all elgt1 && decide ((len : Int) ≤ 40)))
  clear hR
  go_enter Tryz.func8, Tryz.ntmps8
  go_wp2
  go_loop [3] (fun i => ∃ k : Nat, k ≤ len ∧ k ≤ 41 ∧ i = .int .i64 k ∧ Hid (R = (((l.take 41).drop k).all elgt1 && decide ((len : Int) ≤ 40)))) (fun i => len - (intOf i).toNat)
  case atStart => exact ⟨0, by omega, by omega, rfl, HR⟩
  case round =>
    obtain ⟨k, hk, hk41, rfl, H⟩ := hrel
    by_cases hlt : k < len
    · by_cases h40 : k ≤ 40
      · obtain ⟨B, O, k9, n, i9, t, a, b, c, p, q, r, x4, x5, rfl, hx, q0, q1, q2, q3, q4, q5, q6, q7, q8, q9, q10, q11⟩ := eget hr (Below.refl _ _) hlt
        have HS : Hid (((l.take 41).drop k).all elgt1 = ((decide (x4.size ≤ 200) && decide (x5.size ≤ 200)) && ((l.take 41).drop (k + 1)).all elgt1)) := (by rw [etake_drop (by rw [hll.out]; exact hlt) h40, hx.out]; rfl : ((l.take 41).drop k).all elgt1 = _)
        have i0 : (0 : Int) ≤ (k : Int) := by omega
        have i1 : (k : Int) < (len : Int) := by omega
        have i2 : (k : Int) ≤ 40 := by omega
        by_cases h4 : x4.size ≤ 200
        · by_cases h5 : x5.size ≤ 200
          · have H2 : Hid (R = (((l.take 41).drop (k + 1)).all elgt1 && decide ((len : Int) ≤ 40))) := (by rw [H.out, HS.out, decide_eq_true h4, decide_eq_true h5]; rfl : R = (((l.take 41).drop (k + 1)).all elgt1 && decide ((len : Int) ≤ 40)))
            have d4 : ((x4.size : Nat) : Int) ≤ 200 := by omega
            have d5 : ((x5.size : Nat) : Int) ≤ 200 := by omega
            clear H HS HR hx
            go_wp2
            go_round
            case rel => exact ⟨k + 1, by omega, by omega, by go_num, H2⟩
            case measure => simp [intOf]; omega
          · have HE : Hid (R = false) := (by rw [H.out, HS.out, decide_eq_false h5]; simp : R = false)
            have d4 : ((x4.size : Nat) : Int) ≤ 200 := by omega
            have d5 : 200 < ((x5.size : Nat) : Int) := by omega
            clear H HS HR hx
            go_wp2
            go_ret
            obtain rfl := HE.out
            exact ⟨rfl, rfl⟩
        · have HE : Hid (R = false) := (by rw [H.out, HS.out, decide_eq_false h4]; simp : R = false)
          have d4 : 200 < ((x4.size : Nat) : Int) := by omega
          clear H HS HR hx
          go_wp2
          go_ret
          obtain rfl := HE.out
          exact ⟨rfl, rfl⟩
      · obtain rfl : k = 41 := by omega
        have HE : Hid (R = false) := (by rw [H.out, decide_eq_false (by omega), Bool.and_false] : R = false)
        have HL : 40 < (len : Int) := by omega
        clear H HR
        go_wp2
        go_ret
        obtain rfl := HE.out
        exact ⟨by first | rfl | exact congrArg _ (congrArg _ (decide_eq_false (by omega))), rfl⟩
    · obtain rfl : k = len := by omega
      have HE : Hid (R = decide ((k : Int) ≤ 40)) := (by rw [H.out, List.drop_of_length_le (by rw [List.length_take, hll.out]; omega)]; rfl : R = decide ((k : Int) ≤ 40))
      clear H HR
      go_wp2
      go_ret
      obtain rfl := HE.out
      exact ⟨rfl, rfl⟩

theorem lit_edit (w : World) (k n i t a b c p q r : Int) (f g : ByteArray) {o : Nat} (ho : w.heap.size = o) : ERow (w.alloc (oed k n i t a b c p q r f g)) (some ⟨o, 0, none⟩) 1 [⟨k, n, i, t, a, b, c, ⟨p, q, r, f, g⟩⟩] :=
  trow_lit w _ _ _ ho (fun j v hj => by
    match j, hj with
    | 0, hj | 1, hj | 2, hj | 3, hj | 4, hj | 5, hj | 6, hj | 7, hj | 8, hj | 9, hj | 10, hj | 11, hj => exact hj
    | j + 12, hj => simp [ee] at hj)

open Go.ChangeShapes Go.WideShapes
/-- what came in, as edits -/
def IsEdits (w : World) (a : Option Addr) (len cap : Nat) (l : List Ed.E) : Prop := ERow w a len l ∧ (a = none → len = 0 ∧ cap = 0) ∧ len ≤ cap ∧ len ≤ 140737488355328
theorem etrod_struct {H : Type} {enc : TypeId × Value → H} {P : Program} {w : World} {base : Nat} {spare : Nat → Bool} {held : Bool} {t : TypeId} {fs : Array Field} {fuel : Nat} {cs : List Value} {x : DataW H × List MemPlace} (ht : P.underlying t = some (.struct fs)) (h : DataW.trod enc P w base spare held fuel t cs = some x) :
    ∃ n, ∀ (j : Nat) (f : Field), fs[j]? = some f → ∃ y, DataW.trod enc P w base spare held n f.type ((cs.drop f.offset).take (P.cellsOf f.type)) = some y := by
  obtain ⟨xs, n, _, rfl, hl, hlen, hf⟩ := DataW.trod_struct ht h
  refine ⟨n, fun j f hj => ?_⟩
  have h1 := (Array.getElem?_eq_some_iff.mp hj).1
  have h2 : j < xs.length := by first | (rw [hlen]; simpa using h1) | (have := hlen; simp at this; omega)
  exact ⟨xs[j], by rw [hf j f hj, List.getElem?_eq_getElem h2]⟩
set_option maxRecDepth 100000 in
theorem open_edits {H : Type} {enc : TypeId × Value → H} {W : World} {fuel : Nat} {cs : List Value} {d : DataW H} {p : List MemPlace} {a : Option Addr} {len cap : Nat} {ts : List TypeId} {ds : List (DataW H)} {j : Nat}
    (hf : DataW.trod enc Tryz.prog W 0 (fun _ => true) true fuel 30 cs = some (d, p)) (hcs : cs = [.slice a len cap])
    (hsz : (DataW.weightsEach Tryz.prog ts ds).all (· ≤ reachBytes) = true) (ht : ts[j]? = some 30) (hd : ds[j]? = some d) : ∃ l, IsEdits W a len cap l := by
  obtain ⟨l, h1, _, h3, h4, h5⟩ := open_t (en := ee) (d0 := Ed.zero) (Good := fun _ => True) Tryz.underlying30 (E := 46) (s := 12) (by kernel_rfl) (by0 := 112) (by kernel_rfl) (by omega) (by omega) (fun n cs y hl ht => by
    match cs, hl with
    | [V0, V1, V2, V3, V4, V5, V6, V7, V8, V9, V10, V11], _ =>
      obtain ⟨n', hf⟩ := etrod_struct Tryz.underlying46 ht
      obtain ⟨y0, t0⟩ := hf 0 _ rfl
      obtain ⟨y1, t1⟩ := hf 1 _ rfl
      obtain ⟨y2, t2⟩ := hf 2 _ rfl
      obtain ⟨y3, t3⟩ := hf 3 _ rfl
      obtain ⟨y4, t4⟩ := hf 4 _ rfl
      obtain ⟨y5, t5⟩ := hf 5 _ rfl
      have t0' : DataW.trod enc Tryz.prog W 0 (fun _ => true) true n' 3 [V0] = some y0 := t0
      have t1' : DataW.trod enc Tryz.prog W 0 (fun _ => true) true n' 3 [V1] = some y1 := t1
      have t2' : DataW.trod enc Tryz.prog W 0 (fun _ => true) true n' 3 [V2] = some y2 := t2
      have t3' : DataW.trod enc Tryz.prog W 0 (fun _ => true) true n' 3 [V3] = some y3 := t3
      have t4' : DataW.trod enc Tryz.prog W 0 (fun _ => true) true n' 27 [V4, V5, V6] = some y4 := t4
      have t5' : DataW.trod enc Tryz.prog W 0 (fun _ => true) true n' 44 [V7, V8, V9, V10, V11] = some y5 := t5
      obtain ⟨n4, hf4⟩ := etrod_struct Tryz.underlying27 t4'
      obtain ⟨n5, hf5⟩ := etrod_struct Tryz.underlying44 t5'
      obtain ⟨u0, a0⟩ := hf4 0 _ rfl
      obtain ⟨u1, a1⟩ := hf4 1 _ rfl
      obtain ⟨u2, a2⟩ := hf4 2 _ rfl
      obtain ⟨v0, b0⟩ := hf5 0 _ rfl
      obtain ⟨v1, b1⟩ := hf5 1 _ rfl
      obtain ⟨v2, b2⟩ := hf5 2 _ rfl
      obtain ⟨v3, b3⟩ := hf5 3 _ rfl
      obtain ⟨v4, b4⟩ := hf5 4 _ rfl
      have a0' : DataW.trod enc Tryz.prog W 0 (fun _ => true) true n4 3 [V4] = some u0 := a0
      have a1' : DataW.trod enc Tryz.prog W 0 (fun _ => true) true n4 3 [V5] = some u1 := a1
      have a2' : DataW.trod enc Tryz.prog W 0 (fun _ => true) true n4 3 [V6] = some u2 := a2
      have b0' : DataW.trod enc Tryz.prog W 0 (fun _ => true) true n5 3 [V7] = some v0 := b0
      have b1' : DataW.trod enc Tryz.prog W 0 (fun _ => true) true n5 3 [V8] = some v1 := b1
      have b2' : DataW.trod enc Tryz.prog W 0 (fun _ => true) true n5 3 [V9] = some v2 := b2
      have b3' : DataW.trod enc Tryz.prog W 0 (fun _ => true) true n5 9 [V10] = some v3 := b3
      have b4' : DataW.trod enc Tryz.prog W 0 (fun _ => true) true n5 9 [V11] = some v4 := b4
      obtain ⟨k0, h0, _, _⟩ := DataW.trod_int Tryz.underlying3 t0'
      obtain ⟨k1, h1, _, _⟩ := DataW.trod_int Tryz.underlying3 t1'
      obtain ⟨k2, h2, _, _⟩ := DataW.trod_int Tryz.underlying3 t2'
      obtain ⟨k3, h3, _, _⟩ := DataW.trod_int Tryz.underlying3 t3'
      obtain ⟨k4, h4, _, _⟩ := DataW.trod_int Tryz.underlying3 a0'
      obtain ⟨k5, h5, _, _⟩ := DataW.trod_int Tryz.underlying3 a1'
      obtain ⟨k6, h6, _, _⟩ := DataW.trod_int Tryz.underlying3 a2'
      obtain ⟨k7, h7, _, _⟩ := DataW.trod_int Tryz.underlying3 b0'
      obtain ⟨k8, h8, _, _⟩ := DataW.trod_int Tryz.underlying3 b1'
      obtain ⟨k9, h9, _, _⟩ := DataW.trod_int Tryz.underlying3 b2'
      obtain ⟨s3, h10, _, _⟩ := DataW.trod_string Tryz.underlying9 b3'
      obtain ⟨s4, h11, _, _⟩ := DataW.trod_string Tryz.underlying9 b4'
      simp only [List.cons.injEq, and_true] at h0 h1 h2 h3 h4 h5 h6 h7 h8 h9 h10 h11
      subst h0 h1 h2 h3 h4 h5 h6 h7 h8 h9 h10 h11
      exact ⟨⟨k0, k1, k2, k3, k4, k5, k6, ⟨k7, k8, k9, s3, s4⟩⟩, rfl, trivial⟩) hf hcs hsz ht hd
  exact ⟨l, h1, h3, h4, h5⟩
end Go.Proofs.YtmodogmjfbcddaaGreat
