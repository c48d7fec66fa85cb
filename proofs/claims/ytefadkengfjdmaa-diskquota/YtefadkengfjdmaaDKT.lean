/- Light; the law DiskQuota. -/
import Derived.Test.YtefadkengfjdmaaDKS
namespace Go.Proofs.Ytefadkengfjdmaa
open Go.RowKit Go.Shelf

/-- a slice of acts as it may come in -/
structure AIn (w : World) (a : Option Addr) (n c : Nat) (hs : List AH) : Prop where
  row : TRow 7 ah ahz w a n hs
  nil : a = none → n = 0 ∧ c = 0
  cap : n ≤ c
  each : ∀ i, i < n → ∃ bs zs, IsAct w (hs.getD i ahz) bs zs
theorem IsAct.below {w w' : World} {h : AH} {bs : List Nat} {zs : List Int} (ha : IsAct w h bs zs) (hb : Below w.heap.size w w') : IsAct w' h bs zs :=
  ⟨ha.row.below hb (Nat.le_refl _), ha.nil, ha.cap, ⟨ha.tails.1.below hb (Nat.le_refl _), ha.tails.2⟩, ha.n, ha.name, ha.to⟩
theorem AIn.below {w w' : World} {a : Option Addr} {n c : Nat} {hs : List AH} (h : AIn w a n c hs) (hb : Below w.heap.size w w') : AIn w' a n c hs :=
  ⟨h.row.below hb (Nat.le_refl _), h.nil, h.cap, fun i hi => by obtain ⟨bs, zs, ha⟩ := h.each i hi; exact ⟨bs, zs, ha.below hb⟩⟩
/-- the seven cells of an act -/
theorem act_cells {w : World} {b o : Nat} {h : AH} (ht : TAt ah w b o h) : w.cell? ⟨b, o, none⟩ = some (.int .i64 h.d) ∧ w.cell? ⟨b, o + 1, none⟩ = some (.string h.name) ∧ w.cell? ⟨b, o + 2, none⟩ = some (.string h.to) ∧ w.cell? ⟨b, o + 3, none⟩ = some (.slice h.ba h.bn h.bc) ∧ w.cell? ⟨b, o + 4, none⟩ = some (.int .i64 h.n) ∧ w.cell? ⟨b, o + 5, none⟩ = some (.int .i64 h.kn) ∧ w.cell? ⟨b, o + 6, none⟩ = some (.slice h.ta h.tn h.tc) :=
  ⟨ht 0 _ rfl, ht 1 _ rfl, ht 2 _ rfl, ht 3 _ rfl, ht 4 _ rfl, ht 5 _ rfl, ht 6 _ rfl⟩
/-- acts that are not too great -/
def ALight (hs : List AH) (n : Nat) : Prop := n ≤ 40 ∧ ∀ i, i < n → (hs.getD i ahz).bn ≤ 300

set_option maxRecDepth 100000 in
set_option maxHeartbeats 4000000 in
theorem alight (a : Option Addr) (n c : Nat) (hs : List AH) (w : World) (hi : AIn w a n c hs) :
    Calls Try.prog 4 #[.slice a n c] w fun e w' => ∃ r : Bool, e = .returned (.bool r) ∧ (r = true → ALight hs n) ∧ Below w.heap.size w w' := by
  have hlb := hi.row.2.1
  have hz : Hid (∀ i, i < n → (hs.getD i ahz).name.size ≤ 9223372036854775807 ∧ (hs.getD i ahz).to.size ≤ 9223372036854775807 ∧ (hs.getD i ahz).bn ≤ 1000000000000000000 ∧ (hs.getD i ahz).tn ≤ 1000000000000000000) := (fun i hin => by
    obtain ⟨bs, zs, ha⟩ := hi.each i hin
    have h1 := ha.name
    have h2 := ha.to
    unfold maxLen at h1 h2
    have h3 := ha.row.2.1
    have h4 := ha.tails.1.2.1
    exact ⟨by omega, by omega, by omega, by omega⟩ : ∀ i, i < n → (hs.getD i ahz).name.size ≤ 9223372036854775807 ∧ (hs.getD i ahz).to.size ≤ 9223372036854775807 ∧ (hs.getD i ahz).bn ≤ 1000000000000000000 ∧ (hs.getD i ahz).tn ≤ 1000000000000000000)
  have hr := hi.row
  clear hi
  go_enter Try.func4, Try.ntmps4
  go_wp2
  go_loopw [3] (fun i wr => ∃ k : Nat, k ≤ n ∧ k ≤ 41 ∧ i = .int .i64 k ∧ Hid (∀ j, j < k → (hs.getD j ahz).bn ≤ 300) ∧ Below w.heap.size w wr) (fun i _ => 41 - (intOf i).toNat)
  case atStart => exact ⟨0, by omega, by omega, rfl, (fun j hj => by omega : ∀ j, j < 0 → (hs.getD j ahz).bn ≤ 300), Below.refl _ _⟩
  case round =>
    obtain ⟨k, hk, hk41, rfl, H, hbel⟩ := hrel
    by_cases hlt : k < n ∧ k ≤ 40
    · obtain ⟨bb, off, rfl, hc⟩ := hr.at (by omega)
      have hrb := hr.below hbel (Nat.le_refl _)
      obtain ⟨bb', off', e', hc'⟩ := hrb.at (by omega)
      simp only [Option.some.injEq, Addr.mk.injEq] at e'
      obtain ⟨rfl, rfl, _⟩ := e'
      obtain ⟨y0, y1, y2, y3, y4, y5, y6⟩ := act_cells (hc' k hlt.1)
      obtain ⟨z1, z2, z3, z4⟩ := hz.out k hlt.1
      have Hs : Hid (∀ q, q = hs.getD k ahz → q.bn ≤ 300 → ∀ j, j < k + 1 → (hs.getD j ahz).bn ≤ 300) := (fun q hq h j hj => by
        rcases Nat.lt_or_ge j k with h' | h'
        · exact H.out j h'
        · obtain rfl : j = k := by omega
          rw [← hq]; exact h : ∀ q, q = hs.getD k ahz → q.bn ≤ 300 → ∀ j, j < k + 1 → (hs.getD j ahz).bn ≤ 300)
      obtain ⟨q, hq⟩ : ∃ q, q = hs.getD k ahz := ⟨_, rfl⟩
      rw [← hq] at y0 y1 y2 y3 y4 y5 y6 z1 z2 z3 z4
      have H2 := Hs.out q hq
      clear Hs hq H hc hc' hr hrb hz
      obtain ⟨qd, qname, qto, qba, qbn, qbc, qn, qkn, qta, qtn, qtc⟩ := q
      simp only at y0 y1 y2 y3 y4 y5 y6 z1 z2 z3 z4 H2
      have i0 : (0 : Int) ≤ (k : Int) := by omega
      have i1 : (k : Int) < (n : Int) := by omega
      have i2 : (k : Int) ≤ 40 := by omega
      cases d1 : decide ((100 : Int) < (qname.size : Int)) with
      | true => go_wp2; go_ret; exact ⟨false, rfl, (fun h => by cases h), hbel⟩
      | false =>
        cases d2 : decide ((100 : Int) < (qto.size : Int)) with
        | true => go_wp2; go_ret; exact ⟨false, rfl, (fun h => by cases h), hbel⟩
        | false =>
          cases d3 : decide ((300 : Int) < (qbn : Int)) with
          | true => go_wp2; go_ret; exact ⟨false, rfl, (fun h => by cases h), hbel⟩
          | false =>
            cases d4 : decide ((100 : Int) < (qtn : Int)) with
            | true => go_wp2; go_ret; exact ⟨false, rfl, (fun h => by cases h), hbel⟩
            | false =>
              have H3 : Hid (∀ j, j < k + 1 → (hs.getD j ahz).bn ≤ 300) := H2 (by simp at d3; omega)
              clear H2
              go_wp2
              go_roundw
              case rel => exact ⟨k + 1, by omega, by omega, by go_num, H3, hbel⟩
              case measure => simp [intOf]; omega
    · by_cases hkn : k < n
      · have i1 : (k : Int) < (n : Int) := by omega
        have i2 : decide ((k : Int) ≤ 40) = false := by simp; omega
        have i3 : decide ((n : Int) ≤ 40) = false := by simp; omega
        clear hr hz
        go_wp2
        go_ret
        exact ⟨false, rfl, (fun h => by cases h), hbel⟩
      · obtain rfl : k = n := by omega
        by_cases hk30 : k ≤ 40
        · have i3 : decide ((k : Int) ≤ 40) = true := by simp; omega
          clear hr hz
          go_wp2
          go_ret
          exact ⟨true, rfl, (fun _ => ⟨hk30, H.out⟩), hbel⟩
        · have i3 : decide ((k : Int) ≤ 40) = false := by simp; omega
          clear hr hz
          go_wp2
          go_ret
          exact ⟨false, rfl, (fun h => by cases h), hbel⟩
end Go.Proofs.Ytefadkengfjdmaa
