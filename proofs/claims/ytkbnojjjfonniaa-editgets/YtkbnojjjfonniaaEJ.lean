/- Edits: getNumbers of the program. -/
import Derived.Test.YtkbnojjjfonniaaEI
import Derived.Test.YtkbnojjjfonniaaEdP
namespace Go.Proofs.Ytkbnojjjfonniaa
open Go.RowKit

def GNRes (w : World) (n : Nat) (R : Option (List Nat × Nat)) (e : Ending) (w' : World) : Prop := match R with
  | none => e = .returned (.tuple #[.slice none 0 0, .int .i64 0, .int .i64 2]) ∧ Below w.heap.size w w'
  | some (l, m) => ∃ g, e = .returned (.tuple #[.slice (some ⟨g, 0, none⟩) n n, .int .i64 (m : Nat), .int .i64 0]) ∧ w'.ownsRow w.heap.size 3 1 (.slice (some ⟨g, 0, none⟩) n n) n (kcells .i64 l) ∧ Below w.heap.size w w'
theorem rat {k : IntKind} {w : World} {a : Option Addr} {n : Nat} {l : List Nat} (h : Row k w a n l) {j : Nat} (hj : j < n) : ∃ b off, a = some ⟨b, off, none⟩ ∧ w.cell? ⟨b, off + j, none⟩ = some (.int k (l.getD j 0 : Nat)) := by
  rcases h.2.2.2 with h0 | ⟨b, off, e, hc⟩
  · omega
  · exact ⟨b, off, e, hc j hj⟩
theorem made_ints (n : Nat) : (madeCells (Value.int .i64 0).cells (n * 1)).toList = kcells .i64 (List.replicate n 0) := by
  rw [Nat.mul_one]
  apply List.ext_getElem?
  intro j
  simp only [kcells, List.map_replicate]
  rw [List.getElem?_replicate]
  by_cases h : j < n <;> simp [madeCells, Value.cells, h, Nat.mod_one]
theorem set_ints (l : List Nat) (n j x : Nat) (hj : j < n) (hl : l.length = n) (hx : l.getD j 0 = x) : (kcells .i64 (l.take j ++ List.replicate (n - j) 0)).set j (.int .i64 (x : Nat)) = kcells .i64 (l.take (j + 1) ++ List.replicate (n - (j + 1)) 0) := by
  have e1 : (l.take j).length = j := by rw [List.length_take]; omega
  have e2 : n - j = (n - (j + 1)) + 1 := by omega
  rw [e2, List.replicate_succ, Va.take_snoc l j (by omega), hx]
  simp only [kcells, List.map_append, List.map_cons, List.map_nil, List.append_assoc]
  have e3 : ((l.take j).map fun n : Nat => Value.int .i64 (n : Int)).length = j := by rw [List.length_map, e1]
  rw [List.set_append_right _ _ (by omega), e3, Nat.sub_self]
  rfl

set_option maxRecDepth 100000 in
set_option maxHeartbeats 2000000 in
theorem egnums_any (a : Option Addr) (len cap : Nat) (bs : List Nat) (n : Nat) (w : World) (hn : n ≤ 6) (hbig : len ≤ 100000) (hshape : Shape a len cap) (hr : Row .u8 w a len bs) :
    Calls Try.prog 49 #[.slice a len cap, .int .i64 (n : Nat)] w (GNRes w n (Ed.pnums bs n)) := by
  have hall := all_any a len cap bs n w (by omega) hbig hshape hr
  have hcode := Ed.al_code n bs 0 []
  have hlenL := Ed.al_len n bs 0 [] (by omega)
  have HP : Hid (Ed.pnums bs n = if (Va.all bs n).2.2 = 0 ∧ ∀ u ∈ (Va.all bs n).1, u ≤ 2147483647 then some ((Va.all bs n).1, (Va.all bs n).2.1) else none) := (rfl : _ = _)
  change (Va.all bs n).2.2 = 0 ∨ (Va.all bs n).2.2 = 2 at hcode
  change (Va.all bs n).2.2 = 0 → (Va.all bs n).1.length = 0 + n ∧ (Va.all bs n).2.1 ≤ bs.length at hlenL
  generalize Ed.pnums bs n = P at *
  have hle : bs.length = len := hr.1
  have hlt64 : ∀ u ∈ (Va.all bs n).1, (Va.all bs n).2.2 = 0 → u < 18446744073709551616 := by
    have : ∀ (m : Nat) (q : Nat) (acc : List Nat), (∀ u ∈ acc, u < 18446744073709551616) → (Va.al m bs q acc).2.2 = 0 → ∀ u ∈ (Va.al m bs q acc).1, u < 18446744073709551616 := by
      intro m
      induction m with
      | zero => intro q acc h _ u hu; exact h u hu
      | succ m ih =>
        intro q acc h h0 u hu
        by_cases hg : (Va.get (bs.drop q)).2 = 0
        · rw [Va.al_none hg] at h0; simp at h0
        · rw [Va.al_some hg] at h0 hu
          refine ih _ _ ?_ h0 u hu
          intro v hv
          rcases List.mem_append.mp hv with hv | hv
          · exact h v hv
          · rw [List.mem_singleton.mp hv]; exact Va.get_lt _
    exact fun u hu h0 => this n 0 [] (by simp) h0 u hu
  generalize Va.all bs n = R at *
  obtain ⟨L, A, C⟩ := R
  simp only at hcode hlenL hlt64 HP
  rcases hcode with rfl | rfl
  · obtain ⟨hL, hA⟩ := hlenL rfl
    rw [Nat.zero_add] at hL
    have hA : A ≤ 100000 := by omega
    have H64 : Hid (∀ u ∈ L, u < 18446744073709551616) := (fun u hu => hlt64 u hu rfl : ∀ u ∈ L, u < 18446744073709551616)
    have HQ : Hid (P = if (∀ u ∈ L, u ≤ 2147483647) then some (L, A) else none) := (by rw [HP.out]; simp : P = _)
    clear hlt64 HP
    unfold AllRes at hall
    simp only at hall
    rw [hL] at hall
    have hL : Hid (L.length = n) := hL
    clear hlenL hle
    obtain ⟨i0, hi0, hz0, hz1, hz2⟩ := info_parts (show (Try.prog.info? 3).map (fun i => (i.zero, i.size, i.bytes)) = some (some (.int .i64 0), 1, 8) by kernel_rfl)
    go_enter Try.func49, Try.ntmps49
    go_wp2_with (first
      | (go_at_call 56; go_must (refine hall.mono ?_; rintro e w2 ⟨a1, c1, rfl, hown1, hb2⟩; have hr1 := (row_of_owns hown1 (fun x hx => by show x < 18446744073709551616; exact H64.out x hx) (by omega)).1; clear hall hr hshape))
      | (at_make; go_must (refine make_full _ rfl _ _ 66 rfl w.heap.size 3 i0 _ 1 Try.underlying66 hi0 hz0 hz1 .i64 .i64 n rfl rfl (by rw [hz2]; omega) (by unfold maxLen; omega) hb2.size ?_; intro w3 hmade hb3; rw [made_ints] at hmade)))
    go_loopw [27] (fun iv wr => ∃ (j : Nat), j ≤ n ∧ iv = .int .i64 j ∧ Hid (∀ u ∈ L.take j, u ≤ 2147483647) ∧ wr.ownsRow w.heap.size 3 1 (.slice (some ⟨w2.heap.size, 0, none⟩) n n) n (kcells .i64 (L.take j ++ List.replicate (n - j) 0)) ∧ Below w2.heap.size w2 wr) (fun iv _ => n - (intOf iv).toNat)
    case atStart => exact ⟨0, by omega, rfl, (by simp : ∀ u ∈ L.take 0, u ≤ 2147483647), hmade, hb3⟩
    case round =>
      obtain ⟨j, hj, rfl, HM, hown, hbel⟩ := hrel
      have hB := hb2.trans (hbel.mono hb2.size)
      by_cases hlt : j < n
      · obtain ⟨b, off, rfl, hc0⟩ := rat hr1 hlt
        have hc : wr.cell? ⟨b, off + j, none⟩ = _ := (hbel.cell (p := ⟨b, off + j, none⟩) (cell_lt hc0)).trans hc0
        have hj' : j < L.length := by rw [hL.out]; exact hlt
        have HS : Hid (∀ x, L.getD j 0 = x → (kcells .i64 (L.take j ++ List.replicate (n - j) 0)).set j (.int .i64 (x : Nat)) = kcells .i64 (L.take (j + 1) ++ List.replicate (n - (j + 1)) 0)) := (fun x hx => set_ints L n j x hlt hL.out hx : ∀ x, _)
        have HT : Hid (L.take (j + 1) = L.take j ++ [L.getD j 0]) := (Va.take_snoc L j hj' : _ = _)
        have hmemL : Hid (L.getD j 0 ∈ L) := (by simp [hj'] : L.getD j 0 ∈ L)
        have hx64 := H64.out _ hmemL.out
        obtain ⟨k1, k2⟩ := own_cells hown (j := j) (v := .int .i64 0) (by
          have e1 : (L.take j).length = j := by rw [List.length_take]; omega
          simp only [kcells, List.map_append]
          rw [List.getElem?_append_right (by rw [List.length_map, e1]; exact Nat.le_refl _), List.length_map, e1, Nat.sub_self, show n - j = (n - (j + 1)) + 1 by omega, List.replicate_succ]
          rfl)
        have HS := HS.out _ rfl
        have HS : Hid (_ = _) := HS
        clear hc0
        generalize hx : L.getD j 0 = x at *
        have hx : Hid (_ = _) := hx
        have i0 : (0 : Int) ≤ (j : Int) := by omega
        have i5 : (j : Int) < (n : Int) := by omega
        by_cases hbig2 : 2147483647 < x
        · have i6 : (2147483647 : Int) < (x : Int) := by omega
          have HN : Hid (P = none) := (by rw [HQ.out, if_neg]; intro h; have := h x hmemL.out; omega : P = none)
          clear HS HT hmemL HQ HM hx
          go_wp2
          go_ret3
          rw [HN.out]
          exact ⟨rfl, hB⟩
        · have i6 : ¬ (2147483647 : Int) < (x : Int) := by omega
          have i7 : (x : Int) ≤ 9223372036854775807 := by omega
          have HM2 : Hid (∀ u ∈ L.take (j + 1), u ≤ 2147483647) := (by
            intro u hu
            rw [HT.out] at hu
            rcases List.mem_append.mp hu with hu | hu
            · exact HM.out u hu
            · rw [List.mem_singleton.mp hu]; omega : ∀ u ∈ L.take (j + 1), u ≤ 2147483647)
          clear HT hmemL HM hx
          go_wp2
          go_roundw
          case rel => exact ⟨j + 1, by omega, by go_num, HM2, by rw [← HS.out]; exact own_store hown j _, below_put hbel (Nat.le_refl _) _ _⟩
          case measure => simp [intOf]; omega
      · obtain rfl : j = n := by omega
        have HE : Hid (P = some (L, A)) := (by
          have e : L.take j = L := List.take_of_length_le (by rw [hL.out]; exact Nat.le_refl _)
          rw [HQ.out, if_pos (fun u hu => HM.out u (by rw [e]; exact hu))] : P = some (L, A))
        have HC : Hid (L.take j ++ List.replicate (j - j) 0 = L) := (by
          rw [List.take_of_length_le (by rw [hL.out]; exact Nat.le_refl _)]; simp : _ = _)
        clear HQ HM
        go_wp2
        go_ret3
        rw [HE.out]
        rw [HC.out] at hown
        exact ⟨w2.heap.size, rfl, hown, hB⟩
  · have HN : Hid (P = none) := (by rw [HP.out, if_neg (by simp)] : P = none)
    clear HP hlenL hlt64
    unfold AllRes at hall
    simp only at hall
    go_enter Try.func49, Try.ntmps49
    go_wp2_with (go_at_call 56; go_must (refine hall.mono ?_; rintro e w2 ⟨a1, c1, rfl, hown1, hb2⟩))
    go_ret3
    rw [HN.out]
    exact ⟨rfl, hb2⟩
end Go.Proofs.Ytkbnojjjfonniaa
