/- What the program's Put does; the five contracts, paid. -/
import Derived.Test.YtjioipkohnlipaaP5
import Derived.Test.YtjioipkohnlipaaP6
import Derived.Test.YtjioipkohnlipaaG2
namespace Go.Proofs.Ytjioipkohnlipaa
open Go.RowKit

theorem pall_len_le : ∀ (l : List Fr.F), (∀ f ∈ l, f.2.length ≤ 1048576) → (Fr.all l).length ≤ tot l + 8 * l.length := by
  intro l
  induction l with
  | nil => intro _; simp [Fr.all]
  | cons f l ih =>
    intro h
    have h1 := ih (fun g hg => h g (by simp [hg]))
    have h2 := Fr.size_le (h f (by simp))
    rw [Fr.all_len_cons]
    simp only [tot, List.map_cons, List.sum_cons, List.length_cons] at h1 ⊢
    omega
theorem plen_le_tot {l : List Fr.F} {f : Fr.F} (h : f ∈ l) : f.2.length ≤ tot l := by
  induction l with
  | nil => cases h
  | cons g l ih =>
    simp only [tot, List.map_cons, List.sum_cons]
    rcases List.mem_cons.mp h with rfl | h
    · omega
    · have := ih h
      simp only [tot] at this
      omega
theorem pall_take_le {fs : List Fr.F} (h1 : fs.length ≤ 1000) (h2 : tot fs ≤ 100000) (k : Nat) : (Fr.all (fs.take k)).length ≤ 108000 := by
  have h3 := pall_len_le (fs.take k) (fun f hf => by have := plen_le_tot (List.mem_of_mem_take hf); omega)
  have h4 := tot_le fs k
  have h5 : (fs.take k).length ≤ fs.length := by rw [List.length_take]; omega
  omega
theorem pmay_take {fs : List Fr.F} {k : Nat} (h : k < fs.length) : (fs.take (k + 1)).all Fr.may = ((fs.take k).all Fr.may && Fr.may (fs.getD k (0, []))) := by
  rw [List.take_succ_eq_append_getElem h, List.all_append]; simp [h]

set_option maxRecDepth 100000 in
set_option maxHeartbeats 1000000 in
theorem put_prog (a : Option Addr) (len cap : Nat) (fs : List Fr.F) (w : World) (hr : FRow w a len fs) (hlen : len ≤ 1000) (htot : tot fs ≤ 100000) : Calls Try.prog 13 #[.slice a len cap] w (PutRes w fs) := by
  have hll : Hid (fs.length = len) := hr.1
  have hb := fun k => pall_take_le (fs := fs) (by rw [hll.out]; exact hlen) htot k
  go_enter Try.func13, Try.ntmps13
  go_wp2
  go_loopw [4, 12] (fun t i wr => ∃ k n : Nat, k ≤ len ∧ i = .int .i64 k ∧ t = .int .i64 n ∧ n ≤ 108000 ∧ Hid (n = (Fr.all (fs.take k)).length) ∧ Hid ((fs.take k).all Fr.may = true) ∧ Below w.heap.size w wr) (fun _ i _ => len - (intOf i).toNat)
  case atStart => exact ⟨0, 0, by omega, rfl, rfl, by omega, (rfl : 0 = (Fr.all (fs.take 0)).length), (rfl : (fs.take 0).all Fr.may = true), Below.refl _ _⟩
  case round =>
    obtain ⟨k, n, hk, rfl, rfl, hnb, hn, hmay, hbel⟩ := hrel
    have hsz := hbel.size
    by_cases hlt : k < len
    · obtain ⟨b, off, rfl, hc⟩ := (hr.below hbel (Nat.le_refl _)).at (by omega)
      obtain ⟨A, L, C, p1, q1, r1, s1, t1, lo1, hi1⟩ := hc k hlt
      have hmt := pmay_take (fs := fs) (k := k) (by rw [hll.out]; exact hlt)
      rw [hmay.out, Bool.true_and] at hmt
      have hat := fall_take fs k (by rw [hll.out]; exact hlt)
      have hb2 := hb (k + 1)
      have hfl : (fs.getD k (0, [])).2.length ≤ 100000 := by
        have h1 : fs.getD k (0, []) = fs[k]'(by rw [hll.out]; exact hlt) := by simp [hll.out, hlt]
        have := plen_le_tot (List.getElem_mem (l := fs) (n := k) (by rw [hll.out]; exact hlt))
        rw [h1]; omega
      have hmem : Fr.may (fs.getD k (0, [])) = false → fs.all Fr.may = false := by
        intro h
        have h1 : fs.getD k (0, []) = fs[k]'(by rw [hll.out]; exact hlt) := by simp [hll.out, hlt]
        rw [List.all_eq_false]
        exact ⟨_, List.getElem_mem (by rw [hll.out]; exact hlt), by rw [← h1, h]; simp⟩
      have Hmem : Hid (_) := hmem
      rw [hat, List.length_append, ← hn.out, Fr.one_len] at hb2
      have Hat : Hid ((Fr.all (fs.take (k + 1))).length = n + Fr.size (fs.getD k (0, [])).2.length) := (by rw [hat, List.length_append, ← hn.out, Fr.one_len] : (Fr.all (fs.take (k + 1))).length = n + Fr.size (fs.getD k (0, [])).2.length)
      have Hmt : Hid (_ = _) := hmt
      clear hc hmem hat hmt hn hmay hb hr
      generalize fs.getD k (0, []) = f at *
      obtain ⟨x, y⟩ := f
      simp only at p1 r1 hfl hb2 lo1 hi1
      have hy : Hid (y.length = L) := r1.1
      rw [hy.out] at hfl hb2
      have Hat2 : Hid ((Fr.all (fs.take (k + 1))).length = n + Fr.size L) := (by rw [Hat.out]; simp only []; rw [hy.out] : (Fr.all (fs.take (k + 1))).length = n + Fr.size L)
      have hsize := fun W => size_in L W (by omega)
      have hmb := fun W => maybe_any x A L C W (by omega)
      have hmm : mayB x L = Fr.may (x, y) := by rw [← hy.out]; exact mayB_may x y
      rw [hmm] at hmb
      generalize Fr.size L = z at *
      clear Hat hmm r1
      by_cases hm : Fr.may (x, y) = true
      · rw [hm] at hmb
        have Hm : Hid ((fs.take (k + 1)).all Fr.may = true) := (by rw [Hmt.out, hm] : (fs.take (k + 1)).all Fr.may = true)
        clear Hmt Hmem
        have hcb : ∀ w1, Below (wr.alloc (.cells #[.int .i64 x, .slice A L C] 31)).heap.size (wr.alloc (.cells #[.int .i64 x, .slice A L C] 31)) w1 → w1.cell? ⟨wr.heap.size, 1, none⟩ = some (.slice A L C) ∧ Below w.heap.size w w1 := fun w1 h =>
          ⟨(h.cell (p := ⟨wr.heap.size, 1, none⟩) (by simp)).trans (cell_two wr _ _ 31 rfl).2, (hbel.alloc hsz _).trans (h.mono (by simp; omega))⟩
        go_wp2_with (first
          | (go_at_call 25; go_must (refine (hmb _).mono ?_; rintro e w1 ⟨rfl, hbel1⟩; obtain ⟨hf1, hB1⟩ := hcb w1 hbel1))
          | (go_at_call 9; refine (hsize _).mono ?_; rintro e w' ⟨rfl, rfl⟩))
        go_roundw
        case rel => exact ⟨k + 1, n + z, by omega, by go_num, val_int (by omega), by omega, (Hat2.out.symm : n + z = (Fr.all (fs.take (k + 1))).length), Hm, hB1⟩
        case measure => simp [intOf]; omega
      · have hm : Fr.may (x, y) = false := by simpa using hm
        rw [hm] at hmb
        have H : Hid (fs.all Fr.may = false) := Hmem.out hm
        clear Hmt Hmem hsize
        go_wp2_with (go_at_call 25; go_must (refine (hmb _).mono ?_; rintro e w1 ⟨rfl, hbel1⟩))
        go_ret2
        exact .inr ⟨H.out, none, 0, rfl, (hbel.alloc hsz _).trans (hbel1.mono (by simp; omega))⟩
    · have hkl : Hid (fs.take k = fs) := (List.take_of_length_le (by rw [hll.out]; omega) : fs.take k = fs)
      rw [hkl.out] at hmay hn
      clear hkl
      obtain ⟨i0, hi0, hz0, hz1, hz2⟩ := info_parts Try.info5
      clear hb
      go_wp2_with (at_make; go_must (refine wpList_make_own _ rfl _ _ 26 rfl w.heap.size 5 i0 (.int .u8 0) 1 Try.underlying26 hi0 hz0 hz1 .i64 .i64 _ n rfl rfl rfl (by rw [hz2]; omega) (by unfold maxLen; omega) hsz ?_; intro w2 hmade hg))
      have hbel0 : Below w.heap.size w w2 := hbel.grown hg hsz (fun k h => by cases h)
      clear hg hi0 hz0 hz1 hz2 hbel hsz hk hlt
      have hall := hmay.out
      rw [List.all_eq_true] at hall
      have Hall : Hid (∀ f ∈ fs, Fr.may f = true) := hall
      clear hall
      go_loopw [7, 30] (fun v i wr => ∃ (k : Nat) (a' : Option Addr) (n c : Nat), k ≤ len ∧ i = .int .i64 k ∧ v = .slice a' n c ∧ Hid (n = (Fr.all (fs.take k)).length) ∧ wr.ownsRow w.heap.size 5 1 (.slice a' n c) n (kcells .u8 (Fr.all (fs.take k))) ∧ (∀ x ∈ Fr.all (fs.take k), x < lim .u8) ∧ Below w.heap.size w wr)
        (fun _ i _ => len - (intOf i).toNat)
      case atStart => exact ⟨0, _, 0, n, by omega, rfl, rfl, (rfl : 0 = (Fr.all (fs.take 0)).length), hmade, (fun x hx => by simp [Fr.all] at hx), hbel0⟩
      case round =>
        obtain ⟨k, a', n', c, hk, rfl, rfl, hn', hown, hsm, hbel⟩ := hrel
        clear hmade hbel0
        have hsz := hbel.size
        by_cases hlt : k < len
        · obtain ⟨b, off, rfl, hc⟩ := hr.at (by omega)
          obtain ⟨A, L, C, p1, q1, r1, s1, t1, lo1, hi1⟩ := hc k hlt
          have p2 := (hbel.cell (p := ⟨b, off + k * 2, none⟩) (cell_lt p1)).trans p1
          have q2 := (hbel.cell (p := ⟨b, off + k * 2 + 1, none⟩) (cell_lt q1)).trans q1
          have hm : Fr.may (fs.getD k (0, [])) = true := by
            have h1 : fs.getD k (0, []) = fs[k]'(by rw [hll.out]; exact hlt) := by simp [hll.out, hlt]
            rw [h1]; exact Hall.out _ (List.getElem_mem _)
          have hm := (Fr.may_iff _).mp hm
          have H : Hid (Fr.all (fs.take (k + 1)) = Fr.all (fs.take k) ++ Fr.one (fs.getD k (0, []))) := fall_take fs k (by rw [hll.out]; exact hlt)
          have hb1 := pall_take_le (fs := fs) (by rw [hll.out]; exact hlen) htot k
          rw [← hn'.out] at hb1
          clear hc p1 q1
          generalize fs.getD k (0, []) = f at *
          obtain ⟨x, y⟩ := f
          simp only at p2 r1 hm
          obtain ⟨z, rfl⟩ : ∃ z : Nat, x = (z : Int) := ⟨x.toNat, by omega⟩
          have hy : Hid (y.length = L) := r1.1
          have hp := apf_any z A L C y a' n' c (Fr.all (fs.take k)) w (wr.alloc (.cells #[.int .i64 z, .slice A L C] 31)) (by omega) (by omega) (by have := hy.out; omega) (by omega) r1 t1 (hbel.alloc hsz _) (hown.alloc _) hsm
          have hsm2 : ∀ x ∈ Fr.put1 z y, x < lim .u8 := Fr.put1_small (by omega) r1.2.2.1
          have hone : Hid (Fr.one ((z : Int), y) = Fr.put1 z y) := (by unfold Fr.one; simp : Fr.one ((z : Int), y) = Fr.put1 z y)
          rw [hone.out] at H
          clear hone hm
          generalize Fr.put1 z y = r at *
          go_wp2_with (go_at_call 26; go_must (refine hp.mono ?_; rintro e w1 ⟨a1, c1, rfl, hown1, hbel1⟩))
          go_roundw
          case rel => exact ⟨k + 1, a1, n' + r.length, c1, by omega, by go_num, rfl, (by rw [H.out, List.length_append, ← hn'.out] : n' + r.length = (Fr.all (fs.take (k + 1))).length), by rw [H.out]; exact hown1, (by rw [H.out]; intro x hx; rcases List.mem_append.mp hx with h | h; exact hsm x h; exact hsm2 x h), hbel1⟩
          case measure => simp [intOf]; omega
        · have hkl : Hid (fs.take k = fs) := (List.take_of_length_le (by rw [hll.out]; omega) : fs.take k = fs)
          rw [hkl.out] at hown
          have hn2 : Hid (n' = (Fr.all fs).length) := (by rw [hn'.out, hkl.out] : n' = (Fr.all fs).length)
          clear hn'
          go_wp2
          go_ret2
          exact .inl ⟨hmay.out, a', c, by rw [← hn2.out]; rfl, by rw [← hn2.out]; exact hown, hbel⟩

theorem putC : PutC := fun a len cap fs w hr hl ht => put_prog a len cap fs w hr hl ht
theorem firstC : FirstC := fun a len cap bs w _ hc hb hr => first_any a len cap bs w hc hb hr
theorem scanC : ScanC := fun a len cap bs w hs _ hb hr => scan_any a len cap bs w hb hs hr
theorem sizeC : SizeC := by
  intro z w _ _
  by_cases hz : 0 ≤ z ∧ z ≤ 1048576
  · obtain ⟨n, rfl⟩ : ∃ n : Nat, z = (n : Int) := ⟨z.toNat, by omega⟩
    refine (size_in n w (by omega)).mono ?_
    rintro e w' ⟨rfl, rfl⟩
    refine ⟨ret_int ?_, Below.refl _ _⟩
    unfold sizeZ; rw [if_pos hz]; rfl
  · refine (size_out z w hz).mono ?_
    rintro e w' ⟨rfl, rfl⟩
    refine ⟨ret_int ?_, Below.refl _ _⟩
    unfold sizeZ; rw [if_neg hz]
theorem headC : HeadC := by
  intro z w _ _
  by_cases hz : 0 ≤ z ∧ z ≤ 1048576
  · obtain ⟨n, rfl⟩ : ∃ n : Nat, z = (n : Int) := ⟨z.toNat, by omega⟩
    refine (head_in n w (by omega)).mono ?_
    rintro e w' ⟨rfl, rfl⟩
    refine ⟨ret_int ?_, Below.refl _ _⟩
    unfold headZ; rw [if_pos hz]; rfl
  · refine (head_out z w hz).mono ?_
    rintro e w' ⟨rfl, rfl⟩
    refine ⟨ret_int ?_, Below.refl _ _⟩
    unfold headZ; rw [if_neg hz]
end Go.Proofs.Ytjioipkohnlipaa
