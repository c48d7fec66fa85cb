/- What the reference's Put of a table does. -/
import Derived.Test.YtikieblokfjphaaGreatTEa
import Derived.Test.YtikieblokfjphaaGreatBL2
import Derived.Test.YtikieblokfjphaaGreatBL3
import Derived.Test.YtikieblokfjphaaGreatFB
import Derived.Test.YtikieblokfjphaaGreatTR11
namespace Go.Proofs.YtikieblokfjphaaGreat
open Go.RowKit

theorem ItAll.append {w : World} {g g' : List IH} {x x' : List It.I} (h : ItAll w g x) (h' : ItAll w g' x') : ItAll w (g ++ g') (x ++ x') := by
  refine ⟨by rw [List.length_append, List.length_append, h.1, h'.1], fun i hi => ?_⟩
  rw [List.length_append] at hi
  have hl := h.1
  rcases Nat.lt_or_ge i x.length with h1 | h1
  · rw [List.getD_eq_getElem?_getD, List.getElem?_append_left (by omega), ← List.getD_eq_getElem?_getD, List.getD_eq_getElem?_getD (l := x ++ x'), List.getElem?_append_left h1, ← List.getD_eq_getElem?_getD]
    exact h.2 i h1
  · rw [List.getD_eq_getElem?_getD, List.getElem?_append_right (by omega), ← List.getD_eq_getElem?_getD, List.getD_eq_getElem?_getD (l := x ++ x'), List.getElem?_append_right h1, ← List.getD_eq_getElem?_getD, hl]
    exact h'.2 (i - x.length) (by omega)
theorem parts_all {w : World} : ∀ {gss : List (List IH)} {xss : List (List It.I)}, gss.length = xss.length → (∀ i, i < xss.length → ItAll w (gss.getD i []) (xss.getD i [])) → ItAll w gss.flatten xss.flatten
  | [], [], _, _ => ItAll.nil w
  | [], _ :: _, h, _ => by simp at h
  | _ :: _, [], h, _ => by simp at h
  | g :: gss, x :: xss, h, hi => by
    rw [List.flatten_cons, List.flatten_cons]
    refine ItAll.append (by simpa using hi 0 (by simp)) (parts_all (by simpa using h) fun i hi' => ?_)
    simpa using hi (i + 1) (by simpa using hi')
theorem keys_of {w : World} {g : List IH} {x : List It.I} (h : ItAll w g x) : (g.map (·.key)).map kb = x.map (·.1) := by
  refine List.ext_getElem (by simp [h.1]) fun i h1 h2 => ?_
  simp only [List.length_map] at h1 h2
  have := (h.2 i (by omega)).key
  rw [show g.getD i ihz = g[i] by simp [h1], show x.getD i It.zero = x[i]'h2 by simp [h2]] at this
  simpa using this
namespace Tb
def ixe (at' : Nat) (p : List It.I) : List Nat := Va.one (firstKey p).length ++ (firstKey p ++ Va.one (at' + (Fr.one (frame p)).length - 4 - (Bl.put p).length))
theorem ix_snoc : ∀ (ps : List (List It.I)) (at' : Nat) (p : List It.I), ix at' (ps ++ [p]) = ix at' ps ++ ixe (at' + (Fr.all (ps.map frame)).length) p
  | [], at', p => by simp [ix, ixe, Fr.all]
  | q :: ps, at', p => by
    have e : Fr.all ((q :: ps).map frame) = Fr.one (frame q) ++ Fr.all (ps.map frame) := rfl
    rw [List.cons_append, ix, ix_snoc ps _ p, ix, e, List.length_append, ← Nat.add_assoc]
    simp [List.append_assoc]
theorem parts_snoc (ps : List (List It.I)) (p : List It.I) : Fr.all ((ps ++ [p]).map frame) = Fr.all (ps.map frame) ++ Fr.one (frame p) := by
  rw [List.map_append, Fr.all_append]; simp [Fr.all]
end Tb
theorem apart_new {w1 w2 : World} {B1 e1 s1 n1 B2 e2 s2 n2 : Nat} {v1 v2 : Value} {xs1 xs2 : List Value} (h1 : w1.ownsRow B1 e1 s1 v1 n1 xs1) (h2 : w2.ownsRow B2 e2 s2 v2 n2 xs2) (hB : w1.heap.size ≤ B2) : v2.ownBlock = none ∨ v2.ownBlock ≠ v1.ownBlock := by
  cases h : v2.ownBlock with
  | none => exact .inl rfl
  | some k =>
    refine .inr fun e => ?_
    have g1 := (h2.lt k h).1
    have g2 := (h1.lt k e.symm).2
    omega
theorem apart_symm {u v : Value} (h : u.ownBlock = none ∨ u.ownBlock ≠ v.ownBlock) : v.ownBlock = none ∨ v.ownBlock ≠ u.ownBlock := by
  rcases h with h | h
  · cases hv : v.ownBlock with
    | none => exact .inl rfl
    | some k => exact .inr fun e => by rw [h] at e; cases e
  · exact .inr fun e => h e.symm
theorem own_shape2 {w : World} {B e n c : Nat} {a : Option Addr} {xs : List Value} (h : w.ownsRow B e 1 (.slice a n c) n xs) : Shape a n c ∧ (a = none → n = 0 ∧ c = 0) := by
  rcases h.2 with ⟨e, h0⟩ | ⟨g, cap, cur, e, _, _, hn, _⟩
  · simp only [Value.slice.injEq] at e
    obtain ⟨rfl, rfl, rfl⟩ := e
    exact ⟨.inl ⟨rfl, rfl⟩, fun _ => ⟨rfl, rfl⟩⟩
  · simp only [Value.slice.injEq] at e
    obtain ⟨rfl, _, rfl⟩ := e
    exact ⟨.inr ⟨g, 0, rfl, hn⟩, fun h => by cases h⟩
theorem getD_get {α : Type} {l : List α} {i : Nat} (h : i < l.length) (d : α) : l.getD i d = l[i] := by simp [h]
theorem take_part {α : Type} {l : List (List α)} {k : Nat} (h : k < l.length) : l.take (k + 1) = l.take k ++ [l.getD k []] := by
  rw [List.take_succ_eq_append_getElem h]; simp [h]
theorem frow_three (w : World) {g : Nat} (hg : w.heap.size = g) {a1 a2 a3 : Option Addr} {n1 n2 n3 c1 c2 c3 : Nat} {b1 b2 b3 : List Nat} (r1 : Row .u8 w a1 n1 b1) (r2 : Row .u8 w a2 n2 b2) (r3 : Row .u8 w a3 n3 b3) (s1 : Shape a1 n1 c1) (s2 : Shape a2 n2 c2) (s3 : Shape a3 n3 c3) (z1 : a1 = none → n1 = 0 ∧ c1 = 0) (z2 : a2 = none → n2 = 0 ∧ c2 = 0) (z3 : a3 = none → n3 = 0 ∧ c3 = 0) :
    FRow (w.alloc (.cells #[.int .i64 2, .slice a1 n1 c1, .int .i64 3, .slice a2 n2 c2, .int .i64 4, .slice a3 n3 c3] 54)) (some ⟨g, 0, none⟩) 3 [(2, b1), (3, b2), (4, b3)] := by
  subst hg
  have hb := below_alloc w (.cells #[.int .i64 2, .slice a1 n1 c1, .int .i64 3, .slice a2 n2 c2, .int .i64 4, .slice a3 n3 c3] 54)
  refine ⟨rfl, by omega, .inr ⟨_, 0, rfl, fun i hi => ?_⟩⟩
  match i, hi with
  | 0, _ => exact ⟨a1, n1, c1, cell_new w _ _ 0, cell_new w _ _ 1, r1.below hb (Nat.le_refl _), s1, z1, (show (-9223372036854775808 : Int) ≤ 2 by decide), (show (2 : Int) ≤ 9223372036854775807 by decide)⟩
  | 1, _ => exact ⟨a2, n2, c2, cell_new w _ _ 2, cell_new w _ _ 3, r2.below hb (Nat.le_refl _), s2, z2, (show (-9223372036854775808 : Int) ≤ 3 by decide), (show (3 : Int) ≤ 9223372036854775807 by decide)⟩
  | 2, _ => exact ⟨a3, n3, c3, cell_new w _ _ 4, cell_new w _ _ 5, r3.below hb (Nat.le_refl _), s3, z3, (show (-9223372036854775808 : Int) ≤ 4 by decide), (show (4 : Int) ≤ 9223372036854775807 by decide)⟩

set_option maxRecDepth 100000 in
set_option maxHeartbeats 8000000 in
theorem tput_any (a : Option Addr) (n c : Nat) (ps : List PH) (gss : List (List IH)) (xss : List (List It.I)) (w : World) (hn : n ≤ 1000) (hi : InP w a n ps gss xss) (hmay : ∀ x ∈ xss, Bl.may x = true) (hso : It.sorted (Tb.joined xss) = true) (hN : (Tb.joined xss).length ≤ 1000) :
    Calls Tryz.prog 20 #[.slice a n c] w (Made .u8 5 w (Tb.put xss)) := by
  have hln : xss.length = n := hi.len
  have hlg : gss.length = n := hi.2.2.1.trans hln
  have hparts : ∀ i, i < n → Bl.may (xss.getD i []) = true := fun i hin => by
    have h' : i < xss.length := by rw [hln]; exact hin
    rw [show xss.getD i [] = xss[i] by simp [h']]; exact hmay _ (List.getElem_mem h')
  have hpl : ∀ i, i < n → 1 ≤ (xss.getD i []).length ∧ (xss.getD i []).length ≤ 256 := fun i hin => by
    have := hparts i hin
    simp only [Bl.may, Bool.and_eq_true, decide_eq_true_eq] at this
    exact this.1
  have hall : ItAll w gss.flatten (Tb.joined xss) := parts_all hi.2.2.1 fun i hi' => (hi.2.2.2 i hi').1.2
  have hkeys := keys_of hall
  have hmayx := ((It.sorted_iff _).mp hso).1
  have hsm : ∀ x ∈ Tb.joined xss, Bl.Small x := fun x hx => by
    obtain ⟨t, ht, rfl⟩ := List.getElem_of_mem hx
    have hI := hall.2 t ht
    rw [getD_get ht] at hI
    refine ⟨fun z hz => ?_, fun z hz => hI.row.2.2.1 z hz, ?_⟩
    · rw [← hI.key] at hz
      exact kb_small _ z hz
    · have := hI.fits
      rw [hI.pt] at this
      exact this.2.2.2
  have hpp : ∀ p ∈ xss, p ≠ [] ∧ p.length ≤ 256 := fun p hp => by
    have := hmay p hp
    simp only [Bl.may, Bool.and_eq_true, decide_eq_true_eq] at this
    exact ⟨fun e => by rw [e] at this; simp at this, this.1.2⟩
  have hgood := Tb.good_few hso hsm hpp (by omega) (by omega)
  have hgt : Fr.Good (Tb.tail xss) := fun f hf => hgood f (List.mem_append_right _ hf)
  have hks : ∀ s ∈ gss.flatten.map (·.key), s.size ≤ 64 := fun s hs => by
    obtain ⟨g, hg, rfl⟩ := List.mem_map.mp hs
    obtain ⟨t, ht, rfl⟩ := List.getElem_of_mem hg
    have ht' : t < (Tb.joined xss).length := by rw [← hall.1]; exact ht
    have hI := hall.2 t ht'
    rw [getD_get ht] at hI
    rw [← kb_len, hI.key]
    refine (Bl.it_parts (hmayx _ ?_)).2.1
    rw [getD_get ht']
    exact List.getElem_mem ht'
  have hgl : ∀ i, i < n → (gss.getD i []).length = (xss.getD i []).length := fun i hin => (hi.2.2.2 i (by rw [hln]; exact hin)).1.2.1
  have hJN : gss.flatten.length = (Tb.joined xss).length := hall.1
  -- what is known of the parts, and of their bytes
  have HPt : Hid (∀ k, k < n → Bl.may (xss.getD k []) = true ∧ xss.take (k + 1) = xss.take k ++ [xss.getD k []] ∧ (Bl.put (xss.getD k [])).length ≤ 1000000 ∧ (∀ y ∈ Bl.put (xss.getD k []), y < lim .u8)) := (fun k hk => ⟨hparts k hk, take_part (by rw [hln]; exact hk), Bl.put_len (hpl k hk).2 (hparts k hk), by
    have h' : k < xss.length := by rw [hln]; exact hk
    refine Bl.put_small fun x hx => hsm x ?_
    rw [getD_get h'] at hx
    exact (Tb.part_sub (List.getElem_mem h')).mem hx⟩ : ∀ k, k < n → Bl.may (xss.getD k []) = true ∧ xss.take (k + 1) = xss.take k ++ [xss.getD k []] ∧ (Bl.put (xss.getD k [])).length ≤ 1000000 ∧ (∀ y ∈ Bl.put (xss.getD k []), y < lim .u8))
  have HFk : Hid (∀ k, k < n → ∃ (bq oq : Nat) (K : ByteArray), (ps.getD k phz).a = some ⟨bq, oq, none⟩ ∧ 0 < (ps.getD k phz).n ∧ K.size ≤ 64 ∧ kb K = Tb.firstKey (xss.getD k []) ∧ ∀ W, Below w.heap.size w W → W.cell? ⟨bq, oq, none⟩ = some (.string K)) := (fun k hk => by
    have hin := hi.2.2.2 k (by rw [hln]; exact hk)
    have hpos : 0 < (ps.getD k phz).n := by rw [← hin.1.len]; exact (hpl k hk).1
    obtain ⟨bq, oq, e, hc⟩ := hin.1.at hpos
    have hI := hin.1.item hpos
    have hM : It.may ((xss.getD k []).getD 0 It.zero) = true := by
      have := hparts k hk
      simp only [Bl.may, Bool.and_eq_true] at this
      refine Bl.sorted_may this.2 _ ?_
      have h0 : 0 < (xss.getD k []).length := (hpl k hk).1
      rw [getD_get h0]; exact List.getElem_mem h0
    refine ⟨bq, oq, ((gss.getD k []).getD 0 ihz).key, e, hpos, by rw [← kb_len, hI.key]; exact (Bl.it_parts hM).2.1, hI.key, fun W hW => ?_⟩
    have := ((hc 0 hpos).below hW (Nat.le_refl _)).1
    simpa using this : ∀ k, k < n → ∃ (bq oq : Nat) (K : ByteArray), (ps.getD k phz).a = some ⟨bq, oq, none⟩ ∧ 0 < (ps.getD k phz).n ∧ K.size ≤ 64 ∧ kb K = Tb.firstKey (xss.getD k []) ∧ ∀ W, Below w.heap.size w W → W.cell? ⟨bq, oq, none⟩ = some (.string K))
  have Hpu : Hid (∀ k, k < n → ∀ W, Below w.heap.size w W → Calls Tryz.prog 44 #[.slice (ps.getD k phz).a (ps.getD k phz).n (ps.getD k phz).c] W (Made .u8 5 W (Bl.put (xss.getD k [])))) := (fun k hk W hW => brefput_any _ _ _ _ _ W ((hi.2.2.2 k (by rw [hln]; exact hk)).1.below hW (Nat.le_refl _)) (hparts k hk) : ∀ k, k < n → ∀ W, Below w.heap.size w W → Calls Tryz.prog 44 #[.slice (ps.getD k phz).a (ps.getD k phz).n (ps.getD k phz).c] W (Made .u8 5 W (Bl.put (xss.getD k []))))
  have Hi : Hid (InP w a n ps gss xss) := hi
  have hb3 : Below w.heap.size w (((w.alloc (.cells #[] 5)).alloc (.cells #[] 5)).alloc (.cells #[] 9)) := ((below_alloc _ _).alloc (by simp) _).alloc (by simp; omega) _
  have hjn := tjoined_any a n c ps gss xss _ (by omega) (hi.below hb3 (Nat.le_refl _)) (fun i hin => by rw [hgl i hin]; have := (hpl i hin).2; omega)
  obtain ⟨J, hJ⟩ : ∃ J, J = gss.flatten := ⟨_, rfl⟩
  rw [← hJ] at hjn hJN hks hkeys hall
  obtain ⟨N, hNe⟩ : ∃ N, N = J.length := ⟨_, rfl⟩
  have hN1 : N ≤ 1000 := by omega
  have HJ : Hid (J.length = N) := hNe.symm
  have HJk : Hid (∀ k, k < N → (J.map (·.key)).take (k + 1) = (J.map (·.key)).take k ++ [(J.getD k ihz).key]) := (fun k hk => by
    have h' : k < J.length := by omega
    rw [List.take_succ_eq_append_getElem (by simpa using h'), getD_get h']; simp : ∀ k, k < N → (J.map (·.key)).take (k + 1) = (J.map (·.key)).take k ++ [(J.getD k ihz).key])
  have HJe : Hid ((J.map (·.key)).take N = J.map (·.key)) := (List.take_of_length_le (by simp; omega) : (J.map (·.key)).take N = J.map (·.key))
  have HO : Hid (Tb.put xss = Fr.all ((xss.take n).map Tb.frame) ++ Fr.all (Tb.tail xss)) := (by unfold Tb.put Tb.frames; rw [Fr.all_append, List.take_of_length_le (by omega)] : Tb.put xss = Fr.all ((xss.take n).map Tb.frame) ++ Fr.all (Tb.tail xss))
  have HTl : Hid (Tb.tail xss = [(2, Tb.ix 0 (xss.take n)), (3, Sv.of ((J.map (·.key)).map kb)), (4, Va.one N)]) := (by unfold Tb.tail; rw [List.take_of_length_le (by omega), hkeys, hNe, hJN]; first | done | rfl : Tb.tail xss = [(2, Tb.ix 0 (xss.take n)), (3, Sv.of ((J.map (·.key)).map kb)), (4, Va.one N)])
  have HGt : Hid (Fr.Good (Tb.tail xss)) := hgt
  have HT3 : Hid ((Fr.all (Tb.tail xss)).length ≤ 4000000 ∧ (∀ y ∈ Tb.ix 0 (xss.take n), y < lim .u8) ∧ (∀ y ∈ Fr.all (Tb.tail xss), y < lim .u8) ∧ 0 < (Sv.of ((J.map (·.key)).map kb)).length) := (by
    have htl := HTl.out
    have m1 := hgt (2, Tb.ix 0 (xss.take n)) (by rw [htl]; exact List.mem_cons_self)
    have m2 := hgt (3, Sv.of ((J.map (·.key)).map kb)) (by rw [htl]; exact List.mem_cons_of_mem _ List.mem_cons_self)
    have m3 := hgt (4, Va.one N) (by rw [htl]; exact List.mem_cons_of_mem _ (List.mem_cons_of_mem _ List.mem_cons_self))
    have g1 := Fr.size_le ((Fr.may_iff _).mp m1.1).2.2
    have g2 := Fr.size_le ((Fr.may_iff _).mp m2.1).2.2
    have g3 := Fr.size_le ((Fr.may_iff _).mp m3.1).2.2
    have e1 := ((Fr.may_iff _).mp m1.1).2.2
    have e2 := ((Fr.may_iff _).mp m2.1).2.2
    have e3 := ((Fr.may_iff _).mp m3.1).2.2
    refine ⟨?_, m1.2, Fr.all_small hgt, by rw [Sv.of_length]; unfold Sv.size; omega⟩
    rw [htl, Fr.all_len_cons, Fr.all_len_cons, Fr.all_len_cons, show (Fr.all []).length = 0 from rfl]
    omega : (Fr.all (Tb.tail xss)).length ≤ 4000000 ∧ (∀ y ∈ Tb.ix 0 (xss.take n), y < lim .u8) ∧ (∀ y ∈ Fr.all (Tb.tail xss), y < lim .u8) ∧ 0 < (Sv.of ((J.map (·.key)).map kb)).length)
  have HKs : Hid (∀ s ∈ J.map (·.key), s.size ≤ 64) := hks
  unfold JoinRes at hjn
  rw [← hNe] at hjn
  generalize Tb.put xss = OUT at *
  clear hi hmay hso hN hln hlg hparts hpl hall hkeys hmayx hsm hpp hgood hgt hks hgl hJN hJ hNe
  go_enter Tryz.func20, Tryz.ntmps20
  go_wp2_with (go_at_call 17; go_must (refine hjn.mono ?_; rintro e w1 ⟨al, cl, rfl, hnl, hlcl, hownl, hbel1⟩))
  have hbw1 := hb3.trans (hbel1.mono hb3.size)
  have qb : w1.ownsRow w.heap.size 5 1 (.slice (some ⟨w.heap.size, 0, none⟩) 0 0) 0 (kcells .u8 []) := owns_below (((made_at w 5 w.heap.size rfl (Nat.le_refl _)).alloc _).alloc _) hbel1
  have qi : w1.ownsRow w.heap.size 5 1 (.slice (some ⟨w.heap.size + 1, 0, none⟩) 0 0) 0 (kcells .u8 []) := owns_below ((made_at (w.alloc (.cells #[] 5)) 5 w.heap.size (by simp) (by omega)).alloc _) hbel1
  have qk : w1.ownsRow w.heap.size 9 1 (.slice (some ⟨w.heap.size + 1 + 1, 0, none⟩) 0 0) 0 (tcells ste ((J.map (·.key)).take 0)) := owns_below (made_t ((w.alloc (.cells #[] 5)).alloc (.cells #[] 5)) (by simp; omega) (by simp)) hbel1
  have ql : w1.ownsRow w.heap.size 40 8 (.slice al N cl) N (tcells ih J) := hownl.mono (base' := w.heap.size) hb3.size
  clear hownl hbel1 hb3 hjn
  go_loopw [5, 7] (fun v i wr => ∃ (k : Nat) (ak : Option Addr) (ck : Nat), k ≤ N ∧ i = .int .i64 k ∧ v = .slice ak k ck ∧ wr.ownsRow w.heap.size 9 1 (.slice ak k ck) k (tcells ste ((J.map (·.key)).take k)) ∧ wr.ownsRow w.heap.size 5 1 (.slice (some ⟨w.heap.size, 0, none⟩) 0 0) 0 (kcells .u8 []) ∧ wr.ownsRow w.heap.size 5 1 (.slice (some ⟨w.heap.size + 1, 0, none⟩) 0 0) 0 (kcells .u8 []) ∧ wr.ownsRow w.heap.size 40 8 (.slice al N cl) N (tcells ih J) ∧ Below w.heap.size w wr) (fun _ i _ => N - (intOf i).toNat)
  case atStart => exact ⟨0, _, 0, Nat.zero_le _, rfl, rfl, qk, qb, qi, ql, hbw1⟩
  case round =>
    obtain ⟨k, ak, ck, hk, rfl, rfl, ok, ob, oi, ol, hbel⟩ := hrel
    clear qk qb qi ql hbw1
    by_cases hlt : k < N
    · obtain ⟨bl, ofl, rfl, hc⟩ := (trow_of_owns (d := ihz) ihE ol (by omega) (by omega)).items (by omega)
      have y0 := (hc k hlt).1
      have hkk := HJk.out k hlt
      generalize (J.getD k ihz).key = K at *
      have HK : Hid ((J.map (·.key)).take (k + 1) = (J.map (·.key)).take k ++ [K]) := hkk
      have i0 : (0 : Int) ≤ (k : Int) := by omega
      have i1 : (k : Int) < (N : Int) := by omega
      have i2 : IntKind.i64.wrap ((k : Int) + 1) = (k : Int) + 1 := by rw [IntKind.wrap_i64]; omega
      clear hc hkk
      have okA := ok.alloc (.cells #[.string K] 9)
      have obA := ob.alloc (.cells #[.string K] 9)
      have oiA := oi.alloc (.cells #[.string K] 9)
      have olA := ol.alloc (.cells #[.string K] 9)
      have nb := own_apart obA okA (by decide)
      have ni := own_apart oiA okA (by decide)
      have nl := own_apart olA okA (by decide)
      go_wp2_with (at_builtin; go_must (refine append_tg textE steE (w0 := w) (B := w.heap.size) rfl (.tmp 24) (.tmp 30) rfl _ k _ rfl okA _ 1 1 [K] rfl (lit_text wr K rfl) (fun h => by cases h) (by omega) (hbel.alloc hbel.size _) (hbel.alloc hbel.size _).size ?_; intro a9 c9 w9 hg9 hc9 hn9 _ ok9 hb9 _; have ob9 := obA.kept hg9 nb; have oi9 := oiA.kept hg9 ni; have ol9 := olA.kept hg9 nl))
      rw [← HK.out] at ok9
      go_roundw
      case rel => exact ⟨k + 1, a9, c9, hlt, by go_num, rfl, ok9, ob9, oi9, ol9, hb9⟩
      case measure => simp [intOf]; omega
    · obtain rfl : k = N := by omega
      rw [HJe.out] at ok
      go_wp2_with fail
      have hneA : (Value.slice (some ⟨w.heap.size, 0, none⟩) 0 0).ownBlock = none ∨ (Value.slice (some ⟨w.heap.size, 0, none⟩) 0 0).ownBlock ≠ (Value.slice (some ⟨w.heap.size + 1, 0, none⟩) 0 0).ownBlock := .inr (by simp [Value.ownBlock])
      go_loopw [3, 4, 8] (fun vb vi i ws => ∃ (t mb cb mi ci : Nat) (ab ai : Option Addr), t ≤ n ∧ mb ≤ t * 1000010 ∧ mi ≤ t * 100 ∧ i = .int .i64 t ∧ vb = .slice ab mb cb ∧ vi = .slice ai mi ci ∧ Hid ((Fr.all ((xss.take t).map Tb.frame)).length = mb) ∧ ws.ownsRow w.heap.size 5 1 (.slice ab mb cb) mb (kcells .u8 (Fr.all ((xss.take t).map Tb.frame))) ∧ ws.ownsRow w.heap.size 5 1 (.slice ai mi ci) mi (kcells .u8 (Tb.ix 0 (xss.take t))) ∧ Hid ((Value.slice ab mb cb).ownBlock = none ∨ (Value.slice ab mb cb).ownBlock ≠ (Value.slice ai mi ci).ownBlock) ∧ ws.ownsRow w.heap.size 9 1 (.slice ak k ck) k (tcells ste (J.map (·.key))) ∧ ws.ownsRow w.heap.size 40 8 (.slice al k cl) k (tcells ih J) ∧ Below w.heap.size w ws) (fun _ _ i _ => n - (intOf i).toNat)
      case atStart => exact ⟨0, 0, 0, 0, 0, _, _, Nat.zero_le _, Nat.zero_le _, Nat.zero_le _, rfl, rfl, rfl, (rfl : ([] : List Nat).length = 0), ob, oi, hneA, ok, ol, hbel⟩
      case round =>
        obtain ⟨t, mb, cb, mi, ci, ab, ai, ht, hmb, hmi, rfl, rfl, rfl, hlb, qb, qi, na, qk, ql, hbs⟩ := hrel
        clear hneA ob oi ok ol hbel
        by_cases htn : t < n
        · obtain ⟨bq, oq, K, eqa, hqn, hK64, hkK, hk0⟩ := HFk.out t htn
          obtain ⟨hpm, htk, hpl, hps⟩ := HPt.out t htn
          have hpu := Hpu.out t htn
          obtain ⟨bp, op, rfl, hcp⟩ := Hi.out.1.part (by omega)
          have hcell := hcp t htn
          generalize ps.getD t phz = q at *
          obtain ⟨qa, qn, qc⟩ := q
          simp only at eqa hqn hpu hcell
          subst eqa
          have hix : Hid (Tb.ix 0 (xss.take (t + 1)) = Tb.ix 0 (xss.take t) ++ Va.one K.size ++ kb K ++ Va.one (mb + (Fr.put1 1 (Bl.put (xss.getD t []))).length - 4 - (Bl.put (xss.getD t [])).length)) := (by
            rw [htk, Tb.ix_snoc, hlb.out, Tb.ixe, ← hkK, kb_len, Nat.zero_add, List.append_assoc, List.append_assoc]; rfl : Tb.ix 0 (xss.take (t + 1)) = Tb.ix 0 (xss.take t) ++ Va.one K.size ++ kb K ++ Va.one (mb + (Fr.put1 1 (Bl.put (xss.getD t []))).length - 4 - (Bl.put (xss.getD t [])).length))
          have hfb : Hid (Fr.all ((xss.take (t + 1)).map Tb.frame) = Fr.all ((xss.take t).map Tb.frame) ++ Fr.put1 1 (Bl.put (xss.getD t []))) := (by rw [htk, Tb.parts_snoc]; rfl : Fr.all ((xss.take (t + 1)).map Tb.frame) = Fr.all ((xss.take t).map Tb.frame) ++ Fr.put1 1 (Bl.put (xss.getD t [])))
          have hfl := Fr.put1_len 1 (Bl.put (xss.getD t []))
          have hfz := Fr.size_le (n := (Bl.put (xss.getD t [])).length) (by omega)
          have hfg : (Bl.put (xss.getD t [])).length + 6 ≤ Fr.size (Bl.put (xss.getD t [])).length := by have := Va.one_pos (Bl.put (xss.getD t [])).length; unfold Fr.size; omega
          have hrp1 := fun (W : World) A C (hr : Row .u8 W A (Bl.put (xss.getD t [])).length (Bl.put (xss.getD t []))) hz => refput1_any 1 A _ C _ W (by omega) (by omega) (by omega) hr hz
          have hfs : ∀ y ∈ Fr.put1 1 (Bl.put (xss.getD t [])), y < lim .u8 := Fr.put1_small (by omega) hps
          unfold Made at hpu hrp1
          generalize Bl.put (xss.getD t []) = BD at *
          generalize Fr.put1 1 BD = FB at *
          obtain ⟨lf, hlf⟩ : ∃ lf, lf = FB.length := ⟨_, rfl⟩
          obtain ⟨ld, hld⟩ : ∃ ld, ld = BD.length := ⟨_, rfl⟩
          rw [← hlf] at hfl hix hrp1
          rw [← hld] at hpl hfl hfz hfg hix hrp1 hpu
          obtain ⟨S1, hS1⟩ : ∃ S1 : Nat, S1 = mb + lf := ⟨_, rfl⟩
          obtain ⟨S2, hS2⟩ : ∃ S2 : Nat, S2 = S1 - 4 := ⟨_, rfl⟩
          obtain ⟨S3, hS3⟩ : ∃ S3 : Nat, S3 = S2 - ld := ⟨_, rfl⟩
          have j1 : IntKind.i64.wrap ((mb : Int) + (lf : Int)) = (S1 : Int) := by rw [IntKind.wrap_i64]; omega
          have j2 : IntKind.i64.wrap ((S1 : Int) - 4) = (S2 : Int) := by rw [IntKind.wrap_i64]; omega
          have j3 : IntKind.i64.wrap ((S2 : Int) - (ld : Int)) = (S3 : Int) := by rw [IntKind.wrap_i64]; omega
          have j4 : IntKind.u64.wrap (S3 : Int) = (S3 : Int) := by simp only [IntKind.wrap_u64]; omega
          have j5 : IntKind.u64.wrap (K.size : Int) = (K.size : Int) := by simp only [IntKind.wrap_u64]; omega
          rw [show mb + lf - 4 - ld = S3 by omega] at hix
          have hoK := fun W => one_any K.size K.size W (Nat.le_refl _) (by omega)
          have hoS := fun W => one_any S3 S3 W (Nat.le_refl _) (by omega)
          have hlK := Va.one_len10 (u := K.size) (by omega)
          have hlS := Va.one_len10 (u := S3) (by omega)
          have hsK := Va.one_small K.size
          have hsS := Va.one_small S3
          unfold Made at hoK hoS
          generalize Va.one K.size = OK at *
          generalize Va.one S3 = OS at *
          have i0 : (0 : Int) ≤ (t : Int) := by omega
          have i1 : (t : Int) < (n : Int) := by omega
          have i2 : IntKind.i64.wrap ((t : Int) + 1) = (t : Int) + 1 := by rw [IntKind.wrap_i64]; omega
          have i3 : (0 : Int) < (qn : Int) := by omega
          have hF : lf ≤ 1000010 ∧ ld ≤ 1000000 ∧ mb + lf ≤ (t + 1) * 1000010 := ⟨by omega, hpl, by omega⟩
          obtain ⟨f1, f2, f3⟩ := hF
          have HLF : Hid (FB.length = lf) := hlf.symm
          have HLD : Hid (BD.length = ld) := hld.symm
          have hcW := (hbs.cell (p := ⟨bp, op + t, none⟩) (cell_lt hcell)).trans hcell
          have hkW := hk0 _ hbs
          clear hlf hld hS1 hS2 hS3 hfl hfz hfg hpm htk hkK hcp HFk HPt Hpu
          go_wp2_with (first
            | (go_at_call 44; go_must (refine (hpu _ hbs).mono ?_; rintro e w2 ⟨a2, c2, rfl, o2, b2⟩; have hb2 := hbs.trans (b2.mono hbs.size); have qb2 := owns_below qb b2; have qi2 := owns_below qi b2; have qk2 := owns_below qk b2; have ql2 := owns_below ql b2; have r2 := row_of_owns o2 hps (by omega)))
            | (go_at_call 47; go_must (refine (hrp1 _ _ _ r2.1 r2.2.1).mono ?_; rintro e w3 ⟨a3, c3, rfl, o3, b3⟩; have hb3 := hb2.trans (b3.mono hb2.size); have qb3 := owns_below qb2 b3; have qi3 := owns_below qi2 b3; have qk3 := owns_below qk2 b3; have ql3 := owns_below ql2 b3; have nf3 := apart_new qi2 o3 (Nat.le_refl _)))
            | (go_at_call 48; have := hat6; go_must (refine (hoS _).mono ?_; rintro e w7 ⟨a7, c7, rfl, o7, b7⟩; have hb7 := hb6.trans (b7.mono hb6.size); have qb7 := owns_below qb6 b7; have qi7 := owns_below qi6 b7; have qk7 := owns_below qk6 b7; have ql7 := owns_below ql6 b7; have o37 := owns_below o36 b7; have r7 := row_of_owns o7 hsS (by omega)))
            | (go_at_call 48; go_must (refine (hoK _).mono ?_; rintro e w4 ⟨a4, c4, rfl, o4, b4⟩; have hb4 := hb3.trans (b4.mono hb3.size); have qb4 := owns_below qb3 b4; have qi4 := owns_below qi3 b4; have qk4 := owns_below qk3 b4; have ql4 := owns_below ql3 b4; have o34 := owns_below o3 b4; have r4 := row_of_owns o4 hsK (by omega)))
            | (at_builtin; have := hat8; go_must (refine append_u8at (w0 := w) (B := w.heap.size) rfl (.tmp 74) (.tmp 75) rfl _ mb _ rfl qb8 a3 lf c3 FB rfl r8.1 r8.2.1 (by omega) hb8 hb8.size ?_; intro a9 c9 w9 qb9 hb9 _ hg9 hat9; have qi9 := qi8.kept hg9 (apart_symm na8); have qk9 := qk8.kept hg9 (own_apart qk8 qb8 (by decide)); have ql9 := ql8.kept hg9 (own_apart ql8 qb8 (by decide)); have na9 := apart_symm (AtOr.apart hat9 qi8 (apart_symm na8))))
            | (at_builtin; have := r7; go_must (refine append_u8at (w0 := w) (B := w.heap.size) rfl (.tmp 61) (.tmp 72) rfl _ (mi + OK.length + K.size) _ rfl qi7 a7 OS.length c7 OS rfl r7.1 r7.2.1 (by omega) hb7 hb7.size ?_; intro a8 c8 w8 qi8 hb8 _ hg8 hat8; have qb8 := qb7.kept hg8 na6; have qk8 := qk7.kept hg8 (own_apart qk7 qi7 (by decide)); have ql8 := ql7.kept hg8 (own_apart ql7 qi7 (by decide)); have na8 := AtOr.apart hat8 qb7 na6; have o38 := o37.kept hg8 nf6; have r8 := row_of_owns o38 hfs (by omega)))
            | (at_builtin; have := hat5; go_must (refine append_strat (w0 := w) (B := w.heap.size) rfl (.tmp 58) (.tmp 59) rfl _ (mi + OK.length) _ rfl qi5 K rfl (by omega) hb5 hb5.size ?_; intro a6 c6 w6 qi6 hb6 _ hg6 hat6; have qb6 := qb5.kept hg6 na5; have qk6 := qk5.kept hg6 (own_apart qk5 qi5 (by decide)); have ql6 := ql5.kept hg6 (own_apart ql5 qi5 (by decide)); have na6 := AtOr.apart hat6 qb5 na5; have o36 := o35.kept hg6 nf5; have nf6 := AtOr.apart hat6 o35 nf5))
            | (at_builtin; go_must (refine append_u8at (w0 := w) (B := w.heap.size) rfl (.tmp 53) (.tmp 57) rfl _ mi _ rfl qi4 a4 OK.length c4 OK rfl r4.1 r4.2.1 (by omega) hb4 hb4.size ?_; intro a5 c5 w5 qi5 hb5 _ hg5 hat5; have qb5 := qb4.kept hg5 na.out; have qk5 := qk4.kept hg5 (own_apart qk4 qi4 (by decide)); have ql5 := ql4.kept hg5 (own_apart ql4 qi4 (by decide)); have na5 := AtOr.apart hat5 qb4 na.out; have o35 := o34.kept hg5 nf3; have nf5 := AtOr.apart hat5 o34 nf3)))
          rw [← hix.out] at qi9
          rw [← hfb.out] at qb9
          have hl9 : Hid ((Fr.all ((xss.take (t + 1)).map Tb.frame)).length = mb + lf) := (by rw [hfb.out, List.length_append, hlb.out, HLF.out] : (Fr.all ((xss.take (t + 1)).map Tb.frame)).length = mb + lf)
          go_roundw
          case rel => exact ⟨t + 1, mb + lf, c9, mi + OK.length + K.size + OS.length, c8, a9, a8, htn, f3, by omega, by go_num, rfl, rfl, hl9, qb9, qi9, na9, qk9, ql9, hb9⟩
          case measure => simp [intOf]; omega
        · obtain rfl : t = n := by omega
          have jk : IntKind.u64.wrap (k : Int) = (k : Int) := by simp only [IntKind.wrap_u64]; omega
          have hoN := fun W => one_any k k W (Nat.le_refl _) (by omega)
          have hlN := Va.one_len10 (u := k) (by omega)
          have hvo := fun W (hr : StRow W ak k (J.map (·.key))) => vof_any ak k ck (J.map (·.key)) W hr hN1 (fun s hs => Nat.le_trans (HKs.out s hs) (by omega))
          obtain ⟨hbig, hixs, hals, hsl⟩ := HT3.out
          have hfa := fun (W : World) A C (hr : FRow W A 3 (Tb.tail xss)) => frefall_any A 3 C (Tb.tail xss) W HGt.out (Nat.le_trans hbig (by decide)) hr
          have HOt : Hid (OUT = Fr.all ((xss.take t).map Tb.frame) ++ Fr.all (Tb.tail xss)) := HO.out
          have HFA : Hid (Tb.tail xss = [(2, Tb.ix 0 (xss.take t)), (3, Sv.of ((J.map (·.key)).map kb)), (4, Va.one k)]) := HTl.out
          have hsN := Va.one_small k
          unfold Made at hoN hfa
          unfold SieveRes at hvo
          generalize Fr.all (Tb.tail xss) = AT at *
          generalize Tb.tail xss = TL at *
          generalize Sv.of ((J.map (·.key)).map kb) = SV at *
          generalize Va.one k = ON at *
          clear HO HTl HGt HKs HPt HFk Hpu Hi HJ HJk HJe
          go_wp2_with (first
            | (go_at_call 48; go_must (refine (hoN _).mono ?_; rintro e w2 ⟨a2, c2, rfl, o2, b2⟩; have hb2 := hbs.trans (b2.mono hbs.size); have qb2 := owns_below qb b2; have qi2 := owns_below qi b2; have qk2 := owns_below qk b2; have st2 : StRow w2 ak k (J.map (·.key)) := trow_of_owns steE qk2 (by omega) (by omega)))
            | (go_at_call 50; go_must (refine (hvo _ st2).mono ?_; rintro e w3 ⟨a3, c3, rfl, hc3, hz3, r3, b3⟩; have hb3 := hb2.trans (b3.mono hb2.size); have qb3 := owns_below qb2 b3; have qi3 := owns_below qi2 b3; have o23 := owns_below o2 b3; have ri3 := row_of_owns qi3 hixs (by omega); have rn3 := row_of_owns o23 hsN (by omega); have si3 := own_shape2 qi3; have sn3 := own_shape2 o23; have sv3 : Shape a3 SV.length c3 := (by obtain ⟨bb, oo, e, _⟩ := r3.at hsl; exact .inr ⟨bb, oo, e, hc3⟩); have fr3 := frow_three w3 rfl ri3.1 r3 rn3.1 si3.1 sv3 sn3.1 si3.2 hz3 sn3.2; have qbA := qb3.alloc (.cells #[.int .i64 2, .slice ai mi ci, .int .i64 3, .slice a3 SV.length c3, .int .i64 4, .slice a2 ON.length c2] 54); have hbA := hb3.alloc hb3.size (.cells #[.int .i64 2, .slice ai mi ci, .int .i64 3, .slice a3 SV.length c3, .int .i64 4, .slice a2 ON.length c2] 54); rw [← HFA.out] at fr3))
            | (go_at_call 49; go_must (refine (hfa _ _ _ fr3).mono ?_; rintro e w4 ⟨a4, c4, rfl, o4, b4⟩; have hb4 := hbA.trans (b4.mono hbA.size); have qb4 := owns_below qbA b4; have r4 := row_of_owns o4 hals (by omega)))
            | (at_builtin; go_must (refine append_u8at (w0 := w) (B := w.heap.size) rfl (.tmp 81) (.tmp 90) rfl _ mb _ rfl qb4 a4 AT.length c4 AT rfl r4.1 r4.2.1 (by omega) hb4 hb4.size ?_; intro a5 c5 w5 qb5 hb5 _ hg5 hat5)))
          go_ret
          have hle : OUT.length = mb + AT.length := by rw [HOt.out, List.length_append, hlb.out]
          refine ⟨a5, c5, ?_, ?_, hb5⟩
          · rw [hle]; rfl
          · rw [hle, HOt.out]; exact qb5
end Go.Proofs.YtikieblokfjphaaGreat

/- What the reference's Get of a table does. -/
namespace Go.Proofs.YtikieblokfjphaaGreat
open Go.RowKit

namespace Fr
/-- bytes of frames, told from below -/
def fsum (l : List F) : Nat := (l.map fun f => f.2.length + 5).sum
theorem fsum_snoc (l : List F) (f : F) : fsum (l ++ [f]) = fsum l + (f.2.length + 5) := by simp [fsum]
theorem fsum_len : ∀ (l : List F), 5 * l.length ≤ fsum l
  | [] => by simp [fsum]
  | f :: l => by
    have := fsum_len l
    simp only [fsum, List.map_cons, List.sum_cons, List.length_cons] at this ⊢
    omega
theorem fsum_take : ∀ (l : List F) (k : Nat), fsum (l.take k) ≤ fsum l
  | [], k => by simp [fsum]
  | f :: l, 0 => by simp [fsum]
  | f :: l, k + 1 => by
    have := fsum_take l k
    simp only [fsum, List.take_succ_cons, List.map_cons, List.sum_cons] at this ⊢
    omega
theorem sc_sum : ∀ (n : Nat) (bs : List Nat) (at' : Nat) (l : List F) (ps : List Nat), at' ≤ bs.length → fsum l ≤ at' → fsum (sc n bs at' l ps).1 ≤ bs.length
  | 0, bs, at', l, ps, h, hl => by simp only [sc]; omega
  | n + 1, bs, at', l, ps, h, hl => by
    by_cases h0 : (first (bs.drop at')).2.2 = 0
    · rw [sc_ok h0]
      have h1 := first_le (bs.drop at')
      rw [List.length_drop] at h1
      have h2 := (first_ok h0).2.1
      exact sc_sum n bs _ _ _ (by omega) (by rw [fsum_snoc]; omega)
    · rw [sc_no h0]; simp only; omega
theorem scan_sum (bs : List Nat) : fsum (scan bs).1 ≤ bs.length := sc_sum _ _ _ _ _ (Nat.zero_le _) (by simp [fsum])
end Fr
theorem Bl.put_ge (l : List It.I) : 3 * l.length ≤ (Bl.put l).length := by
  have h : ∀ (l : List It.I) (last : List Nat), 3 * l.length ≤ (Bl.putGo last l).length := by
    intro l
    induction l with
    | nil => intro _; simp
    | cons x l ih =>
      intro last
      have h1 := ih x.1
      have h2 := Va.one_pos (Bl.alike last x.1)
      have h3 := Va.one_pos (x.1.length - Bl.alike last x.1)
      have h4 : 1 ≤ (Bl.tail1 x).length := by unfold Bl.tail1; split <;> simp
      simp only [Bl.putGo, Bl.put1, List.length_append, List.length_cons]
      omega
  have := h l []
  unfold Bl.put
  rw [List.length_append]
  omega
theorem Tb.lead_step {fs : List Fr.F} {k : Nat} (hk : k < fs.length) (acc : List (List It.I)) : Tb.lead (fs.drop k) acc = if (fs.getD k (0, [])).1 = 1 then (if Bl.get (fs.getD k (0, [])).2 = [] then none else Tb.lead (fs.drop (k + 1)) (acc ++ [Bl.get (fs.getD k (0, [])).2])) else some acc := by
  rw [List.drop_eq_getElem_cons hk, Tb.lead, getD_get hk]
theorem parts_small {w : World} {gs : List IH} {xs : List It.I} (h : ItAll w gs xs) : ∀ x ∈ xs, Bl.Small x := fun x hx => by
  obtain ⟨t, ht, rfl⟩ := List.getElem_of_mem hx
  have hI := h.2 t ht
  rw [getD_get ht] at hI
  refine ⟨fun z hz => ?_, fun z hz => hI.row.2.2.1 z hz, ?_⟩
  · rw [← hI.key] at hz
    exact kb_small _ z hz
  · have := hI.fits
    rw [hI.pt] at this
    exact this.2.2.2
theorem put_small_of {w : World} {gs : List IH} {xss : List (List It.I)} (_ : ∀ x ∈ xss, Bl.may x = true) (h : ItAll w gs xss.flatten) : ∀ y ∈ Tb.put xss, y < lim .u8 := by
  have hsm := parts_small h
  intro y hy
  have hone : ∀ f : Fr.F, f.1.toNat < 256 → (∀ x ∈ f.2, x < 256) → ∀ z ∈ Fr.one f, z < 256 := fun f h1 h2 => Fr.put1_small h1 h2
  unfold Tb.put Tb.frames Fr.all at hy
  obtain ⟨f, hf, hy⟩ := List.mem_flatMap.mp hy
  rcases List.mem_append.mp hf with hf | hf
  · obtain ⟨p, hp, rfl⟩ := List.mem_map.mp hf
    exact hone _ (show (1 : Int).toNat < 256 by decide) (Bl.put_small fun x hx => hsm x ((Tb.part_sub hp).mem hx)) y hy
  · have hk : ∀ p ∈ xss, ∀ b ∈ Tb.firstKey p, b < 256 := fun p hp b hb => by
      unfold Tb.firstKey at hb
      cases p with
      | nil => simp [It.zero] at hb
      | cons x p => exact (hsm x ((Tb.part_sub hp).mem (by simp))).1 b hb
    simp only [Tb.tail, List.mem_cons, List.not_mem_nil, or_false] at hf
    rcases hf with rfl | rfl | rfl
    · exact hone _ (show (2 : Int).toNat < 256 by decide) (Tb.ix_small xss 0 hk) y hy
    · refine hone _ (show (3 : Int).toNat < 256 by decide) (fun x hx => ?_) y hy
      obtain ⟨i, _, rfl⟩ := List.mem_map.mp hx
      exact Sv.byte_lt _ _ _
    · exact hone _ (show (4 : Int).toNat < 256 by decide) (Va.one_small _) y hy
theorem put_len_of {w : World} {gs : List IH} {xss : List (List It.I)} (hm : ∀ x ∈ xss, Bl.may x = true) (h : ItAll w gs xss.flatten) (hs : It.sorted xss.flatten = true) (hk : xss.length ≤ 1000) (hN : xss.flatten.length ≤ 1000) : (Tb.put xss).length ≤ 2000000000 := by
  have hpp : ∀ p ∈ xss, p ≠ [] ∧ p.length ≤ 256 := fun p hp => by
    have := hm p hp
    simp only [Bl.may, Bool.and_eq_true, decide_eq_true_eq] at this
    exact ⟨fun e => by rw [e] at this; simp at this, this.1.2⟩
  have hgood := Tb.good_few (ps := xss) hs (parts_small h) hpp hk (by show xss.flatten.length ≤ _; omega)
  have : ∀ (l : List Fr.F), Fr.Good l → (Fr.all l).length ≤ 1048584 * l.length := by
    intro l
    induction l with
    | nil => intro _; simp [Fr.all]
    | cons f l ih =>
      intro hg
      have h1 := ih (fun g hg' => hg g (by simp [hg']))
      have h2 := Fr.size_le ((Fr.may_iff _).mp (hg f (by simp)).1).2.2
      have h3 := ((Fr.may_iff _).mp (hg f (by simp)).1).2.2
      rw [Fr.all_len_cons, List.length_cons]
      omega
  have h2 := this _ hgood
  have h3 : (Tb.frames xss).length = xss.length + 3 := by simp [Tb.frames, Tb.tail]
  unfold Tb.put
  rw [h3] at h2
  omega
/-- items are told -/
def TGetRes (w : World) (L : List It.I) (e : Ending) (w' : World) : Prop :=
  ∃ a c hs, e = .returned (.slice a L.length c) ∧ InI w' a L.length c hs L ∧ Below w.heap.size w w'
theorem tg_nil {w w' : World} {L : List It.I} (h : L = []) (hb : Below w.heap.size w w') : TGetRes w L (.returned (.slice none 0 0)) w' := by
  subst h
  exact ⟨none, 0, [], rfl, ⟨⟨TRow.nil _ _, ItAll.nil _⟩, (fun _ => ⟨rfl, rfl⟩), Nat.le_refl _⟩, hb⟩
theorem tg_some {w w' : World} {L X : List It.I} {a : Option Addr} {N c : Nat} {hs : List IH} (h : L = X) (hN : X.length = N) (hi : InI w' a N c hs X) (hb : Below w.heap.size w w') : TGetRes w L (.returned (.slice a N c)) w' := by
  subst h; subst hN
  exact ⟨a, c, hs, rfl, hi, hb⟩

set_option maxRecDepth 100000 in
set_option maxHeartbeats 8000000 in
theorem tget_any (a : Option Addr) (n c : Nat) (bs : List Nat) (w : World) (hn : n ≤ 3000) (hsh : Shape a n c) (hr : Row .u8 w a n bs) :
    Calls Tryz.prog 6 #[.slice a n c] w (TGetRes w (Tb.get bs)) := by
  have hsc := refscan_any a n c bs w (by omega) hsh hr
  have hsum0 := Fr.scan_sum bs
  rw [hr.1] at hsum0
  obtain ⟨G, hG⟩ : ∃ G, G = Tb.get bs := ⟨_, rfl⟩
  rw [← hG]
  obtain ⟨LD, hLD⟩ : ∃ LD, LD = Tb.lead (Fr.scan bs).1 [] := ⟨_, rfl⟩
  have HG0 : Hid (LD = none → G = []) := (fun h => by rw [hG, Tb.get, ← hLD, h] : LD = none → G = [])
  have HGs : Hid (∀ xss, LD = some xss → G = if xss.flatten.length < 1 ∨ 16384 < xss.flatten.length ∨ It.sorted xss.flatten = false ∨ Tb.put xss ≠ bs then [] else xss.flatten) := (fun xss h => by rw [hG, Tb.get, ← hLD, h]; rfl : ∀ xss, LD = some xss → G = if xss.flatten.length < 1 ∨ 16384 < xss.flatten.length ∨ It.sorted xss.flatten = false ∨ Tb.put xss ≠ bs then [] else xss.flatten)
  have Hr : Hid (Row .u8 w a n bs) := hr
  unfold ScanRes at hsc
  generalize Fr.scan bs = R at *
  obtain ⟨fs, pl, ze⟩ := R
  simp only at hsc hsum0 hLD
  have hfl := Fr.fsum_len fs
  obtain ⟨nf, hnf⟩ : ∃ nf, nf = fs.length := ⟨_, rfl⟩
  rw [← hnf] at hsc hfl
  have HNF : Hid (fs.length = nf) := hnf.symm
  have HLD0 : Hid (LD = Tb.lead (fs.drop 0) []) := hLD
  have hnf6 : nf ≤ 600 := by omega
  have HSM : Hid (Fr.fsum fs ≤ n) := hsum0
  clear hr hG hLD hnf hsum0 hfl
  go_enter Tryz.func6, Tryz.ntmps6
  go_wp2_with (go_at_call 9; go_must (refine hsc.mono ?_; rintro e w1 ⟨a1, c1, a2, c2, cs, rfl, o1, hh1, o2, hpl1, b1⟩; have hfr1 := (frow_of_owns o1 hh1 (by omega)).1))
  have HF : Hid (FRow w1 a1 nf fs) := hfr1
  obtain ⟨B0, hB0⟩ : ∃ B0, B0 = w1.heap.size := ⟨_, rfl⟩
  have hbA := below_alloc w1 (.cells #[] 28)
  have qp0 := made_t (s := 1) (enc := phe) w1 (B := B0) (E := 28) (by omega) rfl
  have HB0 : Hid (w1.heap.size = B0) := hB0.symm
  rw [← hB0] at hbA
  clear hsc o1 hh1 o2 hpl1 hfr1 hB0
  go_loopw [6, 7] (fun v i wr => ∃ (k cp : Nat) (ap : Option Addr) (ps : List PH) (gss : List (List IH)) (xss : List (List It.I)), k ≤ nf ∧ i = .int .i64 k ∧ v = .slice ap k cp ∧ Hid (LD = Tb.lead (fs.drop k) xss) ∧ Hid (xss.length = k) ∧ Hid (∀ x ∈ xss, Bl.may x = true) ∧ Hid (3 * xss.flatten.length ≤ Fr.fsum (fs.take k)) ∧ wr.ownsRow B0 28 1 (.slice ap k cp) k (tcells phe ps) ∧ Hid (POwn (fun w g x => ItHeld w B0 g x) wr B0 ps gss xss) ∧ Below B0 w1 wr) (fun _ i _ => nf - (intOf i).toNat)
  case atStart => exact ⟨0, 0, _, [], [], [], Nat.zero_le _, rfl, rfl, HLD0, (rfl : ([] : List (List It.I)).length = 0), (fun x hx => (by cases hx) : ∀ x ∈ ([] : List (List It.I)), Bl.may x = true), (Nat.zero_le _ : 3 * ([] : List (List It.I)).flatten.length ≤ Fr.fsum (fs.take 0)), qp0, (POwn.nil _ _ _ : POwn (fun w g x => ItHeld w B0 g x) _ B0 [] [] []), hbA⟩
  case round =>
    obtain ⟨k, cp, ap, ps, gss, xss, hk, rfl, rfl, HLk, hlx, hmy, hsmk, qp, hP, hb1s⟩ := hrel
    clear qp0 hbA HLD0
    have hbs : Below w.heap.size w wr := b1.trans (hb1s.mono (by rw [← HB0.out]; exact b1.size))
    by_cases hlt : k < nf
    · have hk' : k < fs.length := by rw [HNF.out]; exact hlt
      have hst := HLk.out.trans (Tb.lead_step hk' xss)
      obtain ⟨bf, off, rfl, hcf⟩ := HF.out.at (by omega)
      obtain ⟨A, L, C, k0, k1, rA, sA, zA, kA1, kA2⟩ := (hcf k hlt).below (B := B0) hb1s (by rw [HB0.out]; exact Nat.le_refl _)
      have hsn : Hid (Fr.fsum (fs.take (k + 1)) = Fr.fsum (fs.take k) + ((fs.getD k (0, [])).2.length + 5)) := (by rw [List.take_succ_eq_append_getElem hk', Fr.fsum_snoc, getD_get hk'] : Fr.fsum (fs.take (k + 1)) = Fr.fsum (fs.take k) + ((fs.getD k (0, [])).2.length + 5))
      have hft := Fr.fsum_take fs (k + 1)
      have hLn : L ≤ 3000 := by have h1 := rA.1; have h2 := HSM.out; have h3 := hsn.out; omega
      generalize fs.getD k (0, []) = f at *
      obtain ⟨kd, body⟩ := f
      simp only at k0 k1 rA hst hsn
      have i0 : (0 : Int) ≤ (k : Int) := by omega
      have i1 : (k : Int) < (nf : Int) := by omega
      have i2 : IntKind.i64.wrap ((k : Int) + 1) = (k : Int) + 1 := by rw [IntKind.wrap_i64]; omega
      have d0 : decide ((k : Int) < (nf : Int)) = true := by simp; omega
      by_cases hk1 : kd = 1
      · subst hk1
        rw [if_pos rfl] at hst
        have hLC : L ≤ C := by
          rcases sA with h | ⟨_, _, _, h⟩
          · omega
          · exact h
        have hgo := brefget_own A L C body wr (by omega) hLC rA
        have hgk := fun (h : Bl.get body ≠ []) => Bl.get_ok h
        have hbl := rA.1
        unfold BGetOwn at hgo
        generalize hP0 : Bl.get body = P at *
        clear hP0
        by_cases hPz : P = []
        · subst hPz
          have H : Hid (G = []) := HG0.out (by rw [hst, if_pos rfl])
          clear hst HG0 HGs hgk
          go_wp2_with (go_at_call 16; go_must (refine hgo.mono ?_; rintro e w2 ⟨a3, c3, hs, rfl, o3, hh3, b3⟩))
          go_ret
          exact tg_nil H.out (hbs.trans (b3.mono hbs.size))
        · rw [if_neg hPz] at hst
          obtain ⟨hPm, hPp⟩ := hgk hPz
          have hge := Bl.put_ge P
          rw [hPp, hbl] at hge
          have hPl : 0 < P.length := List.length_pos_iff.mpr hPz
          have HL2 : Hid (LD = Tb.lead (fs.drop (k + 1)) (xss ++ [P])) := hst
          have hlx2 : Hid ((xss ++ [P]).length = k + 1) := (by rw [List.length_append, hlx.out]; rfl : (xss ++ [P]).length = k + 1)
          have hmy2 : Hid (∀ x ∈ xss ++ [P], Bl.may x = true) := (fun x hx => by
            rcases List.mem_append.mp hx with hx | hx
            · exact hmy.out x hx
            · rw [List.mem_singleton.mp hx]; exact hPm : ∀ x ∈ xss ++ [P], Bl.may x = true)
          have hsm2 : Hid (3 * (xss ++ [P]).flatten.length ≤ Fr.fsum (fs.take (k + 1))) := (by rw [hsn.out, List.flatten_append, List.length_append]; have := hsmk.out; simp only [List.flatten_cons, List.flatten_nil, List.append_nil]; omega : 3 * (xss ++ [P]).flatten.length ≤ Fr.fsum (fs.take (k + 1)))
          have hp256 : P.length ≤ 256 := by simp only [Bl.may, Bool.and_eq_true, decide_eq_true_eq] at hPm; exact hPm.1.2
          obtain ⟨pn, hpn⟩ : ∃ pn, P.length = pn := ⟨_, rfl⟩
          rw [hpn] at hgo hPl hp256
          have d1 : ((pn : Int) == 0) = false := by simp; omega
          have hBs : B0 ≤ wr.heap.size := by rw [← HB0.out]; exact Nat.le_trans (by rw [HB0.out]; exact Nat.le_refl _) hb1s.size
          clear hst HG0 HGs hgk hPm hPp hPz hpn hge
          go_wp2_with (first
            | (go_at_call 16; go_must (refine hgo.mono ?_; rintro e w2 ⟨a3, c3, hs, rfl, o3, hh3, b3⟩; have hb2 := hb1s.trans (b3.mono hBs); have qp2 := owns_below qp b3; have hP2 : Hid (POwn (fun w g x => ItHeld w B0 g x) w2 B0 ps gss xss) := (POwn.below hP.out b3 (fun g x h => h.below b3) : POwn (fun w g x => ItHeld w B0 g x) w2 B0 ps gss xss); have qpA := qp2.alloc (.cells #[.slice a3 pn c3] 28); have o3A := (o3.mono (base' := B0) hBs).alloc (.cells #[.slice a3 pn c3] 28); have hhA : ItHeld (w2.alloc (.cells #[.slice a3 pn c3] 28)) B0 hs P := ⟨hh3.1, fun i hi => ⟨((hh3.2 i hi).1.below (below_alloc _ _) (Nat.le_refl _)), ((hh3.2 i hi).2.mono (base' := B0) hBs).alloc _⟩⟩))
            | (at_builtin; go_must (refine append_tg partE phE (w0 := w1) (B := B0) rfl (.tmp 40) (.tmp 42) rfl _ k ps rfl qpA _ 1 1 [⟨a3, pn, c3⟩] rfl (lit_part w2 ⟨a3, pn, c3⟩ rfl) (fun h => by cases h) (by omega) (hb2.alloc (Nat.le_trans hBs b3.size) _) (Nat.le_trans (Nat.le_trans hBs b3.size) (by simp)) ?_; intro a9 c9 w9 hg9 hc9 hn9 _ qp9 hb9 _; have hP9 : Hid (POwn (fun w g x => ItHeld w B0 g x) w9 B0 (ps ++ [⟨a3, pn, c3⟩]) (gss ++ [hs]) (xss ++ [P])) := (POwn.snoc (POwn.grown (POwn.below hP2.out (below_alloc w2 (.cells #[.slice a3 pn c3] 28)) (fun g x h => h.below (below_alloc _ _))) qpA (by decide) hg9 (fun g x h => ItHeld.grown qpA (by decide) hg9 h)) (o3A.kept hg9 (own_apart o3A qpA (by decide))) (by omega) (ItHeld.grown qpA (by decide) hg9 hhA) : POwn (fun w g x => ItHeld w B0 g x) w9 B0 (ps ++ [⟨a3, pn, c3⟩]) (gss ++ [hs]) (xss ++ [P])))))
          go_roundw
          case rel => exact ⟨k + 1, c9, a9, ps ++ [⟨a3, pn, c3⟩], gss ++ [hs], xss ++ [P], hlt, by go_num, rfl, HL2, hlx2, hmy2, hsm2, qp9, hP9, hb9⟩
          case measure => simp [intOf]; omega
      · rw [if_neg hk1] at hst
        have HLE : LD = some xss := hst
        have dk : (kd == 1) = false := by simp [hk1]
        have hsum : Hid (3 * xss.flatten.length ≤ 3000) := (by have h1 := hsmk.out; have h2 := HSM.out; have h3 := Fr.fsum_take fs k; omega : 3 * xss.flatten.length ≤ 3000)
        have HL : Hid (LD = some xss) := HLE
        clear hst hsmk HSM hsn hft HLk HF HNF rA sA zA kA1 kA2
        have hin : InP wr ap k ps gss xss := ⟨trow_of_owns phE qp (by omega) (by omega), POwn.parts hP.out (fun g x h => h.all)⟩
        have hgl : ∀ i, i < k → (gss.getD i []).length ≤ 1000 := fun i hi => by
          have h1 := (hin.2.2.2 i (by rw [hlx.out]; exact hi)).1.2.1
          have h2 : i < xss.length := by rw [hlx.out]; exact hi
          have h3 := hmy.out _ (List.getElem_mem h2)
          simp only [Bl.may, Bool.and_eq_true, decide_eq_true_eq] at h3
          rw [h1, getD_get h2]; omega
        have hjn := fun W (h : Below wr.heap.size wr W) => tjoined_any ap k cp ps gss xss W (by omega) (hin.below h (Nat.le_refl _)) hgl
        have hall : ItAll wr gss.flatten xss.flatten := parts_all hin.2.2.1 fun i hi => (hin.2.2.2 i hi).1.2
        have hjl : gss.flatten.length = xss.flatten.length := hall.1
        have hN : xss.flatten.length ≤ 1000 := by have := hsum.out; omega
        have HG2 : Hid (G = if xss.flatten.length < 1 ∨ 16384 < xss.flatten.length ∨ It.sorted xss.flatten = false ∨ Tb.put xss ≠ bs then [] else xss.flatten) := HGs.out xss HL.out
        have htp := fun W (h : Below wr.heap.size wr W) hs => tput_any ap k cp ps gss xss W (by omega) (hin.below h (Nat.le_refl _)) hmy.out hs hN
        have hjn2 := hjn _ (Below.refl _ _)
        unfold JoinRes at hjn2
        unfold Made at htp
        have hitr : ∀ W al, TRow 8 ih ihz W al gss.flatten.length gss.flatten → Below wr.heap.size wr W → ItRow W al xss.flatten.length gss.flatten xss.flatten := fun W al h1 h2 => ⟨by rw [← hjl]; exact h1, hall.below h2 (Nat.le_refl _)⟩
        rw [hjl] at hjn2 hitr
        have hsr := fun W al cl (h : ItRow W al xss.flatten.length gss.flatten xss.flatten) => isorted_any al xss.flatten.length cl gss.flatten xss.flatten W hN h
        have hby := fun W a1 l1 c1 (h1 : Below w.heap.size w W) (h2 : Row .u8 W a1 l1 (Tb.put xss)) => bytes_any a1 l1 c1 (Tb.put xss) a n c bs W h2 (Hr.out.below h1 (Nat.le_refl _))
        have hpsm : Tb.put xss ≠ [] ∨ True := .inr trivial
        have HJ : Hid (Tb.joined xss = xss.flatten) := (rfl : Tb.joined xss = xss.flatten)
        rw [HJ.out] at htp
        have hpsz : Hid (∀ y ∈ Tb.put xss, y < lim .u8) := (put_small_of hmy.out hall)
        have hplen : Hid (It.sorted xss.flatten = true → (Tb.put xss).length ≤ 2000000000) := (fun h => put_len_of hmy.out hall h (by rw [hlx.out]; omega) hN : It.sorted xss.flatten = true → (Tb.put xss).length ≤ 2000000000)
        generalize Tb.put xss = PO at *
        generalize gss.flatten = J at *
        generalize xss.flatten = X at *
        obtain ⟨N, hNe⟩ : ∃ N, X.length = N := ⟨_, rfl⟩
        rw [hNe] at hjn2 hitr hsr hN HG2
        have HN : Hid (X.length = N) := hNe
        clear hNe HGs HG0 HL hin hgl hjn hP hmy hsum hall hjl HJ hpsm
        by_cases hN0 : N < 1
        · obtain rfl : N = 0 := by omega
          have H : Hid (G = []) := (by rw [HG2.out, if_pos (.inl (by omega))] : G = [])
          clear HG2 htp hsr hby hitr
          go_wp2_with (go_at_call 17; go_must (refine hjn2.mono ?_; rintro e w1 ⟨al, cl, rfl, hz1, hle1, o1, b1⟩))
          go_ret
          exact tg_nil H.out (hbs.trans (b1.mono hbs.size))
        · have d1 : decide ((N : Int) < 1) = false := by simp; omega
          have d1' : ¬ ((N : Int) < 1) := by omega
          have d2 : decide ((16384 : Int) < (N : Int)) = false := by simp; omega
          have d2' : ¬ ((16384 : Int) < (N : Int)) := by omega
          cases hs : It.sorted X with
          | false =>
            have H : Hid (G = []) := (by rw [HG2.out, if_pos (.inr (.inr (.inl hs)))] : G = [])
            rw [hs] at hsr
            clear HG2 htp hby hs
            go_wp2_with (first
              | (go_at_call 17; go_must (refine hjn2.mono ?_; rintro e w1 ⟨al, cl, rfl, hz1, hle1, o1, b1⟩; have hb1 := hbs.trans (b1.mono hbs.size); have ir1 := hitr w1 al (trow_of_owns ihE o1 (by omega) (by omega)) b1))
              | (go_at_call 18; go_must (refine (hsr _ _ _ ir1).mono ?_; rintro e w2 ⟨rfl, b2⟩; have hb2 := hb1.trans (b2.mono hb1.size))))
            go_ret
            exact tg_nil H.out hb2
          | true =>
            have htp2 := fun W (h : Below wr.heap.size wr W) => htp W h hs
            have hpl2 := hplen.out hs
            rw [hs] at hsr
            by_cases hq : PO = bs
            · have H : Hid (G = X) := (by rw [HG2.out, if_neg]; rw [hs, hq]; simp; omega : G = X)
              have hdq : decide (PO = bs) = true := by simp [hq]
              rw [hdq] at hby
              clear HG2 htp hs hq hdq
              go_wp2_with (first
                | (go_at_call 17; go_must (refine hjn2.mono ?_; rintro e w1 ⟨al, cl, rfl, hz1, hle1, o1, b1⟩; have hb1 := hbs.trans (b1.mono hbs.size); have ir1 := hitr w1 al (trow_of_owns ihE o1 (by omega) (by omega)) b1))
                | (go_at_call 18; go_must (refine (hsr _ _ _ ir1).mono ?_; rintro e w2 ⟨rfl, b2⟩; have hb2 := hb1.trans (b2.mono hb1.size); have hs2 := b1.trans (b2.mono b1.size)))
                | (go_at_call 20; go_must (refine (htp2 _ hs2).mono ?_; rintro e w3 ⟨a3, c3, rfl, o3, b3⟩; have hb3 := hb2.trans (b3.mono hb2.size); have r3 := row_of_owns o3 hpsz.out (by omega)))
                | (go_at_call 19; go_must (refine (hby _ _ _ _ hb3 r3.1).mono ?_; rintro e w4 ⟨rfl, q4, hw4⟩)))
              go_ret
              have b4 := ((b2.trans (b3.mono b2.size)).trans (below_drewN w1.heap.size w3 q4))
              exact tg_some H.out HN.out ⟨ir1.below b4 (Nat.le_refl _), hz1, hle1⟩ (hb1.trans (b4.mono hb1.size))
            · have H : Hid (G = []) := (by rw [HG2.out, if_pos (.inr (.inr (.inr hq)))] : G = [])
              have hdq : decide (PO = bs) = false := by simp [hq]
              rw [hdq] at hby
              clear HG2 htp hs hq hdq
              go_wp2_with (first
                | (go_at_call 17; go_must (refine hjn2.mono ?_; rintro e w1 ⟨al, cl, rfl, hz1, hle1, o1, b1⟩; have hb1 := hbs.trans (b1.mono hbs.size); have ir1 := hitr w1 al (trow_of_owns ihE o1 (by omega) (by omega)) b1))
                | (go_at_call 18; go_must (refine (hsr _ _ _ ir1).mono ?_; rintro e w2 ⟨rfl, b2⟩; have hb2 := hb1.trans (b2.mono hb1.size); have hs2 := b1.trans (b2.mono b1.size)))
                | (go_at_call 20; go_must (refine (htp2 _ hs2).mono ?_; rintro e w3 ⟨a3, c3, rfl, o3, b3⟩; have hb3 := hb2.trans (b3.mono hb2.size); have r3 := row_of_owns o3 hpsz.out (by omega)))
                | (go_at_call 19; go_must (refine (hby _ _ _ _ hb3 r3.1).mono ?_; rintro e w4 ⟨rfl, q4, hw4⟩)))
              go_ret
              exact tg_nil H.out (hb3.trans (below_drewN w.heap.size w3 q4))
    · obtain rfl : k = nf := by omega
      have HLE : LD = some xss := by rw [HLk.out, List.drop_of_length_le (by rw [HNF.out]; omega)]; rfl
      have d0 : decide ((k : Int) < (k : Int)) = false := by simp
      have d0' : ¬ ((k : Int) < (k : Int)) := by omega
      have hsum : Hid (3 * xss.flatten.length ≤ 3000) := (by have h1 := hsmk.out; have h2 := HSM.out; have h3 := Fr.fsum_take fs k; omega : 3 * xss.flatten.length ≤ 3000)
      have HL : Hid (LD = some xss) := HLE
      clear hsmk HSM HLk HF HNF
      have hin : InP wr ap k ps gss xss := ⟨trow_of_owns phE qp (by omega) (by omega), POwn.parts hP.out (fun g x h => h.all)⟩
      have hgl : ∀ i, i < k → (gss.getD i []).length ≤ 1000 := fun i hi => by
        have h1 := (hin.2.2.2 i (by rw [hlx.out]; exact hi)).1.2.1
        have h2 : i < xss.length := by rw [hlx.out]; exact hi
        have h3 := hmy.out _ (List.getElem_mem h2)
        simp only [Bl.may, Bool.and_eq_true, decide_eq_true_eq] at h3
        rw [h1, getD_get h2]; omega
      have hjn := fun W (h : Below wr.heap.size wr W) => tjoined_any ap k cp ps gss xss W (by omega) (hin.below h (Nat.le_refl _)) hgl
      have hall : ItAll wr gss.flatten xss.flatten := parts_all hin.2.2.1 fun i hi => (hin.2.2.2 i hi).1.2
      have hjl : gss.flatten.length = xss.flatten.length := hall.1
      have hN : xss.flatten.length ≤ 1000 := by have := hsum.out; omega
      have HG2 : Hid (G = if xss.flatten.length < 1 ∨ 16384 < xss.flatten.length ∨ It.sorted xss.flatten = false ∨ Tb.put xss ≠ bs then [] else xss.flatten) := HGs.out xss HL.out
      have htp := fun W (h : Below wr.heap.size wr W) hs => tput_any ap k cp ps gss xss W (by omega) (hin.below h (Nat.le_refl _)) hmy.out hs hN
      have hjn2 := hjn _ (Below.refl _ _)
      unfold JoinRes at hjn2
      unfold Made at htp
      have hitr : ∀ W al, TRow 8 ih ihz W al gss.flatten.length gss.flatten → Below wr.heap.size wr W → ItRow W al xss.flatten.length gss.flatten xss.flatten := fun W al h1 h2 => ⟨by rw [← hjl]; exact h1, hall.below h2 (Nat.le_refl _)⟩
      rw [hjl] at hjn2 hitr
      have hsr := fun W al cl (h : ItRow W al xss.flatten.length gss.flatten xss.flatten) => isorted_any al xss.flatten.length cl gss.flatten xss.flatten W hN h
      have hby := fun W a1 l1 c1 (h1 : Below w.heap.size w W) (h2 : Row .u8 W a1 l1 (Tb.put xss)) => bytes_any a1 l1 c1 (Tb.put xss) a n c bs W h2 (Hr.out.below h1 (Nat.le_refl _))
      have hpsm : Tb.put xss ≠ [] ∨ True := .inr trivial
      have HJ : Hid (Tb.joined xss = xss.flatten) := (rfl : Tb.joined xss = xss.flatten)
      rw [HJ.out] at htp
      have hpsz : Hid (∀ y ∈ Tb.put xss, y < lim .u8) := (put_small_of hmy.out hall)
      have hplen : Hid (It.sorted xss.flatten = true → (Tb.put xss).length ≤ 2000000000) := (fun h => put_len_of hmy.out hall h (by rw [hlx.out]; omega) hN : It.sorted xss.flatten = true → (Tb.put xss).length ≤ 2000000000)
      generalize Tb.put xss = PO at *
      generalize gss.flatten = J at *
      generalize xss.flatten = X at *
      obtain ⟨N, hNe⟩ : ∃ N, X.length = N := ⟨_, rfl⟩
      rw [hNe] at hjn2 hitr hsr hN HG2
      have HN : Hid (X.length = N) := hNe
      clear hNe HGs HG0 HL hin hgl hjn hP hmy hsum hall hjl HJ hpsm
      by_cases hN0 : N < 1
      · obtain rfl : N = 0 := by omega
        have H : Hid (G = []) := (by rw [HG2.out, if_pos (.inl (by omega))] : G = [])
        clear HG2 htp hsr hby hitr
        go_wp2_with (go_at_call 17; go_must (refine hjn2.mono ?_; rintro e w1 ⟨al, cl, rfl, hz1, hle1, o1, b1⟩))
        go_ret
        exact tg_nil H.out (hbs.trans (b1.mono hbs.size))
      · have d1 : decide ((N : Int) < 1) = false := by simp; omega
        have d1' : ¬ ((N : Int) < 1) := by omega
        have d2 : decide ((16384 : Int) < (N : Int)) = false := by simp; omega
        have d2' : ¬ ((16384 : Int) < (N : Int)) := by omega
        cases hs : It.sorted X with
        | false =>
          have H : Hid (G = []) := (by rw [HG2.out, if_pos (.inr (.inr (.inl hs)))] : G = [])
          rw [hs] at hsr
          clear HG2 htp hby hs
          go_wp2_with (first
            | (go_at_call 17; go_must (refine hjn2.mono ?_; rintro e w1 ⟨al, cl, rfl, hz1, hle1, o1, b1⟩; have hb1 := hbs.trans (b1.mono hbs.size); have ir1 := hitr w1 al (trow_of_owns ihE o1 (by omega) (by omega)) b1))
            | (go_at_call 18; go_must (refine (hsr _ _ _ ir1).mono ?_; rintro e w2 ⟨rfl, b2⟩; have hb2 := hb1.trans (b2.mono hb1.size))))
          go_ret
          exact tg_nil H.out hb2
        | true =>
          have htp2 := fun W (h : Below wr.heap.size wr W) => htp W h hs
          have hpl2 := hplen.out hs
          rw [hs] at hsr
          by_cases hq : PO = bs
          · have H : Hid (G = X) := (by rw [HG2.out, if_neg]; rw [hs, hq]; simp; omega : G = X)
            have hdq : decide (PO = bs) = true := by simp [hq]
            rw [hdq] at hby
            clear HG2 htp hs hq hdq
            go_wp2_with (first
              | (go_at_call 17; go_must (refine hjn2.mono ?_; rintro e w1 ⟨al, cl, rfl, hz1, hle1, o1, b1⟩; have hb1 := hbs.trans (b1.mono hbs.size); have ir1 := hitr w1 al (trow_of_owns ihE o1 (by omega) (by omega)) b1))
              | (go_at_call 18; go_must (refine (hsr _ _ _ ir1).mono ?_; rintro e w2 ⟨rfl, b2⟩; have hb2 := hb1.trans (b2.mono hb1.size); have hs2 := b1.trans (b2.mono b1.size)))
              | (go_at_call 20; go_must (refine (htp2 _ hs2).mono ?_; rintro e w3 ⟨a3, c3, rfl, o3, b3⟩; have hb3 := hb2.trans (b3.mono hb2.size); have r3 := row_of_owns o3 hpsz.out (by omega)))
              | (go_at_call 19; go_must (refine (hby _ _ _ _ hb3 r3.1).mono ?_; rintro e w4 ⟨rfl, q4, hw4⟩)))
            go_ret
            have b4 := ((b2.trans (b3.mono b2.size)).trans (below_drewN w1.heap.size w3 q4))
            exact tg_some H.out HN.out ⟨ir1.below b4 (Nat.le_refl _), hz1, hle1⟩ (hb1.trans (b4.mono hb1.size))
          · have H : Hid (G = []) := (by rw [HG2.out, if_pos (.inr (.inr (.inr hq)))] : G = [])
            have hdq : decide (PO = bs) = false := by simp [hq]
            rw [hdq] at hby
            clear HG2 htp hs hq hdq
            go_wp2_with (first
              | (go_at_call 17; go_must (refine hjn2.mono ?_; rintro e w1 ⟨al, cl, rfl, hz1, hle1, o1, b1⟩; have hb1 := hbs.trans (b1.mono hbs.size); have ir1 := hitr w1 al (trow_of_owns ihE o1 (by omega) (by omega)) b1))
              | (go_at_call 18; go_must (refine (hsr _ _ _ ir1).mono ?_; rintro e w2 ⟨rfl, b2⟩; have hb2 := hb1.trans (b2.mono hb1.size); have hs2 := b1.trans (b2.mono b1.size)))
              | (go_at_call 20; go_must (refine (htp2 _ hs2).mono ?_; rintro e w3 ⟨a3, c3, rfl, o3, b3⟩; have hb3 := hb2.trans (b3.mono hb2.size); have r3 := row_of_owns o3 hpsz.out (by omega)))
              | (go_at_call 19; go_must (refine (hby _ _ _ _ hb3 r3.1).mono ?_; rintro e w4 ⟨rfl, q4, hw4⟩)))
            go_ret
            exact tg_nil H.out (hb3.trans (below_drewN w.heap.size w3 q4))
end Go.Proofs.YtikieblokfjphaaGreat
