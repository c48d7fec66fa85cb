/- Rows that a call makes of its own; what append does to them; what the reference's One does. -/
import Derived.Test.YtjllglpjghcplaaW3
import Derived.Laws.AppendOwnNone
import Derived.Deep.AppendLies
import Derived.Deep.Onto
namespace Go.Proofs.Ytjllglpjghcplaa
open Go.RowKit

/-- numbers as cells -/
def kcells (k : IntKind) (bs : List Nat) : List Value := bs.map fun n => Value.int k (n : Nat)
theorem kcells_append (k : IntKind) (a b : List Nat) : kcells k (a ++ b) = kcells k a ++ kcells k b := by simp [kcells]
theorem kcells_length (k : IntKind) (a : List Nat) : (kcells k a).length = a.length := by simp [kcells]
theorem kcells_get (k : IntKind) (a : List Nat) (j : Nat) (u : Value) (h : (kcells k a)[j]? = some u) : j < a.length ∧ u = .int k (a.getD j 0 : Nat) := by
  simp only [kcells, List.getElem?_map] at h
  cases e : a[j]? with
  | none => rw [e] at h; simp at h
  | some x =>
    rw [e] at h; simp at h
    refine ⟨(List.getElem?_eq_some_iff.mp e).1, ?_⟩
    rw [List.getD_eq_getElem?_getD, e]; simp [← h]
theorem add_at (b off i : Nat) : Addr.add ⟨b, off, none⟩ i = ⟨b, off + i, none⟩ := by
  unfold Addr.add; split
  · simp_all
  · rfl
theorem cell_lt {w : World} {p : Addr} {v : Value} (h : w.cell? p = some v) : p.block < w.heap.size := by
  rcases Nat.lt_or_ge p.block w.heap.size with h' | h'
  · exact h'
  · simp [World.cell?, Array.getElem?_eq_none h'] at h
theorem Row.below {k : IntKind} {w w' : World} {B : Nat} {a : Option Addr} {l : Nat} {bs : List Nat} (h : Row k w a l bs) (hb : Below B w w') (hB : w.heap.size ≤ B) : Row k w' a l bs := by
  obtain ⟨h1, h2, h3, h4⟩ := h
  refine ⟨h1, h2, h3, ?_⟩
  rcases h4 with h0 | ⟨b, off, e, hc⟩
  · exact .inl h0
  · refine .inr ⟨b, off, e, fun i hi => ?_⟩
    have hlt := cell_lt (hc i hi)
    rw [hb.cell (p := ⟨b, off + i, none⟩) (Nat.lt_of_lt_of_le hlt hB)]
    exact hc i hi
theorem below_drewN (B : Nat) (w : World) (n : Nat) : Below B w (w.drewN n) := ⟨rfl, rfl, rfl, Nat.le_refl _, fun _ _ => rfl⟩
theorem owns_below {w w' : World} {B e size n : Nat} {v : Value} {xs : List Value} (h : w.ownsRow B e size v n xs) (hb : Below w.heap.size w w') : w'.ownsRow B e size v n xs := by
  refine ⟨h.1, ?_⟩
  rcases h.2 with hn | ⟨g, cap, cur, rfl, hg, hgg, rest⟩
  · exact .inl hn
  · exact .inr ⟨g, cap, cur, rfl, hg, by rw [hb.block g (Array.getElem?_eq_some_iff.1 hgg).1]; exact hgg, rest⟩
theorem owns_lit (w : World) (base : Nat) (e : TypeId) (cs : List Value) (n : Nat) (hn : n = cs.length) (hb : base ≤ w.heap.size) (hm : n ≤ 1000) :
    (w.alloc (.cells cs.toArray e)).ownsRow base e 1 (.slice (some ⟨w.heap.size, 0, none⟩) n n) n cs :=
  ⟨by omega, .inr ⟨w.heap.size, n, cs.toArray, rfl, hb, heap_alloc_new w _, Nat.le_refl _, by unfold maxLen; omega, by simp; omega, by simp [hn]⟩⟩

theorem row_of_owns {k : IntKind} {w : World} {base : Nat} {e : TypeId} {a : Option Addr} {n cap : Nat} {bs : List Nat} (h : w.ownsRow base e 1 (.slice a n cap) n (kcells k bs)) (hsm : ∀ x ∈ bs, x < lim k) (hn : n ≤ 1000000000000000000) :
    Row k w a n bs ∧ (a = none → n = 0 ∧ cap = 0) ∧ n ≤ cap := by
  have hl := h.1
  rw [kcells_length] at hl
  rcases h.2 with ⟨e, rfl⟩ | ⟨g, cap, cur, e, _, hh, hnc, hm, hsz, htk⟩
  · simp only [Value.slice.injEq] at e
    obtain ⟨rfl, _, rfl⟩ := e
    exact ⟨⟨by omega, hn, hsm, .inl rfl⟩, fun _ => ⟨rfl, rfl⟩, by omega⟩
  · simp only [Value.slice.injEq] at e
    obtain ⟨rfl, _, rfl⟩ := e
    refine ⟨⟨by omega, hn, hsm, .inr ⟨g, 0, rfl, fun i hi => ?_⟩⟩, (fun h => by cases h), hnc⟩
    simp only [World.cell?, hh]
    have e : cur[0 + i]? = (cur.toList.take (n * 1))[i]? := by
      rw [List.getElem?_take, if_pos (by omega)]; simp
    show (if (none : Option _).isSome then none else cur[0 + i]?) = _
    rw [if_neg (by simp), e, htk]
    simp only [kcells, List.getElem?_map, List.getD_eq_getElem?_getD]
    rw [List.getElem?_eq_getElem (by omega)]; simp
theorem slice_of_owns {w : World} {base : Nat} {e : TypeId} {v : Value} {n : Nat} {xs : List Value} (h : w.ownsRow base e 1 v n xs) : ∃ a cap, v = .slice a n cap := by
  rcases h.2 with ⟨rfl, rfl⟩ | ⟨g, cap, cur, rfl, _⟩
  · exact ⟨_, _, rfl⟩
  · exact ⟨_, _, rfl⟩
theorem row_new (k : IntKind) (w : World) (e : TypeId) (x : Nat) (hx : x < lim k) : Row k (w.alloc (.cells #[.int k (x : Nat)] e)) (some ⟨w.heap.size, 0, none⟩) 1 [x] := by
  refine ⟨rfl, by omega, by simpa using hx, .inr ⟨_, _, rfl, fun i hi => ?_⟩⟩
  obtain rfl : i = 0 := by omega
  have : (w.alloc (.cells #[.int k (x : Nat)] e)).heap[w.heap.size]? = some (.cells #[.int k (x : Nat)] e) := heap_alloc_new w _
  simp only [World.cell?, this]
  rfl

theorem Try.info5 : (Try.prog.info? 5).map (fun i => (i.zero, i.size, i.bytes)) = some (some (.int .u8 0), 1, 1) := by kernel_rfl

theorem Try.info51 : (Try.prog.info? 51).map (fun i => (i.zero, i.size, i.bytes)) = some (some (.int .u64 0), 1, 8) := by kernel_rfl

theorem append_u8 {w0 w : World} {B : Nat} {ops : Array Oper} {rest : List Oper} {o : Oper} {a : Act} {Q : Exit → Act → World → Prop} (hgd : o.guard = none) (s x : Operand)
    (ho : o.op = .call { callee := .builtin .append, args := #[s, x], argTypes := #[26, 26] })
    (v : Value) (n : Nat) (xs : List Nat) (hs : a.eval s = v) (hown : w.ownsRow B 5 1 v n (kcells .u8 xs))
    (ad : Option Addr) (m c : Nat) (bs : List Nat) (hx : a.eval x = .slice ad m c) (hrow : Row .u8 w ad m bs) (hnil : ad = none → m = 0 ∧ c = 0)
    (hnm : n + m ≤ 1000000000000) (hbel : Below B w0 w) (hB : B ≤ w.heap.size)
    (h : ∀ a' c' w', w'.ownsRow B 5 1 (.slice a' (n + m) c') (n + m) (kcells .u8 (xs ++ bs)) → Below B w0 w' → B ≤ w'.heap.size → wpList Try.prog ops Q rest (a.put o.dst (.slice a' (n + m) c')) w') : wpList Try.prog ops Q (o :: rest) a w := by
  obtain ⟨i0, hi, hz0, hz1, hz2⟩ := info_parts Try.info5
  obtain ⟨h1, h2, h3, h4⟩ := hrow
  cases ad with
  | none =>
    obtain ⟨rfl, rfl⟩ := hnil rfl
    obtain rfl : bs = [] := List.length_eq_zero_iff.mp h1
    refine wpList_append_own_none hgd s x 26 ho B 5 i0 1 Try.underlying26 hi v n (kcells .u8 xs) hs hown hx ?_
    obtain ⟨a', c', rfl⟩ := slice_of_owns hown
    exact h a' c' w (by simpa using hown) hbel hB
  | some ad =>
    refine wpList_append_own w hgd s x 26 ho B 5 i0 (.int .u8 0) 1 1 Try.underlying26 hi hz0 hz1 hz2 rfl (by decide) v n (kcells .u8 xs) hs hown ad m c (kcells .u8 bs) hx (by rw [kcells_length]; omega) ?_ ?_ (by unfold maxLen; omega) (by omega) hB ?_
    · intro j u hj
      obtain ⟨hlt, rfl⟩ := kcells_get .u8 bs j u hj
      rcases h4 with h0 | ⟨b, off, e, hc⟩
      · omega
      · obtain rfl : ad = ⟨b, off, none⟩ := by simpa using e
        rw [add_at]; exact hc j (by omega)
    · intro u hu
      simp only [kcells, List.mem_map] at hu
      obtain ⟨n, _, rfl⟩ := hu
      rfl
    · intro v' w' hown' hg _
      obtain ⟨a', c', rfl⟩ := slice_of_owns hown'
      refine h a' c' w' (by rw [kcells_append]; exact hown') (hbel.grown hg hB (fun k hk => (hown.lt k hk).1)) (Nat.le_trans hB hg.size)

theorem append_u64 {w0 w : World} {B : Nat} {ops : Array Oper} {rest : List Oper} {o : Oper} {a : Act} {Q : Exit → Act → World → Prop} (hgd : o.guard = none) (s x : Operand)
    (ho : o.op = .call { callee := .builtin .append, args := #[s, x], argTypes := #[68, 68] })
    (v : Value) (n : Nat) (xs : List Nat) (hs : a.eval s = v) (hown : w.ownsRow B 51 1 v n (kcells .u64 xs))
    (ad : Option Addr) (m c : Nat) (bs : List Nat) (hx : a.eval x = .slice ad m c) (hrow : Row .u64 w ad m bs) (hnil : ad = none → m = 0 ∧ c = 0)
    (hnm : n + m ≤ 1000000000000) (hbel : Below B w0 w) (hB : B ≤ w.heap.size)
    (h : ∀ a' c' w', w'.ownsRow B 51 1 (.slice a' (n + m) c') (n + m) (kcells .u64 (xs ++ bs)) → Below B w0 w' → B ≤ w'.heap.size → wpList Try.prog ops Q rest (a.put o.dst (.slice a' (n + m) c')) w') : wpList Try.prog ops Q (o :: rest) a w := by
  obtain ⟨i0, hi, hz0, hz1, hz2⟩ := info_parts Try.info51
  obtain ⟨h1, h2, h3, h4⟩ := hrow
  cases ad with
  | none =>
    obtain ⟨rfl, rfl⟩ := hnil rfl
    obtain rfl : bs = [] := List.length_eq_zero_iff.mp h1
    refine wpList_append_own_none hgd s x 68 ho B 51 i0 1 Try.underlying68 hi v n (kcells .u64 xs) hs hown hx ?_
    obtain ⟨a', c', rfl⟩ := slice_of_owns hown
    exact h a' c' w (by simpa using hown) hbel hB
  | some ad =>
    refine wpList_append_own w hgd s x 68 ho B 51 i0 (.int .u64 0) 1 8 Try.underlying68 hi hz0 hz1 hz2 rfl (by decide) v n (kcells .u64 xs) hs hown ad m c (kcells .u64 bs) hx (by rw [kcells_length]; omega) ?_ ?_ (by unfold maxLen; omega) (by omega) hB ?_
    · intro j u hj
      obtain ⟨hlt, rfl⟩ := kcells_get .u64 bs j u hj
      rcases h4 with h0 | ⟨b, off, e, hc⟩
      · omega
      · obtain rfl : ad = ⟨b, off, none⟩ := by simpa using e
        rw [add_at]; exact hc j (by omega)
    · intro u hu
      simp only [kcells, List.mem_map] at hu
      obtain ⟨n, _, rfl⟩ := hu
      rfl
    · intro v' w' hown' hg _
      obtain ⟨a', c', rfl⟩ := slice_of_owns hown'
      refine h a' c' w' (by rw [kcells_append]; exact hown') (hbel.grown hg hB (fun k hk => (hown.lt k hk).1)) (Nat.le_trans hB hg.size)

/-- what a call that makes a row tells: the row is its own, what was there is as it was -/
def Made (k : IntKind) (e : TypeId) (w : World) (bs : List Nat) (en : Ending) (w' : World) : Prop :=
  ∃ a c, en = .returned (.slice a bs.length c) ∧ w'.ownsRow w.heap.size e 1 (.slice a bs.length c) bs.length (kcells k bs) ∧ Below w.heap.size w w'

set_option maxRecDepth 100000 in
set_option maxHeartbeats 400000 in
theorem one_low (u : Nat) (w : World) (h : u < 128) : Calls Try.prog 25 #[.int .u64 u] w (Made .u8 5 w (Va.one u)) := by
  have h1 := owns_lit w w.heap.size 5 [.int .u8 (u : Nat)] 1 rfl (Nat.le_refl _) (by omega)
  have h2 : Below w.heap.size w (w.alloc (.cells #[.int .u8 (u : Nat)] 5)) := (Below.refl _ _).alloc (Nat.le_refl _) _
  rw [Va.one_lo h]
  go_enter Try.func25, Try.ntmps25
  go_wp2
  go_ret
  exact ⟨_, _, rfl, h1, h2⟩

set_option maxRecDepth 100000 in
set_option maxHeartbeats 400000 in
theorem one_any : ∀ (k u : Nat) (w : World), u ≤ k → u < 18446744073709551616 → Calls Try.prog 25 #[.int .u64 u] w (Made .u8 5 w (Va.one u)) := by
  intro k
  induction k with
  | zero => exact fun u w hu _ => one_low u w (by omega)
  | succ k ih =>
    intro u w hu hu64
    by_cases h : u < 128
    · exact one_low u w h
    · have hc := fun w => ih (u / 128) w (by omega) (by omega)
      have e1 : ((u / 128 : Nat) : Int) = (u : Int) / 128 := by omega
      simp only [e1] at hc
      clear e1 ih
      rw [Va.one_hi h]
      have hlen := Va.one_len10 (u := u / 128) (by omega)
      have hsm := Va.one_small (u / 128)
      generalize Va.one (u / 128) = r at *
      have h1 := owns_lit w w.heap.size 5 [.int .u8 ((u : Int) % 128 + 128)] 1 rfl (Nat.le_refl _) (by omega)
      have h2 : Below w.heap.size w (w.alloc (.cells #[.int .u8 ((u : Int) % 128 + 128)] 5)) := (Below.refl _ _).alloc (Nat.le_refl _) _
      have e2 : Hid (kcells .u8 [u % 128 + 128] = [.int .u8 ((u : Int) % 128 + 128)]) := (by simp [kcells] : kcells .u8 [u % 128 + 128] = [.int .u8 ((u : Int) % 128 + 128)])
      go_enter Try.func25, Try.ntmps25
      go_wp2_with (first | (go_at_call 25; refine (hc _).mono ?_; rintro e w1 ⟨a1, c1, rfl, hown1, hbel1⟩) | (at_builtin; have := hown1; go_must (obtain ⟨hr1, hn1, _⟩ := row_of_owns hown1 hsm (by omega); refine append_u8 (w0 := w) rfl (.tmp 12) (.tmp 15) rfl _ 1 [u % 128 + 128] rfl (by rw [e2.out]; exact owns_below h1 hbel1) a1 _ c1 r rfl hr1 hn1 (by omega) (h2.trans (hbel1.mono (by simp))) (Nat.le_trans h2.size hbel1.size) ?_; intro a2 c2 w2 hown2 hbel2 hsz2)))
      go_ret
      refine ⟨a2, c2, ?_, ?_, hbel2⟩
      · rw [List.length_cons, Nat.add_comm]; rfl
      · rw [List.length_cons, Nat.add_comm]; exact hown2
end Go.Proofs.Ytjllglpjghcplaa
