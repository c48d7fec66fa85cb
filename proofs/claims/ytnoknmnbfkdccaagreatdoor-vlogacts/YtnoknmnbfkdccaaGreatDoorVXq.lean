/- From the reading of an argument that is a slice of acts with a log to the acts. -/
import Derived.Test.YtnoknmnbfkdccaaGreatDoorVLn
import Derived.Test.YtnoknmnbfkdccaaGreatDoorOT
import Derived.Test.YtnoknmnbfkdccaaGreatDoorLD
import Derived.Deep.SlicePairs
namespace Go.Proofs.YtnoknmnbfkdccaaGreatDoor
open Go.ChangeShapes Go.WideShapes Go.RowKit

/-- an act with a log as it lies in a row -/
structure LH where
  d : Int
  n : Int
  b : VH
  q : Po.P
def lhz : LH := ⟨0, 0, ⟨none, 0, 0⟩, Po.zero⟩
def lhe (x : LH) : List Value := [.int .i64 x.d, .int .i64 x.n, .slice x.b.a x.b.n x.b.c, .int .i64 x.q.1, .int .i64 x.q.2.1, .int .i64 x.q.2.2.1, .int .u32 (x.q.2.2.2 : Nat)]
/-- what an act is, with its bytes -/
structure IsL (w : World) (x : LH) (bs : List Nat) : Prop where
  bytes : VAt w x.b bs
  n : -9223372036854775808 ≤ x.n ∧ x.n ≤ 9223372036854775807
  q : Po.Fits x.q
  len : x.b.n ≤ 140737488355328
theorem IsL.below {w w' : World} {B : Nat} {x : LH} {bs : List Nat} (h : IsL w x bs) (hb : Below B w w') (hB : w.heap.size ≤ B) : IsL w' x bs := ⟨h.1.below hb hB, h.2, h.3, h.4⟩
def LIn (w : World) (a : Option Addr) (n c : Nat) (hs : List LH) : Prop := TRow 7 lhe lhz w a n hs ∧ (∀ x ∈ hs, ∃ bs, IsL w x bs) ∧ (a = none → n = 0 ∧ c = 0) ∧ n ≤ c ∧ n ≤ 140737488355328
theorem LIn.below {w w' : World} {B : Nat} {a : Option Addr} {n c : Nat} {hs : List LH} (h : LIn w a n c hs) (hb : Below B w w') (hB : w.heap.size ≤ B) : LIn w' a n c hs := ⟨h.1.below hb hB, fun x hx => (h.2.1 x hx).imp fun _ hb' => hb'.below hb hB, h.2.2⟩

set_option maxRecDepth 100000 in
/-- the size of a slice that is the third of four fields of an element -/
theorem sized_third {H : Type} {P : Program} {ts : List TypeId} {ds : List (DataW H)} (h : (DataW.weightsEach P ts ds).all (· ≤ reachBytes) = true) {j : Nat} {t e q : TypeId} {f0 f1 f2 f3 : Field} {elems spare e' sp' : List (DataW H)} {d0 d1 d3 : DataW H}
    (ht : ts[j]? = some t) (hd : ds[j]? = some (.slice elems spare)) (hu : P.underlying t = some (.slice e)) (hs : P.underlying e = some (.struct #[f0, f1, f2, f3])) (hf : P.underlying f2.type = some (.slice q)) (hx : DataW.agg [d0, d1, .slice e' sp', d3] ∈ elems) :
    (e'.length + sp'.length) * P.bytesOf q ≤ reachBytes := by
  have weightsIn : ∀ {l : List (DataW H)} {d : DataW H}, d ∈ l → ∀ n ∈ d.weights P e, n ∈ DataW.weightsAll P e l := by
    intro l
    induction l with
    | nil => intro d hd; cases hd
    | cons x l ih =>
      intro d hd n hn
      simp only [DataW.weightsAll, List.mem_append]
      rcases List.mem_cons.1 hd with rfl | hd
      · exact .inl hn
      · exact .inr (ih hd n hn)
  refine of_decide_eq_true (List.all_eq_true.1 h _ (DataW.weights_mem_each ht hd _ ?_))
  simp only [DataW.weights, hu, List.mem_cons, List.mem_append]
  refine Or.inr (Or.inl (weightsIn hx _ ?_))
  simp only [DataW.weights, hs, List.map_cons, List.map_nil, DataW.weightsEach, List.mem_append]
  simp [hf]
set_option maxRecDepth 100000 in
theorem lbytes_of {H : Type} {enc : TypeId × Value → H} {W : World} {fuel : Nat} {v : Value} {y : DataW H × List MemPlace}
    (h : DataW.trod enc Tryz.prog W 0 (fun _ => true) true fuel 39 [v] = some y) (hs : ∀ e' sp', y.1 = .slice e' sp' → e'.length + sp'.length ≤ 140737488355328) : ∃ (x : VH) (bs : List Nat), v = .slice x.a x.n x.c ∧ VAt W x bs ∧ x.n ≤ 140737488355328 := by
  rcases open_ints Tryz.underlying39 Tryz.underlying5 (by kernel_rfl) h with ⟨hcs, _⟩ | ⟨x, l, c, zs, hcs, _, hl, hm, hz, hd, hcell, hwz⟩
  · simp only [List.cons.injEq, and_true] at hcs
    subst hcs
    exact ⟨⟨none, 0, 0⟩, [], rfl, ⟨⟨rfl, by decide, by simp, .inl rfl⟩, fun _ => ⟨rfl, rfl⟩, Nat.le_refl _, .inl ⟨rfl, rfl⟩⟩, by decide⟩
  · simp only [List.cons.injEq, and_true] at hcs
    subst hcs
    simp only [if_true] at hz
    have hsz := hs (lits .u8 (zs.take l)) (lits .u8 (zs.drop l)) (by rw [hd])
    have hl' : l + (c - l) ≤ 140737488355328 := by
      simp only [lits, List.length_map, List.length_take, List.length_drop, hz] at hsz
      omega
    have hrow : IsRow .u8 W (some x) l c zs := .inr ⟨x, rfl, hl, hm, hz, hcell, hwz⟩
    obtain ⟨bs, hbs⟩ := row_of (.inl rfl) hrow (by omega)
    exact ⟨⟨some x, l, c⟩, bs, rfl, ⟨hbs, (fun h => by cases h), hl, shape_of hrow⟩, by show l ≤ _; omega⟩

set_option maxRecDepth 100000 in
theorem lact_at {H : Type} {enc : TypeId × Value → H} {W : World} {n : Nat} {cs : List Value} {y : DataW H × List MemPlace} (hlen : cs.length = 7)
    (h : DataW.trod enc Tryz.prog W 0 (fun _ => true) true n 44 cs = some y)
    (hs : ∀ d0 d1 d3 e' sp', y.1 = .agg [d0, d1, .slice e' sp', d3] → e'.length + sp'.length ≤ 140737488355328) : ∃ x : LH, lhe x = cs ∧ ∃ bs, IsL W x bs := by
  match cs, hlen with
  | [V0, V1, V2, V3, V4, V5, V6], _ =>
  obtain ⟨y0, y1, y2, y3, m, hx, _, t0, t1, t2, t3⟩ := Go.Joins.trod_struct4 Tryz.underlying44 h
  have k1 : Tryz.prog.cellsOf 3 = 1 := by kernel_rfl
  have k2 : Tryz.prog.cellsOf 39 = 1 := by kernel_rfl
  have k3 : Tryz.prog.cellsOf 42 = 4 := by kernel_rfl
  simp only [k1, k2, k3] at t0 t1 t2 t3
  have t0' : DataW.trod enc Tryz.prog W 0 (fun _ => true) true m 3 [V0] = some y0 := by simpa using t0
  have t1' : DataW.trod enc Tryz.prog W 0 (fun _ => true) true m 3 [V1] = some y1 := by simpa using t1
  have t2' : DataW.trod enc Tryz.prog W 0 (fun _ => true) true m 39 [V2] = some y2 := by simpa using t2
  have t3' : DataW.trod enc Tryz.prog W 0 (fun _ => true) true m 42 [V3, V4, V5, V6] = some y3 := by simpa using t3
  obtain ⟨d, e0, _, _⟩ := DataW.trod_int Tryz.underlying3 t0'
  obtain ⟨n1, e1, _, w1⟩ := DataW.trod_int Tryz.underlying3 t1'
  obtain ⟨x, bs, e2, hv, hvn⟩ := lbytes_of t2' (fun e' sp' he => hs y0.1 y1.1 y3.1 e' sp' (by rw [hx, he]))
  obtain ⟨z0, z1, z2, z3, n', _, _, s0, s1, s2, s3⟩ := Go.Joins.trod_struct4 Tryz.underlying42 t3'
  obtain ⟨q, hq, e3, e4, e5, e6⟩ := point_cells (n := n') (V0 := V3) (V1 := V4) (V2 := V5) (V3 := V6) s0 s1 s2 s3
  simp only [List.cons.injEq, and_true] at e0 e1
  subst e0; subst e1; subst e2; subst e3; subst e4; subst e5; subst e6
  exact ⟨⟨d, n1, x, q⟩, rfl, bs, ⟨hv, i64_in w1, hq, hvn⟩⟩

set_option maxRecDepth 100000 in
theorem open_vacts {H : Type} {enc : TypeId × Value → H} {W : World} {fuel : Nat} {cs : List Value} {d : DataW H} {p : List MemPlace} {a : Option Addr} {len cap : Nat} {ts : List TypeId} {ds : List (DataW H)} {j : Nat}
    (hf : DataW.trod enc Tryz.prog W 0 (fun _ => true) true fuel 23 cs = some (d, p)) (hcs : cs = [.slice a len cap])
    (hsz : (DataW.weightsEach Tryz.prog ts ds).all (· ≤ reachBytes) = true) (ht : ts[j]? = some 23) (hd : ds[j]? = some d) : ∃ hs, LIn W a len cap hs := by
  have hrb : reachBytes ≤ 140737488355328 := Nat.le_of_lt reachBytes_lt
  have hc7 : Tryz.prog.cellsOf 44 = 7 := by kernel_rfl
  rcases Go.Deep.open_slice Tryz.underlying23 hf with ⟨h0, _⟩ | ⟨x, l, c, m, n, D, Pl, h0, _, hl, hm, hmm, hx, hall⟩
  · rw [hcs] at h0
    simp only [List.cons.injEq, Value.slice.injEq, and_true] at h0
    obtain ⟨rfl, rfl, rfl⟩ := h0
    exact ⟨[], TRow.nil _ _, (fun x hx => by cases hx), (fun _ => ⟨rfl, rfl⟩), by omega, by omega⟩
  · rw [hcs] at h0
    simp only [List.cons.injEq, Value.slice.injEq, and_true] at h0
    obtain ⟨rfl, rfl, rfl⟩ := h0
    simp only [if_true] at hmm
    subst hmm
    simp only [Prod.mk.injEq] at hx
    obtain ⟨rfl, _⟩ := hx
    have hlen : len ≤ 140737488355328 := by
      have := sized_slice hsz ht hd Tryz.underlying23
      simp only [List.length_map, List.length_range] at this
      have hb : Tryz.prog.bytesOf 44 = 72 := by kernel_rfl
      rw [hb] at this
      omega
    rw [hc7] at hall
    rcases Nat.eq_zero_or_pos m with h0 | h0
    · obtain rfl : len = 0 := by omega
      exact ⟨[], TRow.nil _ _, (fun x hx => by cases hx), (fun h => by cases h), by omega, by omega⟩
    · obtain ⟨b, off, spot⟩ := x
      have hsp : spot = none := by
        obtain ⟨cs', h1, _⟩ := hall 0 h0
        obtain ⟨_, hlen', hcell⟩ := World.cells?_some h1
        have q0 := hcell 0 (by omega)
        have : 0 < cs'.length := by omega
        rw [List.getElem?_eq_getElem this] at q0
        simpa [Addr.add] using World.cell?_spot q0
      subst hsp
      have hfr : ∀ i, i < len → ∃ q : LH, TAt lhe W b (off + i * 7) q ∧ ∃ bs, IsL W q bs := by
        intro i hi
        obtain ⟨cs', h1, h2⟩ := hall i (by omega)
        obtain ⟨_, hlen', hcell⟩ := World.cells?_some h1
        obtain ⟨x, hxe, hx⟩ := lact_at hlen' h2 (fun d0 d1 d3 e' sp' hD => by
          have := sized_third (d0 := d0) (d1 := d1) (d3 := d3) (e' := e') (sp' := sp') hsz ht hd Tryz.underlying23 Tryz.underlying44 Tryz.underlying39 (by
            simp only [List.mem_map, List.mem_range]
            exact ⟨i, hi, hD⟩)
          have hb : Tryz.prog.bytesOf 5 = 1 := by kernel_rfl
          rw [hb] at this
          omega)
        refine ⟨x, fun j v hj => ?_, hx⟩
        rw [hxe] at hj
        have hj' : j < 7 := by
          rcases Nat.lt_or_ge j 7 with h' | h'
          · exact h'
          · rw [List.getElem?_eq_none (by omega)] at hj; cases hj
        have := hcell j hj'
        rw [hj] at this
        simp only [add_at] at this
        exact this
      haveI : Inhabited LH := ⟨lhz⟩
      obtain ⟨f, hf⟩ := Go.Deep.choose_lt hfr
      refine ⟨(List.range len).map f, ⟨by simp, by omega, .inr ⟨b, off, rfl, fun i hi => ?_⟩⟩, ?_, (fun h => by cases h), hl, hlen⟩
      · rw [show ((List.range len).map f).getD i lhz = f i by simp [hi]]
        exact (hf i hi).1
      · intro x hx
        obtain ⟨i, hi, rfl⟩ := List.mem_map.1 hx
        exact (hf i (List.mem_range.1 hi)).2
end Go.Proofs.YtnoknmnbfkdccaaGreatDoor

/- Are acts with a log not too great? -/
namespace Go.Proofs.YtnoknmnbfkdccaaGreatDoor
open Go.RowKit Go.Shelf

/-- all bytes of acts -/
def Vl.lsum (l : List LH) : Nat := (l.map fun x => x.b.n).sum
def Vl.lightL (l : List LH) : Bool := decide (l.length ≤ 40 ∧ Vl.lsum l ≤ 20000)
theorem Vl.lsum_next (l : List LH) (k : Nat) (h : k < l.length) : Vl.lsum (l.take (k + 1)) = Vl.lsum (l.take k) + (l.getD k lhz).b.n := by
  unfold Vl.lsum
  rw [gtake lhz h, List.map_append, List.sum_append]; simp
theorem Vl.lsum_le (l : List LH) (k : Nat) : Vl.lsum (l.take k) ≤ Vl.lsum l := by
  unfold Vl.lsum
  conv => rhs; rw [← List.take_append_drop k l, List.map_append, List.sum_append]
  omega
theorem LIn.cell {w : World} {a : Option Addr} {n c : Nat} {hs : List LH} (h : LIn w a n c hs) (hn : 0 < n) :
    ∃ b off, a = some ⟨b, off, none⟩ ∧ ∀ i, i < n → w.cell? ⟨b, off + i * 7, none⟩ = some (.int .i64 (hs.getD i lhz).d) ∧ w.cell? ⟨b, off + i * 7 + 1, none⟩ = some (.int .i64 (hs.getD i lhz).n) ∧ w.cell? ⟨b, off + i * 7 + 2, none⟩ = some (.slice (hs.getD i lhz).b.a (hs.getD i lhz).b.n (hs.getD i lhz).b.c) ∧
      w.cell? ⟨b, off + i * 7 + 3, none⟩ = some (.int .i64 (hs.getD i lhz).q.1) ∧ w.cell? ⟨b, off + i * 7 + 4, none⟩ = some (.int .i64 (hs.getD i lhz).q.2.1) ∧ w.cell? ⟨b, off + i * 7 + 5, none⟩ = some (.int .i64 (hs.getD i lhz).q.2.2.1) ∧ w.cell? ⟨b, off + i * 7 + 6, none⟩ = some (.int .u32 ((hs.getD i lhz).q.2.2.2 : Nat)) := by
  obtain ⟨b, off, rfl, hc⟩ := h.1.at hn
  exact ⟨b, off, rfl, fun i hi => ⟨hc i hi 0 _ rfl, hc i hi 1 _ rfl, hc i hi 2 _ rfl, hc i hi 3 _ rfl, hc i hi 4 _ rfl, hc i hi 5 _ rfl, hc i hi 6 _ rfl⟩⟩
set_option maxRecDepth 100000 in
set_option maxHeartbeats 4000000 in
theorem vlightL_any (a : Option Addr) (len cap : Nat) (hs : List LH) (w : World) (hi : LIn w a len cap hs) :
    Calls Tryz.prog 6 #[.slice a len cap] w fun e w' => e = .returned (.bool (Vl.lightL hs)) ∧ w' = w := by
  have hll : Hid (hs.length = len) := hi.1.1
  have hbig := hi.2.2.2.2
  obtain ⟨R, hB⟩ : ∃ R, R = Vl.lightL hs := ⟨_, rfl⟩
  rw [← hB]
  have HB : Hid (R = Vl.lightL hs) := hB
  clear hB
  go_enter Tryz.func6, Tryz.ntmps6
  go_wp2
  go_loop [3, 4] (fun s i => ∃ k n : Nat, k ≤ len ∧ k ≤ 41 ∧ n ≤ 140737488375328 ∧ s = .int .i64 n ∧ i = .int .i64 k ∧ Hid (n = Vl.lsum (hs.take k))) (fun _ i => len - (RowKit.intOf i).toNat)
  case atStart => exact ⟨0, 0, by omega, by omega, by omega, rfl, rfl, (rfl : 0 = Vl.lsum (hs.take 0))⟩
  case round =>
    obtain ⟨k, n, hk, hk41, hnb, rfl, rfl, hn⟩ := hrel
    by_cases hgo : k < len ∧ k ≤ 40 ∧ n ≤ 20000
    · obtain ⟨hlt, hlt40, hn2⟩ := hgo
      obtain ⟨b, off, rfl, hc⟩ := hi.cell (by omega)
      obtain ⟨_, _, hcell, _⟩ := hc k hlt
      have hm : hs.getD k lhz ∈ hs := by
        have : hs.getD k lhz = hs[k]'(by rw [hll.out]; exact hlt) := by simp [hll.out, hlt]
        rw [this]; exact List.getElem_mem _
      obtain ⟨bs, hI⟩ := hi.2.1 _ hm
      have hL := hI.len
      have H2 : Hid (n + (hs.getD k lhz).b.n = Vl.lsum (hs.take (k + 1))) := (by rw [Vl.lsum_next hs k (by rw [hll.out]; exact hlt), ← hn.out] : n + (hs.getD k lhz).b.n = Vl.lsum (hs.take (k + 1)))
      clear hc hm hI
      generalize (hs.getD k lhz).b = hh at *
      obtain ⟨A, L, C⟩ := hh
      simp only at hcell hL H2
      have i1 : (k : Int) < (len : Int) := by omega
      have i2 : (k : Int) ≤ 40 := by omega
      have i3 : (n : Int) ≤ 20000 := by omega
      have i4 : wrap64 ((n : Int) + (L : Int)) = ((n + L : Nat) : Int) := by unfold wrap64; omega
      have i5 : IntKind.i64.wrap ((n : Int) + (L : Int)) = ((n + L : Nat) : Int) := by rw [IntKind.wrap_i64]; omega
      go_wp2
      go_round
      case rel => exact ⟨k + 1, n + L, by omega, by omega, by omega, by go_num, by go_num, H2⟩
      case measure => simp [RowKit.intOf]; omega
    · have hle := Vl.lsum_le hs k
      rw [← hn.out] at hle
      have HR : Hid (R = decide (len ≤ 40 ∧ n ≤ 20000)) := (by
        rw [HB.out, Vl.lightL, hll.out]
        refine decide_eq_decide.mpr ⟨fun ⟨h1, h2⟩ => ⟨h1, by omega⟩, fun ⟨h1, h2⟩ => ⟨h1, ?_⟩⟩
        have hkl : k = len := by omega
        have : hs.take k = hs := List.take_of_length_le (by rw [hll.out, hkl]; exact Nat.le_refl _)
        rw [this] at hn
        rw [← hn.out]; exact h2 : R = decide (len ≤ 40 ∧ n ≤ 20000))
      clear hle hn
      by_cases h1 : k < len
      · by_cases h2 : k ≤ 40
        · have i1 : (k : Int) < (len : Int) := by omega
          have i2 : (k : Int) ≤ 40 := by omega
          have i3 : ¬ ((n : Int) ≤ 20000) := by omega
          go_wp2
          all_goals go_ret
          all_goals exact ⟨by rw [HR.out]; first | (simp; done) | (simp; omega), rfl⟩
        · have i1 : (k : Int) < (len : Int) := by omega
          have i2 : ¬ ((k : Int) ≤ 40) := by omega
          have i3 : ¬ ((len : Int) ≤ 40) := by omega
          go_wp2
          all_goals go_ret
          all_goals exact ⟨by rw [HR.out]; first | (simp; done) | (simp; omega), rfl⟩
      · have i1 : ¬ ((k : Int) < (len : Int)) := by omega
        by_cases h3 : len ≤ 40
        · have i3 : (len : Int) ≤ 40 := by omega
          by_cases h4 : n ≤ 20000
          · have i4 : (n : Int) ≤ 20000 := by omega
            go_wp2
            all_goals go_ret
            all_goals exact ⟨by rw [HR.out]; first | (simp; done) | (simp; omega), rfl⟩
          · have i4 : ¬ ((n : Int) ≤ 20000) := by omega
            go_wp2
            all_goals go_ret
            all_goals exact ⟨by rw [HR.out]; first | (simp; done) | (simp; omega), rfl⟩
        · have i3 : ¬ ((len : Int) ≤ 40) := by omega
          go_wp2
          all_goals go_ret
          all_goals exact ⟨by rw [HR.out]; first | (simp; done) | (simp; omega), rfl⟩
end Go.Proofs.YtnoknmnbfkdccaaGreatDoor
