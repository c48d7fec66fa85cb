/- What the program's Put and the reference's Put do. -/
import Derived.Test.YtjllglpjghcplaaW4
import Derived.Deep.RegionHeld3
namespace Go.Proofs.Ytjllglpjghcplaa
open Go.RowKit

theorem put_take (l : List Nat) (k : Nat) (h : k < l.length) : Va.put (l.take (k + 1)) = Va.put (l.take k) ++ Va.one (l.getD k 0) := by
  rw [Va.take_snoc l k h, Va.put_snoc]
theorem put_take_len (l : List Nat) (hs : ∀ u ∈ l, u < lim .u64) (k : Nat) (hk : k ≤ 1000) : (Va.put (l.take k)).length ≤ 10000 := by
  have h1 := Va.put_len (l.take k) (fun u hu => hs u (List.mem_of_mem_take hu))
  have h2 : (l.take k).length ≤ k := by rw [List.length_take]; omega
  omega
theorem or128 : ∀ x : Fin 256, x.val ||| 128 = x.val % 128 + 128 := by decide +kernel
theorem or128_walk (u : Nat) : bits .or .u8 ((u : Int) % 256) 128 = ((u % 128 + 128 : Nat) : Int) := by
  have h1 : (u : Int) % 256 = ((u % 256 : Nat) : Int) := by omega
  have h2 := u8_or_nat (u % 256) 128 (by omega) (by omega)
  have h3 := or128 ⟨u % 256, by omega⟩
  simp only at h3
  rw [h1]
  have h4 : ((128 : Nat) : Int) = 128 := rfl
  rw [h4] at h2
  rw [h2, h3]; omega

set_option maxRecDepth 100000 in
set_option maxHeartbeats 1000000 in
theorem put_any (a : Option Addr) (len cap : Nat) (l : List Nat) (w : World) (hlen : len ≤ 1000) (hr : Row .u64 w a len l) :
    Calls Try.prog 21 #[.slice a len cap] w (Made .u8 5 w (Va.put l)) := by
  have hll : Hid (l.length = len) := hr.1
  go_enter Try.func21, Try.ntmps21
  go_wp2
  go_loop [3, 11] (fun t i => ∃ k : Nat, k ≤ len ∧ i = .int .i64 k ∧ t = .int .i64 ((Va.put (l.take k)).length : Nat)) (fun _ i => len - (intOf i).toNat)
  case atStart => exact ⟨0, by omega, rfl, rfl⟩
  case round =>
    obtain ⟨k, hk, rfl, rfl⟩ := hrel
    have hb := put_take_len l hr.2.2.1 k (by omega)
    by_cases hlt : k < len
    · obtain ⟨b, off, rfl, hc⟩ := hr.at (by omega)
      have hcell := hc k hlt
      have hx := getD_lt64 hr.2.2.1 k
      have H : Hid ((Va.put (l.take (k + 1))).length = (Va.put (l.take k)).length + Va.size (l.getD k 0)) := (by
        rw [put_take l k (by rw [hll.out]; exact hlt), List.length_append, Va.size_one _ hx] : (Va.put (l.take (k + 1))).length = (Va.put (l.take k)).length + Va.size (l.getD k 0))
      have hs10 : Va.size (l.getD k 0) ≤ 10 := by rw [Va.size_one _ hx]; exact Va.one_len10 hx
      clear hc hr
      generalize l.getD k 0 = x at *
      generalize (Va.put (l.take k)).length = n at *
      go_wp2_with (go_at_call 36; refine (size_any _ _ (by omega)).mono ?_; rintro e w' ⟨rfl, rfl⟩)
      go_round
      case rel => exact ⟨k + 1, by omega, by go_num, val_int (by rw [H.out]; omega)⟩
      case measure => simp [intOf]; omega
    · have hkl : Hid (l.take k = l) := (List.take_of_length_le (by rw [hll.out]; omega) : l.take k = l)
      rw [hkl.out] at hb ⊢
      generalize (Va.put l).length = N at *
      obtain ⟨i0, hi0, hz0, hz1, hz2⟩ := info_parts Try.info5
      clear hkl
      go_wp2_with (at_make; refine wpList_make_own _ rfl _ _ 26 rfl w.heap.size 5 i0 (.int .u8 0) 1 Try.underlying26 hi0 hz0 hz1 .i64 .i64 _ N rfl rfl rfl (by rw [hz2]; omega) (by unfold maxLen; omega) (Nat.le_refl _) ?_; intro w2 hmade hg)
      have hbel0 : Below w.heap.size w w2 := (Below.refl _ _).grown hg (Nat.le_refl _) (fun k h => by cases h)
      clear hg hi0 hz0 hz1 hz2 hk hlt
      go_loopw [6, 24] (fun v i wr => ∃ (k : Nat) (a' : Option Addr) (n c : Nat), k ≤ len ∧ i = .int .i64 k ∧ v = .slice a' n c ∧ Hid (n = (Va.put (l.take k)).length) ∧ wr.ownsRow w.heap.size 5 1 (.slice a' n c) n (kcells .u8 (Va.put (l.take k))) ∧ Below w.heap.size w wr)
        (fun _ i _ => len - (intOf i).toNat)
      case atStart => exact ⟨0, _, 0, N, by omega, rfl, rfl, (rfl : 0 = (Va.put (l.take 0)).length), hmade, hbel0⟩
      case round =>
        obtain ⟨k, a', n, c, hk, rfl, rfl, hn, hown, hbel⟩ := hrel
        clear hmade hbel0
        by_cases hlt : k < len
        · have hr' := hr.below hbel (Nat.le_refl _)
          obtain ⟨b, off, rfl, hc⟩ := hr'.at (by omega)
          have hcell := hc k hlt
          have hx := getD_lt64 hr.2.2.1 k
          have H : Hid (Va.put (l.take (k + 1)) = Va.put (l.take k) ++ Va.one (l.getD k 0)) := put_take l k (by rw [hll.out]; exact hlt)
          have hb1 : Hid ((Va.put (l.take (k + 1))).length ≤ 10000) := put_take_len l hr.2.2.1 (k + 1) (by omega)
          clear hc hr'
          generalize l.getD k 0 = x at *
          go_wp2
          go_loopw [6, 8] (fun v t wr => ∃ (a' : Option Addr) (n c u : Nat) (d : List Nat), v = .slice a' n c ∧ t = .int .u64 u ∧ u < 18446744073709551616 ∧ wr.ownsRow w.heap.size 5 1 (.slice a' n c) n (kcells .u8 d) ∧ Below w.heap.size w wr ∧ Hid (n = d.length) ∧ Hid (Va.put (l.take (k + 1)) = d ++ Va.one u))
            (fun _ t _ => (intOf t).toNat)
          case atStart => exact ⟨a', n, c, x, Va.put (l.take k), rfl, rfl, hx, hown, hbel, hn, H⟩
          case round =>
            obtain ⟨a2, n2, c2, u, d, rfl, rfl, hu, hown2, hbel2, hn2, H2⟩ := hrel
            have hd : n2 ≤ 10000 := by have := hb1.out; rw [H2.out, List.length_append, ← hn2.out] at this; omega
            have hsz := hbel2.size
            clear hown hbel H hcell
            by_cases h128 : u < 128
            · have H3 : Hid (Va.put (l.take (k + 1)) = d ++ [u]) := (by rw [H2.out, Va.one_lo h128] : Va.put (l.take (k + 1)) = d ++ [u])
              clear H2
              go_wp2_with (at_builtin; refine append_u8 (w0 := w) rfl (.tmp 38) (.tmp 41) rfl _ n2 d rfl (hown2.alloc _) _ 1 1 [u] rfl (row_new .u8 _ 5 u (by show u < 256; omega)) (fun h => by cases h) (by omega) (hbel2.alloc hsz _) (by simp; omega) ?_; intro a3 c3 w3 hown3 hbel3 hsz3)
              go_roundw
              case rel => exact ⟨k + 1, a3, n2 + 1, c3, by omega, by go_num, rfl, (by rw [H3.out, List.length_append, ← hn2.out]; rfl : n2 + 1 = (Va.put (l.take (k + 1))).length), by rw [H3.out]; exact hown3, hbel3⟩
              case measure => simp [intOf]; omega
            · have H3 : Hid (Va.put (l.take (k + 1)) = d ++ [u % 128 + 128] ++ Va.one (u / 128)) := (by rw [H2.out, Va.one_hi h128]; simp : Va.put (l.take (k + 1)) = d ++ [u % 128 + 128] ++ Va.one (u / 128))
              clear H2
              have hw : Hid (_ = _) := or128_walk u
              go_wp2_with (at_builtin; refine append_u8 (w0 := w) rfl (.tmp 30) (.tmp 34) rfl _ n2 d rfl (hown2.alloc _) _ 1 1 [u % 128 + 128] rfl (by rw [hw.out]; exact row_new .u8 _ 5 (u % 128 + 128) (by show _ < 256; omega)) (fun h => by cases h) (by omega) (hbel2.alloc hsz _) (by simp; omega) ?_; intro a3 c3 w3 hown3 hbel3 hsz3)
              go_roundw
              case rel => exact ⟨a3, n2 + 1, c3, u / 128, _, rfl, val_int (by omega), by omega, hown3, hbel3, (by rw [List.length_append, ← hn2.out]; rfl : n2 + 1 = (d ++ [u % 128 + 128]).length), H3⟩
              case measure => simp [intOf]; omega
        · have hkl : Hid (l.take k = l) := (List.take_of_length_le (by rw [hll.out]; omega) : l.take k = l)
          rw [hkl.out] at hown
          have hn' : Hid (n = (Va.put l).length) := (by rw [hn.out, hkl.out] : n = (Va.put l).length)
          clear hn
          go_wp2
          go_ret
          exact ⟨a', c, by rw [← hn'.out]; rfl, by rw [← hn'.out]; exact hown, hbel⟩

set_option maxRecDepth 100000 in
set_option maxHeartbeats 1000000 in
theorem refput_any (a : Option Addr) (len cap : Nat) (l : List Nat) (w : World) (hlen : len ≤ 1000) (hr : Row .u64 w a len l) :
    Calls Try.prog 51 #[.slice a len cap] w (Made .u8 5 w (Va.put l)) := by
  have hll : Hid (l.length = len) := hr.1
  have hbel0 : Below w.heap.size w (w.alloc (.cells #[] 5)) := (Below.refl _ _).alloc (Nat.le_refl _) _
  have hmade := World.ownsRow_made (base := w.heap.size) (e := 5) (size := 1) w #[] 0 (Nat.le_refl _) (by decide) (by simp)
  go_enter Try.func51, Try.ntmps51
  go_wp2
  go_loopw [3, 4] (fun v i wr => ∃ (k : Nat) (a' : Option Addr) (n c : Nat), k ≤ len ∧ i = .int .i64 k ∧ v = .slice a' n c ∧ Hid (n = (Va.put (l.take k)).length) ∧ wr.ownsRow w.heap.size 5 1 (.slice a' n c) n (kcells .u8 (Va.put (l.take k))) ∧ Below w.heap.size w wr)
    (fun _ i _ => len - (intOf i).toNat)
  case atStart => exact ⟨0, _, 0, 0, by omega, rfl, rfl, (rfl : 0 = (Va.put (l.take 0)).length), hmade, hbel0⟩
  case round =>
    obtain ⟨k, a', n, c, hk, rfl, rfl, hn, hown, hbel⟩ := hrel
    clear hmade hbel0
    by_cases hlt : k < len
    · have hr' := hr.below hbel (Nat.le_refl _)
      obtain ⟨b, off, rfl, hc⟩ := hr'.at (by omega)
      have hcell := hc k hlt
      have hx := getD_lt64 hr.2.2.1 k
      have H : Hid (Va.put (l.take (k + 1)) = Va.put (l.take k) ++ Va.one (l.getD k 0)) := put_take l k (by rw [hll.out]; exact hlt)
      have hb := put_take_len l hr.2.2.1 k (by omega)
      rw [← hn.out] at hb
      clear hc hr'
      generalize l.getD k 0 = x at *
      have hl10 := Va.one_len10 hx
      have hsm := Va.one_small x
      have hc1 := fun w => one_any x x w (Nat.le_refl _) hx
      have hsz := hbel.size
      generalize Va.one x = r at *
      go_wp2_with (first | (go_at_call 25; refine (hc1 _).mono ?_; rintro e w1 ⟨a1, c1, rfl, hown1, hbel1⟩) | (at_builtin; have := hown1; go_must (obtain ⟨hr1, hn1, _⟩ := row_of_owns hown1 hsm (by omega); refine append_u8 (w0 := w) rfl (.tmp 12) (.tmp 17) rfl _ n _ rfl (owns_below hown hbel1) a1 _ c1 r rfl hr1 hn1 (by omega) (hbel.trans (hbel1.mono hsz)) (Nat.le_trans hsz hbel1.size) ?_; intro a2 c2 w2 hown2 hbel2 hsz2)))
      go_roundw
      case rel => exact ⟨k + 1, a2, n + r.length, c2, by omega, by go_num, rfl, (by rw [H.out, List.length_append, ← hn.out] : n + r.length = (Va.put (l.take (k + 1))).length), by rw [H.out]; exact hown2, hbel2⟩
      case measure => simp [intOf]; omega
    · have hkl : Hid (l.take k = l) := (List.take_of_length_le (by rw [hll.out]; omega) : l.take k = l)
      rw [hkl.out] at hown
      have hn' : Hid (n = (Va.put l).length) := (by rw [hn.out, hkl.out] : n = (Va.put l).length)
      clear hn
      go_wp2
      go_ret
      exact ⟨a', c, by rw [← hn'.out]; rfl, by rw [← hn'.out]; exact hown, hbel⟩
end Go.Proofs.Ytjllglpjghcplaa

/- What the laws' own test 'awake' does; from the frame's reading to rows. -/
namespace Go.Proofs.Ytjllglpjghcplaa
open Go.RowKit

theorem row_lit (k : IntKind) (w : World) (e : TypeId) (cs : Array Value) (bs : List Nat) (n : Nat) (hcs : cs.toList = kcells k bs) (hn : n = bs.length) (hs : ∀ x ∈ bs, x < lim k) (hb : n ≤ 1000) :
    Row k (w.alloc (.cells cs e)) (some ⟨w.heap.size, 0, none⟩) n bs := by
  refine ⟨hn.symm, by omega, hs, .inr ⟨_, _, rfl, fun i hi => ?_⟩⟩
  have : (w.alloc (.cells cs e)).heap[w.heap.size]? = some (.cells cs e) := heap_alloc_new w _
  simp only [World.cell?, this]
  show (if (none : Option _).isSome then none else cs[0 + i]?) = _
  rw [if_neg (by simp), Nat.zero_add, ← Array.getElem?_toList, hcs]
  simp only [kcells, List.getElem?_map, List.getD_eq_getElem?_getD]
  rw [List.getElem?_eq_getElem (by omega)]; simp
theorem put300 : Va.put [300] = [172, 2] := by
  rw [Va.put_one, Va.one_hi (by omega), Va.one_lo (by omega)]
theorem get300 : Va.get [172, 2, 7] = (300, 2) := by decide +kernel
theorem fold3 : Va.fold (-3) = 5 := by decide

theorem rowA (w : World) : Row .u8 (w.alloc (.cells #[.int .u8 172, .int .u8 2, .int .u8 7] 5)) (some ⟨w.heap.size, 0, none⟩) 3 [172, 2, 7] :=
  row_lit .u8 w 5 _ [172, 2, 7] 3 (by simp [kcells]) rfl (by intro x hx; simp at hx; show x < 256; omega) (by omega)
theorem rowB (w : World) (b : Nat) (hb : w.heap.size = b) : Row .u64 (w.alloc (.cells #[.int .u64 300] 51)) (some ⟨b, 0, none⟩) 1 [300] :=
  hb ▸ row_lit .u64 w 51 _ [300] 1 (by simp [kcells]) rfl (by intro x hx; simp at hx; show x < 18446744073709551616; omega) (by omega)
theorem rowC (w : World) : Row .u8 (w.alloc (.cells #[.int .u8 172, .int .u8 2] 5)) (some ⟨w.heap.size, 0, none⟩) 2 [172, 2] :=
  row_lit .u8 w 5 _ [172, 2] 2 (by simp [kcells]) rfl (by intro x hx; simp at hx; show x < 256; omega) (by omega)
theorem small2 : ∀ x ∈ [172, 2], x < lim .u8 := by intro x hx; simp at hx; show x < 256; omega

/-- what came in, as integers -/
def IsRow (k : IntKind) (w : World) (a : Option Addr) (len cap : Nat) (zs : List Int) : Prop :=
  (a = none ∧ len = 0 ∧ cap = 0 ∧ zs = []) ∨
  ∃ x, a = some x ∧ len ≤ cap ∧ cap ≤ maxLen ∧ zs.length = cap ∧ (∀ i, i < zs.length → w.cell? (x.add i) = some (.int k (zs.getD i 0))) ∧ ∀ n ∈ zs, (Lit.int k n).wf = true

theorem row_of {k : IntKind} (hk : k = .u8 ∨ k = .u64) {w : World} {a : Option Addr} {len cap : Nat} {zs : List Int} (h : IsRow k w a len cap zs) (hl : len ≤ 1000000000000000000) :
    ∃ bs, Row k w a len bs := by
  rcases h with ⟨rfl, rfl, rfl, rfl⟩ | ⟨x, rfl, hlc, hm, hz, hcell, hwz⟩
  · exact ⟨[], rfl, by omega, by simp, .inl rfl⟩
  · have hwz' : ∀ n ∈ zs, 0 ≤ n ∧ n < (lim k : Int) := by
      intro n hn
      have := hwz n hn
      rcases hk with rfl | rfl
      · simp [Lit.wf, IntKind.min, IntKind.max, IntKind.bits, IntKind.signed] at this
        show 0 ≤ n ∧ n < 256
        omega
      · simp [Lit.wf, IntKind.min, IntKind.max, IntKind.bits, IntKind.signed] at this
        show 0 ≤ n ∧ n < 18446744073709551616
        omega
    refine ⟨(zs.take len).map Int.toNat, by simp; omega, by omega, ?_, ?_⟩
    · intro n hn
      simp only [List.mem_map] at hn
      obtain ⟨z, hz', rfl⟩ := hn
      have := hwz' z (List.mem_of_mem_take hz')
      omega
    · by_cases h0 : len = 0
      · exact .inl h0
      · right
        obtain ⟨b, off, spot⟩ := x
        have hs : spot = none := by simpa [Addr.add] using World.cell?_spot (hcell 0 (by omega))
        subst hs
        refine ⟨b, off, rfl, fun i hi => ?_⟩
        have hc := hcell i (by omega)
        have hb := hwz' (zs.getD i 0) (by rw [List.getD_eq_getElem?_getD, List.getElem?_eq_getElem (by omega)]; simp)
        rw [add_at] at hc
        rw [hc]
        have e : ((zs.take len).map Int.toNat).getD i 0 = (zs.getD i 0).toNat := by
          simp [List.getD_eq_getElem?_getD, hi]
          rw [List.getElem?_eq_getElem (by omega)]; simp
        rw [e, Int.toNat_of_nonneg hb.1]
theorem nil_of {k : IntKind} {w : World} {a : Option Addr} {len cap : Nat} {zs : List Int} (h : IsRow k w a len cap zs) : (a = none → len = 0 ∧ cap = 0) ∧ len ≤ cap := by
  rcases h with ⟨rfl, rfl, rfl, rfl⟩ | ⟨x, rfl, hlc, _⟩
  · exact ⟨fun _ => ⟨rfl, rfl⟩, by omega⟩
  · exact ⟨(fun h => by cases h), hlc⟩
end Go.Proofs.Ytjllglpjghcplaa

/- Parts of rows; what the law VarintPrefix does. -/
namespace Go.Proofs.Ytjllglpjghcplaa
open Go.RowKit

theorem Row.take {k : IntKind} {w : World} {a : Option Addr} {n : Nat} {bs : List Nat} (h : Row k w a n bs) (j : Nat) (hj : j ≤ n) : Row k w a j (bs.take j) := by
  obtain ⟨h1, h2, h3, h4⟩ := h
  refine ⟨by rw [List.length_take]; omega, by omega, take_small h3 j, ?_⟩
  rcases Nat.eq_zero_or_pos j with h0 | h0
  · exact .inl h0
  · rcases h4 with h0 | ⟨b, off, e, hc⟩
    · omega
    · refine .inr ⟨b, off, e, fun i hi => ?_⟩
      rw [hc i (by omega)]
      congr 3
      rw [List.getD_eq_getElem?_getD, List.getD_eq_getElem?_getD, List.getElem?_take, if_pos hi]
theorem Row.drop {k : IntKind} {w : World} {b off n : Nat} {bs : List Nat} (h : Row k w (some ⟨b, off, none⟩) n bs) (j : Nat) (hj : j ≤ n) : Row k w (some ⟨b, off + j, none⟩) (n - j) (bs.drop j) := by
  obtain ⟨h1, h2, h3, h4⟩ := h
  refine ⟨by rw [List.length_drop]; omega, by omega, drop_small h3 j, ?_⟩
  rcases Nat.eq_zero_or_pos (n - j) with h0 | h0
  · exact .inl h0
  · rcases h4 with h0 | ⟨b', off', e, hc⟩
    · omega
    · simp only [Option.some.injEq, Addr.mk.injEq] at e
      obtain ⟨rfl, rfl, _⟩ := e
      refine .inr ⟨b, off + j, rfl, fun i hi => ?_⟩
      have := hc (j + i) (by omega)
      rw [← Nat.add_assoc] at this
      rw [this]
      congr 3
      rw [List.getD_eq_getElem?_getD, List.getD_eq_getElem?_getD, List.getElem?_drop]

theorem rowU (w : World) (u : Nat) (h : u < 18446744073709551616) : Row .u64 (w.alloc (.cells #[.int .u64 (u : Nat)] 51)) (some ⟨w.heap.size, 0, none⟩) 1 [u] := row_new .u64 w 51 u h

end Go.Proofs.Ytjllglpjghcplaa


/- What All does, the program's and the reference's. -/
namespace Go.Proofs.Ytjllglpjghcplaa
open Go.RowKit

/-- what a slice looks like: of no room at all, or at a place in a block -/
def Shape (a : Option Addr) (len cap : Nat) : Prop := (len = 0 ∧ cap = 0) ∨ ∃ b off, a = some ⟨b, off, none⟩ ∧ len ≤ cap

theorem shape_of {k : IntKind} {w : World} {a : Option Addr} {len cap : Nat} {zs : List Int} (h : IsRow k w a len cap zs) : Shape a len cap := by
  rcases h with ⟨rfl, rfl, rfl, rfl⟩ | ⟨x, rfl, hlc, hm, hz, hcell, _⟩
  · exact .inl ⟨rfl, rfl⟩
  · rcases Nat.eq_zero_or_pos cap with h0 | h0
    · exact .inl ⟨by omega, h0⟩
    · obtain ⟨b, off, spot⟩ := x
      have hs : spot = none := by simpa [Addr.add] using World.cell?_spot (hcell 0 (by omega))
      subst hs
      exact .inr ⟨b, off, rfl, hlc⟩

/-- what All tells -/
def AllRes (w : World) (R : List Nat × Nat × Nat) (e : Ending) (w' : World) : Prop :=
  ∃ a c, e = .returned (.tuple #[.slice a R.1.length c, .int .i64 (R.2.1 : Nat), .int .i64 (R.2.2 : Nat)]) ∧ w'.ownsRow w.heap.size 51 1 (.slice a R.1.length c) R.1.length (kcells .u64 R.1) ∧ Below w.heap.size w w'
theorem ret_all {v v' : Value} {b b' c c' : Int} (h1 : v = v') (h2 : b = b') (h3 : c = c') :
    Ending.returned (.tuple #[v, .int .i64 b, .int .i64 c]) = .returned (.tuple #[v', .int .i64 b', .int .i64 c']) := by rw [h1, h2, h3]

set_option maxRecDepth 100000 in
set_option maxHeartbeats 400000 in
theorem all_arg (v : Value) (z : Int) (w : World) (h : z < 0 ∨ 1000 < z) :
    Calls Try.prog 53 #[v, .int .i64 z] w fun e w' => e = .returned (.tuple #[.slice none 0 0, .int .i64 0, .int .i64 1]) ∧ w' = w := by
  by_cases h0 : z < 0
  · clear h
    go_enter Try.func53, Try.ntmps53
    go_wp2
    go_ret3
    exact ⟨rfl, rfl⟩
  · have h1 : 1000 < z := by omega
    clear h
    go_enter Try.func53, Try.ntmps53
    go_wp2
    go_ret3
    exact ⟨rfl, rfl⟩

set_option maxRecDepth 100000 in
set_option maxHeartbeats 2000000 in
theorem all_any (a : Option Addr) (len cap : Nat) (bs : List Nat) (n : Nat) (w : World) (hn : n ≤ 1000) (hbig : len ≤ 100000) (hshape : Shape a len cap) (hr : Row .u8 w a len bs) :
    Calls Try.prog 53 #[.slice a len cap, .int .i64 n] w (AllRes w (Va.all bs n)) := by
  have hlen : Hid (bs.length = len) := hr.1
  obtain ⟨R, hR⟩ : ∃ R, R = Va.all bs n := ⟨_, rfl⟩
  rw [← hR]
  have HR : Hid (R = Va.all bs n) := hR
  clear hR
  obtain ⟨i0, hi0, hz0, hz1, hz2⟩ := info_parts Try.info51
  go_enter Try.func53, Try.ntmps53
  go_wp2_with (at_make; refine wpList_make_own _ rfl _ _ 68 rfl w.heap.size 51 i0 (.int .u64 0) 1 Try.underlying68 hi0 hz0 hz1 .i64 .i64 _ n rfl rfl rfl (by rw [hz2]; omega) (by unfold maxLen; omega) (Nat.le_refl _) ?_; intro w2 hmade hg)
  have hbel0 : Below w.heap.size w w2 := (Below.refl _ _).grown hg (Nat.le_refl _) (fun k h => by cases h)
  clear hg hi0 hz0 hz1 hz2
  go_loopw [7, 8, 21] (fun v t i wr => ∃ (k at' : Nat) (l : List Nat) (a' : Option Addr) (c' : Nat), k ≤ n ∧ at' ≤ len ∧ i = .int .i64 k ∧ t = .int .i64 at' ∧ v = .slice a' k c' ∧ wr.ownsRow w.heap.size 51 1 (.slice a' k c') k (kcells .u64 l) ∧ Below w.heap.size w wr ∧ Hid (l.length = k) ∧ Hid (R = Va.al (n - k) bs at' l))
    (fun _ _ i _ => n - (intOf i).toNat)
  case atStart => exact ⟨0, 0, [], _, _, by omega, by omega, rfl, rfl, rfl, hmade, hbel0, (rfl : [].length = 0), HR⟩
  case round =>
    obtain ⟨k, at', l, a', c', hk, hat, rfl, rfl, rfl, hown, hbel, hlk, H⟩ := hrel
    clear hmade hbel0 HR
    have hsz := hbel.size
    by_cases hlt : k < n
    · have hr' := hr.below hbel (Nat.le_refl _)
      have hgle := Va.get_le (bs := bs.drop at')
      rw [List.length_drop, hlen.out] at hgle
      have hglt := Va.get_lt (bs.drop at')
      have H0 := H.out
      rw [show n - k = (n - (k + 1)) + 1 by omega] at H0
      rcases hshape with ⟨rfl, rfl⟩ | ⟨b, off, rfl, hc⟩
      · have hrow := hr'.take 0 (by omega)
        obtain rfl : at' = 0 := by omega
        rw [show bs.take 0 = bs.drop 0 by rw [List.length_eq_zero_iff.mp hlen.out]; rfl] at hrow
        have hcall := fun c => get_any a 0 c (bs.drop 0) wr hrow
        clear hr hr' hrow H
        have hz : (Va.get (bs.drop 0)).2 = 0 := by omega
        rw [Va.al_none hz] at H0
        have H2 : Hid (R = ([], 0, 2)) := H0
        have hcz : code (Va.get (bs.drop 0)).2 = 2 := by rw [hz]; rfl
        clear H0
        generalize Va.get (bs.drop 0) = g at *
        obtain ⟨g1, g2⟩ := g
        simp only at hz hglt hgle hcz hcall
        subst hz
        clear hcz
        have hc0 : code 0 = 2 := rfl
        go_wp2_with (go_at_call 27; refine (hcall _).mono ?_; rintro e w3 ⟨rfl, rfl⟩)
        go_ret3
        exact ⟨none, 0, ret_all (by rw [H2.out] <;> rfl) (by rw [H2.out] <;> rfl) (by rw [H2.out] <;> rfl), by rw [H2.out]; exact World.ownsRow_nil _ _ _ _, hbel⟩
      · by_cases hcap : cap = at'
        · have hrow : Row .u8 wr (some ⟨b, off, none⟩) (len - at') (bs.drop at') := by
            have h1 := hr'.drop at' hat
            exact ⟨h1.1, h1.2.1, h1.2.2.1, .inl (by omega)⟩
          have hcall := fun c => get_any (some ⟨b, off, none⟩) (len - at') c (bs.drop at') wr hrow
          clear hr hr' hrow H
          have hz : (Va.get (bs.drop at')).2 = 0 := by omega
          rw [Va.al_none hz] at H0
          have H2 : Hid (R = ([], at', 2)) := H0
          have hcz : code (Va.get (bs.drop at')).2 = 2 := by rw [hz]; rfl
          clear H0
          generalize Va.get (bs.drop at') = g at *
          obtain ⟨g1, g2⟩ := g
          simp only at hz hglt hgle hcz hcall
          subst hz
          clear hcz
          have hc0 : code 0 = 2 := rfl
          go_wp2_with (go_at_call 27; refine (hcall _).mono ?_; rintro e w3 ⟨rfl, rfl⟩)
          go_ret3
          exact ⟨none, 0, ret_all (by rw [H2.out] <;> rfl) (by rw [H2.out] <;> rfl) (by rw [H2.out] <;> rfl), by rw [H2.out]; exact World.ownsRow_nil _ _ _ _, hbel⟩
        · have hrow := hr'.drop at' hat
          have hcall := fun c => get_any (some ⟨b, off + at', none⟩) (len - at') c (bs.drop at') wr hrow
          clear hr hr' hrow H
          by_cases hz : (Va.get (bs.drop at')).2 = 0
          · rw [Va.al_none hz] at H0
            have H2 : Hid (R = ([], at', 2)) := H0
            have hcz : code (Va.get (bs.drop at')).2 = 2 := by rw [hz]; rfl
            clear H0
            generalize Va.get (bs.drop at') = g at *
            obtain ⟨g1, g2⟩ := g
            simp only at hz hglt hgle hcz hcall
            subst hz
            clear hcz
            have hc0 : code 0 = 2 := rfl
            go_wp2_with (go_at_call 27; refine (hcall _).mono ?_; rintro e w3 ⟨rfl, rfl⟩)
            go_ret3
            exact ⟨none, 0, ret_all (by rw [H2.out] <;> rfl) (by rw [H2.out] <;> rfl) (by rw [H2.out] <;> rfl), by rw [H2.out]; exact World.ownsRow_nil _ _ _ _, hbel⟩
          · rw [Va.al_some hz] at H0
            have H2 : Hid (_ = _) := H0
            clear H0
            have hcz : code (Va.get (bs.drop at')).2 = 0 := by unfold code; rw [if_neg hz]
            generalize Va.get (bs.drop at') = g at *
            obtain ⟨g1, g2⟩ := g
            simp only at hz hglt hgle hcz hcall H2
            obtain ⟨m, rfl⟩ : ∃ m, g2 = m + 1 := ⟨g2 - 1, by omega⟩
            clear hcz
            have hc0 : code (m + 1) = 0 := rfl
            simp only [hc0] at hcall
            go_wp2_with (first | (go_at_call 27; refine (hcall _).mono ?_; rintro e w3 ⟨rfl, rfl⟩) | (at_builtin; refine append_u64 (w0 := w) rfl (.tmp 35) (.tmp 37) rfl _ k l rfl (hown.alloc _) _ 1 1 [g1] rfl (row_new .u64 _ 51 g1 hglt) (fun h => by cases h) (by omega) (hbel.alloc hsz _) (by simp; omega) ?_; intro a2 c2 w2 hown2 hbel2 hsz2))
            go_roundw
            case rel => exact ⟨k + 1, at' + (m + 1), l ++ [g1], a2, c2, by omega, by omega, by go_num, val_int (by omega), rfl, hown2, hbel2, (by rw [List.length_append, hlk.out]; rfl : (l ++ [g1]).length = k + 1), H2⟩
            case measure => simp [intOf]; omega
    · have H2 : Hid (R = (l, at', 0)) := (by rw [H.out, show n - k = 0 by omega]; rfl : R = (l, at', 0))
      clear H
      go_wp2
      go_ret3
      exact ⟨a', c', ret_all (by rw [H2.out, hlk.out] <;> rfl) (by rw [H2.out] <;> rfl) (by rw [H2.out] <;> rfl), by rw [H2.out, hlk.out]; exact hown, hbel⟩

end Go.Proofs.Ytjllglpjghcplaa

/- What the reference's Get does. -/
namespace Go.Proofs.Ytjllglpjghcplaa
open Go.RowKit

theorem ret2 {k1 k2 : IntKind} {a a' b b' : Int} (h1 : a = a') (h2 : b = b') :
    Ending.returned (.tuple #[.int k1 a, .int k2 b]) = .returned (.tuple #[.int k1 a', .int k2 b']) := by rw [h1, h2]
theorem high_step {bs : List Nat} {k : Nat} (h : ∀ j, j < k → 128 ≤ bs.getD j 0) (hx : 128 ≤ bs.getD k 0) : ∀ j, j < k + 1 → 128 ≤ bs.getD j 0 := by
  intro j hj
  rcases Nat.lt_or_ge j k with h' | h'
  · exact h j h'
  · obtain rfl : j = k := by omega
    exact hx

theorem below_of_drew {B : Nat} {W w1 : World} (h : Below B W.drew w1) : Below B W w1 := ⟨h.os, h.tape, h.output, h.size, h.block⟩

set_option maxRecDepth 100000 in
set_option maxHeartbeats 1000000 in
theorem refget_any (a : Option Addr) (len cap : Nat) (bs : List Nat) (w : World) (hcap : len ≤ cap) (hbig : len ≤ 100000) (hr : Row .u8 w a len bs) :
    Calls Try.prog 29 #[.slice a len cap] w fun e w' => e = .returned (.tuple #[.int .u64 ((Va.get bs).1 : Nat), .int .i64 ((Va.get bs).2 : Nat)]) ∧ Below w.heap.size w w' := by
  have hlen : Hid (bs.length = len) := hr.1
  obtain ⟨g, hg⟩ : ∃ g, g = Va.get bs := ⟨_, rfl⟩
  rw [← hg]
  have HG : Hid (g = Va.get bs) := hg
  clear hg
  go_enter Try.func29, Try.ntmps29
  go_wp2
  go_loop [4] (fun i => ∃ k : Nat, k ≤ len ∧ k ≤ 10 ∧ i = .int .i64 (k + 1 : Nat) ∧ Hid (∀ j, j < k → 128 ≤ bs.getD j 0)) (fun i => len + 1 - (intOf i).toNat)
  case atStart => exact ⟨0, by omega, by omega, rfl, (fun j hj => by omega : ∀ j, j < 0 → 128 ≤ bs.getD j 0)⟩
  case round =>
    obtain ⟨k, hk, hk10, rfl, hh⟩ := hrel
    by_cases hlt : k < len ∧ k < 10
    · obtain ⟨hlt, hlt10⟩ := hlt
      obtain ⟨b, off, rfl, hc⟩ := hr.at (by omega)
      have hcell := hc k hlt
      have hx := getD_lt8 hr.2.2.1 k
      have H0 := fun h => Va.get_at (k := k) hr.2.2.1 (by omega) (by rw [hlen.out]; exact hlt) hh.out h
      have H1 := fun h => high_step (k := k) hh.out h
      have hrt := hr.take (k + 1) (by omega)
      have hval := fun c => value_any (some ⟨b, off, none⟩) (k + 1) c _ w hrt
      clear hc hr hh
      generalize bs.getD k 0 = x at *
      have hul : Va.val (bs.take (k + 1)) % 18446744073709551616 < 18446744073709551616 := Nat.mod_lt _ (by omega)
      generalize Va.val (bs.take (k + 1)) % 18446744073709551616 = u at *
      have e1 : ((k + 1 : Nat) : Int) - 1 = (k : Int) := by omega
      have i2 : (k : Int) + 1 ≤ (cap : Int) := by omega
      have i3 : (0 : Int) ≤ (k : Int) + 1 := by omega
      have i4 : (k : Int) + 1 ≤ (len : Int) := by omega
      by_cases hx128 : x < 128
      · replace H0 := H0 hx128
        clear H1
        have hsm := Va.one_small u
        have hone := fun W => one_any u u W (Nat.le_refl _) hul
        have hl10 := Va.one_len10 hul
        generalize Va.one u = r at *
        by_cases hs : r = bs.take (k + 1)
        · rw [if_pos hs] at H0
          have H2 : Hid (g = (u, k + 1)) := (HG.out.trans H0 : g = (u, k + 1))
          clear H0 HG
          have hd : decide (r = bs.take (k + 1)) = true := by simp [hs]
          clear hs
          go_wp2_with (go_at_call 42; refine (hval _).mono ?_; rintro e w' ⟨rfl, rfl⟩)
          go_region_held3 (fun _ => True) (trivial)
            (first | ((go_at_call 25; refine (hone _).mono ?_; rintro e w1 ⟨a1, c1, rfl, hown1, hbel1⟩)) | ((go_at_call 24; have := hown1; refine (same_any _ _ _ _ _ _ _ _ _ (row_of_owns hown1 hsm (by omega)).1 (hrt.below (below_of_drew hbel1) (Nat.le_refl _))).mono ?_; rintro e w2 ⟨rfl, m, rfl⟩)))
          go_wp2
          go_ret2
          exact ⟨ret2 (by rw [H2.out]) (by rw [H2.out]; show (k : Int) + 1 = ((k + 1 : Nat) : Int); omega), (below_of_drew hbel1).trans (below_drewN _ _ _)⟩
        · rw [if_neg hs] at H0
          have H2 : Hid (g = (0, 0)) := (HG.out.trans H0 : g = (0, 0))
          clear H0 HG
          have hd : decide (r = bs.take (k + 1)) = false := by simp [hs]
          clear hs
          go_wp2_with (go_at_call 42; refine (hval _).mono ?_; rintro e w' ⟨rfl, rfl⟩)
          go_region_held3 (fun _ => True) (trivial)
            (first | ((go_at_call 25; refine (hone _).mono ?_; rintro e w1 ⟨a1, c1, rfl, hown1, hbel1⟩)) | ((go_at_call 24; have := hown1; refine (same_any _ _ _ _ _ _ _ _ _ (row_of_owns hown1 hsm (by omega)).1 (hrt.below (below_of_drew hbel1) (Nat.le_refl _))).mono ?_; rintro e w2 ⟨rfl, m, rfl⟩)))
          go_wp2
          go_ret2
          exact ⟨ret2 (by rw [H2.out]; rfl) (by rw [H2.out]; rfl), (below_of_drew hbel1).trans (below_drewN _ _ _)⟩
      · have H2 : Hid (∀ j, j < k + 1 → 128 ≤ bs.getD j 0) := H1 (by omega)
        clear H0 H1
        go_wp2
        go_round
        case rel => exact ⟨k + 1, by omega, by omega, by go_num, H2⟩
        case measure => simp [intOf]; omega
    · have H2 : Hid (g = (0, 0)) := (HG.out.trans (Va.get_end (k := k) hk10 (by rw [hlen.out]; exact hk) (by rw [hlen.out]; omega) hh.out) : g = (0, 0))
      clear HG
      by_cases hkl : k < len
      · have : k = 10 := by omega
        subst this
        go_wp2
        go_ret2
        exact ⟨ret2 (by rw [H2.out]; rfl) (by rw [H2.out]; rfl), Below.refl _ _⟩
      · go_wp2
        go_ret2
        exact ⟨ret2 (by rw [H2.out]; rfl) (by rw [H2.out]; rfl), Below.refl _ _⟩
end Go.Proofs.Ytjllglpjghcplaa

/- What the reference's All does. -/
namespace Go.Proofs.Ytjllglpjghcplaa
open Go.RowKit

theorem refget_c (a : Option Addr) (len cap : Nat) (bs : List Nat) (w : World) (hr : Row .u8 w a len bs) (hcap : len ≤ cap) (hbig : len ≤ 100000) :
    Calls Try.prog 29 #[.slice a len cap] w fun e w' => e = .returned (.tuple #[.int .u64 ((Va.get bs).1 : Nat), .int .i64 ((Va.get bs).2 : Nat)]) ∧ Below w.heap.size w w' := refget_any a len cap bs w hcap hbig hr

set_option maxRecDepth 100000 in
set_option maxHeartbeats 2000000 in
theorem refall_any (a : Option Addr) (len cap : Nat) (bs : List Nat) (n : Nat) (w : World) (hn : n ≤ 1000) (hbig : len ≤ 100000) (hshape : Shape a len cap) (hr : Row .u8 w a len bs) :
    Calls Try.prog 56 #[.slice a len cap, .int .i64 n] w (AllRes w (Va.all bs n)) := by
  have hlen : Hid (bs.length = len) := hr.1
  obtain ⟨R, hR⟩ : ∃ R, R = Va.all bs n := ⟨_, rfl⟩
  rw [← hR]
  have HR : Hid (R = Va.all bs n) := hR
  clear hR
  have hbel0 : Below w.heap.size w (w.alloc (.cells #[] 51)) := (Below.refl _ _).alloc (Nat.le_refl _) _
  have hmade := World.ownsRow_made (base := w.heap.size) (e := 51) (size := 1) w #[] 0 (Nat.le_refl _) (by decide) (by simp)
  go_enter Try.func56, Try.ntmps56
  go_wp2
  go_loopw [7, 8, 9] (fun v t i wr => ∃ (k at' : Nat) (l : List Nat) (a' : Option Addr) (c' : Nat), k ≤ n ∧ at' ≤ len ∧ i = .int .i64 k ∧ t = .int .i64 at' ∧ v = .slice a' k c' ∧ wr.ownsRow w.heap.size 51 1 (.slice a' k c') k (kcells .u64 l) ∧ Below w.heap.size w wr ∧ Hid (l.length = k) ∧ Hid (R = Va.al (n - k) bs at' l))
    (fun _ _ i _ => n - (intOf i).toNat)
  case atStart => exact ⟨0, 0, [], _, _, by omega, by omega, rfl, rfl, rfl, hmade, hbel0, (rfl : [].length = 0), HR⟩
  case round =>
    obtain ⟨k, at', l, a', c', hk, hat, rfl, rfl, rfl, hown, hbel, hlk, H⟩ := hrel
    clear hmade hbel0 HR
    have hsz := hbel.size
    by_cases hlt : k < n
    · have hr' := hr.below hbel (Nat.le_refl _)
      have hgle := Va.get_le (bs := bs.drop at')
      rw [List.length_drop, hlen.out] at hgle
      have hglt := Va.get_lt (bs.drop at')
      have H0 := H.out
      rw [show n - k = (n - (k + 1)) + 1 by omega] at H0
      rcases hshape with ⟨rfl, rfl⟩ | ⟨b, off, rfl, hc⟩
      · have hrow := hr'.take 0 (by omega)
        obtain rfl : at' = 0 := by omega
        rw [show bs.take 0 = bs.drop 0 by rw [List.length_eq_zero_iff.mp hlen.out]; rfl] at hrow
        have hcall := fun c => refget_c a 0 c (bs.drop 0) wr hrow
        clear hr hr' hrow H
        have hz : (Va.get (bs.drop 0)).2 = 0 := by omega
        rw [Va.al_none hz] at H0
        have H2 : Hid (R = ([], 0, 2)) := H0
        have hcz : code (Va.get (bs.drop 0)).2 = 2 := by rw [hz]; rfl
        clear H0
        generalize Va.get (bs.drop 0) = g at *
        obtain ⟨g1, g2⟩ := g
        simp only at hz hglt hgle hcz hcall
        subst hz
        clear hcz
        have hc0 : code 0 = 2 := rfl
        go_wp2_with (go_at_call 29; refine (hcall _ (by omega) (by omega)).mono ?_; rintro e w3 ⟨rfl, hbel3⟩)
        go_ret3
        exact ⟨none, 0, ret_all (by rw [H2.out] <;> rfl) (by rw [H2.out] <;> rfl) (by rw [H2.out] <;> rfl), by rw [H2.out]; exact World.ownsRow_nil _ _ _ _, hbel.trans (hbel3.mono hsz)⟩
      · by_cases hcap : cap = at'
        · have hrow : Row .u8 wr (some ⟨b, off, none⟩) (len - at') (bs.drop at') := by
            have h1 := hr'.drop at' hat
            exact ⟨h1.1, h1.2.1, h1.2.2.1, .inl (by omega)⟩
          have hcall := fun c => refget_c (some ⟨b, off, none⟩) (len - at') c (bs.drop at') wr hrow
          clear hr hr' hrow H
          have hz : (Va.get (bs.drop at')).2 = 0 := by omega
          rw [Va.al_none hz] at H0
          have H2 : Hid (R = ([], at', 2)) := H0
          have hcz : code (Va.get (bs.drop at')).2 = 2 := by rw [hz]; rfl
          clear H0
          generalize Va.get (bs.drop at') = g at *
          obtain ⟨g1, g2⟩ := g
          simp only at hz hglt hgle hcz hcall
          subst hz
          clear hcz
          have hc0 : code 0 = 2 := rfl
          go_wp2_with (go_at_call 29; refine (hcall _ (by omega) (by omega)).mono ?_; rintro e w3 ⟨rfl, hbel3⟩)
          go_ret3
          exact ⟨none, 0, ret_all (by rw [H2.out] <;> rfl) (by rw [H2.out] <;> rfl) (by rw [H2.out] <;> rfl), by rw [H2.out]; exact World.ownsRow_nil _ _ _ _, hbel.trans (hbel3.mono hsz)⟩
        · have hrow := hr'.drop at' hat
          have hcall := fun c => refget_c (some ⟨b, off + at', none⟩) (len - at') c (bs.drop at') wr hrow
          clear hr hr' hrow H
          by_cases hz : (Va.get (bs.drop at')).2 = 0
          · rw [Va.al_none hz] at H0
            have H2 : Hid (R = ([], at', 2)) := H0
            have hcz : code (Va.get (bs.drop at')).2 = 2 := by rw [hz]; rfl
            clear H0
            generalize Va.get (bs.drop at') = g at *
            obtain ⟨g1, g2⟩ := g
            simp only at hz hglt hgle hcz hcall
            subst hz
            clear hcz
            have hc0 : code 0 = 2 := rfl
            go_wp2_with (go_at_call 29; refine (hcall _ (by omega) (by omega)).mono ?_; rintro e w3 ⟨rfl, hbel3⟩)
            go_ret3
            exact ⟨none, 0, ret_all (by rw [H2.out] <;> rfl) (by rw [H2.out] <;> rfl) (by rw [H2.out] <;> rfl), by rw [H2.out]; exact World.ownsRow_nil _ _ _ _, hbel.trans (hbel3.mono hsz)⟩
          · rw [Va.al_some hz] at H0
            have H2 : Hid (_ = _) := H0
            clear H0
            have hcz : code (Va.get (bs.drop at')).2 = 0 := by unfold code; rw [if_neg hz]
            generalize Va.get (bs.drop at') = g at *
            obtain ⟨g1, g2⟩ := g
            simp only at hz hglt hgle hcz hcall H2
            obtain ⟨m, rfl⟩ : ∃ m, g2 = m + 1 := ⟨g2 - 1, by omega⟩
            clear hcz
            have hc0 : code (m + 1) = 0 := rfl
            go_wp2_with (first | (go_at_call 29; refine (hcall _ (by omega) (by omega)).mono ?_; rintro e w3 ⟨rfl, hbel3⟩) | (at_builtin; have := hbel3; refine append_u64 (w0 := w) rfl (.tmp 28) (.tmp 30) rfl _ k l rfl ((owns_below hown hbel3).alloc _) _ 1 1 [g1] rfl (row_new .u64 _ 51 g1 hglt) (fun h => by cases h) (by omega) ((hbel.trans (hbel3.mono hsz)).alloc (Nat.le_trans hsz hbel3.size) _) (by simp; have := hbel3.size; omega) ?_; intro a2 c2 w2 hown2 hbel2 hsz2))
            go_roundw
            case rel => exact ⟨k + 1, at' + (m + 1), l ++ [g1], a2, c2, by omega, by omega, by go_num, val_int (by omega), rfl, hown2, hbel2, (by rw [List.length_append, hlk.out]; rfl : (l ++ [g1]).length = k + 1), H2⟩
            case measure => simp [intOf]; omega
    · have H2 : Hid (R = (l, at', 0)) := (by rw [H.out, show n - k = 0 by omega]; rfl : R = (l, at', 0))
      clear H
      go_wp2
      go_ret3
      exact ⟨a', c', ret_all (by rw [H2.out, hlk.out] <;> rfl) (by rw [H2.out] <;> rfl) (by rw [H2.out] <;> rfl), by rw [H2.out, hlk.out]; exact hown, hbel⟩

end Go.Proofs.Ytjllglpjghcplaa
