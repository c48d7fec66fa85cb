/- The program's tables: parts as they lie; isOpen, firstKey, lastKey, weigh, copied. -/
import Derived.Test.YtikieblokfjphaaGreatTEa
import Derived.Test.YtikieblokfjphaaGreatSB
import Derived.Test.YtikieblokfjphaaGreatTpMath
import Derived.Shelf.Abstract
import Derived.BigQuiet
import Derived.StillTailTactics
import Derived.Test.YtikieblokfjphaaGreatSWa
import Derived.Test.YtikieblokfjphaaGreatTEc
namespace Go.Proofs.YtikieblokfjphaaGreat
open Go.RowKit

/-- parts as they lie at a place -/
structure PsAt (w : World) (b : Nat) (la : Option Addr) (ln lc : Nat) (ps : List PH) (gss : List (List IH)) (xss : List (List It.I)) : Prop where
  list : w.cell? ⟨b, 0, none⟩ = some (.slice la ln lc)
  count : w.cell? ⟨b, 1, none⟩ = some (.int .i64 ((Tb.joined xss).length : Nat))
  inp : InP w la ln ps gss xss
  le : ln ≤ lc
theorem PsAt.below {w w' : World} {B b ln lc : Nat} {la : Option Addr} {ps : List PH} {gss : List (List IH)} {xss : List (List It.I)} (h : PsAt w b la ln lc ps gss xss) (hb : Below B w w') (hB : w.heap.size ≤ B) : PsAt w' b la ln lc ps gss xss :=
  ⟨(hb.cell (p := ⟨b, 0, none⟩) (Nat.lt_of_lt_of_le (cell_lt h.list) hB)).trans h.list, (hb.cell (p := ⟨b, 1, none⟩) (Nat.lt_of_lt_of_le (cell_lt h.count) hB)).trans h.count, h.inp.below hb hB, h.le⟩

set_option maxRecDepth 100000 in
theorem tfirst_any (a : Option Addr) (n c : Nat) (gs : List IH) (xs : List It.I) (w : World) (hi : InI w a n c gs xs) (hn : 0 < n) :
    Calls Tryz.prog 33 #[.slice a n c] w fun e w' => e = .returned (.string (gs.getD 0 ihz).key) ∧ w' = w := by
  obtain ⟨b, off, rfl, hc⟩ := hi.1.at hn
  have h0 := (hc 0 hn).1
  simp only [Nat.zero_mul, Nat.add_zero] at h0
  have m2 : (0 : Int) < (n : Int) := by omega
  generalize (gs.getD 0 ihz).key = K at *
  clear hi hc
  go_enter Tryz.func33, Tryz.ntmps33
  go_wp2
  go_ret
  exact ⟨rfl, rfl⟩

set_option maxRecDepth 100000 in
theorem tlast_any (a : Option Addr) (n c : Nat) (gs : List IH) (xs : List It.I) (w : World) (hi : InI w a n c gs xs) (hn : 0 < n) (hs : n ≤ 1000000) :
    Calls Tryz.prog 35 #[.slice a n c] w fun e w' => e = .returned (.string (gs.getD (n - 1) ihz).key) ∧ w' = w := by
  obtain ⟨b, off, rfl, hc⟩ := hi.1.at hn
  obtain ⟨M, hM⟩ : ∃ M, M = n - 1 := ⟨_, rfl⟩
  rw [← hM]
  have h0 := (hc M (by omega)).1
  have jM : IntKind.i64.wrap ((n : Int) - 1) = (M : Int) := by rw [IntKind.wrap_i64]; omega
  have m0 : (0 : Int) ≤ (M : Int) := by omega
  have m1 : (M : Int) < (n : Int) := by omega
  generalize (gs.getD M ihz).key = K at *
  clear hi hc hM
  go_enter Tryz.func35, Tryz.ntmps35
  go_wp2
  go_ret
  exact ⟨rfl, rfl⟩

set_option maxRecDepth 100000 in
set_option maxHeartbeats 400000 in
/-- what an item weighs -/
theorem tweigh_any (h : IH) (x : It.I) (w : World) (hx : IsItem w h x) (h1 : x.1.length ≤ 100000) (h2 : x.2.2.2.1.length ≤ 100000) :
    Calls Tryz.prog 54 #[iv h] w fun e w' => e = .returned (.int .i64 (x.1.length + 16 + x.2.2.2.1.length : Nat)) ∧ Below w.heap.size w w' := by
  have hb0 : Below w.heap.size w (w.alloc (.cells #[.string h.key, .bool h.dead, .bool h.far, .slice h.a h.n h.c, .int .i64 h.p.1, .int .i64 h.p.2.1, .int .i64 h.p.2.2.1, .int .u32 (h.p.2.2.2 : Nat)] 40)) := below_alloc w _
  have e1 : h.key.size = x.1.length := by rw [← hx.key, kb_len]
  have e2 : h.n = x.2.2.2.1.length := hx.row.1.symm
  have hw : ((x.1.length + 16 + x.2.2.2.1.length : Nat) : Int) = (h.key.size : Int) + 16 + (h.n : Int) := by omega
  rw [hw]
  clear hx hw
  obtain ⟨key, dead, far, qa, qn, qc, ⟨p1, p2, p3, p4⟩⟩ := h
  simp only at e1 e2 hb0 ⊢
  have i1 : IntKind.i64.wrap ((key.size : Int) + 16) = (key.size : Int) + 16 := by rw [IntKind.wrap_i64]; omega
  have i2 : IntKind.i64.wrap ((key.size : Int) + 16 + (qn : Int)) = (key.size : Int) + 16 + (qn : Int) := by rw [IntKind.wrap_i64]; omega
  clear e1 e2
  go_enter Tryz.func54, Tryz.ntmps54
  go_wp2
  go_ret
  exact ⟨rfl, hb0⟩

set_option maxRecDepth 100000 in
set_option maxHeartbeats 1000000 in
/-- an item whose bytes are nobody else's -/
theorem tcopied_any (h : IH) (x : It.I) (w : World) (hx : IsItem w h x) (h2 : x.2.2.2.1.length ≤ 100000) :
    Calls Tryz.prog 80 #[iv h] w fun e w' => ∃ h', e = .returned (iv h') ∧ OwnIt w' w.heap.size h' x ∧ h'.key = h.key ∧ Below w.heap.size w w' := by
  have hb0 : Below w.heap.size w ((w.alloc (.cells #[.string h.key, .bool h.dead, .bool h.far, .slice h.a h.n h.c, .int .i64 h.p.1, .int .i64 h.p.2.1, .int .i64 h.p.2.2.1, .int .u32 (h.p.2.2.2 : Nat)] 40)).alloc (.cells #[.string ⟨#[]⟩, .bool false, .bool false, .slice none 0 0, .int .i64 0, .int .i64 0, .int .i64 0, .int .u32 0] 40)) := (below_alloc _ _).alloc (by simp) _
  have hcl := bclone_any h.a h.n h.c _ _ (hx.row.below hb0 (Nat.le_refl _)) hx.nil (by rw [← hx.row.1]; omega)
  have Hx : Hid (IsItem w h x) := hx
  clear hx
  obtain ⟨key, dead, far, qa, qn, qc, ⟨p1, p2, p3, p4⟩⟩ := h
  simp only at hcl hb0
  have HB : Hid (∀ W, Below ((w.alloc (.cells #[.string key, .bool dead, .bool far, .slice qa qn qc, .int .i64 p1, .int .i64 p2, .int .i64 p3, .int .u32 (p4 : Nat)] 40)).alloc (.cells #[.string ⟨#[]⟩, .bool false, .bool false, .slice none 0 0, .int .i64 0, .int .i64 0, .int .i64 0, .int .u32 0] 40)).heap.size ((w.alloc (.cells #[.string key, .bool dead, .bool far, .slice qa qn qc, .int .i64 p1, .int .i64 p2, .int .i64 p3, .int .u32 (p4 : Nat)] 40)).alloc (.cells #[.string ⟨#[]⟩, .bool false, .bool false, .slice none 0 0, .int .i64 0, .int .i64 0, .int .i64 0, .int .u32 0] 40)) W → Eight W w.heap.size (.string key) (.bool dead) (.bool far) (.slice qa qn qc) (.int .i64 p1) (.int .i64 p2) (.int .i64 p3) (.int .u32 (p4 : Nat)) ∧ Eight W (w.heap.size + 1) (.string ⟨#[]⟩) (.bool false) (.bool false) (.slice none 0 0) (.int .i64 0) (.int .i64 0) (.int .i64 0) (.int .u32 0)) := (fun W hW => ⟨eight_of ((hW.block _ (by simp; omega)).trans ((heap_alloc_old _ _ (by simp)).trans (heap_alloc_new w _))), eight_of ((hW.block _ (by simp)).trans (by rw [show w.heap.size + 1 = (w.alloc (.cells #[.string key, .bool dead, .bool far, .slice qa qn qc, .int .i64 p1, .int .i64 p2, .int .i64 p3, .int .u32 (p4 : Nat)] 40)).heap.size by simp]; exact heap_alloc_new _ _))⟩ : _)
  go_enter Tryz.func80, Tryz.ntmps80
  go_wp2_with (go_at_call 99; go_must (refine hcl.mono ?_; rintro e w1 ⟨a1, c1, rfl, ho1, hb1⟩; obtain ⟨⟨x0, x1, x2, x3, x4, x5, x6, x7, xf⟩, ⟨z0, z1, z2, z3, z4, z5, z6, z7, zf⟩⟩ := HB.out w1 hb1; have xf3 := xf 3; have zf0 := zf 0; have zf1 := zf 1; have zf2 := zf 2; have zf3 := zf 3; have zf4 := zf 4; have zf5 := zf 5; have zf6 := zf 6; have zf7 := zf 7; clear xf zf))
  have hx := Hx.out
  have hqn : qn ≤ 100000 := by have h := hx.row.1; simp only at h; omega
  have hsz : ((w.alloc (.cells #[.string key, .bool dead, .bool far, .slice qa qn qc, .int .i64 p1, .int .i64 p2, .int .i64 p3, .int .u32 (p4 : Nat)] 40)).alloc (.cells #[.string ⟨#[]⟩, .bool false, .bool false, .slice none 0 0, .int .i64 0, .int .i64 0, .int .i64 0, .int .u32 0] 40)).heap.size = w.heap.size + 2 := by simp
  have ho2 := owns_same (w' := set8 (w1.setCell ⟨w.heap.size, 3, none⟩ (.slice a1 qn c1)) (w.heap.size + 1) ⟨key, dead, far, a1, qn, c1, (p1, p2, p3, p4)⟩) ho1 (fun k hk _ => by rw [hsz] at hk; rw [set8_other _ _ _ k (by omega), Below.heap_setCell _ _ _ k (by show k ≠ w.heap.size; omega)])
  have ho3 := owns_base ho2 (show w.heap.size ≤ _ by rw [hsz]; omega)
  obtain ⟨r1, r2, r3⟩ := row_of_owns ho3 hx.row.2.2.1 (by omega)
  have hb2 : Below w.heap.size w w1 := hb0.trans (hb1.mono hb0.size)
  have hP : OwnIt (set8 (w1.setCell ⟨w.heap.size, 3, none⟩ (.slice a1 qn c1)) (w.heap.size + 1) ⟨key, dead, far, a1, qn, c1, (p1, p2, p3, p4)⟩) w.heap.size ⟨key, dead, far, a1, qn, c1, (p1, p2, p3, p4)⟩ x := ⟨⟨hx.key, hx.dead, hx.far, hx.pt, r1, r2, r3, hx.fits, hx.ksz⟩, ho3⟩
  have hQ : Below w.heap.size w (set8 (w1.setCell ⟨w.heap.size, 3, none⟩ (.slice a1 qn c1)) (w.heap.size + 1) ⟨key, dead, far, a1, qn, c1, (p1, p2, p3, p4)⟩) := set8_below (hb2.setCell (Nat.le_refl _) _) _ _ (by omega)
  unfold set8 at hP hQ
  simp only at hP hQ
  clear ho1 ho2 ho3 r1 r2 r3 hb0 hb1 hb2 hcl HB hsz hx
  refine bodyPost_ret (v := iv ⟨key, dead, far, a1, qn, c1, (p1, p2, p3, p4)⟩) ?_ rfl ?_
  · simp [results, Tryz.results80, go_sem, z0, z1, z2, z3, z4, z5, z6, z7]
  · exact ⟨_, rfl, hP, rfl, hQ⟩

set_option maxRecDepth 100000 in
theorem tisopen_any (b : Nat) (la : Option Addr) (ln lc : Nat) (w : World) (h : w.cell? ⟨b, 0, none⟩ = some (.slice la ln lc)) :
    Calls Tryz.prog 29 #[.pointer (some ⟨b, 0, none⟩)] w fun e w' => e = .returned (.bool (decide (0 < ln))) ∧ w' = w := by
  have e1 : decide ((0 : Int) < (ln : Int)) = decide (0 < ln) := by simp
  go_enter Tryz.func29, Tryz.ntmps29
  go_wp2
  go_ret
  exact ⟨rfl, rfl⟩

set_option maxRecDepth 100000 in
theorem tisopen_nil (w : World) :
    Calls Tryz.prog 29 #[.pointer none] w fun e w' => e = .returned (.bool false) ∧ w' = w := by
  go_enter Tryz.func29, Tryz.ntmps29
  go_wp2
  go_ret
  exact ⟨rfl, rfl⟩
end Go.Proofs.YtikieblokfjphaaGreat

/- The program's tables: sort.Search, and where a key stands. -/
namespace Go.Proofs.YtikieblokfjphaaGreat
open Go.RowKit Go.Shelf

set_option maxRecDepth 100000 in
set_option maxHeartbeats 1000000 in
/-- the first number at which a test is true -/
theorem search_any (n K : Nat) (w : World) (fid : Nat) (caps : Array Value) (P : Nat → Bool) (hn : n ≤ 1000000)
    (eg : ∀ args w, (callFunc fid args).run Tryz.prog w = .ok (.enter fid args) w)
    (hf : ∀ (i : Nat) (V : World), i < n → Below w.heap.size w V → Calls Tryz.prog fid (#[.int .i64 i] ++ caps) V fun e V' => e = .returned (.bool (P i)) ∧ Below V.heap.size V V')
    (hK : K ≤ n) (h1 : ∀ i, i < K → P i = false) (h2 : ∀ i, K ≤ i → i < n → P i = true) :
    Calls Tryz.prog 96 #[.int .i64 n, .func (.func fid) #[] caps] w fun e w' => e = .returned (.int .i64 K) ∧ Below w.heap.size w w' := by
  have H1 : Hid (∀ i, i < K → P i = false) := h1
  have H2 : Hid (∀ i, K ≤ i → i < n → P i = true) := h2
  clear h1 h2
  go_enter Tryz.func96, Tryz.ntmps96
  go_wp2
  go_loopw [5, 6] (fun u v wr => ∃ i j : Nat, u = .int .i64 i ∧ v = .int .i64 j ∧ i ≤ K ∧ K ≤ j ∧ j ≤ n ∧ Below w.heap.size w wr) (fun u v _ => (intOf v).toNat - (intOf u).toNat)
  case atStart => exact ⟨0, n, rfl, rfl, by omega, by omega, by omega, Below.refl _ _⟩
  case round =>
    obtain ⟨i, j, rfl, rfl, hik, hkj, hjn, hbel⟩ := hrel
    by_cases hlt : i < j
    · obtain ⟨hh, hhe⟩ : ∃ hh, hh = (i + j) / 2 := ⟨_, rfl⟩
      have hh1 : i ≤ hh := by omega
      have hh2 : hh < j := by omega
      have q0 : ((i : Int) + (j : Int)) / 2 = (hh : Int) := by rw [hhe]; omega
      have q1 : IntKind.i64.wrap ((i : Int) + (j : Int)) = (i : Int) + (j : Int) := by rw [IntKind.wrap_i64]; omega
      have q2 : IntKind.u64.wrap ((i : Int) + (j : Int)) = (i : Int) + (j : Int) := by simp only [IntKind.wrap_u64]; omega
      have q3 : IntKind.i64.wrap (hh : Int) = (hh : Int) := by rw [IntKind.wrap_i64]; omega
      have q4 : IntKind.i64.wrap ((hh : Int) + 1) = (hh : Int) + 1 := by rw [IntKind.wrap_i64]; omega
      have hd := hf hh wr (by omega) hbel
      clear hhe
      rcases Nat.lt_or_ge hh K with hc | hc
      · rw [H1.out hh hc] at hd
        go_wp2_with (go_at_fn fid; go_must (refine hd.mono ?_; rintro e w3 ⟨rfl, b3⟩; have hb3 := hbel.trans (b3.mono hbel.size)))
        go_roundw
        case rel => exact ⟨hh + 1, j, by go_num, rfl, by omega, by omega, by omega, hb3⟩
        case measure => simp [intOf]; omega
      · rw [H2.out hh hc (by omega)] at hd
        go_wp2_with (go_at_fn fid; go_must (refine hd.mono ?_; rintro e w3 ⟨rfl, b3⟩; have hb3 := hbel.trans (b3.mono hbel.size)))
        go_roundw
        case rel => exact ⟨i, hh, rfl, rfl, by omega, by omega, by omega, hb3⟩
        case measure => simp [intOf]; omega
    · obtain rfl : i = j := by omega
      obtain rfl : K = i := by omega
      go_wp2
      go_ret
      exact ⟨rfl, hbel⟩

set_option maxRecDepth 100000 in
set_option maxHeartbeats 1000000 in
theorem seek1_any (V : World) (p1 p2 b : Nat) (la : Option Addr) (ln lc : Nat) (ps : List PH) (gss : List (List IH)) (xss : List (List It.I)) (s : ByteArray) (i : Nat) (h1 : V.cell? ⟨p1, 0, none⟩ = some (.pointer (some ⟨b, 0, none⟩))) (h2 : V.cell? ⟨p2, 0, none⟩ = some (.string s)) (hP : PsAt V b la ln lc ps gss xss) (hi : i < ln) (hne : xss.getD i [] ≠ []) (hsz : (xss.getD i []).length ≤ 1000000) :
    Calls Tryz.prog 97 #[.int .i64 i, .pointer (some ⟨p1, 0, none⟩), .pointer (some ⟨p2, 0, none⟩)] V fun e V' => e = .returned (.bool (!Na.lt (Tb.lastK (xss.getD i [])) (kb s))) ∧ Below V.heap.size V V' := by
  have hm : Tryz.prog.follows .mixedOrders = true := by kernel_rfl
  have hll := hP.inp.len
  obtain ⟨lb, lo, rfl, hc⟩ := hP.inp.1.part (by omega)
  have hcell := hc i hi
  have hin := hP.inp.2.2.2 i (by omega)
  have hnl := hin.1.len
  have hpos : 0 < (ps.getD i phz).n := by rw [← hnl]; exact List.length_pos_iff.mpr hne
  have hla := tlast_any _ _ _ _ _ V.drew (hin.below (Below.refl V.heap.size V).drew (Nat.le_refl _)) hpos (by omega)
  have hkey : kb ((gss.getD i []).getD ((ps.getD i phz).n - 1) ihz).key = Tb.lastK (xss.getD i []) := by
    have := (hin.1.item (i := (ps.getD i phz).n - 1) (by omega)).key
    unfold Tb.lastK
    rw [hnl]; exact this
  generalize ((gss.getD i []).getD ((ps.getD i phz).n - 1) ihz).key = K at *
  have hless : Op.bytesLess K.toList s.toList = Na.lt (Tb.lastK (xss.getD i [])) (kb s) := by rw [less_kb, hkey]
  have hl := hP.list
  generalize Na.lt (Tb.lastK (xss.getD i [])) (kb s) = r at *
  generalize ps.getD i phz = q at *
  obtain ⟨qa, qn, qc⟩ := q
  simp only at hcell hla
  have i0 : (0 : Int) ≤ (i : Int) := by omega
  have i1 : (i : Int) < (ln : Int) := by omega
  clear hin hnl hpos hkey hc hP hll hne hsz
  go_enter Tryz.func97, Tryz.ntmps97
  go_wp2
  refine wp_region_still_lit hm (by kernel_rfl) ?_
  repeat still_step
  still_call hla
  repeat still_step
  refine wpStill_nil ?_
  go_wp2
  go_ret
  exact ⟨rfl, (Below.refl _ _).drew⟩

set_option maxRecDepth 100000 in
set_option maxHeartbeats 1000000 in
theorem seek2_any (V : World) (p1 p2 : Nat) (a : Option Addr) (n c : Nat) (gs : List IH) (xs : List It.I) (s : ByteArray) (i : Nat) (h1 : V.cell? ⟨p1, 0, none⟩ = some (.slice a n c)) (h2 : V.cell? ⟨p2, 0, none⟩ = some (.string s)) (hI : InI V a n c gs xs) (hi : i < n) :
    Calls Tryz.prog 98 #[.int .i64 i, .pointer (some ⟨p1, 0, none⟩), .pointer (some ⟨p2, 0, none⟩)] V fun e V' => e = .returned (.bool (!Na.lt (xs.getD i It.zero).1 (kb s))) ∧ Below V.heap.size V V' := by
  have hm : Tryz.prog.follows .mixedOrders = true := by kernel_rfl
  obtain ⟨b, off, rfl, hc⟩ := hI.1.at (by omega)
  have y0 := (hc i hi).1
  have hkey := (hI.1.item hi).key
  generalize (gs.getD i ihz).key = K at *
  have hless : Op.bytesLess K.toList s.toList = Na.lt (xs.getD i It.zero).1 (kb s) := by rw [less_kb, hkey]
  generalize Na.lt (xs.getD i It.zero).1 (kb s) = r at *
  have i0 : (0 : Int) ≤ (i : Int) := by omega
  have i1 : (i : Int) < (n : Int) := by omega
  clear hI hc hkey
  go_enter Tryz.func98, Tryz.ntmps98
  go_wp2
  refine wp_region_still_lit hm (by kernel_rfl) ?_
  repeat still_step
  refine wpStill_nil ?_
  go_wp2
  go_ret
  exact ⟨rfl, (Below.refl _ _).drew⟩
end Go.Proofs.YtikieblokfjphaaGreat

/- The program's tables: seek; a table as it lies; Len, Ends, May, Find. -/
namespace Go.Proofs.YtikieblokfjphaaGreat
open Go.RowKit Go.Shelf

theorem getD_ne {ps : List (List It.I)} (hw : Tb.Whole ps) {i : Nat} (hi : i < ps.length) : ps.getD i [] ≠ [] ∧ (ps.getD i []).length ≤ 256 := by
  have hm : ps.getD i [] ∈ ps := by
    rw [List.getD_eq_getElem?_getD, List.getElem?_eq_getElem hi]
    exact List.getElem_mem _
  exact ⟨(hw.part _ hm).1, (hw.part _ hm).2.1⟩
theorem parts_le {ps : List (List It.I)} (hw : Tb.Whole ps) : ps.length ≤ 16384 := by
  have h : ∀ l : List (List It.I), (∀ p ∈ l, p ≠ []) → l.length ≤ l.flatten.length := by
    intro l
    induction l with
    | nil => intro _; simp
    | cons p l ih =>
      intro h
      have h1 := ih (fun q hq => h q (List.mem_cons_of_mem _ hq))
      have h2 := List.length_pos_iff.mpr (h p List.mem_cons_self)
      rw [List.flatten_cons, List.length_append, List.length_cons]
      omega
  exact Nat.le_trans (h ps fun p hp => (hw.part p hp).1) hw.few

set_option maxRecDepth 100000 in
set_option maxHeartbeats 1000000 in
theorem seek_any (b : Nat) (la : Option Addr) (ln lc : Nat) (ps : List PH) (gss : List (List IH)) (xss : List (List It.I)) (s : ByteArray) (w : World) (P A : Nat) (hP : PsAt w b la ln lc ps gss xss) (hw : Tb.Whole xss) (hS : Tb.Seek xss (kb s) P A) :
    Calls Tryz.prog 79 #[.pointer (some ⟨b, 0, none⟩), .string s] w fun e w' => e = .returned (.tuple #[.int .i64 P, .int .i64 A]) ∧ Below w.heap.size w w' := by
  have hll : xss.length = ln := hP.inp.len
  have hln := parts_le hw
  have hb0 : Below w.heap.size w ((w.alloc (.cells #[.pointer (some ⟨b, 0, none⟩)] 77)).alloc (.cells #[.string s] 9)) := (below_alloc _ _).alloc (by simp) _
  have x1 : ((w.alloc (.cells #[.pointer (some ⟨b, 0, none⟩)] 77)).alloc (.cells #[.string s] 9)).cell? ⟨w.heap.size, 0, none⟩ = some (.pointer (some ⟨b, 0, none⟩)) := (cell_past _ _ _ (by simp)).trans ((cell_new w _ _ 0).trans rfl)
  have x2 : ((w.alloc (.cells #[.pointer (some ⟨b, 0, none⟩)] 77)).alloc (.cells #[.string s] 9)).cell? ⟨w.heap.size + 1, 0, none⟩ = some (.string s) := (cell_newb _ _ _ 0 (by simp)).trans rfl
  have hs1 := search_any ln P ((w.alloc (.cells #[.pointer (some ⟨b, 0, none⟩)] 77)).alloc (.cells #[.string s] 9)) 97 #[.pointer (some ⟨w.heap.size, 0, none⟩), .pointer (some ⟨w.heap.size + 1, 0, none⟩)] (fun i => !Na.lt (Tb.lastK (xss.getD i [])) (kb s)) (by omega) (enters_of Tryz.func97 (by kernel_rfl) rfl)
    (fun i V hi hV => seek1_any V w.heap.size (w.heap.size + 1) b la ln lc ps gss xss s i ((hV.cell (p := ⟨w.heap.size, 0, none⟩) (cell_lt x1)).trans x1) ((hV.cell (p := ⟨w.heap.size + 1, 0, none⟩) (cell_lt x2)).trans x2) ((hP.below hb0 (Nat.le_refl _)).below hV (Nat.le_refl _)) hi (getD_ne hw (by omega)).1 (by have := (getD_ne hw (i := i) (by omega)).2; omega))
    (by have := hS.le; omega) (fun i hi => by simp only [hS.lo i hi, Bool.not_true]) (fun i h1 h2 => by simp only [hS.hi i h1 (by omega), Bool.not_false])
  have hbc := hP.list
  rcases Nat.lt_or_ge P xss.length with hlt | hge
  · obtain ⟨n1, n2⟩ := getD_ne hw hlt
    obtain ⟨i1, i2, i3⟩ := hS.inn hlt
    obtain ⟨lb, lo, rfl, hc⟩ := hP.inp.1.part (by omega)
    have hcell := hc P (by omega)
    have hin := hP.inp.2.2.2 P hlt
    have hnl := hin.1.len
    have k1 : (0 : Int) ≤ (P : Int) := by omega
    have k2 : (P : Int) < (ln : Int) := by omega
    have k3 : ((P : Int) == (ln : Int)) = false := by simp; omega
    generalize ps.getD P phz = q at *
    obtain ⟨qa, qn, qc⟩ := q
    simp only at hcell hin hnl
    have hs2 := fun (W : World) (hW : Below ((w.alloc (.cells #[.pointer (some ⟨b, 0, none⟩)] 77)).alloc (.cells #[.string s] 9)).heap.size ((w.alloc (.cells #[.pointer (some ⟨b, 0, none⟩)] 77)).alloc (.cells #[.string s] 9)) W) =>
      search_any qn A (W.alloc (.cells #[.slice qa qn qc] 28)) 98 #[.pointer (some ⟨W.heap.size, 0, none⟩), .pointer (some ⟨w.heap.size + 1, 0, none⟩)] (fun i => !Na.lt ((xss.getD P []).getD i It.zero).1 (kb s)) (by omega) (enters_of Tryz.func98 (by kernel_rfl) rfl)
      (fun i V hi hV => seek2_any V W.heap.size (w.heap.size + 1) qa qn qc _ _ s i ((hV.cell (p := ⟨W.heap.size, 0, none⟩) (by simp)).trans ((cell_new W _ _ 0).trans rfl)) ((hV.cell (p := ⟨w.heap.size + 1, 0, none⟩) (by have := hW.size; simp at this ⊢; omega)).trans ((cell_past _ _ _ (by have := hW.size; simp at this ⊢; omega)).trans ((hW.cell (p := ⟨w.heap.size + 1, 0, none⟩) (cell_lt x2)).trans x2)))
        ((((hin.below hb0 (Nat.le_refl _)).below hW (Nat.le_refl _)).below (below_alloc W _) (Nat.le_refl _)).below hV (Nat.le_refl _)) hi)
      (by omega) (fun i hi => by simp only [i2 i hi, Bool.not_true]) (fun i h1 h2 => by simp only [i3 i h1 (by omega), Bool.not_false])
    have y1 := fun (W : World) (hW : Below ((w.alloc (.cells #[.pointer (some ⟨b, 0, none⟩)] 77)).alloc (.cells #[.string s] 9)).heap.size ((w.alloc (.cells #[.pointer (some ⟨b, 0, none⟩)] 77)).alloc (.cells #[.string s] 9)) W) => (hW.cell (p := ⟨w.heap.size, 0, none⟩) (cell_lt x1)).trans x1
    have y2 := fun (W : World) (hW : Below w.heap.size w W) => (hW.cell (p := ⟨b, 0, none⟩) (cell_lt hbc)).trans hbc
    have y3 := fun (W : World) (hW : Below w.heap.size w W) => (hW.cell (p := ⟨lb, lo + P, none⟩) (cell_lt hcell)).trans hcell
    have z2 := y2 _ hb0
    clear hin hnl hc hP hw hS hbc hcell n1 n2 i1 i2 i3
    go_enter Tryz.func79, Tryz.ntmps79
    go_wp2_with (first
      | (go_at_call 96; have := hb1; go_must (refine (hs2 _ b1).mono ?_; rintro e w2 ⟨rfl, b2⟩; have hb2 := (hb1.alloc hb1.size (.cells #[.slice qa qn qc] 28)).trans (b2.mono (hb1.alloc hb1.size (.cells #[.slice qa qn qc] 28)).size)))
      | (go_at_call 96; go_must (refine hs1.mono ?_; rintro e w1 ⟨rfl, b1⟩; have hb1 := hb0.trans (b1.mono hb0.size); have u1 := y1 _ b1; have u2 := y2 _ hb1; have u3 := y3 _ hb1)))
    go_ret2
    exact ⟨rfl, hb2⟩
  · obtain rfl : P = ln := by have := hS.le; omega
    obtain rfl : A = 0 := hS.out (by omega)
    have k3 : ((P : Int) == (P : Int)) = true := by simp
    have y1 := fun (W : World) (hW : Below ((w.alloc (.cells #[.pointer (some ⟨b, 0, none⟩)] 77)).alloc (.cells #[.string s] 9)).heap.size ((w.alloc (.cells #[.pointer (some ⟨b, 0, none⟩)] 77)).alloc (.cells #[.string s] 9)) W) => (hW.cell (p := ⟨w.heap.size, 0, none⟩) (cell_lt x1)).trans x1
    have y2 := fun (W : World) (hW : Below w.heap.size w W) => (hW.cell (p := ⟨b, 0, none⟩) (cell_lt hbc)).trans hbc
    have z2 := y2 _ hb0
    clear hP hw hS hbc hge hll
    go_enter Tryz.func79, Tryz.ntmps79
    go_wp2_with (go_at_call 96; go_must (refine hs1.mono ?_; rintro e w1 ⟨rfl, b1⟩; have hb1 := hb0.trans (b1.mono hb0.size); have u1 := y1 _ b1; have u2 := y2 _ hb1))
    go_ret2
    exact ⟨rfl, hb1⟩

/-- a table as it lies -/
structure TbAt (w : World) (b : Nat) (la : Option Addr) (ln lc : Nat) (ps : List PH) (gss : List (List IH)) (xss : List (List It.I)) (sa : Option Addr) (sn sc : Nat) : Prop where
  parts : PsAt w b la ln lc ps gss xss
  whole : Tb.Whole xss
  ne : xss ≠ []
  sieve : w.cell? ⟨b, 2, none⟩ = some (.slice sa sn sc)
  row : Row .u8 w sa sn (Sv.of ((Tb.joined xss).map (fun x => x.1)))
  nil : sa = none → sn = 0 ∧ sc = 0
  sle : sn ≤ sc
def TbT (w : World) (p : Addr) (L : List It.I) : Prop := ∃ (b : Nat) (la : Option Addr) (ln lc : Nat) (ps : List PH) (gss : List (List IH)) (xss : List (List It.I)) (sa : Option Addr) (sn sc : Nat), p = ⟨b, 0, none⟩ ∧ Tb.joined xss = L ∧ TbAt w b la ln lc ps gss xss sa sn sc
theorem TbAt.on {w w' : World} {b ln lc sn sc : Nat} {la sa : Option Addr} {ps : List PH} {gss : List (List IH)} {xss : List (List It.I)} (h : TbAt w b la ln lc ps gss xss sa sn sc) (hb : Below w.heap.size w w') : TbAt w' b la ln lc ps gss xss sa sn sc :=
  ⟨h.parts.below hb (Nat.le_refl _), h.whole, h.ne, (hb.cell (p := ⟨b, 2, none⟩) (cell_lt h.sieve)).trans h.sieve, h.row.below hb (Nat.le_refl _), h.nil, h.sle⟩
theorem TbT.keep (w w' : World) (p : Addr) (L : List It.I) (h : TbT w p L) (hb : Below w.heap.size w w') : TbT w' p L := by
  obtain ⟨b, la, ln, lc, ps, gss, xss, sa, sn, sc, e, hj, ht⟩ := h
  exact ⟨b, la, ln, lc, ps, gss, xss, sa, sn, sc, e, hj, ht.on hb⟩
theorem TbAt.pos {w : World} {b ln lc sn sc : Nat} {la sa : Option Addr} {ps : List PH} {gss : List (List IH)} {xss : List (List It.I)} (h : TbAt w b la ln lc ps gss xss sa sn sc) : 0 < ln := by
  rw [← h.parts.inp.len]; exact List.length_pos_iff.mpr h.ne
theorem TbAt.open {w : World} {b ln lc sn sc : Nat} {la sa : Option Addr} {ps : List PH} {gss : List (List IH)} {xss : List (List It.I)} (h : TbAt w b la ln lc ps gss xss sa sn sc) :
    Calls Tryz.prog 29 #[.pointer (some ⟨b, 0, none⟩)] w fun e w' => e = .returned (.bool true) ∧ w' = w := by
  have := tisopen_any b la ln lc w h.parts.list
  rw [decide_eq_true h.pos] at this
  exact this

set_option maxRecDepth 100000 in
theorem tlen_any (p : Addr) (L : List It.I) (w : World) (h : TbT w p L) :
    Calls Tryz.prog 10 #[.pointer (some p)] w fun e w' => e = .returned (.int .i64 (L.length : Nat)) ∧ Below w.heap.size w w' := by
  obtain ⟨b, la, ln, lc, ps, gss, xss, sa, sn, sc, rfl, rfl, ht⟩ := h
  have ho := ht.open
  have hc := ht.parts.count
  generalize (Tb.joined xss).length = M at *
  clear ht
  go_enter Tryz.func10, Tryz.ntmps10
  go_wp2_with (go_at_call 29; go_must (refine ho.mono ?_; rintro e w1 ⟨rfl, hw⟩; rw [hw]; clear hw w1))
  go_ret
  exact ⟨rfl, Below.refl _ _⟩

end Go.Proofs.YtikieblokfjphaaGreat


/- The program's tables: Ends, Find. -/
namespace Go.Proofs.YtikieblokfjphaaGreat
open Go.RowKit Go.Shelf

theorem may_bytes {x : It.I} (h : It.may x = true) : x.2.2.2.1.length ≤ 32 := by
  have h1 := (Bl.it_parts h).2.2.1
  unfold Ce.may at h1
  split at h1
  · simp only [Bool.and_eq_true, decide_eq_true_eq] at h1; omega
  · simp only [Bool.and_eq_true, decide_eq_true_eq] at h1; exact h1.1
theorem joined_first {ps : List (List It.I)} (h : ps ≠ []) (hp : ps.getD 0 [] ≠ []) : Tb.firstKey (Tb.joined ps) = Tb.firstKey (ps.getD 0 []) := by
  match ps, h, hp with
  | [] :: _, _, hp => simp at hp
  | (x :: p) :: ps, _, _ => simp [Tb.joined, Tb.firstKey]
theorem joined_last {ps : List (List It.I)} (h : ps ≠ []) (hp : ps.getD (ps.length - 1) [] ≠ []) : Tb.lastKey (Tb.joined ps) = Tb.lastK (ps.getD (ps.length - 1) []) := by
  have hl := List.length_pos_iff.mpr h
  have hc := Tb.cut_at (ps := ps) (P := ps.length - 1) (by omega) 0
  have hd : ps.drop (ps.length - 1 + 1) = [] := List.drop_of_length_le (by omega)
  rw [hd] at hc
  generalize ps.getD (ps.length - 1) [] = q at *
  simp only [List.take_zero, List.append_nil, List.drop_zero, Tb.joined, List.flatten_nil] at hc
  have hq := List.length_pos_iff.mpr hp
  unfold Tb.lastKey Tb.lastK Tb.joined
  rw [hc, List.length_append, List.getD_eq_getElem?_getD, List.getElem?_append_right (by omega), List.getD_eq_getElem?_getD, show (ps.take (ps.length - 1)).flatten.length + q.length - 1 - (ps.take (ps.length - 1)).flatten.length = q.length - 1 by omega]

set_option maxRecDepth 100000 in
set_option maxHeartbeats 1000000 in
theorem tends_any (p : Addr) (L : List It.I) (w : World) (h : TbT w p L) :
    Calls Tryz.prog 21 #[.pointer (some p)] w fun e w' => ∃ s t : ByteArray, e = .returned (.tuple #[.string s, .string t]) ∧ Hid (kb s = Tb.firstKey L) ∧ Hid (kb t = Tb.lastKey L) ∧ Below w.heap.size w w' := by
  obtain ⟨b, la, ln, lc, ps, gss, xss, sa, sn, sc, rfl, rfl, ht⟩ := h
  have hm : Tryz.prog.follows .mixedOrders = true := by kernel_rfl
  have ho := ht.open
  have hl := ht.parts.list
  have hpos := ht.pos
  have hll := ht.parts.inp.len
  have hln := parts_le ht.whole
  obtain ⟨M, hM⟩ : ∃ M, M = ln - 1 := ⟨_, rfl⟩
  obtain ⟨n0, l0⟩ := getD_ne ht.whole (i := 0) (by omega)
  obtain ⟨nM, lM⟩ := getD_ne ht.whole (i := M) (by omega)
  obtain ⟨lb, lo, rfl, hc⟩ := ht.parts.inp.1.part hpos
  have hc0 := hc 0 hpos
  have hcM := hc M (by omega)
  have hi0 := ht.parts.inp.2.2.2 0 (by omega)
  have hiM := ht.parts.inp.2.2.2 M (by omega)
  have hp0 : 0 < (ps.getD 0 phz).n := by rw [← hi0.1.len]; exact List.length_pos_iff.mpr n0
  have hpM : 0 < (ps.getD M phz).n := by rw [← hiM.1.len]; exact List.length_pos_iff.mpr nM
  have hf := tfirst_any _ _ _ _ _ w.drew (hi0.below (Below.refl w.heap.size w).drew (Nat.le_refl _)) hp0
  have hla := tlast_any _ _ _ _ _ w.drew (hiM.below (Below.refl w.heap.size w).drew (Nat.le_refl _)) hpM (by rw [← hiM.1.len]; omega)
  have k0 : Hid (kb ((gss.getD 0 []).getD 0 ihz).key = Tb.firstKey (Tb.joined xss)) := (by rw [joined_first ht.ne n0]; exact (hi0.1.item hp0).key : kb ((gss.getD 0 []).getD 0 ihz).key = Tb.firstKey (Tb.joined xss))
  have kM : Hid (kb ((gss.getD M []).getD ((ps.getD M phz).n - 1) ihz).key = Tb.lastKey (Tb.joined xss)) := (by
    have hMx : xss.length - 1 = M := by omega
    rw [joined_last ht.ne (by rw [hMx]; exact nM), hMx]
    unfold Tb.lastK
    rw [hiM.1.len]
    exact (hiM.1.item (by omega)).key : kb ((gss.getD M []).getD ((ps.getD M phz).n - 1) ihz).key = Tb.lastKey (Tb.joined xss))
  generalize ((gss.getD 0 []).getD 0 ihz).key = K0 at *
  generalize ((gss.getD M []).getD ((ps.getD M phz).n - 1) ihz).key = KM at *
  generalize ps.getD 0 phz = q0 at *
  generalize ps.getD M phz = qM at *
  obtain ⟨a0, m0, c0⟩ := q0
  obtain ⟨aM, mM, cM⟩ := qM
  simp only [Nat.add_zero] at hc0 hcM hf hla
  have j1 : IntKind.i64.wrap ((ln : Int) - 1) = (M : Int) := by rw [IntKind.wrap_i64]; omega
  have j2 : (0 : Int) ≤ (M : Int) := by omega
  have j3 : (M : Int) < (ln : Int) := by omega
  have j4 : (0 : Int) < (ln : Int) := by omega
  clear ht hc hi0 hiM hp0 hpM n0 l0 nM lM hM hll hln
  go_enter Tryz.func21, Tryz.ntmps21
  go_wp2_with (go_at_call 29; go_must (refine ho.mono ?_; rintro e w1 ⟨rfl, hw⟩; rw [hw]; clear hw w1))
  refine wp_region_still_lit hm (by kernel_rfl) ?_
  repeat still_step
  still_call hf
  repeat still_step
  still_call hla
  repeat still_step
  refine wpStill_nil ?_
  go_wp2
  go_ret2
  exact ⟨K0, KM, rfl, k0, kM, (Below.refl _ _).drew⟩

theorem OwnIt.other {w w' : World} {B : Nat} {h : IH} {x : It.I} (hx : OwnIt w B h x) (hk : ∀ k, B ≤ k → k < w.heap.size → w'.heap[k]? = w.heap[k]?) : OwnIt w' B h x := by
  have h2 := owns_same hx.2 hk
  have h3 := row_of_owns h2 hx.1.row.2.2.1 (Nat.le_trans hx.1.row.2.1 (by decide))
  exact ⟨⟨hx.1.key, hx.1.dead, hx.1.far, hx.1.pt, h3.1, hx.1.nil, hx.1.le, hx.1.fits, hx.1.ksz⟩, h2⟩
theorem eight_on {w W : World} {c0 c1 c2 c3 c4 c5 c6 c7 : Value} {e : TypeId} (h : Below (w.alloc (.cells #[c0, c1, c2, c3, c4, c5, c6, c7] e)).heap.size (w.alloc (.cells #[c0, c1, c2, c3, c4, c5, c6, c7] e)) W) : Eight W w.heap.size c0 c1 c2 c3 c4 c5 c6 c7 :=
  eight_of ((h.block _ (by simp)).trans (heap_alloc_new w _))

end Go.Proofs.YtikieblokfjphaaGreat
