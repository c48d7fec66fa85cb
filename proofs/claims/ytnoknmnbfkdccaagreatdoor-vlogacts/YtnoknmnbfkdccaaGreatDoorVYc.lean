/- What is done in the law's world, whatever it is. -/
import Derived.Test.YtnoknmnbfkdccaaGreatDoorVXz
import Derived.Test.YtnoknmnbfkdccaaGreatDoorVXs
namespace Go.Proofs.YtnoknmnbfkdccaaGreatDoor
open Go.RowKit Go.Shelf

theorem vat_own {w : World} {B n c : Nat} {a : Option Addr} {bs : List Nat} (ho : w.ownsRow B 5 1 (.slice a n c) n (kcells .u8 bs)) (hs : ∀ x ∈ bs, x < 256) (hn : n ≤ 1000000) : VAt w ⟨a, n, c⟩ bs := by
  obtain ⟨h1, h2, h3⟩ := row_of_owns ho hs (by omega)
  refine ⟨h1, h2, h3, ?_⟩
  rcases ho.2 with ⟨e, h0⟩ | ⟨g, cap, cur, e, _, _, hle, _⟩
  · exact .inl ⟨h0, by simp only [Value.slice.injEq] at e; exact e.2.2⟩
  · simp only [Value.slice.injEq] at e
    obtain ⟨rfl, _, rfl⟩ := e
    exact .inr ⟨g, 0, rfl, hle⟩
section
variable {B : Nat} {w : World} {x b z : Nat} {S : WS}
theorem wdo_put (h : WI B w x S b z) (y : LH) (bs : List Nat) (hI : IsL w y bs) (hbz : b + 1 ≤ 40 ∧ z + y.b.n + 10 ≤ 21000) (hlow : ∀ k o, y.b.a = some ⟨k, o, none⟩ → 0 < y.b.n → k < B) (hd : y.d = 0) :
    Calls Tryz.prog 10 #[.pointer (some ⟨x, 0, none⟩), actv y] w (DoR B w x b z y) := by
  have hn := h.n'
  have hbb := h.bb
  have hlen : bs.length = y.b.n := hI.bytes.1.1
  have hsm : ∀ v ∈ bs, v < 256 := hI.bytes.1.2.2.1
  rcases Nat.eq_zero_or_pos S.n with h0 | h0
  · have hse : S.segs = [] := List.length_eq_zero_iff.mp (hn.1.trans h0)
    refine wdo_put_no h y bs hI hbz 11 (by decide) 0 0 0 0 S.D S.vals (fun W A C hW ho => ?_) (fun W hR hB hv => ?_) (h.ac.mono (Nat.le_succ b) (by omega)) hlow hd
    · refine (vput_none (h.keep hW).lg hse A y.b.n C).mono ?_
      rintro e w' ⟨rfl, hb⟩
      exact ⟨rfl, (h.keep hW).vd.keep hb, Wk.of_below hb⟩
    · have h1 := vrefput_none (w := W) (sa := S.sa) (va := S.va) (sc := S.sc) (vc := S.vc) y.b
      rw [h0]
      refine h1.mono ?_
      rintro e w' ⟨rfl, hb⟩
      have h2 := hR.keep hB hb
      rw [h0] at h2
      exact ⟨S.va, S.vc, rfl, h2, hb⟩
  · have hne : S.segs ≠ [] := by rintro e; rw [e] at hn; simp at hn; omega
    rcases Nat.lt_or_ge 4096 y.b.n with h4 | h4
    · refine wdo_put_no h y bs hI hbz 6 (by decide) 0 0 0 0 S.D S.vals (fun W A C hW ho => ?_) (fun W hR hB hv => ?_) (h.ac.mono (Nat.le_succ b) (by omega)) hlow hd
      · refine (vput_big (h.keep hW).lg hne ⟨A, y.b.n, C⟩ h4 (by show y.b.n ≤ _; omega)).mono ?_
        rintro e w' ⟨rfl, hb⟩
        exact ⟨rfl, (h.keep hW).vd.keep hb, Wk.of_below hb⟩
      · refine (vrefput_big (w := W) (sa := S.sa) (va := S.va) (sn := S.n) (sc := S.sc) (vc := S.vc) y.b h0 h4).mono ?_
        rintro e w' ⟨rfl, hb⟩
        exact ⟨S.va, S.vc, rfl, hR.keep hB hb, hb⟩
    · obtain ⟨D', hp1, hp2⟩ := h.ac.put h.vd.ok h.lg.may hne bs ⟨by omega, hsm⟩ (by omega) (by omega)
      rw [hlen] at hp2
      have hk : S.segs.length - 1 = S.n - 1 := by omega
      rw [hk] at hp2
      have hl : Vl.last S.segs = S.segs.getD (S.n - 1) 0 := by rw [← hk]; rfl
      have hby : Vl.by' S.D (vname (Vl.last S.segs)) = Sg.put (S.vals.getD (S.n - 1) []) := by rw [hl]; exact h.ac.by' (S.n - 1) (by omega)
      obtain ⟨q, hq⟩ : ∃ q, q = Sg.pt (Vl.last S.segs) (Vl.by' S.D (vname (Vl.last S.segs))).length bs := ⟨_, rfl⟩
      have hfit : Po.Fits q := by
        have h1 := h.bylen (Vl.last S.segs)
        have h3 := Fr.one3 (n := bs.length) (by omega)
        have hpl : (Sg.put [bs]).length ≤ bs.length + 10 := by rw [Sg.put_one_len]; unfold Fr.size; omega
        have hv1 : ∀ v ∈ [bs], ∀ u ∈ v, u < 256 := fun v hv => by
          have e : v = bs := by simpa using hv
          rw [e]; exact hsm
        exact Sg.pts_fits (Vl.last S.segs) (Vl.last_in h.lg.may) [bs] (Vl.by' S.D (vname (Vl.last S.segs))).length hv1 (by omega) q (by rw [hq]; simp [Sg.pts])
      have hS2 : Vl.Some' (S.vals.take (S.n - 1) ++ [S.vals.getD (S.n - 1) [] ++ [bs]]) := ⟨hp2.small, fun vs hv => by have := hp2.cnt vs hv; omega, fun vs hv => by have := hp2.tot vs hv; omega⟩
      have hput := fun (W : World) A C (hW : Below w.heap.size w W) (hv : VAt W ⟨A, y.b.n, C⟩ bs) => vput_any (b := b) (h.keep hW).lg (h.keep hW).vd hne ⟨A, y.b.n, C⟩ bs hv h4 h.ac.few (by omega) (h.bylen _) (D', 0) hp1.symm q (by rw [if_pos rfl]; exact hq)
      have href := fun (W : World) (hR : RL B W S.sa S.n S.sc S.va S.vc S.segs S.vals) (hB : B ≤ W.heap.size) (hv : VAt W y.b bs) => vrefput_any (k := S.n - 1) (by omega) hR hB (by omega) y.b bs hv hlow h4 (fun j hj e => by
        have := Vl.may_inj h.lg.may (show j < S.segs.length by omega) (show S.n - 1 < S.segs.length by omega) (by rw [e]); omega) _ rfl hS2 q (by rw [hq, hby, hl])
      clear hq
      obtain ⟨P0, P1, P2, P3⟩ := q
      refine wdo_put_ok h y bs hI hbz P0 P1 P2 P3 D' _ (fun W A C hW ho => ?_) (fun W hR hB hv => ?_) hp2 hfit hlow hd
      · refine (hput W A C hW (vat_own ho hsm (by omega))).mono ?_
        rintro e w' ⟨rfl, h1, h2⟩
        exact ⟨rfl, h1, h2⟩
      · refine (href W hR hB hv).mono ?_
        rintro e w' ⟨V, VC, rfl, h1, h2⟩
        exact ⟨V, VC, rfl, h1, h2⟩
theorem wdo_any (h : WI B w x S b z) (y : LH) (bs : List Nat) (hI : IsL w y bs) (hbz : b + 1 ≤ 40 ∧ z + y.b.n + 10 ≤ 21000) (hlow : ∀ k o, y.b.a = some ⟨k, o, none⟩ → 0 < y.b.n → k < B) :
    Calls Tryz.prog 10 #[.pointer (some ⟨x, 0, none⟩), actv y] w (DoR B w x b z y) := by
  by_cases hd : 0 ≤ y.d ∧ y.d ≤ 7
  · have h8 : y.d = 0 ∨ y.d = 1 ∨ y.d = 2 ∨ y.d = 3 ∨ y.d = 4 ∨ y.d = 5 ∨ y.d = 6 ∨ y.d = 7 := by omega
    rcases h8 with e | e | e | e | e | e | e | e
    · exact wdo_put h y bs hI hbz hlow e
    · exact wdo_get h y bs hI hbz e
    · exact wdo_walk h y bs hI hbz e
    · exact wdo_sync h y bs hI hbz e
    · exact wdo_add h y bs hI hbz e
    · exact wdo_drop h y bs hI hbz e
    · exact wdo_open h y bs hI hbz e
    · exact wdo_told h y bs hI hbz e
  · exact wdo_none h y bs hI hbz hd
end
end Go.Proofs.YtnoknmnbfkdccaaGreatDoor

/- The law's begin where the segments may not be; numbers held against each other; its end. -/
namespace Go.Proofs.YtnoknmnbfkdccaaGreatDoor
open Go.RowKit Go.Shelf

set_option maxRecDepth 100000 in
set_option maxHeartbeats 400000 in
theorem zints_any (a1 : Option Addr) (n1 c1 : Nat) (l1 : List Int) (a2 : Option Addr) (n2 c2 : Nat) (l2 : List Int) (w : World) (hn : n1 ≤ 1000000) (hr1 : ZRow w a1 n1 l1) (hr2 : ZRow w a2 n2 l2) (R : Bool) (hR : R = decide (l1 = l2)) :
    Calls Tryz.prog 11 #[.slice a1 n1 c1, .slice a2 n2 c2] w fun e w' => e = .returned (.bool R) ∧ Below w.heap.size w w' := by
  by_cases hl : n1 = n2
  · subst hl
    have h1 : Hid (l1.length = n1) := hr1.1
    have h2 : Hid (l2.length = n1) := hr2.1
    have HR : Hid (R = decide (l1.drop 0 = l2.drop 0)) := hR
    clear hR
    go_enter Tryz.func11, Tryz.ntmps11
    go_wp2
    go_loopw [5] (fun i wr => ∃ k : Nat, k ≤ n1 ∧ i = .int .i64 k ∧ Hid (R = decide (l1.drop k = l2.drop k)) ∧ Below w.heap.size w wr) (fun i _ => n1 - (RowKit.intOf i).toNat)
    case atStart => exact ⟨0, by omega, rfl, HR, Below.refl _ _⟩
    case round =>
      obtain ⟨k, hk, rfl, H, hbel⟩ := hrel
      clear HR
      by_cases hlt : k < n1
      · obtain ⟨b, off, x, rfl, hx, q0⟩ := zget hr1 hbel hlt
        obtain ⟨b', off', y, rfl, hy, q1⟩ := zget hr2 hbel hlt
        have HS : Hid (R = decide (x :: l1.drop (k + 1) = y :: l2.drop (k + 1))) := (by rw [H.out, gdrop 0 (by rw [h1.out]; exact hlt), gdrop (l := l2) 0 (by rw [h2.out]; exact hlt), hx.out, hy.out] : _ = _)
        have i0 : (0 : Int) ≤ (k : Int) := by omega
        have i1 : (k : Int) < (n1 : Int) := by omega
        clear hx hy H
        by_cases hxy : x = y
        · subst hxy
          have H2 : Hid (R = decide (l1.drop (k + 1) = l2.drop (k + 1))) := (by rw [HS.out]; exact decide_eq_decide.mpr (by simp) : _ = _)
          clear HS
          go_wp2_with fail
          go_quiet (fail)
          go_wp2
          go_roundw
          case rel => exact ⟨k + 1, by omega, by go_num, H2, hbel.trans (below_drewN _ _ _)⟩
          case measure => simp [RowKit.intOf]; omega
        · have HF : Hid (R = false) := (by rw [HS.out]; exact decide_eq_false (fun h => hxy (List.cons.inj h).1) : _ = _)
          have d : (x == y) = false := by simpa using hxy
          clear HS hxy
          go_wp2_with fail
          go_quiet (fail)
          go_wp2
          go_ret
          exact ⟨by rw [HF.out]; rfl, hbel.trans (below_drewN _ _ _)⟩
      · obtain rfl : k = n1 := by omega
        have HE : Hid (R = true) := (by rw [H.out, List.drop_of_length_le (by rw [h1.out]; exact Nat.le_refl _), List.drop_of_length_le (by rw [h2.out]; exact Nat.le_refl _)]; rfl : R = true)
        clear H
        go_wp2
        go_ret
        exact ⟨by rw [HE.out]; rfl, hbel⟩
  · have HF : Hid (R = false) := (by rw [hR]; exact decide_eq_false (fun h => hl (by rw [← hr1.1, ← hr2.1, h])) : R = false)
    have d : ((n1 : Int) == (n2 : Int)) = false := by simp; omega
    clear hR
    go_enter Tryz.func11, Tryz.ntmps11
    go_wp2
    go_ret
    exact ⟨by rw [HF.out]; rfl, Below.refl _ _⟩

/-- of segments that may not be there is no log -/
theorem vbegin_bad (B : Nat) (a : Option Addr) (n c : Nat) (segs : List Int) (w : World) (hT : TB B w) (hB : B ≤ w.heap.size) (hr : ZRow w a n segs) (hn : n ≤ 100) (hm : Vl.may segs = false) :
    Calls Tryz.prog 8 #[.slice a n c] w fun e w' => ∃ x c0 c2 c3 c4, e = .returned (.tuple #[.pointer (some ⟨x, 0, none⟩), .bool false]) ∧
      w'.heap[x]? = some (.cells #[c0, .pointer none, c2, c3, c4] 37 (0, 0)) ∧ Below w.heap.size w w' := by
  have hTB : TB w.heap.size w := ⟨hT.tab, by obtain ⟨g, h1, h2⟩ := hT.lt; exact ⟨g, h1, Nat.lt_of_lt_of_le h2 hB⟩⟩
  have hnew := vd_new 4194304 w (by decide) hTB (Nat.le_refl _)
  have hopen : ∀ (W : World) (p : Nat) (_ : Below w.heap.size w W), Calls Tryz.prog 19 #[.pointer (some ⟨p, 0, none⟩), .slice a n c] W fun e w' => e = .returned (.tuple #[.pointer none, .int .i64 1]) ∧ w' = W := fun W p hb => vopen_bad (hr.below hb (Nat.le_refl _)) (by omega) hm
  have href := fun W => vrefopen_any a n c W (by omega)
  clear hr hm hT hTB hB
  go_enter Tryz.func8, Tryz.ntmps8
  go_wp2_with (first
    | (go_at_call 26; go_must (refine hnew.mono ?_; rintro e w1 ⟨p, rfl, _, hb1⟩))
    | (go_at_call 19; go_must (refine (hopen _ p hb1).mono ?_; rintro e w2 ⟨rfl, hw⟩; rw [hw]; clear hw w2))
    | (go_at_call 27; go_must (refine (href _).mono ?_; rintro e w3 ⟨g, rfl, ho3, hb3⟩)))
  go_ret2
  have hb03 := hb1.trans (hb3.mono hb1.size)
  exact ⟨_, _, _, _, _, rfl, heap_alloc_new w3 _, bal hb03 _⟩
theorem Vl.lightL_iff (l : List LH) : Vl.lightL l = true ↔ l.length ≤ 40 ∧ Vl.lsum l ≤ 20000 := by unfold Vl.lightL; exact decide_eq_true_iff
theorem vat_low {w : World} {h : VH} {bs : List Nat} (hv : VAt w h bs) : ∀ k o, h.a = some ⟨k, o, none⟩ → 0 < h.n → k < w.heap.size := fun k o e hn => by
  rcases hv.1.2.2.2 with h0 | ⟨b, off, e', hc⟩
  · omega
  · rw [e] at e'
    simp only [Option.some.injEq, Addr.mk.injEq, and_true] at e'
    have := cell_lt (hc 0 hn)
    simp only at this; omega
section
variable {w : World} {a0 a1 : Option Addr} {n0 c0 n1 c1 : Nat} {zs : List Int} {hs : List LH}
set_option maxRecDepth 100000 in
set_option maxHeartbeats 1000000 in
theorem vacts_dark (hi : LIn w a1 n1 c1 hs) (hT : Tab w) (hd : Vl.lightL hs = false ∨ 100 < n0) :
    Calls Tryz.prog 3 #[.slice a0 n0 c0, .slice a1 n1 c1] w fun e w' => e = .returned (.bool true) ∧ Below w.heap.size w w' := by
  have hg := vlightL_any a1 n1 c1 hs w hi
  have hA := vawake_any w hT
  clear hT
  cases h0 : Vl.lightL hs
  · rw [h0] at hg
    clear hd
    go_enter Tryz.func3, Tryz.ntmps3
    go_wp2_with (first
      | (go_at_call 7; go_must (refine hA.mono ?_; rintro e w1 ⟨rfl, hb1⟩))
      | (go_at_call 6; go_must (refine hg.mono ?_; rintro e w1 ⟨rfl, hw⟩; rw [hw]; clear hw w1)))
    go_ret
    exact ⟨rfl, hb1⟩
  · rw [h0] at hg
    have hbt : 100 < n0 := by rcases hd with h | h; rw [h0] at h; cases h; exact h
    have d : decide ((100 : Int) < (n0 : Int)) = true := decide_eq_true (by omega)
    have d2 : (100 : Int) < (n0 : Int) := by omega
    clear hd hbt
    go_enter Tryz.func3, Tryz.ntmps3
    go_wp2_with (first
      | (go_at_call 7; go_must (refine hA.mono ?_; rintro e w1 ⟨rfl, hb1⟩))
      | (go_at_call 6; go_must (refine hg.mono ?_; rintro e w1 ⟨rfl, hw⟩; rw [hw]; clear hw w1)))
    go_ret
    exact ⟨rfl, hb1⟩
set_option maxHeartbeats 2000000 in
set_option maxRecDepth 100000 in
theorem vacts_bad (hi : LIn w a1 n1 c1 hs) (hr : ZRow w a0 n0 zs) (hnil : a0 = none → n0 = 0 ∧ c0 = 0) (hn : n0 ≤ 100) (hT : Tab w) (h0 : Vl.lightL hs = true) (hm : Vl.may zs = false) :
    Calls Tryz.prog 3 #[.slice a0 n0 c0, .slice a1 n1 c1] w fun e w' => e = .returned (.bool true) ∧ Below w.heap.size w w' := by
  have hg := vlightL_any a1 n1 c1 hs w hi
  rw [h0] at hg
  have hA := fun W (hW : Below w.heap.size w W) => vawake_any W (hT.keep hW)
  have hbe := fun (W : World) A C (hW : Below w.heap.size w W) (h : ZRow W A n0 zs) => vbegin_bad w.heap.size A n0 C zs W ((TB.of hT).keep hW) hW.size h hn hm
  have hmy := fun (W : World) (hW : Below w.heap.size w W) => refmay_any a0 n0 c0 zs W (by omega) (hr.below hW (Nat.le_refl _)) false hm.symm
  have hr1 := fun (W : World) (hW : Below w.heap.size w W) => hr.below hW (Nat.le_refl _)
  have d : decide ((100 : Int) < (n0 : Int)) = false := decide_eq_false (by omega)
  have d2 : ¬ ((100 : Int) < (n0 : Int)) := by omega
  have bz : Below w.heap.size w (w.alloc (.cells #[] 3)) := below_alloc _ _
  have mz := made_t (enc := ze) (s := 1) w (B := w.heap.size) (E := 3) (Nat.le_refl _) rfl
  clear hT hm hr h0 hi
  go_enter Tryz.func3, Tryz.ntmps3
  go_wp2_with (first
    | (go_at_call 6; go_must (refine hg.mono ?_; rintro e w1 ⟨rfl, hw⟩; rw [hw]; clear hw w1))
    | (at_builtin; go_must (refine append_t intZ zeE (w0 := w) (B := w.heap.size) rfl (.tmp 18) (.tmp 19) rfl _ 0 [] rfl mz a0 n0 c0 zs rfl (hr1 _ bz) hnil (by omega) bz (by simp) ?_; intro A1 C1 w1 hl1 hn1 _ ho1 hb1 hs1; rw [Nat.zero_add, List.nil_append] at ho1; rw [Nat.zero_add]))
    | (go_at_call 8; go_must (refine (hbe _ A1 C1 hb1 (trow_of_owns zeE ho1 (by omega) (by omega))).mono ?_; rintro e w2 ⟨x, y0, y2, y3, y4, rfl, hx2, hb2'⟩; have hb2 := hb1.trans (hb2'.mono hb1.size)))
    | (go_at_call 9; go_must (refine (hmy _ hb2).mono ?_; rintro e w3 ⟨rfl, q, hw3⟩; have hb3 : Below w.heap.size w w3 := (hw3 ▸ bdr hb2 q); obtain ⟨u0, u1, u2, u3, u4, _⟩ := world_cells (show w3.heap[x]? = _ by rw [hw3]; exact hx2); clear hw3))
    | (go_at_call 7; go_must (refine (hA _ hb3).mono ?_; rintro e w4 ⟨rfl, hb4⟩)))
  go_ret
  exact ⟨rfl, hb3.trans (hb4.mono hb3.size)⟩
end
end Go.Proofs.YtnoknmnbfkdccaaGreatDoor

/- The law of acts. -/
namespace Go.Proofs.YtnoknmnbfkdccaaGreatDoor
open Go.RowKit Go.Shelf

/-- the law's world at its beginning -/
theorem wi_begin {B : Nat} {w1 w2 : World} {x p m n c C1 g : Nat} {A A1 : Option Addr} {zs : List Int} (hB : B ≤ w1.heap.size) (hb : Below w1.heap.size w1 w2) (hx : w2.heap[x]? = some (.cells #[.pointer (some ⟨p, 0, none⟩), .pointer (some ⟨m, 0, none⟩), .slice A1 n C1, .slice (some ⟨g, 0, none⟩) n n, .slice none 0 0] 37 (0, 0)))
    (hxl : w1.heap.size ≤ x) (hL : LgAt w1.heap.size w2 m p A n c zs) (hD : VD B w2 p (Dk.new 4194304)) (hv : w2.ownsRow w1.heap.size 48 1 (.slice (some ⟨g, 0, none⟩) n n) n (tcells vhe (List.replicate n vhz)))
    (ho : w1.ownsRow B 3 1 (.slice A1 n C1) n (tcells ze zs)) (h1 : (A1 = none → n = 0 ∧ C1 = 0) ∧ n ≤ C1) (hl : zs.length = n) (hn : n ≤ 64) :
    WI B w2 x ⟨p, m, A, n, c, A1, C1, some ⟨g, 0, none⟩, n, none, 0, 0, zs, List.replicate n [], [], Dk.new 4194304⟩ 0 0 := by
  have hRL : RL B w2 A1 n C1 (some ⟨g, 0, none⟩) n zs (List.replicate n []) := RL.of (owns_below ho hb) (hv.mono hB) (by omega) h1 ⟨(fun e => by cases e), Nat.le_refl _⟩ (by simp) (fun i hi => by
    rw [show (List.replicate n vhz).getD i vhz = vhz by simp [List.getD_eq_getElem?_getD, hi], show (List.replicate n ([] : List (List Nat))).getD i [] = [] by simp [List.getD_eq_getElem?_getD, List.getElem?_replicate]; try (split <;> rfl)]
    exact SV.nil)
  refine ⟨hx, Nat.le_trans hB hxl, hL.lower hB, hD, hRL, World.ownsRow_nil _ _ _ _, (fun q hq => by cases hq), fun k o e _ hk => ?_, ?_, ⟨by omega, by omega⟩, Nat.le_refl _⟩
  · have h2 := own_low' hL.own hk
    have h3 := own_hi ho (show (Value.slice A1 n C1).ownBlock = some k by simp only at e; rw [e]; rfl)
    omega
  · have := Vl.Ac.new zs
    rw [hl] at this; exact this
section
variable {w : World} {a0 a1 : Option Addr} {n0 c0 n1 c1 : Nat} {zs : List Int} {hs : List LH}
set_option maxHeartbeats 4000000 in
set_option maxRecDepth 100000 in
theorem vacts_good (hi : LIn w a1 n1 c1 hs) (hr : ZRow w a0 n0 zs) (hnil : a0 = none → n0 = 0 ∧ c0 = 0) (hn : n0 ≤ 100) (hT : Tab w) (h0 : Vl.lightL hs = true) (hm : Vl.may zs = true) :
    Calls Tryz.prog 3 #[.slice a0 n0 c0, .slice a1 n1 c1] w fun e w' => e = .returned (.bool true) ∧ Below w.heap.size w w' := by
  have hg := vlightL_any a1 n1 c1 hs w hi
  rw [h0] at hg
  obtain ⟨hL1, hL2⟩ := (Vl.lightL_iff hs).1 h0
  have hll := hi.1.1
  have hzl : zs.length = n0 := hr.1
  have hz64 := Vl.may_len hm
  have hA := fun W (hW : Below w.heap.size w W) => vawake_any W (hT.keep hW)
  have hbe := fun (W : World) A C (hW : Below w.heap.size w W) (h : ZRow W A n0 zs) => vbegin_any w.heap.size A n0 C zs W ((TB.of hT).keep hW) hW.size h hm
  have hmy := fun (W : World) (hW : Below w.heap.size w W) => refmay_any a0 n0 c0 zs W (by omega) (hr.below hW (Nat.le_refl _)) true hm.symm
  have hr1 := fun (W : World) (hW : Below w.heap.size w W) => hr.below hW (Nat.le_refl _)
  have HI : Hid (LIn w a1 n1 c1 hs) := hi
  have HL : Hid (hs.length = n1 ∧ n1 ≤ 40 ∧ Vl.lsum hs ≤ 20000) := ⟨hll, by omega, hL2⟩
  have HZ : Hid (zs.length = n0 ∧ n0 ≤ 64) := ⟨hzl, by omega⟩
  have d : decide ((100 : Int) < (n0 : Int)) = false := decide_eq_false (by omega)
  have d2 : ¬ ((100 : Int) < (n0 : Int)) := by omega
  have bz : Below w.heap.size w (w.alloc (.cells #[] 3)) := below_alloc _ _
  have mz := made_t (enc := ze) (s := 1) w (B := w.heap.size) (E := 3) (Nat.le_refl _) rfl
  clear hT hm hr h0 hi hll hL1 hL2 hzl hz64
  go_enter Tryz.func3, Tryz.ntmps3
  go_wp2_with (first
    | (go_at_call 6; go_must (refine hg.mono ?_; rintro e w1 ⟨rfl, hw⟩; rw [hw]; clear hw w1))
    | (at_builtin; go_must (refine append_t intZ zeE (w0 := w) (B := w.heap.size) rfl (.tmp 18) (.tmp 19) rfl _ 0 [] rfl mz a0 n0 c0 zs rfl (hr1 _ bz) hnil (by omega) bz (by simp) ?_; intro A1 C1 w1 hl1 hn1 _ ho1 hb1 hs1; rw [Nat.zero_add, List.nil_append] at ho1; rw [Nat.zero_add]; rw [Nat.zero_add] at hl1 hn1))
    | (go_at_call 8; go_must (refine (hbe _ A1 C1 hb1 (trow_of_owns zeE ho1 (by omega) (by omega))).mono ?_; rintro e w2 ⟨x, p, m, A, C, g, rfl, hx2, hxl2, hLg2, hD2, ho2, hb2'⟩; have hW2 : Hid _ := wi_begin hs1 hb2' hx2 hxl2 hLg2 hD2 ho2 ho1 ⟨hn1, hl1⟩ HZ.out.1 HZ.out.2; have hb2 := hb1.trans (hb2'.mono hb1.size); clear hx2 hxl2 hLg2 hD2 ho2))
    | (go_at_call 9; go_must (refine (hmy _ hb2).mono ?_; rintro e w3 ⟨rfl, q, hw3⟩; have hb3 : Below w.heap.size w w3 := (hw3 ▸ bdr hb2 q); have hW3 : Hid (WI w.heap.size w3 x _ 0 0) := hW2.out.keep (show Below w2.heap.size w2 w3 from hw3 ▸ below_drewN _ _ _); clear hw3)))
  clear hg hbe hmy hW2
  go_loopw [6, 7] (fun ok i wr => ∃ (k : Nat) (S : WS), k ≤ n1 ∧ i = .int .i64 k ∧ ok = .bool true ∧ Hid (WI w.heap.size wr x S k (Vl.lsum (hs.take k) + 10 * k)) ∧ Below w.heap.size w wr) (fun _ i _ => n1 - (RowKit.intOf i).toNat)
  case atStart => exact ⟨0, _, by omega, rfl, rfl, hW3.out, hb3⟩
  case round =>
    obtain ⟨k, S, hk, rfl, rfl, hW, hbw⟩ := hrel
    clear hW3 hb3
    by_cases hlt : k < n1
    · have hiw := HI.out.below hbw (Nat.le_refl _)
      obtain ⟨b', off, rfl, hc⟩ := hiw.cell (show 0 < n1 by omega)
      obtain ⟨t0, t1, t2, t3, t4, t5, t6⟩ := hc k hlt
      have hmem : hs.getD k lhz ∈ hs := Vl.getD_mem' lhz (by rw [HL.out.1]; exact hlt)
      obtain ⟨bs, hIs⟩ := HI.out.2.1 _ hmem
      have hlow := vat_low hIs.bytes
      have hIw := hIs.below hbw (Nat.le_refl _)
      have hsum := Vl.lsum_next hs k (by rw [HL.out.1]; exact hlt)
      have hle := Vl.lsum_le hs (k + 1)
      have hdo := wdo_any hW.out (hs.getD k lhz) bs hIw (by have := HL.out.2; omega) hlow
      have HS : Hid (Vl.lsum (hs.take k) + 10 * k + (hs.getD k lhz).b.n + 10 = Vl.lsum (hs.take (k + 1)) + 10 * (k + 1)) := (by rw [hsum]; omega : Vl.lsum (hs.take k) + 10 * k + (hs.getD k lhz).b.n + 10 = Vl.lsum (hs.take (k + 1)) + 10 * (k + 1))
      clear hc hmem hIs hlow hIw hsum hle hiw hW
      generalize hs.getD k lhz = y at *
      obtain ⟨yd, yn, ⟨ba, bn, bc⟩, ⟨q0, q1, q2, q3⟩⟩ := y
      simp only at t0 t1 t2 t3 t4 t5 t6 HS
      simp only [actv] at hdo
      have hn40 : n1 ≤ 40 := HL.out.2.1
      have i0 : (0 : Int) ≤ (k : Int) := by omega
      have i1 : (k : Int) < (n1 : Int) := by omega
      have d3 : decide ((k : Int) < (n1 : Int)) = true := decide_eq_true i1
      have d4 : decide (k < n1) = true := decide_eq_true hlt
      go_wp2_with (go_at_call 10; go_must (refine hdo.mono ?_; rintro e w4 ⟨rfl, hb4, S', hW4⟩))
      go_roundw
      case rel =>
        have hW5 : WI w.heap.size w4 x S' (k + 1) (Vl.lsum (hs.take (k + 1)) + 10 * (k + 1)) := by rw [← HS.out]; exact hW4
        exact ⟨k + 1, S', Nat.succ_le_of_lt hlt, by go_num, rfl, hW5, hbw.trans hb4⟩
      case measure => clear t0 t1 t2 t3 t4 t5 t6 hdo HS; simp [RowKit.intOf]; omega
    · obtain rfl : k = n1 := by omega
      have hsg := fun W (hb : Below wr.heap.size wr W) => vsegs_any (hW.out.keep hb).lg
      have hzr := fun W (hb : Below wr.heap.size wr W) => (hW.out.keep hb).rl.sr
      have hnn := hW.out.n'
      have hblk : Hid (∀ W, Below wr.heap.size wr W → W.heap[x]? = some (.cells #[.pointer (some ⟨S.p, 0, none⟩), .pointer (some ⟨S.m, 0, none⟩), .slice S.sa S.n S.sc, .slice S.va S.n S.vc, .slice S.ta S.tn S.tc] 37 (0, 0))) := (fun W hb => (hW.out.keep hb).blk : ∀ W, Below wr.heap.size wr W → _)
      unfold ZRes at hsg
      rw [hnn.1] at hsg
      have hnl : Hid (S.n ≤ 64) := hnn.2
      clear hW hnn
      obtain ⟨p', m', a, n, c, sa, sc, va, vc, ta, tn, tc, segs, vals, told, D⟩ := S
      simp only at hsg hzr hblk hnl
      obtain ⟨x0, x1, x2, x3, x4, _⟩ := world_cells (hblk.out wr (Below.refl _ _))
      have hzi := fun W A1 C1 (h1 : ZRow W A1 n segs) (h2 : ZRow W sa n segs) => zints_any A1 n C1 segs sa n sc segs W (by have := hnl.out; omega) h1 h2 true (by simp)
      have d3 : decide ((k : Int) < (k : Int)) = false := by simp
      go_wp2_with fail
      go_region_held3 (fun W => W.cell? ⟨x, 1, none⟩ = some (.pointer (some ⟨m', 0, none⟩)) ∧ W.cell? ⟨x, 2, none⟩ = some (.slice sa n sc)) (first | go_keep | (refine ⟨?_, ?_⟩ <;> assumption))
        (first
          | (go_at_call 12; (with_reducible refine vworld wr.drew ?_); refine (hsg _ vd1).mono ?_; rintro e w4 ⟨A4, C4, rfl, ho4, hb4'⟩; have hb4 : Below wr.heap.size wr w4 := below_of_drew hb4'; obtain ⟨y0, y1, y2, y3, y4, _⟩ := world_cells (hblk.out w4 hb4))
          | (go_at_call 11; (with_reducible refine vworld w4 ?_); refine (hzi w4 A4 C4 (trow_of_owns zeE ho4 (by omega) (by have := hnl.out; omega)) (hzr w4 hb4)).mono ?_; rintro e w5 ⟨rfl, hb5'⟩; have hb5 := hb4.trans (hb5'.mono hb4.size); obtain ⟨z0, z1, z2, z3, z4, _⟩ := world_cells (hblk.out w5 hb5))
          | (go_at_call 7; (with_reducible refine vworld w5 ?_); refine (hA w5 (hbw.trans (hb5.mono hbw.size))).mono ?_; rintro e w6 ⟨rfl, hb6'⟩; have hb6 := hb5.trans (hb6'.mono hb5.size); obtain ⟨v0, v1, v2, v3, v4, _⟩ := world_cells (hblk.out w6 hb6)))
      go_wp2_with fail
      go_ret
      exact ⟨rfl, hbw.trans (hb6.mono hbw.size)⟩
theorem zrow_of {n c : Nat} {a : Option Addr} {z : List Int} (h : IsRow .i64 w a n c z) (hn : n ≤ 1000000) : ZRow w a n (z.take n) ∧ (a = none → n = 0 ∧ c = 0) := by
  rcases h with ⟨rfl, rfl, rfl, rfl⟩ | ⟨x, rfl, hl, _, hz, hc, _⟩
  · exact ⟨⟨rfl, by omega, .inl rfl⟩, fun _ => ⟨rfl, rfl⟩⟩
  · refine ⟨⟨by rw [List.length_take]; omega, by omega, ?_⟩, fun h => by cases h⟩
    rcases Nat.eq_zero_or_pos n with h0 | h0
    · exact .inl h0
    · obtain ⟨b, off, spot⟩ := x
      have q0 := hc 0 (by omega)
      have hsp : spot = none := by simpa [Addr.add] using World.cell?_spot q0
      subst hsp
      refine .inr ⟨b, off, rfl, fun i hi j v hj => ?_⟩
      have q := hc i (by omega)
      simp only [add_at] at q
      have e : (z.take n).getD i 0 = z.getD i 0 := by simp only [List.getD_eq_getElem?_getD]; rw [List.getElem?_take_of_lt hi]
      rw [e] at hj
      match j, hj with
      | 0, hj =>
        have : v = .int .i64 (z.getD i 0) := by simpa [ze] using hj.symm
        rw [this, Nat.mul_one, Nat.add_zero]; exact q
      | j + 1, hj => simp [ze] at hj
theorem vacts_all (hi : LIn w a1 n1 c1 hs) (z0 : List Int) (hz : IsRow .i64 w a0 n0 c0 z0) (hT : Tab w) :
    Calls Tryz.prog 3 #[.slice a0 n0 c0, .slice a1 n1 c1] w fun e w' => e = .returned (.bool true) ∧ Below w.heap.size w w' := by
  by_cases hd : Vl.lightL hs = false ∨ 100 < n0
  · exact vacts_dark hi hT hd
  · have h0 : Vl.lightL hs = true := by
      cases h : Vl.lightL hs
      · exact absurd (.inl h) hd
      · rfl
    have hn : n0 ≤ 100 := by
      rcases Nat.lt_or_ge 100 n0 with h | h
      · exact absurd (.inr h) hd
      · exact h
    obtain ⟨h1, h2⟩ := zrow_of hz (by omega)
    cases hm : Vl.may (z0.take n0)
    · exact vacts_bad hi h1 h2 hn hT h0 hm
    · exact vacts_good hi h1 h2 hn hT h0 hm
end
end Go.Proofs.YtnoknmnbfkdccaaGreatDoor
