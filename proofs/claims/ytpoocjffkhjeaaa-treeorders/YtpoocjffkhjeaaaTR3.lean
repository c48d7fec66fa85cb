/- What the reference's All, Get, Scan and Weight of items do. -/
import Derived.Test.YtpoocjffkhjeaaaTR2
namespace Go.Proofs.Ytpoocjffkhjeaaa
open Go.RowKit

/-- a slice of items is told; their bytes lie in w0 -/
def RowRes (w w0 : World) (L : List It.I) (e : Ending) (w' : World) : Prop :=
  ∃ a c hs, e = .returned (.slice a L.length c) ∧ L.length ≤ c ∧ (a = none → L.length = 0 ∧ c = 0) ∧ TRow 8 ih ihz w' a L.length hs ∧ ItAll w0 hs L ∧ Below w.heap.size w w'
theorem TRow.items {w : World} {a : Option Addr} {n : Nat} {hs : List IH} (h : TRow 8 ih ihz w a n hs) (hn : 0 < n) : ∃ b off, a = some ⟨b, off, none⟩ ∧ ∀ i, i < n → ICells w b (off + i * 8) (hs.getD i ihz) := by
  obtain ⟨b, off, e, hc⟩ := h.at hn
  exact ⟨b, off, e, fun i hi => ⟨hc i hi 0 _ rfl, hc i hi 1 _ rfl, hc i hi 2 _ rfl, hc i hi 3 _ rfl, hc i hi 4 _ rfl, hc i hi 5 _ rfl, hc i hi 6 _ rfl, hc i hi 7 _ rfl⟩⟩
theorem It.all_take {xs : List It.I} {k : Nat} (hk : k < xs.length) : It.all (xs.take (k + 1)) = if It.may (xs.getD k It.zero) = true then It.put (It.all (xs.take k)) (xs.getD k It.zero) else It.all (xs.take k) := by
  rw [List.take_succ_eq_append_getElem hk, show xs.getD k It.zero = xs[k] by simp [hk]]
  unfold It.all
  rw [List.filter_append, List.foldl_append]
  by_cases h : It.may xs[k] = true
  · simp [h]
  · simp [h]
theorem It.all_len : ∀ (p l : List It.I), (p.foldl It.put l).length ≤ l.length + p.length
  | [], l => by simp
  | x :: p, l => by
    have h1 := It.all_len p (It.put l x)
    have h2 := It.putGo_len x false l
    rw [List.foldl_cons, List.length_cons]
    have h3 : (It.put l x).length ≤ l.length + 1 := h2
    omega
theorem It.all_length (l : List It.I) : (It.all l).length ≤ l.length := by
  have := It.all_len (l.filter It.may) []
  have h2 := List.length_filter_le It.may l
  unfold It.all
  simp at this
  omega

set_option maxRecDepth 100000 in
set_option maxHeartbeats 4000000 in
theorem iall_any (w0 : World) (a : Option Addr) (len cap : Nat) (gs : List IH) (xs : List It.I) (w : World) (hlen : len ≤ 1000) (hr : TRow 8 ih ihz w a len gs) (hall : ItAll w0 gs xs) (hw0 : Below w0.heap.size w0 w) :
    Calls Try.prog 11 #[.slice a len cap] w (RowRes w w0 (It.all xs)) := by
  have hll : Hid (xs.length = len) := (hall.1.symm.trans hr.1 : xs.length = len)
  have Hall : Hid (ItAll w0 gs xs) := hall
  have hm0 := made_t (s := 8) (enc := ih) w (B := w.heap.size) (E := 40) (Nat.le_refl _) rfl
  have hb0 := below_alloc w (.cells #[] 40)
  clear hall
  go_enter Try.func11, Try.ntmps11
  go_wp2
  go_loopw [3, 4] (fun v i wr => ∃ (k m c : Nat) (g : Option Addr) (O : List IH) (P : List It.I), k ≤ len ∧ m ≤ k ∧ i = .int .i64 k ∧ v = .slice g m c ∧ m ≤ c ∧ (g = none → m = 0 ∧ c = 0) ∧ Hid (P = It.all (xs.take k)) ∧ Hid (P.length = m) ∧ Hid (ItAll w0 O P) ∧ TRow 8 ih ihz wr g m O ∧ Below w.heap.size w wr)
    (fun _ i _ => len - (intOf i).toNat)
  case atStart => exact ⟨0, 0, 0, _, [], [], by omega, by omega, rfl, rfl, by omega, (fun h => by cases h), (rfl : ([] : List It.I) = It.all (xs.take 0)), (rfl : ([] : List It.I).length = 0), ItAll.nil _, TRow.nil _ _, hb0⟩
  case round =>
    obtain ⟨k, m, c, g, O, P, hk, hmk, rfl, rfl, hmc, hgn, HPe, HP, HA, hrow, hbel⟩ := hrel
    clear hm0 hb0
    by_cases hlt : k < len
    · obtain ⟨bb, off, rfl, hc⟩ := hr.items (by omega)
      have hck := hc k hlt
      have C0 : Hid (∀ W, Below w.heap.size w W → ICells W bb (off + k * 8) (gs.getD k ihz)) := (fun W hW => hck.below hW (Nat.le_refl _) : ∀ W, Below w.heap.size w W → ICells W bb (off + k * 8) (gs.getD k ihz))
      have hk' : k < xs.length := by rw [hll.out]; exact hlt
      have hst : Hid (It.all (xs.take (k + 1)) = if It.may (xs.getD k It.zero) = true then It.put P (xs.getD k It.zero) else P) := (by rw [HPe.out]; exact It.all_take hk' : It.all (xs.take (k + 1)) = if It.may (xs.getD k It.zero) = true then It.put P (xs.getD k It.zero) else P)
      have Hy : Hid (IsItem w0 (gs.getD k ihz) (xs.getD k It.zero)) := (Hall.out.2 k hk' : IsItem w0 (gs.getD k ihz) (xs.getD k It.zero))
      have hln : Hid ((It.all (xs.take (k + 1))).length ≤ k + 1) := (by have := It.all_length (xs.take (k + 1)); rw [List.length_take] at this; omega : (It.all (xs.take (k + 1))).length ≤ k + 1)
      generalize gs.getD k ihz = q at *
      generalize xs.getD k It.zero = y at *
      have hmay := fun W (hW : Below w.heap.size w W) => imay_any q y W (Hy.out.below (hw0.trans (hW.mono hw0.size)) (Nat.le_refl _))
      have hput := fun W (hW : Below wr.heap.size wr W) => iput_any w0 g m c O P q y W (by omega) (hrow.below hW (Nat.le_refl _)) HA.out Hy.out
      obtain ⟨key, dead, far, qa, qn, qc, ⟨p1, p2, p3, p4⟩⟩ := q
      obtain ⟨y0, y1, y2, y3, y4, y5, y6, y7⟩ := C0.out wr hbel
      simp only at y0 y1 y2 y3 y4 y5 y6 y7 hmay hput
      have i0 : (0 : Int) ≤ (k : Int) := by omega
      have i1 : (k : Int) < (len : Int) := by omega
      clear hc hck hk' HPe
      cases hq : It.may y with
      | false =>
        rw [hq] at hmay hst
        clear hput
        have H2 : Hid (P = It.all (xs.take (k + 1))) := (by rw [hst.out]; rfl : P = It.all (xs.take (k + 1)))
        clear hst hq
        go_wp2_with (go_at_call 25; go_must (refine (hmay _ hbel).mono ?_; rintro e w1 ⟨rfl, hb1⟩))
        go_roundw
        case rel => exact ⟨k + 1, m, c, g, O, P, by omega, by omega, by go_num, rfl, hmc, hgn, H2, HP, HA, hrow.below hb1 (Nat.le_refl _), hbel.trans (hb1.mono hbel.size)⟩
        case measure => simp [intOf]; omega
      | true =>
        rw [hq] at hmay hst
        have H2 : Hid (It.put P y = It.all (xs.take (k + 1))) := (by rw [hst.out]; rfl : It.put P y = It.all (xs.take (k + 1)))
        rw [← H2.out] at hln
        clear hst hq
        generalize It.put P y = P2 at *
        go_wp2_with (first
          | (go_at_call 25; go_must (refine (hmay _ hbel).mono ?_; rintro e w1 ⟨rfl, hb1⟩; have hw1 := hbel.trans (hb1.mono hbel.size); obtain ⟨u0, u1, u2, u3, u4, u5, u6, u7⟩ := C0.out w1 hw1; simp only at u0 u1 u2 u3 u4 u5 u6 u7))
          | (go_at_call 30; go_must (refine (hput _ hb1).mono ?_; rintro e w2 ⟨a2, c2, hs2, rfl, hc2, hn2, hown2, HA2, hb2⟩; have hw2 := hw1.trans (hb2.mono hw1.size))))
        go_roundw
        case rel => exact ⟨k + 1, _, c2, a2, hs2, P2, by omega, hln.out, by go_num, rfl, hc2, hn2, H2, (rfl : P2.length = P2.length), HA2, trow_of_owns ihE hown2 (by omega) (Nat.le_trans hln.out (by omega)), hw2⟩
        case measure => simp [intOf]; omega
    · obtain rfl : k = len := by omega
      obtain rfl : P = It.all xs := by rw [HPe.out, List.take_of_length_le (by rw [hll.out]; omega)]
      obtain rfl := HP.out
      go_wp2
      go_ret
      exact ⟨g, c, O, rfl, hmc, hgn, hrow, HA.out, hbel⟩

set_option maxRecDepth 100000 in
set_option maxHeartbeats 1000000 in
theorem iweight_any (w0 : World) (a : Option Addr) (len cap : Nat) (gs : List IH) (xs : List It.I) (w : World) (hlen : len ≤ 1000) (hr : TRow 8 ih ihz w a len gs) (hall : ItAll w0 gs xs) (hsm : ∀ x ∈ xs, x.1.length ≤ 100000 ∧ x.2.2.2.1.length ≤ 100000) :
    Calls Try.prog 16 #[.slice a len cap] w fun e w' => e = .returned (.int .i64 ((It.weight xs : Nat) : Int)) ∧ Below w.heap.size w w' := by
  have hll : Hid (xs.length = len) := (hall.1.symm.trans hr.1 : xs.length = len)
  have Hall : Hid (ItAll w0 gs xs) := hall
  have Hsm : Hid (∀ x ∈ xs, x.1.length ≤ 100000 ∧ x.2.2.2.1.length ≤ 100000) := hsm
  clear hall hsm
  go_enter Try.func16, Try.ntmps16
  go_wp2
  go_loopw [3, 4] (fun v i wr => ∃ (k t : Nat), k ≤ len ∧ t ≤ k * 200016 ∧ i = .int .i64 k ∧ v = .int .i64 t ∧ Hid (t = It.weight (xs.take k)) ∧ Below w.heap.size w wr) (fun _ i _ => len - (intOf i).toNat)
  case atStart => exact ⟨0, 0, by omega, by omega, rfl, rfl, (rfl : 0 = It.weight (xs.take 0)), Below.refl _ _⟩
  case round =>
    obtain ⟨k, t, hk, ht, rfl, rfl, H, hbel⟩ := hrel
    by_cases hlt : k < len
    · obtain ⟨bb, off, rfl, hc⟩ := hr.items (by omega)
      obtain ⟨y0, y1, y2, y3, y4, y5, y6, y7⟩ := (hc k hlt).below hbel (Nat.le_refl _)
      have hk' : k < xs.length := by rw [hll.out]; exact hlt
      have Hy := Hall.out.2 k hk'
      have e1 : Hid ((xs.getD k It.zero).1.length = (gs.getD k ihz).key.size) := (by rw [← Hy.key, kb_len] : (xs.getD k It.zero).1.length = (gs.getD k ihz).key.size)
      have e2 : Hid ((xs.getD k It.zero).2.2.2.1.length = (gs.getD k ihz).n) := (Hy.row.1 : (xs.getD k It.zero).2.2.2.1.length = (gs.getD k ihz).n)
      have hb := Hsm.out (xs.getD k It.zero) (by rw [show xs.getD k It.zero = xs[k] by simp [hk']]; exact List.getElem_mem _)
      rw [e1.out, e2.out] at hb
      have H2 : Hid (t + (gs.getD k ihz).key.size + 16 + (gs.getD k ihz).n = It.weight (xs.take (k + 1))) := (by
        rw [H.out, List.take_succ_eq_append_getElem hk']
        unfold It.weight
        rw [List.map_append, List.sum_append, ← e1.out, ← e2.out, show xs.getD k It.zero = xs[k] by simp [hk']]
        simp; omega : t + (gs.getD k ihz).key.size + 16 + (gs.getD k ihz).n = It.weight (xs.take (k + 1)))
      clear hc hk' H Hy e1 e2
      generalize gs.getD k ihz = q at *
      have i0 : (0 : Int) ≤ (k : Int) := by omega
      have i1 : (k : Int) < (len : Int) := by omega
      go_wp2_with fail
      go_quiet (fail)
      have hbq : Below w.heap.size w (wr.drewN nq) := hbel.trans (below_drewN _ _ _)
      go_wp2
      go_roundw
      case rel => exact ⟨k + 1, t + q.key.size + 16 + q.n, by omega, by omega, by go_num, val_int (by omega), H2, hbq⟩
      case measure => simp [intOf]; omega
    · obtain rfl : k = len := by omega
      obtain rfl : t = It.weight xs := by rw [H.out, List.take_of_length_le (by rw [hll.out]; omega)]
      go_wp2
      go_ret
      exact ⟨rfl, hbel⟩

set_option maxRecDepth 100000 in
set_option maxHeartbeats 2000000 in
theorem iget_any (w0 : World) (a : Option Addr) (len cap : Nat) (gs : List IH) (xs : List It.I) (s : ByteArray) (w : World) (hlen : len ≤ 1000) (hr : TRow 8 ih ihz w a len gs) (hall : ItAll w0 gs xs) :
    Calls Try.prog 18 #[.slice a len cap, .string s] w fun e w' => ∃ h, e = .returned (iv h) ∧ IsItem w0 h (It.get xs (kb s)) ∧ Below w.heap.size w w' := by
  have hll : Hid (xs.length = len) := (hall.1.symm.trans hr.1 : xs.length = len)
  have Hall : Hid (ItAll w0 gs xs) := hall
  obtain ⟨R, hR⟩ : ∃ R, R = It.get xs (kb s) := ⟨_, rfl⟩
  rw [← hR]
  have HR : Hid (R = It.get xs (kb s)) := hR
  obtain ⟨wb, hwb⟩ : ∃ wb, wb = w.alloc (.cells #[.string ⟨#[]⟩, .bool false, .bool false, .slice none 0 0, .int .i64 0, .int .i64 0, .int .i64 0, .int .u32 0] 40) := ⟨_, rfl⟩
  have hbox : Hid (∀ W, Below wb.heap.size wb W → Below w.heap.size w W ∧ w.heap.size < W.heap.size ∧ W.cell? ⟨w.heap.size, 0, none⟩ = some (.string ⟨#[]⟩) ∧ W.cell? ⟨w.heap.size, 1, none⟩ = some (.bool false) ∧ W.cell? ⟨w.heap.size, 2, none⟩ = some (.bool false) ∧ W.cell? ⟨w.heap.size, 3, none⟩ = some (.slice none 0 0) ∧ W.cell? ⟨w.heap.size, 4, none⟩ = some (.int .i64 0) ∧ W.cell? ⟨w.heap.size, 5, none⟩ = some (.int .i64 0) ∧ W.cell? ⟨w.heap.size, 6, none⟩ = some (.int .i64 0) ∧ W.cell? ⟨w.heap.size, 7, none⟩ = some (.int .u32 0) ∧ ∀ i, W.frozen? ⟨w.heap.size, i, none⟩ = false) := (fun W hW => by
    rw [hwb] at hW
    obtain ⟨⟨k0, k1, k2, k3, k4, k5, k6, k7⟩, hl, hb⟩ := eight_keep hW
    exact ⟨hb, hl, k0, k1, k2, k3, k4, k5, k6, k7, fun i => (hW.frozen (p := ⟨w.heap.size, i, none⟩) (by simp)).trans (frozen_new w _ _ i)⟩ : ∀ W, Below wb.heap.size wb W → Below w.heap.size w W ∧ w.heap.size < W.heap.size ∧ W.cell? ⟨w.heap.size, 0, none⟩ = some (.string ⟨#[]⟩) ∧ W.cell? ⟨w.heap.size, 1, none⟩ = some (.bool false) ∧ W.cell? ⟨w.heap.size, 2, none⟩ = some (.bool false) ∧ W.cell? ⟨w.heap.size, 3, none⟩ = some (.slice none 0 0) ∧ W.cell? ⟨w.heap.size, 4, none⟩ = some (.int .i64 0) ∧ W.cell? ⟨w.heap.size, 5, none⟩ = some (.int .i64 0) ∧ W.cell? ⟨w.heap.size, 6, none⟩ = some (.int .i64 0) ∧ W.cell? ⟨w.heap.size, 7, none⟩ = some (.int .u32 0) ∧ ∀ i, W.frozen? ⟨w.heap.size, i, none⟩ = false)
  clear hall hR
  go_enter Try.func18, Try.ntmps18
  go_wp2
  rw [← hwb]
  have hrow : TRow 8 ih ihz wb a len gs := hr.below (B := w.heap.size) (by rw [hwb]; exact below_alloc _ _) (Nat.le_refl _)
  clear hwb hr
  go_loopw [5] (fun i wr => ∃ k : Nat, k ≤ len ∧ i = .int .i64 k ∧ Hid (R = It.get (xs.drop k) (kb s)) ∧ Below wb.heap.size wb wr) (fun i _ => len - (intOf i).toNat)
  case atStart => exact ⟨0, by omega, rfl, (HR.out : R = It.get (xs.drop 0) (kb s)), Below.refl _ _⟩
  case round =>
    obtain ⟨k, hk, rfl, H, hbel⟩ := hrel
    clear HR
    obtain ⟨hw, hlw, x0, x1, x2, x3, x4, x5, x6, x7, hfz⟩ := hbox.out wr hbel
    have f0 := hfz 0
    have f1 := hfz 1
    have f2 := hfz 2
    have f3 := hfz 3
    have f4 := hfz 4
    have f5 := hfz 5
    have f6 := hfz 6
    have f7 := hfz 7
    clear hfz
    by_cases hlt : k < len
    · obtain ⟨bb, off, rfl, hc⟩ := hrow.items (by omega)
      have hck := (hc k hlt).below hbel (Nat.le_refl _)
      have hne : bb ≠ w.heap.size ∨ True := .inr trivial
      have hk' : k < xs.length := by rw [hll.out]; exact hlt
      have hst : Hid (R = if (xs.getD k It.zero).1 = kb s then xs.getD k It.zero else It.get (xs.drop (k + 1)) (kb s)) := (by rw [H.out, It.getD_drop hk']; rfl : R = if (xs.getD k It.zero).1 = kb s then xs.getD k It.zero else It.get (xs.drop (k + 1)) (kb s))
      have Hy : Hid (IsItem w0 (gs.getD k ihz) (xs.getD k It.zero)) := (Hall.out.2 k hk' : IsItem w0 (gs.getD k ihz) (xs.getD k It.zero))
      generalize gs.getD k ihz = q at *
      generalize xs.getD k It.zero = y at *
      have heq : (q.key.toList == s.toList) = decide (y.1 = kb s) := str_eq _ (by rw [Hy.out.key, decide_eq_true_eq])
      obtain ⟨y0, y1, y2, y3, y4, y5, y6, y7⟩ := hck
      have i0 : (0 : Int) ≤ (k : Int) := by omega
      have i1 : (k : Int) < (len : Int) := by omega
      clear H hc hk' hne
      by_cases he : y.1 = kb s
      · rw [show decide (y.1 = kb s) = true by simp [he]] at heq
        obtain rfl : R = y := by rw [hst.out, if_pos he]
        clear hst he
        go_wp2
        exact bodyPost_ret (v := iv q) (by simp [results, Try.results18, go_sem, x0, x1, x2, x3, x4, x5, x6, x7]) rfl ⟨q, rfl, Hy.out, (((((((hw.setCell (Nat.le_refl _) _).setCell (Nat.le_refl _) _).setCell (Nat.le_refl _) _).setCell (Nat.le_refl _) _).setCell (Nat.le_refl _) _).setCell (Nat.le_refl _) _).setCell (Nat.le_refl _) _).setCell (Nat.le_refl _) _⟩
      · rw [show decide (y.1 = kb s) = false by simp [he]] at heq
        have H2 : Hid (R = It.get (xs.drop (k + 1)) (kb s)) := (by rw [hst.out, if_neg he] : R = It.get (xs.drop (k + 1)) (kb s))
        clear hst he
        go_wp2
        go_roundw
        case rel => exact ⟨k + 1, by omega, by go_num, H2, hbel⟩
        case measure => simp [intOf]; omega
    · obtain rfl : k = len := by omega
      obtain rfl : R = It.zero := by rw [H.out, List.drop_of_length_le (by rw [hll.out]; omega)]; rfl
      go_wp2
      exact bodyPost_ret (v := iv ihz) (by simp [results, Try.results18, go_sem, x0, x1, x2, x3, x4, x5, x6, x7, ihz, Po.zero]) rfl ⟨ihz, rfl, item_zero w0, (((((((hw.setCell (Nat.le_refl _) _).setCell (Nat.le_refl _) _).setCell (Nat.le_refl _) _).setCell (Nat.le_refl _) _).setCell (Nat.le_refl _) _).setCell (Nat.le_refl _) _).setCell (Nat.le_refl _) _).setCell (Nat.le_refl _) _⟩
end Go.Proofs.Ytpoocjffkhjeaaa
