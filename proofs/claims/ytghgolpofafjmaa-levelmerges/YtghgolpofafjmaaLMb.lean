/- LevelMerges where something is merged. -/
import Derived.Test.YtghgolpofafjmaaLMa
namespace Go.Proofs.Ytghgolpofafjmaa
open Go.RowKit
theorem Lv.pn_le (d : List Lv.T) (base : Int) : Lv.pn d base ≤ 4 := by
  unfold Lv.pn
  split
  · omega
  · split
    · omega
    · split
      · omega
      · split <;> omega
theorem Lv.pn_full {d : List Lv.T} {base : Int} {N : Nat} (hb : 0 ≤ base) (hN : N = Lv.pn d base) (h4 : N < 4) : 0 < (Lv.lv d N).length := by
  unfold Lv.pn at hN
  split at hN
  · next h => subst hN; exact Lv.full_some hb h
  · split at hN
    · next h => subst hN; exact Lv.full_some hb h
    · split at hN
      · next h => subst hN; exact Lv.full_some hb h
      · split at hN
        · next h => subst hN; exact Lv.full_some hb h
        · omega
theorem inn_len {d : List Lv.T} (h : d.length ≤ 64) (N : Nat) : (nm (Lv.inn d N)).length ≤ 1000 := by
  have e1 : (Lv.fr d N).length ≤ 64 := by
    unfold Lv.fr
    split
    · exact Nat.le_trans (lv_len _ _) h
    · exact Nat.le_trans (List.length_take_le ..) (by omega)
  have e2 := Nat.le_trans (filter_len (Lv.lv d ((N : Int) + 1)) (fun x => Lv.meet x (Lv.span (Lv.fr d N)))) (lv_len _ _)
  have e3 : (nm (Lv.inn d N)).length = (Lv.fr d N).length + ((Lv.lv d ((N : Int) + 1)).filter (fun x => Lv.meet x (Lv.span (Lv.fr d N)))).length := by
    rw [nm, List.length_map, Lv.inn, List.length_append]
  omega
theorem mnil_of {f : ByteArray} (h : f.size = 0) : f.toList = [] := by
  rw [Lib.toList_data]
  exact List.length_eq_zero_iff.mp (by simpa using h)
theorem msize_nil {f : ByteArray} (h : f.toList = []) : f.size = 0 := by
  rw [Lib.toList_data] at h
  have : f.data.toList.length = 0 := by rw [h]; rfl
  simpa using this
set_option maxRecDepth 100000 in
set_option maxHeartbeats 4000000 in
theorem levelmerges_some (a : Option Addr) (n c : Nat) (l : List Lv.T) (base : Int) (key : ByteArray) (w : World) (hi : IsTabs w a n c l) (hL : lgt l = true) (hm : Lv.May l) (hk : key.size ≤ 200) (N : Nat) (hN : N < 4) (hne : Lv.fr (Lv.ord l) N ≠ []) (dr : Bool) (hIl : (nm (Lv.inn (Lv.ord l) N)).length ≤ 1000) (hpk : ∀ V, Below w.heap.size w V → Calls Try.prog 18 #[.slice a n c, .int .i64 base] V (PRes V (nm (Lv.inn (Lv.ord l) N)) ((N : Int) + 1) dr true)) :
    Calls Try.prog 5 #[.slice a n c, .int .i64 base, .string key] w fun e w' => e = .returned (.bool true) ∧ Below w.heap.size w w' := by
  obtain ⟨hr, hnil, hnc, hn⟩ := hi
  have hli := light_level a n c l w hr hn
  have haw := awake_level
  rw [hL] at hli
  have h80 : n ≤ 80 := by have := lgt_len hL; rw [hr.1] at this; exact this
  have hll : Hid (l.length = n) := hr.1
  have hmay := rmay_any a n c l w (by omega) hr
  rw [(Lv.may_iff l).mpr hm] at hmay
  have d0 : ((key.size : Nat) : Int) ≤ 200 := by omega
  have HML : Hid ((∀ t ∈ l, t.num ≠ 2147483647) → Lv.May (mleft l N) ∧ ∀ k, (l.filter (mp (Lv.ord l) N)).any (Lv.has k) = true → (nm ((Lv.ord (mleft l N)).filter (Lv.has k))).contains 2147483647 = true) := (fun hno => mleft_may hm hN hne hno : (∀ t ∈ l, t.num ≠ 2147483647) → Lv.May (mleft l N) ∧ ∀ k, (l.filter (mp (Lv.ord l) N)).any (Lv.has k) = true → (nm ((Lv.ord (mleft l N)).filter (Lv.has k))).contains 2147483647 = true)
  have HMF : Hid (mleft l N = l.filter (fun t => !mp (Lv.ord l) N t) ++ [⟨2147483647, (N : Int) + 1, 0, Lv.mF ⟨#[]⟩ (l.filter (mp (Lv.ord l) N)), Lv.hiL ⟨#[]⟩ (l.filter (mp (Lv.ord l) N))⟩]) := (rfl : mleft l N = _)
  have HP : Hid (∀ t, mp (Lv.ord l) N t = (nm (Lv.inn (Lv.ord l) N)).contains t.num.toNat) := (fun t => rfl : ∀ t, mp (Lv.ord l) N t = (nm (Lv.inn (Lv.ord l) N)).contains t.num.toNat)
  have hl1 : ∀ t ∈ l, 1 ≤ t.num := fun t ht => (hm.one t ht).n1
  clear hL hm hne
  generalize mleft l N = LF at *
  generalize mp (Lv.ord l) N = p at *
  generalize nm (Lv.inn (Lv.ord l) N) = I at *
  obtain ⟨FF, hFF⟩ : ∃ FF, FF = Lv.mF ⟨#[]⟩ (l.filter p) := ⟨_, rfl⟩
  obtain ⟨GG, hGG⟩ : ∃ GG, GG = Lv.hiL ⟨#[]⟩ (l.filter p) := ⟨_, rfl⟩
  obtain ⟨WAS, hWAS⟩ : ∃ WAS, WAS = (l.filter p).any (Lv.has key) := ⟨_, rfl⟩
  rw [← hFF, ← hGG] at HMF
  have HF0 : Hid (FF = Lv.mF ⟨#[]⟩ ((l.drop 0).filter p)) := hFF
  have HG0 : Hid (GG = Lv.hiL ⟨#[]⟩ ((l.drop 0).filter p)) := hGG
  have HW0 : Hid (WAS = (false || ((l.drop 0).filter p).any (Lv.has key))) := (by rw [hWAS]; rfl : WAS = (false || ((l.drop 0).filter p).any (Lv.has key)))
  have HWM : Hid (WAS = (l.filter p).any (Lv.has key)) := hWAS
  have HL0 : Hid (LF = [] ++ ((l.drop 0).filter (fun t => !p t) ++ [⟨2147483647, (N : Int) + 1, 0, FF, GG⟩])) := (HMF.out : LF = _)
  clear hFF hGG hWAS HMF
  have hN1 : decide (((N : Int) + 1) = 0) = false := decide_eq_false (by omega)
  go_enter Try.func5, Try.ntmps5
  go_wp2_with (first | (go_at_call 6; go_must (refine hli.mono ?_; rintro e w2 ⟨rfl, rfl⟩)) | (go_at_call 12; go_must (refine hmay.mono ?_; rintro e w4 ⟨rfl, hb4⟩)) | (go_at_call 18; go_must (refine (hpk _ hb4).mono ?_; rintro e w3 ⟨g3, c3, rfl, hown3, hb3⟩)))
  have hB3 := hb4.trans (hb3.mono hb4.size)
  have hrW := hr.below (hB3.alloc hB3.size (oj (.slice g3 (I).length c3) ((N : Int) + 1) dr)) (Nat.le_refl _)
  have hrI : IRow (w3.alloc (oj (.slice g3 (I).length c3) ((N : Int) + 1) dr)) g3 I.length I := (nrow hown3 hIl).below (below_alloc _ _) (Nat.le_refl _)
  have gj : (w3.alloc (oj (.slice g3 (I).length c3) ((N : Int) + 1) dr)).heap[w3.heap.size]? = some (oj (.slice g3 (I).length c3) ((N : Int) + 1) dr) := heap_alloc_new w3 _
  have hs3 : (w3.alloc (oj (.slice g3 (I).length c3) ((N : Int) + 1) dr)).heap.size = w3.heap.size + 1 := by simp
  have hBW := hB3.alloc hB3.size (oj (.slice g3 (I).length c3) ((N : Int) + 1) dr)
  have hw3 : w2.heap.size ≤ w3.heap.size := hB3.size
  clear hli hmay hpk hown3 hb3 hb4 hB3 hr
  generalize w3.alloc (oj (.slice g3 (I).length c3) ((N : Int) + 1) dr) = W3 at *
  have g0 : ((W3.alloc (otab 2147483647 ((N : Int) + 1) 0 ⟨#[]⟩ ⟨#[]⟩)).alloc (.cells #[] 30)).heap[w3.heap.size + 1]? = some (otab 2147483647 ((N : Int) + 1) 0 ⟨#[]⟩ ⟨#[]⟩) := by
    have h := blk_alloc (heap_alloc_new W3 (otab 2147483647 ((N : Int) + 1) 0 ⟨#[]⟩ ⟨#[]⟩)) (.cells #[] 30)
    rw [hs3] at h; exact h
  have hm0 := made_t (s := 5) (enc := le) (W3.alloc (otab 2147483647 ((N : Int) + 1) 0 ⟨#[]⟩ ⟨#[]⟩)) (B := w3.heap.size + 1 + 1) (E := 30) (g := w3.heap.size + 1 + 1) (by simp; omega) (by simp; omega)
  have hb0 := below_two W3 (otab 2147483647 ((N : Int) + 1) 0 ⟨#[]⟩ ⟨#[]⟩) (.cells #[] 30)
  go_loopw [10, 11, 12] (fun v b i wr => ∃ (k m cc : Nat) (g : Option Addr) (O : List Lv.T) (bb : Bool) (f h : ByteArray), k ≤ n ∧ m ≤ k ∧ i = .int .i64 k ∧ b = .bool bb ∧ v = .slice g m cc ∧ Hid (∀ t ∈ l.take k, t.num ≠ 2147483647) ∧ Hid (LF = O ++ ((l.drop k).filter (fun t => !p t) ++ [⟨2147483647, (N : Int) + 1, 0, FF, GG⟩])) ∧ Hid (FF = Lv.mF f ((l.drop k).filter p)) ∧ Hid (GG = Lv.hiL h ((l.drop k).filter p)) ∧ Hid (WAS = (bb || ((l.drop k).filter p).any (Lv.has key))) ∧ wr.ownsRow (w3.heap.size + 1 + 1) 30 5 (.slice g m cc) m (tcells le O) ∧ wr.heap[w3.heap.size + 1]? = some (otab 2147483647 ((N : Int) + 1) 0 f h) ∧ Below W3.heap.size W3 wr) (fun _ _ i _ => n - (intOf i).toNat)
  case atStart => exact ⟨0, 0, 0, _, [], false, _, _, by omega, by omega, rfl, rfl, rfl, (by simp : ∀ t ∈ l.take 0, t.num ≠ 2147483647), HL0, HF0, HG0, HW0, hm0, g0, hb0⟩
  case round =>
    obtain ⟨k, m, cc, g, O, bb, f, h, hkn, hmk, rfl, rfl, rfl, HNO, HL1, HF1, HG1, HW1, hown, gout, hbel⟩ := hrel
    clear HL0 HF0 HG0 HW0 hm0 g0 hb0
    have hws : w3.heap.size + 1 ≤ wr.heap.size := by have := hbel.size; omega
    by_cases hlt : k < n
    · obtain ⟨b, off, x1, x2, x3, x4, x5, rfl, hx, q0, q1, q2, q3, q4⟩ := lget hrW hbel hlt
      have hk' : k < l.length := by rw [hll.out]; exact hlt
      have i0 : (0 : Int) ≤ (k : Int) := by omega
      have i1 : (k : Int) < (n : Int) := by omega
      have hx1 : 1 ≤ x1 := by
        have := hl1 (l.getD k Lv.zero) (by simp [hk'])
        rw [hx.out] at this; exact this
      obtain ⟨y, rfl⟩ := Int.eq_ofNat_of_zero_le (show 0 ≤ x1 by omega)
      have go2 := blk_alloc gout (otab y x2 x3 x4 x5)
      obtain ⟨⟨o0, o1, o2, o3, o4⟩, of⟩ := blk5 go2
      have of3 := of 3
      have of4 := of 4
      have gj2 := blk_alloc (blk_kept gj hbel) (otab y x2 x3 x4 x5)
      obtain ⟨⟨j0, j1, j2⟩, _⟩ := blk3 gj2
      have hown2 := hown.alloc (otab y x2 x3 x4 x5)
      have hb2 := hbel.alloc hbel.size (otab y x2 x3 x4 x5)
      have hha := rhas_any g3 I.length c3 I y (wr.alloc (otab y x2 x3 x4 x5)) (by omega) (hrI.below hb2 (Nat.le_refl _))
      clear of
      by_cases h21 : y = 2147483647
      · have e21 : ((y : Int) == 2147483647) = true := by simp; omega
        clear HL1 HF1 HG1 HW1 HNO hx HP HML HWM h21 hha
        go_wp2_with (go_at_call 7; go_must (refine (haw _).mono ?_; rintro e w8 ⟨rfl, hb8⟩))
        go_ret
        have hX := hBW.trans (hb2.mono hBW.size)
        exact ⟨rfl, hX.trans (hb8.mono hX.size)⟩
      have e21 : ((y : Int) == 2147483647) = false := by simp; omega
      have HNO2 : Hid (∀ t ∈ l.take (k + 1), t.num ≠ 2147483647) := (by
        intro t ht
        rw [List.take_succ_eq_append_getElem hk'] at ht
        rcases List.mem_append.mp ht with ht | ht
        · exact HNO.out t ht
        · rw [List.mem_singleton.mp ht, show l[k] = l.getD k Lv.zero by simp [hk'], hx.out]
          show (y : Int) ≠ 2147483647
          omega : ∀ t ∈ l.take (k + 1), t.num ≠ 2147483647)
      have Hp : Hid (p ⟨y, x2, x3, x4, x5⟩ = I.contains y) := (HP.out ⟨y, x2, x3, x4, x5⟩ : p ⟨y, x2, x3, x4, x5⟩ = I.contains y)
      have Hd : Hid (l.drop k = ⟨y, x2, x3, x4, x5⟩ :: l.drop (k + 1)) := (by rw [ldrop hk', hx.out] : l.drop k = ⟨y, x2, x3, x4, x5⟩ :: l.drop (k + 1))
      clear hx HNO HP h21
      cases hp : I.contains y with
      | false =>
        rw [hp] at hha
        have hp2 : p ⟨y, x2, x3, x4, x5⟩ = false := Hp.out.trans hp
        have HL2 : Hid (LF = (O ++ [⟨y, x2, x3, x4, x5⟩]) ++ ((l.drop (k + 1)).filter (fun t => !p t) ++ [⟨2147483647, (N : Int) + 1, 0, FF, GG⟩])) := (by rw [HL1.out, Hd.out]; simp [hp2] : LF = _)
        have HF2 : Hid (FF = Lv.mF f ((l.drop (k + 1)).filter p)) := (by rw [HF1.out, Hd.out]; simp [hp2] : FF = _)
        have HG2 : Hid (GG = Lv.hiL h ((l.drop (k + 1)).filter p)) := (by rw [HG1.out, Hd.out]; simp [hp2] : GG = _)
        have HW2 : Hid (WAS = (bb || ((l.drop (k + 1)).filter p).any (Lv.has key))) := (by rw [HW1.out, Hd.out]; simp [hp2] : WAS = _)
        have hls := lit_tab (wr.alloc (otab y x2 x3 x4 x5)) y x2 x3 x4 x5 (g := wr.heap.size + 1) (by simp)
        clear HL1 HF1 HG1 HW1 Hp Hd hp hp2
        go_wp2_with (first | (go_at_call 21; go_must (refine hha.mono ?_; rintro e w8 ⟨rfl, rfl⟩)) | (at_builtin; go_must (refine append_t tabE leE (w0 := (wr.alloc (otab y x2 x3 x4 x5)).alloc (otab y x2 x3 x4 x5)) (B := w3.heap.size + 1 + 1) rfl (.tmp 63) (.tmp 65) rfl _ _ _ rfl (hown2.alloc _) (some ⟨wr.heap.size + 1, 0, none⟩) 1 1 [⟨y, x2, x3, x4, x5⟩] rfl hls (fun h => by cases h) (by omega) (Below.refl _ _) (by simp; omega) ?_; intro a9 c9 w9 _ _ _ hown9 hb9 _)))
        go_roundw
        case rel => exact ⟨k + 1, m + 1, c9, a9, _, bb, f, h, by omega, by omega, by go_num, rfl, rfl, HNO2, HL2, HF2, HG2, HW2, hown9, (hb9.block _ (by omega)).trans (blk_alloc go2 _), (hb2.alloc hb2.size _).trans (hb9.mono (by omega))⟩
        case measure => simp [intOf]; omega
      | true =>
        rw [hp] at hha
        have hp2 : p ⟨y, x2, x3, x4, x5⟩ = true := Hp.out.trans hp
        have HL2 : Hid (LF = O ++ ((l.drop (k + 1)).filter (fun t => !p t) ++ [⟨2147483647, (N : Int) + 1, 0, FF, GG⟩])) := (by rw [HL1.out, Hd.out]; simp [hp2] : LF = _)
        have HF2 : Hid (FF = Lv.mF (if f.size = 0 ∨ Lv.slt x4 f = true then x4 else f) ((l.drop (k + 1)).filter p)) := (by rw [HF1.out, Hd.out, List.filter_cons_of_pos hp2]; rfl : FF = _)
        have HG2 : Hid (GG = Lv.hiL (if Lv.slt h x5 = true then x5 else h) ((l.drop (k + 1)).filter p)) := (by rw [HG1.out, Hd.out, List.filter_cons_of_pos hp2]; rfl : GG = _)
        have HW2 : Hid (WAS = (bb || ((!Lv.slt key x4 && !Lv.slt x5 key) || ((l.drop (k + 1)).filter p).any (Lv.has key)))) := (by rw [HW1.out, Hd.out, List.filter_cons_of_pos hp2]; rfl : WAS = _)
        have hneo := own_ne hown2 (k := w3.heap.size + 1) (by omega)
        clear HL1 HF1 HG1 HW1 Hp Hd hp hp2
        have e1 := bl_le x4 key
        have e2 := bl_le key x5
        have e3 := bl_slt x4 f
        have e4 := bl_gt x5 h
        cases bb with
        | true =>
          have HW3 : Hid (WAS = (true || ((l.drop (k + 1)).filter p).any (Lv.has key))) := (by rw [HW2.out]; simp : WAS = _)
          clear HW2 e1 e2
          by_cases f0 : f.size = 0
          · have HF3 : Hid (FF = Lv.mF x4 ((l.drop (k + 1)).filter p)) := (by rw [HF2.out, if_pos (.inl f0)] : FF = _)
            have f1 : f.toList = [] := mnil_of f0
            have f2 : f.toList.isEmpty = true := by simp [f1]
            clear HF2 e3 f0
            cases c5 : Lv.slt h x5 with
            | true =>
              rw [c5] at e4
              have HG3 : Hid (GG = Lv.hiL x5 ((l.drop (k + 1)).filter p)) := (by rw [HG2.out, c5]; rfl : GG = _)
              clear HG2 c5
              obtain ⟨e5, e6⟩ : Op.bytesLess x5.toList h.toList = false ∧ (x5.toList == h.toList) = false := by simpa using e4
              go_wp2_with (go_at_call 21; go_must (refine hha.mono ?_; rintro e w8 ⟨rfl, rfl⟩))
              go_roundw
              case rel => exact ⟨k + 1, m, cc, g, O, true, x4, x5, by omega, by omega, by go_num, rfl, rfl, HNO2, HL2, HF3, HG3, HW3, own_set (own_set hown2 hneo _ _) hneo _ _, blk_last (blk_first go2 _) _, below_set (below_set hb2 (by omega) _ _) (by omega) _ _⟩
              case measure => simp [intOf]; omega
            | false =>
              rw [c5] at e4
              have HG3 : Hid (GG = Lv.hiL h ((l.drop (k + 1)).filter p)) := (by rw [HG2.out, c5]; rfl : GG = _)
              clear HG2 c5
              go_wp2_with (go_at_call 21; go_must (refine hha.mono ?_; rintro e w8 ⟨rfl, rfl⟩))
              go_roundw
              case rel => exact ⟨k + 1, m, cc, g, O, true, x4, h, by omega, by omega, by go_num, rfl, rfl, HNO2, HL2, HF3, HG3, HW3, own_set hown2 hneo _ _, blk_first go2 _, below_set hb2 (by omega) _ _⟩
              case measure => simp [intOf]; omega
          have f1 : ¬ f.toList = [] := fun e => f0 (msize_nil e)
          have f2 : f.toList.isEmpty = false := by simpa using f1
          cases c4 : Lv.slt x4 f with
          | true =>
            rw [c4] at e3
            have HF3 : Hid (FF = Lv.mF x4 ((l.drop (k + 1)).filter p)) := (by rw [HF2.out, if_pos (.inr c4)] : FF = _)
            clear HF2 c4 f0
            cases c5 : Lv.slt h x5 with
            | true =>
              rw [c5] at e4
              have HG3 : Hid (GG = Lv.hiL x5 ((l.drop (k + 1)).filter p)) := (by rw [HG2.out, c5]; rfl : GG = _)
              clear HG2 c5
              obtain ⟨e5, e6⟩ : Op.bytesLess x5.toList h.toList = false ∧ (x5.toList == h.toList) = false := by simpa using e4
              go_wp2_with (go_at_call 21; go_must (refine hha.mono ?_; rintro e w8 ⟨rfl, rfl⟩))
              go_roundw
              case rel => exact ⟨k + 1, m, cc, g, O, true, x4, x5, by omega, by omega, by go_num, rfl, rfl, HNO2, HL2, HF3, HG3, HW3, own_set (own_set hown2 hneo _ _) hneo _ _, blk_last (blk_first go2 _) _, below_set (below_set hb2 (by omega) _ _) (by omega) _ _⟩
              case measure => simp [intOf]; omega
            | false =>
              rw [c5] at e4
              have HG3 : Hid (GG = Lv.hiL h ((l.drop (k + 1)).filter p)) := (by rw [HG2.out, c5]; rfl : GG = _)
              clear HG2 c5
              go_wp2_with (go_at_call 21; go_must (refine hha.mono ?_; rintro e w8 ⟨rfl, rfl⟩))
              go_roundw
              case rel => exact ⟨k + 1, m, cc, g, O, true, x4, h, by omega, by omega, by go_num, rfl, rfl, HNO2, HL2, HF3, HG3, HW3, own_set hown2 hneo _ _, blk_first go2 _, below_set hb2 (by omega) _ _⟩
              case measure => simp [intOf]; omega
          | false =>
            rw [c4] at e3
            have HF3 : Hid (FF = Lv.mF f ((l.drop (k + 1)).filter p)) := (by rw [HF2.out, if_neg (fun hc => hc.elim f0 (fun hc => by rw [c4] at hc; cases hc))] : FF = _)
            clear HF2 c4 f0
            cases c5 : Lv.slt h x5 with
            | true =>
              rw [c5] at e4
              have HG3 : Hid (GG = Lv.hiL x5 ((l.drop (k + 1)).filter p)) := (by rw [HG2.out, c5]; rfl : GG = _)
              clear HG2 c5
              obtain ⟨e5, e6⟩ : Op.bytesLess x5.toList h.toList = false ∧ (x5.toList == h.toList) = false := by simpa using e4
              go_wp2_with (go_at_call 21; go_must (refine hha.mono ?_; rintro e w8 ⟨rfl, rfl⟩))
              go_roundw
              case rel => exact ⟨k + 1, m, cc, g, O, true, f, x5, by omega, by omega, by go_num, rfl, rfl, HNO2, HL2, HF3, HG3, HW3, own_set (hown2) hneo _ _, blk_last (go2) _, below_set (hb2) (by omega) _ _⟩
              case measure => simp [intOf]; omega
            | false =>
              rw [c5] at e4
              have HG3 : Hid (GG = Lv.hiL h ((l.drop (k + 1)).filter p)) := (by rw [HG2.out, c5]; rfl : GG = _)
              clear HG2 c5
              go_wp2_with (go_at_call 21; go_must (refine hha.mono ?_; rintro e w8 ⟨rfl, rfl⟩))
              go_roundw
              case rel => exact ⟨k + 1, m, cc, g, O, true, f, h, by omega, by omega, by go_num, rfl, rfl, HNO2, HL2, HF3, HG3, HW3, hown2, go2, hb2⟩
              case measure => simp [intOf]; omega
        | false =>
          cases c1 : Lv.slt key x4 with
          | true =>
            rw [c1] at e1
            have HW3 : Hid (WAS = (false || ((l.drop (k + 1)).filter p).any (Lv.has key))) := (by rw [HW2.out, c1]; simp : WAS = _)
            clear HW2 e2 c1
            obtain ⟨e7, e8⟩ : Op.bytesLess x4.toList key.toList = false ∧ (x4.toList == key.toList) = false := by simpa using e1
            by_cases f0 : f.size = 0
            · have HF3 : Hid (FF = Lv.mF x4 ((l.drop (k + 1)).filter p)) := (by rw [HF2.out, if_pos (.inl f0)] : FF = _)
              have f1 : f.toList = [] := mnil_of f0
              have f2 : f.toList.isEmpty = true := by simp [f1]
              clear HF2 e3 f0
              cases c5 : Lv.slt h x5 with
              | true =>
                rw [c5] at e4
                have HG3 : Hid (GG = Lv.hiL x5 ((l.drop (k + 1)).filter p)) := (by rw [HG2.out, c5]; rfl : GG = _)
                clear HG2 c5
                obtain ⟨e5, e6⟩ : Op.bytesLess x5.toList h.toList = false ∧ (x5.toList == h.toList) = false := by simpa using e4
                go_wp2_with (go_at_call 21; go_must (refine hha.mono ?_; rintro e w8 ⟨rfl, rfl⟩))
                go_roundw
                case rel => exact ⟨k + 1, m, cc, g, O, false, x4, x5, by omega, by omega, by go_num, rfl, rfl, HNO2, HL2, HF3, HG3, HW3, own_set (own_set hown2 hneo _ _) hneo _ _, blk_last (blk_first go2 _) _, below_set (below_set hb2 (by omega) _ _) (by omega) _ _⟩
                case measure => simp [intOf]; omega
              | false =>
                rw [c5] at e4
                have HG3 : Hid (GG = Lv.hiL h ((l.drop (k + 1)).filter p)) := (by rw [HG2.out, c5]; rfl : GG = _)
                clear HG2 c5
                go_wp2_with (go_at_call 21; go_must (refine hha.mono ?_; rintro e w8 ⟨rfl, rfl⟩))
                go_roundw
                case rel => exact ⟨k + 1, m, cc, g, O, false, x4, h, by omega, by omega, by go_num, rfl, rfl, HNO2, HL2, HF3, HG3, HW3, own_set hown2 hneo _ _, blk_first go2 _, below_set hb2 (by omega) _ _⟩
                case measure => simp [intOf]; omega
            have f1 : ¬ f.toList = [] := fun e => f0 (msize_nil e)
            have f2 : f.toList.isEmpty = false := by simpa using f1
            cases c4 : Lv.slt x4 f with
            | true =>
              rw [c4] at e3
              have HF3 : Hid (FF = Lv.mF x4 ((l.drop (k + 1)).filter p)) := (by rw [HF2.out, if_pos (.inr c4)] : FF = _)
              clear HF2 c4 f0
              cases c5 : Lv.slt h x5 with
              | true =>
                rw [c5] at e4
                have HG3 : Hid (GG = Lv.hiL x5 ((l.drop (k + 1)).filter p)) := (by rw [HG2.out, c5]; rfl : GG = _)
                clear HG2 c5
                obtain ⟨e5, e6⟩ : Op.bytesLess x5.toList h.toList = false ∧ (x5.toList == h.toList) = false := by simpa using e4
                go_wp2_with (go_at_call 21; go_must (refine hha.mono ?_; rintro e w8 ⟨rfl, rfl⟩))
                go_roundw
                case rel => exact ⟨k + 1, m, cc, g, O, false, x4, x5, by omega, by omega, by go_num, rfl, rfl, HNO2, HL2, HF3, HG3, HW3, own_set (own_set hown2 hneo _ _) hneo _ _, blk_last (blk_first go2 _) _, below_set (below_set hb2 (by omega) _ _) (by omega) _ _⟩
                case measure => simp [intOf]; omega
              | false =>
                rw [c5] at e4
                have HG3 : Hid (GG = Lv.hiL h ((l.drop (k + 1)).filter p)) := (by rw [HG2.out, c5]; rfl : GG = _)
                clear HG2 c5
                go_wp2_with (go_at_call 21; go_must (refine hha.mono ?_; rintro e w8 ⟨rfl, rfl⟩))
                go_roundw
                case rel => exact ⟨k + 1, m, cc, g, O, false, x4, h, by omega, by omega, by go_num, rfl, rfl, HNO2, HL2, HF3, HG3, HW3, own_set hown2 hneo _ _, blk_first go2 _, below_set hb2 (by omega) _ _⟩
                case measure => simp [intOf]; omega
            | false =>
              rw [c4] at e3
              have HF3 : Hid (FF = Lv.mF f ((l.drop (k + 1)).filter p)) := (by rw [HF2.out, if_neg (fun hc => hc.elim f0 (fun hc => by rw [c4] at hc; cases hc))] : FF = _)
              clear HF2 c4 f0
              cases c5 : Lv.slt h x5 with
              | true =>
                rw [c5] at e4
                have HG3 : Hid (GG = Lv.hiL x5 ((l.drop (k + 1)).filter p)) := (by rw [HG2.out, c5]; rfl : GG = _)
                clear HG2 c5
                obtain ⟨e5, e6⟩ : Op.bytesLess x5.toList h.toList = false ∧ (x5.toList == h.toList) = false := by simpa using e4
                go_wp2_with (go_at_call 21; go_must (refine hha.mono ?_; rintro e w8 ⟨rfl, rfl⟩))
                go_roundw
                case rel => exact ⟨k + 1, m, cc, g, O, false, f, x5, by omega, by omega, by go_num, rfl, rfl, HNO2, HL2, HF3, HG3, HW3, own_set (hown2) hneo _ _, blk_last (go2) _, below_set (hb2) (by omega) _ _⟩
                case measure => simp [intOf]; omega
              | false =>
                rw [c5] at e4
                have HG3 : Hid (GG = Lv.hiL h ((l.drop (k + 1)).filter p)) := (by rw [HG2.out, c5]; rfl : GG = _)
                clear HG2 c5
                go_wp2_with (go_at_call 21; go_must (refine hha.mono ?_; rintro e w8 ⟨rfl, rfl⟩))
                go_roundw
                case rel => exact ⟨k + 1, m, cc, g, O, false, f, h, by omega, by omega, by go_num, rfl, rfl, HNO2, HL2, HF3, HG3, HW3, hown2, go2, hb2⟩
                case measure => simp [intOf]; omega
          | false =>
            rw [c1] at e1
            cases c2 : Lv.slt x5 key with
            | true =>
              rw [c2] at e2
              have HW3 : Hid (WAS = (false || ((l.drop (k + 1)).filter p).any (Lv.has key))) := (by rw [HW2.out, c1, c2]; simp : WAS = _)
              clear HW2 c1 c2
              obtain ⟨e7, e8⟩ : Op.bytesLess key.toList x5.toList = false ∧ (key.toList == x5.toList) = false := by simpa using e2
              by_cases f0 : f.size = 0
              · have HF3 : Hid (FF = Lv.mF x4 ((l.drop (k + 1)).filter p)) := (by rw [HF2.out, if_pos (.inl f0)] : FF = _)
                have f1 : f.toList = [] := mnil_of f0
                have f2 : f.toList.isEmpty = true := by simp [f1]
                clear HF2 e3 f0
                cases c5 : Lv.slt h x5 with
                | true =>
                  rw [c5] at e4
                  have HG3 : Hid (GG = Lv.hiL x5 ((l.drop (k + 1)).filter p)) := (by rw [HG2.out, c5]; rfl : GG = _)
                  clear HG2 c5
                  obtain ⟨e5, e6⟩ : Op.bytesLess x5.toList h.toList = false ∧ (x5.toList == h.toList) = false := by simpa using e4
                  go_wp2_with (go_at_call 21; go_must (refine hha.mono ?_; rintro e w8 ⟨rfl, rfl⟩))
                  go_roundw
                  case rel => exact ⟨k + 1, m, cc, g, O, false, x4, x5, by omega, by omega, by go_num, rfl, rfl, HNO2, HL2, HF3, HG3, HW3, own_set (own_set hown2 hneo _ _) hneo _ _, blk_last (blk_first go2 _) _, below_set (below_set hb2 (by omega) _ _) (by omega) _ _⟩
                  case measure => simp [intOf]; omega
                | false =>
                  rw [c5] at e4
                  have HG3 : Hid (GG = Lv.hiL h ((l.drop (k + 1)).filter p)) := (by rw [HG2.out, c5]; rfl : GG = _)
                  clear HG2 c5
                  go_wp2_with (go_at_call 21; go_must (refine hha.mono ?_; rintro e w8 ⟨rfl, rfl⟩))
                  go_roundw
                  case rel => exact ⟨k + 1, m, cc, g, O, false, x4, h, by omega, by omega, by go_num, rfl, rfl, HNO2, HL2, HF3, HG3, HW3, own_set hown2 hneo _ _, blk_first go2 _, below_set hb2 (by omega) _ _⟩
                  case measure => simp [intOf]; omega
              have f1 : ¬ f.toList = [] := fun e => f0 (msize_nil e)
              have f2 : f.toList.isEmpty = false := by simpa using f1
              cases c4 : Lv.slt x4 f with
              | true =>
                rw [c4] at e3
                have HF3 : Hid (FF = Lv.mF x4 ((l.drop (k + 1)).filter p)) := (by rw [HF2.out, if_pos (.inr c4)] : FF = _)
                clear HF2 c4 f0
                cases c5 : Lv.slt h x5 with
                | true =>
                  rw [c5] at e4
                  have HG3 : Hid (GG = Lv.hiL x5 ((l.drop (k + 1)).filter p)) := (by rw [HG2.out, c5]; rfl : GG = _)
                  clear HG2 c5
                  obtain ⟨e5, e6⟩ : Op.bytesLess x5.toList h.toList = false ∧ (x5.toList == h.toList) = false := by simpa using e4
                  go_wp2_with (go_at_call 21; go_must (refine hha.mono ?_; rintro e w8 ⟨rfl, rfl⟩))
                  go_roundw
                  case rel => exact ⟨k + 1, m, cc, g, O, false, x4, x5, by omega, by omega, by go_num, rfl, rfl, HNO2, HL2, HF3, HG3, HW3, own_set (own_set hown2 hneo _ _) hneo _ _, blk_last (blk_first go2 _) _, below_set (below_set hb2 (by omega) _ _) (by omega) _ _⟩
                  case measure => simp [intOf]; omega
                | false =>
                  rw [c5] at e4
                  have HG3 : Hid (GG = Lv.hiL h ((l.drop (k + 1)).filter p)) := (by rw [HG2.out, c5]; rfl : GG = _)
                  clear HG2 c5
                  go_wp2_with (go_at_call 21; go_must (refine hha.mono ?_; rintro e w8 ⟨rfl, rfl⟩))
                  go_roundw
                  case rel => exact ⟨k + 1, m, cc, g, O, false, x4, h, by omega, by omega, by go_num, rfl, rfl, HNO2, HL2, HF3, HG3, HW3, own_set hown2 hneo _ _, blk_first go2 _, below_set hb2 (by omega) _ _⟩
                  case measure => simp [intOf]; omega
              | false =>
                rw [c4] at e3
                have HF3 : Hid (FF = Lv.mF f ((l.drop (k + 1)).filter p)) := (by rw [HF2.out, if_neg (fun hc => hc.elim f0 (fun hc => by rw [c4] at hc; cases hc))] : FF = _)
                clear HF2 c4 f0
                cases c5 : Lv.slt h x5 with
                | true =>
                  rw [c5] at e4
                  have HG3 : Hid (GG = Lv.hiL x5 ((l.drop (k + 1)).filter p)) := (by rw [HG2.out, c5]; rfl : GG = _)
                  clear HG2 c5
                  obtain ⟨e5, e6⟩ : Op.bytesLess x5.toList h.toList = false ∧ (x5.toList == h.toList) = false := by simpa using e4
                  go_wp2_with (go_at_call 21; go_must (refine hha.mono ?_; rintro e w8 ⟨rfl, rfl⟩))
                  go_roundw
                  case rel => exact ⟨k + 1, m, cc, g, O, false, f, x5, by omega, by omega, by go_num, rfl, rfl, HNO2, HL2, HF3, HG3, HW3, own_set (hown2) hneo _ _, blk_last (go2) _, below_set (hb2) (by omega) _ _⟩
                  case measure => simp [intOf]; omega
                | false =>
                  rw [c5] at e4
                  have HG3 : Hid (GG = Lv.hiL h ((l.drop (k + 1)).filter p)) := (by rw [HG2.out, c5]; rfl : GG = _)
                  clear HG2 c5
                  go_wp2_with (go_at_call 21; go_must (refine hha.mono ?_; rintro e w8 ⟨rfl, rfl⟩))
                  go_roundw
                  case rel => exact ⟨k + 1, m, cc, g, O, false, f, h, by omega, by omega, by go_num, rfl, rfl, HNO2, HL2, HF3, HG3, HW3, hown2, go2, hb2⟩
                  case measure => simp [intOf]; omega
            | false =>
              rw [c2] at e2
              have HW3 : Hid (WAS = (true || ((l.drop (k + 1)).filter p).any (Lv.has key))) := (by rw [HW2.out, c1, c2]; simp : WAS = _)
              clear HW2 c1 c2
              by_cases f0 : f.size = 0
              · have HF3 : Hid (FF = Lv.mF x4 ((l.drop (k + 1)).filter p)) := (by rw [HF2.out, if_pos (.inl f0)] : FF = _)
                have f1 : f.toList = [] := mnil_of f0
                have f2 : f.toList.isEmpty = true := by simp [f1]
                clear HF2 e3 f0
                cases c5 : Lv.slt h x5 with
                | true =>
                  rw [c5] at e4
                  have HG3 : Hid (GG = Lv.hiL x5 ((l.drop (k + 1)).filter p)) := (by rw [HG2.out, c5]; rfl : GG = _)
                  clear HG2 c5
                  obtain ⟨e5, e6⟩ : Op.bytesLess x5.toList h.toList = false ∧ (x5.toList == h.toList) = false := by simpa using e4
                  go_wp2_with (go_at_call 21; go_must (refine hha.mono ?_; rintro e w8 ⟨rfl, rfl⟩))
                  go_roundw
                  case rel => exact ⟨k + 1, m, cc, g, O, true, x4, x5, by omega, by omega, by go_num, rfl, rfl, HNO2, HL2, HF3, HG3, HW3, own_set (own_set hown2 hneo _ _) hneo _ _, blk_last (blk_first go2 _) _, below_set (below_set hb2 (by omega) _ _) (by omega) _ _⟩
                  case measure => simp [intOf]; omega
                | false =>
                  rw [c5] at e4
                  have HG3 : Hid (GG = Lv.hiL h ((l.drop (k + 1)).filter p)) := (by rw [HG2.out, c5]; rfl : GG = _)
                  clear HG2 c5
                  go_wp2_with (go_at_call 21; go_must (refine hha.mono ?_; rintro e w8 ⟨rfl, rfl⟩))
                  go_roundw
                  case rel => exact ⟨k + 1, m, cc, g, O, true, x4, h, by omega, by omega, by go_num, rfl, rfl, HNO2, HL2, HF3, HG3, HW3, own_set hown2 hneo _ _, blk_first go2 _, below_set hb2 (by omega) _ _⟩
                  case measure => simp [intOf]; omega
              have f1 : ¬ f.toList = [] := fun e => f0 (msize_nil e)
              have f2 : f.toList.isEmpty = false := by simpa using f1
              cases c4 : Lv.slt x4 f with
              | true =>
                rw [c4] at e3
                have HF3 : Hid (FF = Lv.mF x4 ((l.drop (k + 1)).filter p)) := (by rw [HF2.out, if_pos (.inr c4)] : FF = _)
                clear HF2 c4 f0
                cases c5 : Lv.slt h x5 with
                | true =>
                  rw [c5] at e4
                  have HG3 : Hid (GG = Lv.hiL x5 ((l.drop (k + 1)).filter p)) := (by rw [HG2.out, c5]; rfl : GG = _)
                  clear HG2 c5
                  obtain ⟨e5, e6⟩ : Op.bytesLess x5.toList h.toList = false ∧ (x5.toList == h.toList) = false := by simpa using e4
                  go_wp2_with (go_at_call 21; go_must (refine hha.mono ?_; rintro e w8 ⟨rfl, rfl⟩))
                  go_roundw
                  case rel => exact ⟨k + 1, m, cc, g, O, true, x4, x5, by omega, by omega, by go_num, rfl, rfl, HNO2, HL2, HF3, HG3, HW3, own_set (own_set hown2 hneo _ _) hneo _ _, blk_last (blk_first go2 _) _, below_set (below_set hb2 (by omega) _ _) (by omega) _ _⟩
                  case measure => simp [intOf]; omega
                | false =>
                  rw [c5] at e4
                  have HG3 : Hid (GG = Lv.hiL h ((l.drop (k + 1)).filter p)) := (by rw [HG2.out, c5]; rfl : GG = _)
                  clear HG2 c5
                  go_wp2_with (go_at_call 21; go_must (refine hha.mono ?_; rintro e w8 ⟨rfl, rfl⟩))
                  go_roundw
                  case rel => exact ⟨k + 1, m, cc, g, O, true, x4, h, by omega, by omega, by go_num, rfl, rfl, HNO2, HL2, HF3, HG3, HW3, own_set hown2 hneo _ _, blk_first go2 _, below_set hb2 (by omega) _ _⟩
                  case measure => simp [intOf]; omega
              | false =>
                rw [c4] at e3
                have HF3 : Hid (FF = Lv.mF f ((l.drop (k + 1)).filter p)) := (by rw [HF2.out, if_neg (fun hc => hc.elim f0 (fun hc => by rw [c4] at hc; cases hc))] : FF = _)
                clear HF2 c4 f0
                cases c5 : Lv.slt h x5 with
                | true =>
                  rw [c5] at e4
                  have HG3 : Hid (GG = Lv.hiL x5 ((l.drop (k + 1)).filter p)) := (by rw [HG2.out, c5]; rfl : GG = _)
                  clear HG2 c5
                  obtain ⟨e5, e6⟩ : Op.bytesLess x5.toList h.toList = false ∧ (x5.toList == h.toList) = false := by simpa using e4
                  go_wp2_with (go_at_call 21; go_must (refine hha.mono ?_; rintro e w8 ⟨rfl, rfl⟩))
                  go_roundw
                  case rel => exact ⟨k + 1, m, cc, g, O, true, f, x5, by omega, by omega, by go_num, rfl, rfl, HNO2, HL2, HF3, HG3, HW3, own_set (hown2) hneo _ _, blk_last (go2) _, below_set (hb2) (by omega) _ _⟩
                  case measure => simp [intOf]; omega
                | false =>
                  rw [c5] at e4
                  have HG3 : Hid (GG = Lv.hiL h ((l.drop (k + 1)).filter p)) := (by rw [HG2.out, c5]; rfl : GG = _)
                  clear HG2 c5
                  go_wp2_with (go_at_call 21; go_must (refine hha.mono ?_; rintro e w8 ⟨rfl, rfl⟩))
                  go_roundw
                  case rel => exact ⟨k + 1, m, cc, g, O, true, f, h, by omega, by omega, by go_num, rfl, rfl, HNO2, HL2, HF3, HG3, HW3, hown2, go2, hb2⟩
                  case measure => simp [intOf]; omega
    · obtain rfl : k = n := by omega
      have HLE : Hid (LF = O ++ [⟨2147483647, (N : Int) + 1, 0, f, h⟩]) := (by
        have e1 : FF = f := by rw [HF1.out, List.drop_of_length_le (by rw [hll.out]; omega)]; rfl
        have e2 : GG = h := by rw [HG1.out, List.drop_of_length_le (by rw [hll.out]; omega)]; rfl
        rw [HL1.out, List.drop_of_length_le (by rw [hll.out]; omega), e1, e2]; rfl : LF = _)
      have HWE : Hid (WAS = bb) := (by rw [HW1.out, List.drop_of_length_le (by rw [hll.out]; omega)]; simp : WAS = bb)
      obtain ⟨hmL, hcon⟩ := HML.out (by
        have h := HNO.out
        rw [List.take_of_length_le (by rw [hll.out]; omega)] at h
        exact h)
      have hlL : LF.length ≤ 64 := hmL.len
      have HO : Hid (O.length = m) := (by have := hown.1; rw [tcells_length leE] at this; omega : O.length = m)
      have hm64 : m + 1 ≤ 64 := by have h1 := hlL; rw [HLE.out, List.length_append, HO.out] at h1; simpa using h1
      have hcon2 : bb = true → (nm ((Lv.ord LF).filter (Lv.has key))).contains 2147483647 = true := fun hb => hcon key (by rw [← HWM.out, HWE.out, hb])
      obtain ⟨⟨o0, o1, o2, o3, o4⟩, _⟩ := blk5 gout
      have hls := lit_tab wr 2147483647 ((N : Int) + 1) 0 f h (g := wr.heap.size) rfl
      have hchk := fun A C V (hc : m + 1 ≤ C) r => lcheck_any A (m + 1) C LF V hc r 0 (by rw [(Lv.may_iff LF).mpr hmL]; rfl)
      have hfnd := fun A C V (hc : m + 1 ≤ C) r hz => lfind_yes A (m + 1) C LF key V hc r hz hmL
      have hlF : (nm ((Lv.ord LF).filter (Lv.has key))).length ≤ 1000 := by rw [nm, List.length_map]; exact Nat.le_trans (List.length_filter_le ..) (by rw [lord_length]; omega)
      have hmOut : Hid (tcells le (O ++ [⟨2147483647, (N : Int) + 1, 0, f, h⟩]) = tcells le LF) := (by rw [HLE.out] : tcells le (O ++ [⟨2147483647, (N : Int) + 1, 0, f, h⟩]) = tcells le LF)
      clear HL1 HF1 HG1 HW1 HNO HML HWM HWE hcon hlL HLE HP
      generalize nm ((Lv.ord LF).filter (Lv.has key)) = NF at *
      go_wp2_with (at_builtin; go_must (refine append_t tabE leE (w0 := wr.alloc (otab 2147483647 ((N : Int) + 1) 0 f h)) (B := w3.heap.size + 1 + 1) rfl (.tmp 101) (.tmp 103) rfl _ _ _ rfl (hown.alloc _) (some ⟨wr.heap.size, 0, none⟩) 1 1 [⟨2147483647, (N : Int) + 1, 0, f, h⟩] rfl hls (fun h => by cases h) (by omega) (Below.refl _ _) (by simp; have := blk_lt gout; omega) ?_; intro a9 c9 w9 hc9 hz9 _ hown9 hb9 _; rw [hmOut.out] at hown9; have go9 := (hb9.block _ (by omega)).trans (blk_alloc gout _); obtain ⟨⟨y0, y1, y2, y3, y4⟩, _⟩ := blk5 go9))
      have hrL : LRow w9 a9 (m + 1) LF := lrowD hown9 (by omega)
      have hX1 := hBW.trans (hbel.mono hBW.size)
      have hX2 := hX1.alloc hX1.size (otab 2147483647 ((N : Int) + 1) 0 f h)
      have hX := hX2.trans (hb9.mono (by omega))
      have hkeep : Hid (∀ V, Below w9.heap.size w9 V → V.cell? ⟨w3.heap.size + 1, 0, none⟩ = some (.int .i64 2147483647)) := (fun V hV => (blk5 (blk_kept go9 hV)).1.1 : ∀ V, Below w9.heap.size w9 V → V.cell? ⟨w3.heap.size + 1, 0, none⟩ = some (.int .i64 2147483647))
      have HrL : Hid (∀ V, Below w9.heap.size w9 V → LRow V a9 (m + 1) LF) := (fun V hV => hrL.below hV (Nat.le_refl _) : ∀ V, Below w9.heap.size w9 V → LRow V a9 (m + 1) LF)
      clear hown hown9 gout go9 hrL y1 y2 y3 y4 o0 o1 o2 o3 o4
      cases bb with
      | false =>
        go_wp2_with fail
        refine wp_region_held_drew (S := (fun _ => True)) (by kernel_rfl) trivial (fun hHeld => ?_)
        refine wpAnyH_take (i := 0) (oi := ⟨some 105, _, _, _, _, _⟩) (v := ?_) rfl (by kernel_rfl) (by kernel_rfl) (by kernel_rfl) (fun _ _ _ h => h) (Or.inl ⟨by rfl, ?_⟩) (by assumption) ?_
        rotate_left
        · intro w hSw; (try dsimp only at hSw); go_simp <;> (try with_reducible rfl)
        simp only [Act.put, List.setIfInBounds_toArray, List.set_cons_zero, List.set_cons_succ]
        refine wpAnyH_ready (rs := [1]) (by kernel_rfl) (by simp) ?_
        refine AllReadyH.cons rfl (fun K hK => ?_) AllReadyH.nil
        go_simp
        go_at_call 13; go_must (refine (hchk _ _ _ hc9 (by first | exact HrL.out _ (Below.refl _ _) | exact HrL.out _ (Below.refl _ _).drew)).mono ?_; rintro e w10 ⟨rfl, hb10'⟩; have hb10 : Below w9.heap.size w9 w10 := (by first | exact hb10' | exact below_of_drew hb10'); have t10 := hkeep.out w10 hb10)
        refine hK.out _ _ trivial (fun hHeld1 => ?_)
        clear hK K hHeld
        refine wpAnyH_take (i := 2) (oi := ⟨some 107, _, _, _, _, _⟩) (v := ?_) rfl (by kernel_rfl) (by kernel_rfl) (by kernel_rfl) (fun _ _ _ h => h) (Or.inl ⟨by rfl, ?_⟩) (by assumption) ?_
        rotate_left
        · intro w hSw; (try dsimp only at hSw); go_simp <;> (try with_reducible rfl)
        simp only [Act.put, List.setIfInBounds_toArray, List.set_cons_zero, List.set_cons_succ]
        refine wpAnyH_take (i := 3) (oi := ⟨some 108, _, _, _, _, _⟩) (v := ?_) rfl (by kernel_rfl) (by kernel_rfl) (by kernel_rfl) (fun _ _ _ h => h) (Or.inl ⟨by rfl, ?_⟩) (by assumption) ?_
        rotate_left
        · intro w hSw; (try dsimp only at hSw); go_simp <;> (try with_reducible rfl)
        simp only [Act.put, List.setIfInBounds_toArray, List.set_cons_zero, List.set_cons_succ]
        refine wpAnyH_take (i := 4) (oi := ⟨some 109, _, _, _, _, _⟩) (v := ?_) rfl (by kernel_rfl) (by kernel_rfl) (by kernel_rfl) (fun _ _ _ h => h) (Or.inl ⟨by rfl, ?_⟩) (by assumption) ?_
        rotate_left
        · intro w hSw; (try dsimp only at hSw); go_simp <;> (try with_reducible rfl)
        simp only [Act.put, List.setIfInBounds_toArray, List.set_cons_zero, List.set_cons_succ]
        refine wpAnyH_take (i := 5) (oi := ⟨some 110, _, _, _, _, _⟩) (v := ?_) rfl (by kernel_rfl) (by kernel_rfl) (by kernel_rfl) (fun _ _ _ h => h) (Or.inl ⟨by rfl, ?_⟩) (by assumption) ?_
        rotate_left
        · intro w hSw; (try dsimp only at hSw); go_simp <;> (try with_reducible rfl)
        simp only [Act.put, List.setIfInBounds_toArray, List.set_cons_zero, List.set_cons_succ]
        refine wpAnyH_take (i := 6) (oi := ⟨some 111, _, _, _, _, _⟩) (v := ?_) rfl (by kernel_rfl) (by kernel_rfl) (by kernel_rfl) (fun _ _ _ h => h) (Or.inl ⟨by rfl, ?_⟩) (by assumption) ?_
        rotate_left
        · intro w hSw; (try dsimp only at hSw); go_simp <;> (try with_reducible rfl)
        simp only [Act.put, List.setIfInBounds_toArray, List.set_cons_zero, List.set_cons_succ]
        refine wpAnyH_take (i := 7) (oi := ⟨some 112, _, _, _, _, _⟩) (v := undef) rfl (by kernel_rfl) (by kernel_rfl) (by kernel_rfl) (fun _ _ _ h => h) (Or.inr ⟨by rfl, rfl⟩) (by assumption) ?_
        simp only [Act.put, List.setIfInBounds_toArray, List.set_cons_zero, List.set_cons_succ]
        refine wpAnyH_take (i := 8) (oi := ⟨some 113, _, _, _, _, _⟩) (v := undef) rfl (by kernel_rfl) (by kernel_rfl) (by kernel_rfl) (fun _ _ _ h => h) (Or.inr ⟨by rfl, rfl⟩) (by assumption) ?_
        simp only [Act.put, List.setIfInBounds_toArray, List.set_cons_zero, List.set_cons_succ]
        refine wpAnyH_take (i := 9) (oi := ⟨some 114, _, _, _, _, _⟩) (v := undef) rfl (by kernel_rfl) (by kernel_rfl) (by kernel_rfl) (fun _ _ _ h => h) (Or.inr ⟨by rfl, rfl⟩) (by assumption) ?_
        simp only [Act.put, List.setIfInBounds_toArray, List.set_cons_zero, List.set_cons_succ]
        refine wpAnyH_take (i := 10) (oi := ⟨some 115, _, _, _, _, _⟩) (v := undef) rfl (by kernel_rfl) (by kernel_rfl) (by kernel_rfl) (fun _ _ _ h => h) (Or.inr ⟨by rfl, rfl⟩) (by assumption) ?_
        simp only [Act.put, List.setIfInBounds_toArray, List.set_cons_zero, List.set_cons_succ]
        refine wpAnyH_take (i := 11) (oi := ⟨some 116, _, _, _, _, _⟩) (v := undef) rfl (by kernel_rfl) (by kernel_rfl) (by kernel_rfl) (fun _ _ _ h => h) (Or.inr ⟨by rfl, rfl⟩) (by assumption) ?_
        simp only [Act.put, List.setIfInBounds_toArray, List.set_cons_zero, List.set_cons_succ]
        refine wpAnyH_take (i := 12) (oi := ⟨some 117, _, _, _, _, _⟩) (v := undef) rfl (by kernel_rfl) (by kernel_rfl) (by kernel_rfl) (fun _ _ _ h => h) (Or.inr ⟨by rfl, rfl⟩) (by assumption) ?_
        simp only [Act.put, List.setIfInBounds_toArray, List.set_cons_zero, List.set_cons_succ]
        refine wpAnyH_take (i := 13) (oi := ⟨some 118, _, _, _, _, _⟩) (v := ?_) rfl (by kernel_rfl) (by kernel_rfl) (by kernel_rfl) (fun _ _ _ h => h) (Or.inl ⟨by rfl, ?_⟩) (by assumption) ?_
        rotate_left
        · intro w hSw; (try dsimp only at hSw); go_simp <;> (try with_reducible rfl)
        simp only [Act.put, List.setIfInBounds_toArray, List.set_cons_zero, List.set_cons_succ]
        refine wpAnyH_take (i := 14) (oi := ⟨some 119, _, _, _, _, _⟩) (v := ?_) rfl (by kernel_rfl) (by kernel_rfl) (by kernel_rfl) (fun _ _ _ h => h) (Or.inl ⟨by rfl, ?_⟩) (by assumption) ?_
        rotate_left
        · intro w hSw; (try dsimp only at hSw); go_simp <;> (try with_reducible rfl)
        simp only [Act.put, List.setIfInBounds_toArray, List.set_cons_zero, List.set_cons_succ]
        refine wpAnyH_take (i := 15) (oi := ⟨some 120, _, _, _, _, _⟩) (v := ?_) rfl (by kernel_rfl) (by kernel_rfl) (by kernel_rfl) (fun _ _ _ h => h) (Or.inl ⟨by rfl, ?_⟩) (by assumption) ?_
        rotate_left
        · intro w hSw; (try dsimp only at hSw); go_simp <;> (try with_reducible rfl)
        simp only [Act.put, List.setIfInBounds_toArray, List.set_cons_zero, List.set_cons_succ]
        refine wpAnyH_ready (rs := [16]) (by kernel_rfl) (by simp) ?_
        refine AllReadyH.cons rfl (fun K hK => ?_) AllReadyH.nil
        go_simp
        go_at_call 7; go_must (refine (haw _).mono ?_; rintro e w13 ⟨rfl, hb13'⟩; have hb13a : Below w10.heap.size w10 w13 := (by first | exact hb13' | exact below_of_drew hb13'); have hb13 := hb10.trans (hb13a.mono hb10.size); have t13 := hkeep.out w13 hb13)
        refine hK.out _ _ trivial (fun hHeld2 => ?_)
        clear hK K hHeld1
        refine wpAnyH_take (i := 17) (oi := ⟨some 122, _, _, _, _, _⟩) (v := ?_) rfl (by kernel_rfl) (by kernel_rfl) (by kernel_rfl) (fun _ _ _ h => h) (Or.inl ⟨by rfl, ?_⟩) (by assumption) ?_
        rotate_left
        · intro w hSw; (try dsimp only at hSw); go_simp <;> (try with_reducible rfl)
        simp only [Act.put, List.setIfInBounds_toArray, List.set_cons_zero, List.set_cons_succ]
        refine wpAnyH_take (i := 18) (oi := ⟨some 6, _, _, _, _, _⟩) (v := ?_) rfl (by kernel_rfl) (by kernel_rfl) (by kernel_rfl) (fun _ _ _ h => h) (Or.inl ⟨by rfl, ?_⟩) (by assumption) ?_
        rotate_left
        · intro w hSw; (try dsimp only at hSw); go_simp <;> (try with_reducible rfl)
        simp only [Act.put, List.setIfInBounds_toArray, List.set_cons_zero, List.set_cons_succ]
        refine wpAnyH_done (by kernel_rfl) ?_ _
        go_wp2
        go_ret
        exact ⟨rfl, hX.trans (hb13.mono hX.size)⟩
      | true =>
        have hcon3 := hcon2 rfl
        go_wp2_with fail
        go_region_held3 (fun w' => w'.cell? ⟨w3.heap.size + 1, 0, none⟩ = some (.int .i64 2147483647)) (first | go_keep | assumption)
          (first
            | ((go_at_call 13; go_must (refine (hchk _ _ _ hc9 (by first | exact HrL.out _ (Below.refl _ _) | exact HrL.out _ (Below.refl _ _).drew)).mono ?_; rintro e w10 ⟨rfl, hb10'⟩; have hb10 : Below w9.heap.size w9 w10 := (by first | exact hb10' | exact below_of_drew hb10'); have t10 := hkeep.out w10 hb10)))
            | ((go_at_call 9; go_must (refine (hfnd _ _ _ hc9 (by first | exact HrL.out _ hb10 | exact HrL.out _ hb10.drew) (fun e => by cases (hz9 e).1)).mono ?_; rintro e w11 ⟨A11, C11, rfl, hown11, hb11'⟩; have hb11a : Below w10.heap.size w10 w11 := (by first | exact hb11' | exact below_of_drew hb11'); have hb11 := hb10.trans (hb11a.mono hb10.size); have t11 := hkeep.out w11 hb11)))
            | ((go_at_call 21; go_must (refine (rhas_any _ _ _ NF 2147483647 _ (by omega) (by first | exact nrow hown11 hlF | exact (nrow hown11 hlF).below ((Below.refl _ _).drew) (Nat.le_refl _) | exact (nrow hown11 hlF).below (((Below.refl _ _).drew).drew) (Nat.le_refl _))).mono ?_; rw [hcon3]; rintro e w12 ⟨rfl, he12⟩; have hb12 : Below w9.heap.size w9 w12 := (by rw [he12]; first | exact hb11 | exact hb11.drew | exact hb11.drew.drew); clear he12; have t12 := hkeep.out w12 hb12)))
            | ((go_at_call 7; go_must (refine (haw _).mono ?_; rintro e w13 ⟨rfl, hb13'⟩; have hb13a : Below w12.heap.size w12 w13 := (by first | exact hb13' | exact below_of_drew hb13'); have hb13 := hb12.trans (hb13a.mono hb12.size); have t13 := hkeep.out w13 hb13))))
        go_wp2
        go_ret
        exact ⟨rfl, hX.trans (hb13.mono hX.size)⟩
theorem levelmerges_any (a : Option Addr) (n c : Nat) (l : List Lv.T) (base : Int) (key : ByteArray) (w : World) (hi : IsTabs w a n c l) :
    Calls Try.prog 5 #[.slice a n c, .int .i64 base, .string key] w fun e w' => e = .returned (.bool true) ∧ Below w.heap.size w w' := by
  cases hL : lgt l with
  | false => exact levelmerges_far a n c l base key w hi hL
  | true =>
    cases hm : Lv.may l with
    | false => exact levelmerges_no a n c l base key w hi hL _ hm (.inl rfl)
    | true =>
      by_cases hk : 200 < key.size
      · exact levelmerges_no a n c l base key w hi hL _ hm (.inr hk)
      · have hM := (Lv.may_iff l).mp hm
        have hr := hi.1
        by_cases hb : base < 1 ∨ 1048576 < base
        · exact levelmerges_none a n c l base key w hi hL hm (by omega) (fun V hV => lpick_base a n c l base V hi.2.2.1 (hr.below hV (Nat.le_refl _)) hm hb)
        · have hp := fun V (hV : Below w.heap.size w V) => lpick_any a n c l base V hi.2.2.1 (hr.below hV (Nat.le_refl _)) hi.2.1 hM (by omega) (by omega) _ rfl
          have hpn : ∀ N, N = Lv.pn (Lv.ord l) base → N < 4 → Lv.fr (Lv.ord l) N ≠ [] := fun N hN h4 => Lv.fr_ne (Lv.pn_full (by omega) hN h4)
          obtain ⟨N, hN⟩ : ∃ N, N = Lv.pn (Lv.ord l) base := ⟨_, rfl⟩
          rw [← hN] at hp
          by_cases h4 : N = 4
          · refine levelmerges_none a n c l base key w hi hL hm (by omega) (fun V hV => (hp V hV).mono ?_)
            rintro e w' (⟨_, h⟩ | ⟨h, _⟩)
            · exact h
            · omega
          · have hlt : N < 4 := by have := Lv.pn_le (Lv.ord l) base; omega
            have hmo := hM.perm (Lv.ord_perm l)
            have hlD : (Lv.ord l).length ≤ 64 := hmo.len
            refine levelmerges_some a n c l base key w hi hL hM (by omega) N hlt (hpn N hN hlt) (!Lv.hides (Lv.ord l) (Lv.inn (Lv.ord l) N) ((N : Int) + 1)) (inn_len hlD N) (fun V hV => (hp V hV).mono ?_)
            rintro e w' (⟨h, _⟩ | ⟨_, h⟩)
            · exact absurd h h4
            · exact h
end Go.Proofs.Ytghgolpofafjmaa
