/- What the program's jobOf does. -/
import Derived.Test.YtghgolpofafjmaaLP
namespace Go.Proofs.Ytghgolpofafjmaa
open Go.RowKit

/-- what is merged -/
def JRes (w : World) (I : List Nat) (n : Int) (D : Bool) (e : Ending) (w' : World) : Prop := ∃ g c, e = .returned (.agg #[.slice g I.length c, .int .i64 n, .bool D]) ∧ w'.ownsRow w.heap.size 3 1 (.slice g I.length c) I.length (tcells ie I) ∧ Below w.heap.size w w'
theorem lv_len (d : List Lv.T) (n : Int) : (Lv.lv d n).length ≤ d.length := List.length_filter_le ..
theorem lrow_of {w : World} {B n c : Nat} {g : Option Addr} {l : List Lv.T} (h : w.ownsRow B 30 5 (.slice g n c) n (tcells le l)) (hn : n ≤ 1000) : LRow w g n l := trow_of_owns leE h (by omega) (by omega)
theorem own_le {w : World} {B n c s e : Nat} {g : Option Addr} {xs : List Value} (h : w.ownsRow B e s (.slice g n c) n xs) : n ≤ c ∧ (g = none → n = 0 ∧ c = 0) := by
  rcases h.2 with ⟨e, h0⟩ | ⟨g', cap, cur, e, _, _, hnc, _⟩
  · simp only [Value.slice.injEq] at e
    obtain ⟨rfl, rfl, rfl⟩ := e
    exact ⟨Nat.le_refl _, fun _ => ⟨rfl, rfl⟩⟩
  · simp only [Value.slice.injEq] at e
    obtain ⟨rfl, _, rfl⟩ := e
    exact ⟨hnc, fun h => by cases h⟩

abbrev oj (v : Value) (n : Int) (b : Bool) : Obj := .cells #[v, .int .i64 n, .bool b] 38
theorem blk3 {W : World} {g : Nat} {v : Value} {n : Int} {b : Bool} (h : W.heap[g]? = some (oj v n b)) :
    (W.cell? ⟨g, 0, none⟩ = some v ∧ W.cell? ⟨g, 1, none⟩ = some (.int .i64 n) ∧ W.cell? ⟨g, 2, none⟩ = some (.bool b)) ∧ W.frozen? ⟨g, 0, none⟩ = false ∧ W.frozen? ⟨g, 1, none⟩ = false ∧ W.frozen? ⟨g, 2, none⟩ = false := by
  refine ⟨⟨?_, ?_, ?_⟩, ?_, ?_, ?_⟩
  · simp only [World.cell?, h]; rfl
  · simp only [World.cell?, h]; rfl
  · simp only [World.cell?, h]; rfl
  · simp only [World.frozen?, h]; simp
  · simp only [World.frozen?, h]; simp
  · simp only [World.frozen?, h]; simp
theorem blk_kept {W0 W : World} {g : Nat} {x : Obj} (h : W0.heap[g]? = some x) (hb : Below W0.heap.size W0 W) : W.heap[g]? = some x := (hb.block g (blk_lt h)).trans h
theorem own_set {w : World} {B e s n g : Nat} {v : Value} {xs : List Value} (h : w.ownsRow B e s v n xs) (hne : some g ≠ v.ownBlock) (i : Nat) (u : Value) : (w.setCell ⟨g, i, none⟩ u).ownsRow B e s v n xs := by
  refine ⟨h.1, ?_⟩
  rcases h.2 with ⟨rfl, h0⟩ | ⟨g', cap, cur, rfl, hB, hg, rest⟩
  · exact .inl ⟨rfl, h0⟩
  · refine .inr ⟨g', cap, cur, rfl, hB, blk_set hg (fun e => hne ?_) _ _, rest⟩
    rw [e]; rfl

theorem LRow.take {w : World} {a : Option Addr} {n k : Nat} {l : List Lv.T} (h : LRow w a n l) (hk : k ≤ n) : LRow w a k (l.take k) := by
  obtain ⟨h1, h2, h3⟩ := h
  refine ⟨by rw [List.length_take]; omega, by omega, ?_⟩
  rcases h3 with h3 | ⟨b, off, e, hc⟩
  · exact .inl (by omega)
  · refine .inr ⟨b, off, e, fun i hi => ?_⟩
    have := hc i (by omega)
    have e2 : (l.take k).getD i Lv.zero = l.getD i Lv.zero := by simp [hi]
    rw [e2]; exact this
set_option maxRecDepth 100000 in
set_option maxHeartbeats 1000000 in
theorem ljob0_any (a : Option Addr) (len cap : Nat) (d : List Lv.T) (w : World) (hr : LRow w a len d) (hm : Lv.May d) (h0 : 0 < (Lv.lv d 0).length) :
    Calls Try.prog 30 #[.slice a len cap, .int .i64 0] w (JRes w (nm (Lv.inn d 0)) 1 (!Lv.hides d (Lv.inn d 0) 1)) := by
  have hln : len ≤ 64 := by have := hm.len; rw [hr.1] at this; exact this
  have e1 : Lv.inn d 0 = Lv.lv d 0 ++ (Lv.lv d 1).filter (fun x => Lv.meet x (Lv.span (Lv.lv d 0))) := rfl
  have hf0 := fun W r => loflevel_any a len cap d 0 W (by omega) r
  have hf1 := fun W r => loflevel_any a len cap d 1 W (by omega) r
  have hl0 : (Lv.lv d 0).length ≤ 64 := Nat.le_trans (lv_len d 0) (by rw [hr.1]; exact hln)
  have hl1 : (Lv.lv d 1).length ≤ 64 := Nat.le_trans (lv_len d 1) (by rw [hr.1]; exact hln)
  have hmem : ∀ x ∈ Lv.inn d 0, 0 ≤ x.num := fun x hx => by have := (hm.one x (Lv.inn_sub hx)).n1; omega
  have hsp := fun A C W hc r => lspan_all A (Lv.lv d 0).length C (Lv.lv d 0) W (by omega) hc h0 r
  have hme := fun A C s1 s2 s3 s4 s5 W r => lmeeting_any A (Lv.lv d 1).length C (Lv.lv d 1) s1 s2 s3 s4 s5 W (by omega) r
  generalize Lv.span (Lv.lv d 0) = S at *
  obtain ⟨s1, s2, s3, s4, s5⟩ := S
  have hme2 := fun A C W r => hme A C s1 s2 s3 s4 s5 W r
  clear hme
  have hlm := filter_len (Lv.lv d 1) (fun x => Lv.meet x ⟨s1, s2, s3, s4, s5⟩)
  generalize (Lv.lv d 1).filter (fun x => Lv.meet x ⟨s1, s2, s3, s4, s5⟩) = M at *
  generalize Lv.lv d 0 = F at *
  generalize Lv.lv d 1 = E at *
  have hlI : (Lv.inn d 0).length = F.length + M.length := by rw [e1, List.length_append]
  have hcc := fun g a1 c1 a2 c2 W h1 h2 r1 r2 z1 z2 hg => lconcat2 g a1 F.length c1 F a2 M.length c2 M W h1 h2 r1 r2 z1 z2 hg (by omega) (by omega)
  rw [← e1] at hcc
  have hIl : (Lv.inn d 0).length ≤ 128 := by omega
  clear e1 hlI
  generalize Lv.inn d 0 = I at *
  have hnu := fun A C W r => lnums_any A I.length C I W (by omega) r hmem
  have hhi := fun A C W r ri => lhides_any a len cap d A I.length C I 1 W (by omega) r (by omega) ri
  have hb0 := below_alloc w (.cells #[.slice none 0 0, .int .i64 0, .bool false] 38)
  simp only [lval] at hsp
  have g0 : (w.alloc (oj (.slice none 0 0) 0 false)).heap[w.heap.size]? = some (oj (.slice none 0 0) 0 false) := heap_alloc_new w _
  have hrW := hr.below hb0 (Nat.le_refl _)
  have tok : Hid (0 = 0) := (rfl : 0 = 0)
  go_enter Try.func30, Try.ntmps30
  go_wp2_with (first | (go_at_call 29; first | (clear tok; go_must (refine (hf0 _ hrW).mono ?_; rintro e w2 ⟨A2, C2, rfl, hown2, hb2⟩; have hB2 := hb2)) | go_must (refine (hf1 _ (hrW.below hB2 (Nat.le_refl _))).mono ?_; rintro e w3 ⟨A3, C3, rfl, hown3, hb3⟩; have hB3 := hB2.trans (hb3.mono hB2.size))) | (go_at_call 38; go_must (refine (hsp A2 C2 w3 (own_le hown2).1 ((lrow_of hown2 (by omega)).below hb3 (Nat.le_refl _))).mono ?_; rintro e w4 ⟨rfl, hb4⟩; have hB4 := hB3.trans (hb4.mono hB3.size))) | (go_at_call 24; go_must (refine (hme2 A3 C3 w4 ((lrow_of hown3 (by omega)).below hb4 (Nat.le_refl _))).mono ?_; rintro e w5 ⟨A5, C5, rfl, hown5, hb5⟩; have hB5 := hB4.trans (hb5.mono hB4.size))) | (go_at_call 39; go_must (refine (hcc w5.heap.size A2 C2 A5 C5 _ (cell_two w5 _ _ _ rfl).1 (cell_two w5 _ _ _ rfl).2 ((((lrow_of hown2 (by omega)).below hb3 (Nat.le_refl _)).below hb4 (Nat.le_refl _)).below (hb5.alloc hb5.size _) (Nat.le_refl _)) ((lrow_of hown5 (by omega)).below (below_alloc _ _) (Nat.le_refl _)) (own_le hown2).2 (own_le hown5).2 (by simp)).mono ?_; rintro e w6 ⟨A6, C6, rfl, hown6, hb6⟩; have hB6 := (hB5.alloc hB5.size (.cells #[.slice A2 F.length C2, .slice A5 M.length C5] 22)).trans (hb6.mono (hB5.alloc hB5.size _).size))) | (go_at_call 22; go_must (refine (hnu A6 C6 w6 (lrow_of hown6 (by omega))).mono ?_; rintro e w7 ⟨A7, C7, rfl, hown7, hb7⟩; have hB7 := hB6.trans (hb7.mono hB6.size))) | (go_at_call 40; go_must (refine (hhi A6 C6 w7 (hrW.below hB7 (Nat.le_refl _)) ((lrow_of hown6 (by omega)).below hb7 (Nat.le_refl _))).mono ?_; rintro e w8 ⟨rfl, hb8⟩; have hB8 := hB7.trans (hb8.mono hB7.size); obtain ⟨⟨j0, j1, j2⟩, f0, f1, f2⟩ := blk3 (blk_kept g0 hB8))))
  have hs6 : w.heap.size < w6.heap.size := by have := hB6.size; simp at this; omega
  have hne := own_ne hown7 hs6
  have ho8 := lowns_base (B' := w.heap.size) (owns_below hown7 hb8) (by omega)
  exact bodyPost_ret (v := .agg #[.slice A7 (nm I).length C7, .int .i64 1, .bool (!Lv.hides d I 1)]) (by simp [results, Try.results30, go_sem, j0, j1, j2]) rfl ⟨A7, C7, rfl, own_set (own_set (own_set ho8 hne _ _) hne _ _) hne _ _, below_set (below_set (below_set (hb0.trans (hB8.mono hb0.size)) (Nat.le_refl _) _ _) (Nat.le_refl _) _ _) (Nat.le_refl _) _ _⟩
set_option maxRecDepth 100000 in
set_option maxHeartbeats 1000000 in
theorem ljobn_any (a : Option Addr) (len cap : Nat) (d : List Lv.T) (n : Nat) (w : World) (hn1 : 1 ≤ n) (hn3 : n ≤ 3) (hr : LRow w a len d) (hm : Lv.May d) (h0 : 0 < (Lv.lv d n).length) :
    Calls Try.prog 30 #[.slice a len cap, .int .i64 (n : Int)] w (JRes w (nm (Lv.inn d n)) ((n : Int) + 1) (!Lv.hides d (Lv.inn d n) ((n : Int) + 1))) := by
  have hln : len ≤ 64 := by have := hm.len; rw [hr.1] at this; exact this
  have e1 : Lv.inn d n = (Lv.lv d n).take 1 ++ (Lv.lv d ((n : Int) + 1)).filter (fun x => Lv.meet x (Lv.span ((Lv.lv d n).take 1))) := by unfold Lv.inn Lv.fr; rw [if_neg (by omega)]
  have hf0 := fun W r => loflevel_any a len cap d n W (by omega) r
  have hf1 := fun W r => loflevel_any a len cap d ((n : Int) + 1) W (by omega) r
  have hl0 : (Lv.lv d n).length ≤ 64 := Nat.le_trans (lv_len d n) (by rw [hr.1]; exact hln)
  have hl1 : (Lv.lv d ((n : Int) + 1)).length ≤ 64 := Nat.le_trans (lv_len d ((n : Int) + 1)) (by rw [hr.1]; exact hln)
  have hmem : ∀ x ∈ Lv.inn d n, 0 ≤ x.num := fun x hx => by have := (hm.one x (Lv.inn_sub hx)).n1; omega
  have hlF : ((Lv.lv d n).take 1).length = 1 := by rw [List.length_take]; omega
  have hsp := fun A C W hc r => lspan_all A 1 C ((Lv.lv d n).take 1) W (by omega) hc (by omega) r
  have hme := fun A C s1 s2 s3 s4 s5 W r => lmeeting_any A (Lv.lv d ((n : Int) + 1)).length C (Lv.lv d ((n : Int) + 1)) s1 s2 s3 s4 s5 W (by omega) r
  generalize Lv.span ((Lv.lv d n).take 1) = S at *
  obtain ⟨s1, s2, s3, s4, s5⟩ := S
  have hme2 := fun A C W r => hme A C s1 s2 s3 s4 s5 W r
  clear hme
  have hlm := filter_len (Lv.lv d ((n : Int) + 1)) (fun x => Lv.meet x ⟨s1, s2, s3, s4, s5⟩)
  generalize (Lv.lv d ((n : Int) + 1)).filter (fun x => Lv.meet x ⟨s1, s2, s3, s4, s5⟩) = M at *
  generalize Lv.lv d n = F at *
  generalize Lv.lv d ((n : Int) + 1) = E at *
  have hlI : (Lv.inn d n).length = 1 + M.length := by rw [e1, List.length_append, hlF]
  have hcc := fun g a1 c1 a2 c2 W h1 h2 r1 r2 z1 z2 hg => lconcat2 g a1 1 c1 (F.take 1) a2 M.length c2 M W h1 h2 r1 r2 z1 z2 hg (by omega) (by omega)
  rw [← e1] at hcc
  have hIl : (Lv.inn d n).length ≤ 128 := by omega
  clear e1 hlI hlF
  generalize Lv.inn d n = I at *
  have hnu := fun A C W r => lnums_any A I.length C I W (by omega) r hmem
  have hhi := fun A C W r ri => lhides_any a len cap d A I.length C I ((n : Int) + 1) W (by omega) r (by omega) ri
  have hb0 := below_alloc w (.cells #[.slice none 0 0, .int .i64 0, .bool false] 38)
  simp only [lval] at hsp
  have g0 : (w.alloc (oj (.slice none 0 0) 0 false)).heap[w.heap.size]? = some (oj (.slice none 0 0) 0 false) := heap_alloc_new w _
  have hrW := hr.below hb0 (Nat.le_refl _)
  have i0 : decide (0 < (n : Int)) = true := decide_eq_true (by omega)
  have i1 : IntKind.i64.wrap ((n : Int) + 1) = (n : Int) + 1 := by rw [IntKind.wrap_i64]; omega
  have tok : Hid (0 = 0) := (rfl : 0 = 0)
  go_enter Try.func30, Try.ntmps30
  go_wp2_with (first | (go_at_call 29; first | (clear tok; go_must (refine (hf0 _ hrW).mono ?_; rintro e w2 ⟨A2, C2, rfl, hown2, hb2⟩; have hB2 := hb2; have hc2 : (1 : Int) ≤ (C2 : Int) := by have := (own_le hown2).1; omega)) | go_must (refine (hf1 _ (hrW.below hB2 (Nat.le_refl _))).mono ?_; rintro e w3 ⟨A3, C3, rfl, hown3, hb3⟩; have hB3 := hB2.trans (hb3.mono hB2.size))) | (go_at_call 38; go_must (refine (hsp A2 C2 w3 (Nat.le_trans h0 (own_le hown2).1) ((LRow.take (lrow_of hown2 (by omega)) h0).below hb3 (Nat.le_refl _))).mono ?_; rintro e w4 ⟨rfl, hb4⟩; have hB4 := hB3.trans (hb4.mono hB3.size))) | (go_at_call 24; go_must (refine (hme2 A3 C3 w4 ((lrow_of hown3 (by omega)).below hb4 (Nat.le_refl _))).mono ?_; rintro e w5 ⟨A5, C5, rfl, hown5, hb5⟩; have hB5 := hB4.trans (hb5.mono hB4.size))) | (go_at_call 39; go_must (refine (hcc w5.heap.size A2 C2 A5 C5 _ (cell_two w5 _ _ _ rfl).1 (cell_two w5 _ _ _ rfl).2 ((((LRow.take (lrow_of hown2 (by omega)) h0).below hb3 (Nat.le_refl _)).below hb4 (Nat.le_refl _)).below (hb5.alloc hb5.size _) (Nat.le_refl _)) ((lrow_of hown5 (by omega)).below (below_alloc _ _) (Nat.le_refl _)) (fun h => absurd ((own_le hown2).2 h).1 (by omega)) (own_le hown5).2 (by simp)).mono ?_; rintro e w6 ⟨A6, C6, rfl, hown6, hb6⟩; have hB6 := (hB5.alloc hB5.size (.cells #[.slice A2 1 C2, .slice A5 M.length C5] 22)).trans (hb6.mono (hB5.alloc hB5.size _).size))) | (go_at_call 22; go_must (refine (hnu A6 C6 w6 (lrow_of hown6 (by omega))).mono ?_; rintro e w7 ⟨A7, C7, rfl, hown7, hb7⟩; have hB7 := hB6.trans (hb7.mono hB6.size))) | (go_at_call 40; go_must (refine (hhi A6 C6 w7 (hrW.below hB7 (Nat.le_refl _)) ((lrow_of hown6 (by omega)).below hb7 (Nat.le_refl _))).mono ?_; rintro e w8 ⟨rfl, hb8⟩; have hB8 := hB7.trans (hb8.mono hB7.size); obtain ⟨⟨j0, j1, j2⟩, f0, f1, f2⟩ := blk3 (blk_kept g0 hB8))))
  have hs6 : w.heap.size < w6.heap.size := by have := hB6.size; simp at this; omega
  have hne := own_ne hown7 hs6
  have ho8 := lowns_base (B' := w.heap.size) (owns_below hown7 hb8) (by omega)
  exact bodyPost_ret (v := .agg #[.slice A7 (nm I).length C7, .int .i64 ((n : Int) + 1), .bool (!Lv.hides d I ((n : Int) + 1))]) (by simp [results, Try.results30, go_sem, j0, j1, j2]) rfl ⟨A7, C7, rfl, own_set (own_set (own_set ho8 hne _ _) hne _ _) hne _ _, below_set (below_set (below_set (hb0.trans (hB8.mono hb0.size)) (Nat.le_refl _) _ _) (Nat.le_refl _) _ _) (Nat.le_refl _) _ _⟩
end Go.Proofs.Ytghgolpofafjmaa
