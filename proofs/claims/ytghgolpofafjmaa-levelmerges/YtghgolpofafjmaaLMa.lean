/- LevelMerges where nothing is merged; what is merged, as mathematics. -/
import Derived.Test.YtghgolpofafjmaaLPb
namespace Go.Proofs.Ytghgolpofafjmaa
open Go.RowKit
/-- is a table one of those of a job? -/
def mp (D : List Lv.T) (N : Nat) (t : Lv.T) : Bool := (nm (Lv.inn D N)).contains t.num.toNat
theorem mp_inB {l : List Lv.T} {N : Nat} (hm : Lv.May l) {t : Lv.T} (ht : t ∈ l) : mp (Lv.ord l) N t = Lv.inB (Lv.nums (Lv.inn (Lv.ord l) N)) t := by
  have hmo := hm.perm (Lv.ord_perm l)
  have h1 := (hm.one t ht).n1
  rw [Bool.eq_iff_iff, mp, List.contains_iff_mem, Lv.inB_iff hm ht]
  constructor
  · intro h
    obtain ⟨x, hx, e⟩ := List.mem_map.mp h
    have h2 := (hmo.one x (Lv.inn_sub hx)).n1
    have : x = t := hm.num_inj (Lv.mem_ord.mp (Lv.inn_sub hx)) ht (by omega)
    exact this ▸ hx
  · intro h
    exact List.mem_map.mpr ⟨t, h, rfl⟩
def mout (l : List Lv.T) (N : Nat) : Lv.T := ⟨2147483647, (N : Int) + 1, 0, Lv.mF ⟨#[]⟩ (l.filter (mp (Lv.ord l) N)), Lv.hiL ⟨#[]⟩ (l.filter (mp (Lv.ord l) N))⟩
def mleft (l : List Lv.T) (N : Nat) : List Lv.T := l.filter (fun t => !mp (Lv.ord l) N t) ++ [mout l N]
theorem mleft_may {l : List Lv.T} {N : Nat} (hm : Lv.May l) (hN : N < 4) (hne : Lv.fr (Lv.ord l) N ≠ []) (hno : ∀ t ∈ l, t.num ≠ 2147483647) : Lv.May (mleft l N) ∧ ∀ k, (l.filter (mp (Lv.ord l) N)).any (Lv.has k) = true → (nm ((Lv.ord (mleft l N)).filter (Lv.has k))).contains 2147483647 = true := by
  have e1 : l.filter (mp (Lv.ord l) N) = l.filter (Lv.inB (Lv.nums (Lv.inn (Lv.ord l) N))) := List.filter_congr (fun t ht => mp_inB hm ht)
  have e2 : l.filter (fun t => !mp (Lv.ord l) N t) = l.filter (fun t => !Lv.inB (Lv.nums (Lv.inn (Lv.ord l) N)) t) := List.filter_congr (fun t ht => by rw [mp_inB hm ht])
  have hh : Lv.Hull (l.filter (Lv.inB (Lv.nums (Lv.inn (Lv.ord l) N)))) (Lv.mF ⟨#[]⟩ (l.filter (mp (Lv.ord l) N))) (Lv.hiL ⟨#[]⟩ (l.filter (mp (Lv.ord l) N))) := by
    rw [e1]
    exact Lv.hull_merge rfl (Lv.merge_ne hm hne) (fun x hx => hm.one x (List.mem_filter.mp hx).1)
  have hmay : Lv.May (mleft l N) := by
    unfold mleft mout
    rw [e2]
    exact Lv.merge_may hm hN hne hh hno
  refine ⟨hmay, fun k hk => ?_⟩
  rw [List.any_eq_true] at hk
  obtain ⟨t, ht, hb⟩ := hk
  rw [e1] at ht
  have hb2 : Lv.has k (mout l N) = true := Lv.merge_has hh ht hb
  rw [List.contains_iff_mem]
  refine List.mem_map.mpr ⟨mout l N, List.mem_filter.mpr ⟨Lv.mem_ord.mpr ?_, hb2⟩, rfl⟩
  exact List.mem_append.mpr (.inr (List.mem_singleton.mpr rfl))
set_option maxRecDepth 100000 in
set_option maxHeartbeats 400000 in
theorem levelmerges_far (a : Option Addr) (n c : Nat) (l : List Lv.T) (base : Int) (key : ByteArray) (w : World) (hi : IsTabs w a n c l) (hL : lgt l = false) :
    Calls Try.prog 5 #[.slice a n c, .int .i64 base, .string key] w fun e w' => e = .returned (.bool true) ∧ Below w.heap.size w w' := by
  obtain ⟨hr, hnil, hnc, hn⟩ := hi
  have hli := light_level a n c l w hr hn
  have haw := awake_level
  rw [hL] at hli
  go_enter Try.func5, Try.ntmps5
  go_wp2_with (first | (go_at_call 6; go_must (refine hli.mono ?_; rintro e w2 ⟨rfl, rfl⟩)) | (go_at_call 7; go_must (refine (haw _).mono ?_; rintro e w3 ⟨rfl, hb3⟩)))
  go_ret
  exact ⟨rfl, hb3⟩
set_option maxRecDepth 100000 in
set_option maxHeartbeats 400000 in
theorem levelmerges_no (a : Option Addr) (n c : Nat) (l : List Lv.T) (base : Int) (key : ByteArray) (w : World) (hi : IsTabs w a n c l) (hL : lgt l = true) (R : Bool) (hm : Lv.may l = R) (h : R = false ∨ 200 < key.size) :
    Calls Try.prog 5 #[.slice a n c, .int .i64 base, .string key] w fun e w' => e = .returned (.bool true) ∧ Below w.heap.size w w' := by
  obtain ⟨hr, hnil, hnc, hn⟩ := hi
  have hli := light_level a n c l w hr hn
  have haw := awake_level
  rw [hL] at hli
  have h80 : n ≤ 80 := by have := lgt_len hL; rw [hr.1] at this; exact this
  have hmay := rmay_any a n c l w (by omega) hr
  rw [hm] at hmay
  cases R with
  | false =>
    clear h
    go_enter Try.func5, Try.ntmps5
    go_wp2_with (first | (go_at_call 6; go_must (refine hli.mono ?_; rintro e w2 ⟨rfl, rfl⟩)) | (go_at_call 12; go_must (refine hmay.mono ?_; rintro e w4 ⟨rfl, hb4⟩)) | (go_at_call 7; go_must (refine (haw _).mono ?_; rintro e w3 ⟨rfl, hb3⟩)))
    go_ret
    exact ⟨rfl, hb4.trans (hb3.mono hb4.size)⟩
  | true =>
    have d0 : 200 < ((key.size : Nat) : Int) := by rcases h with h | h; cases h; omega
    clear h
    go_enter Try.func5, Try.ntmps5
    go_wp2_with (first | (go_at_call 6; go_must (refine hli.mono ?_; rintro e w2 ⟨rfl, rfl⟩)) | (go_at_call 12; go_must (refine hmay.mono ?_; rintro e w4 ⟨rfl, hb4⟩)) | (go_at_call 7; go_must (refine (haw _).mono ?_; rintro e w3 ⟨rfl, hb3⟩)))
    go_ret
    exact ⟨rfl, hb4.trans (hb3.mono hb4.size)⟩
set_option maxRecDepth 100000 in
set_option maxHeartbeats 400000 in
theorem levelmerges_none (a : Option Addr) (n c : Nat) (l : List Lv.T) (base : Int) (key : ByteArray) (w : World) (hi : IsTabs w a n c l) (hL : lgt l = true) (hm : Lv.may l = true) (hk : key.size ≤ 200) (hpk : ∀ V, Below w.heap.size w V → Calls Try.prog 18 #[.slice a n c, .int .i64 base] V (PRes V [] 0 false false)) :
    Calls Try.prog 5 #[.slice a n c, .int .i64 base, .string key] w fun e w' => e = .returned (.bool true) ∧ Below w.heap.size w w' := by
  obtain ⟨hr, hnil, hnc, hn⟩ := hi
  have hli := light_level a n c l w hr hn
  have haw := awake_level
  rw [hL] at hli
  have h80 : n ≤ 80 := by have := lgt_len hL; rw [hr.1] at this; exact this
  have hmay := rmay_any a n c l w (by omega) hr
  rw [hm] at hmay
  have d0 : ((key.size : Nat) : Int) ≤ 200 := by omega
  go_enter Try.func5, Try.ntmps5
  go_wp2_with (first | (go_at_call 6; go_must (refine hli.mono ?_; rintro e w2 ⟨rfl, rfl⟩)) | (go_at_call 12; go_must (refine hmay.mono ?_; rintro e w4 ⟨rfl, hb4⟩)) | (go_at_call 18; go_must (refine (hpk _ hb4).mono ?_; rintro e w5 ⟨g5, c5, rfl, hown5, hb5⟩)) | (go_at_call 7; go_must (refine (haw _).mono ?_; rintro e w3 ⟨rfl, hb3⟩)))
  go_ret
  have h5 := hb4.trans (hb5.mono hb4.size)
  have h6 := h5.alloc h5.size (oj (.slice g5 0 c5) 0 false)
  exact ⟨rfl, h6.trans (hb3.mono h6.size)⟩
end Go.Proofs.Ytghgolpofafjmaa
