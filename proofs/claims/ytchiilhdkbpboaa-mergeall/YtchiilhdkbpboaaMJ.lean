/- What the program's All does. -/
import Derived.Test.YtchiilhdkbpboaaMI
import Derived.Test.YtchiilhdkbpboaaMD
namespace Go.Proofs.Ytchiilhdkbpboaa
open Go.RowKit

theorem may_small {x : It.I} (h : It.may x = true) : Small x := by
  unfold It.may Ce.may at h
  simp only [Bool.and_eq_true, decide_eq_true_eq] at h
  refine ⟨by omega, ?_⟩
  have h2 := h.1.2
  split at h2
  · simp only [Bool.and_eq_true, decide_eq_true_eq] at h2; omega
  · simp only [Bool.and_eq_true, decide_eq_true_eq] at h2; omega
theorem mg_small {l : List (List It.I)} (h : Mg.may l = true) : ∀ a ∈ l, ∀ x ∈ a, Small x := by
  unfold Mg.may at h
  rw [Bool.and_eq_true, List.all_eq_true] at h
  exact fun a ha x hx => may_small (((It.sorted_iff a).mp (h.1 a ha)).1 x hx)
theorem tag_small {l : List (List It.I)} (h : ∀ a ∈ l, It.Up a) (hs : ∀ a ∈ l, ∀ x ∈ a, Small x) (f : Nat) : ∀ y ∈ Mg.tag l f, Small y.1 := by
  intro y hy
  have h1 : y.1 ∈ Mg.mall l := by rw [← Mg.tag_mall f h]; exact List.mem_map.mpr ⟨y, hy, rfl⟩
  obtain ⟨a, ha, hx⟩ := Mg.mall_mem h h1
  exact hs a ha _ hx
/-- items are told, and no error -/
def MAllRes (w : World) (L : List It.I) (e : Ending) (w' : World) : Prop :=
  ∃ a c hs, e = .returned (.tuple #[.slice a L.length c, .int .i64 0]) ∧ InI w' a L.length c hs L ∧ Below w.heap.size w w'

set_option maxRecDepth 100000 in
set_option maxHeartbeats 1000000 in
theorem mall_yes (a : Option Addr) (n c : Nat) (ps : List PH) (gss : List (List IH)) (xss : List (List It.I)) (drop : Bool) (w : World) (hi : InP w a n ps gss xss) (hnc : n ≤ c) (hsz : ∀ i, i < n → (ps.getD i phz).n ≤ 100000) (hm : Mg.may xss = true) :
    Calls Try.prog 9 #[.slice a n c, .bool drop] w (MAllRes w (Mg.all xss drop)) := by
  obtain ⟨hU, -, hl⟩ := Mg.may_keys hm
  rw [hi.len] at hl
  have hck := mcheck_any a n c ps gss xss w hi hsz
  rw [hm, if_pos rfl] at hck
  have hmg := fun W (hW : Below w.heap.size w W) => mmerged_any w n a n c ps gss xss 0 W (Nat.le_refl _) hi hnc hU hsz (by omega) (by omega) hW
  have hl1 := Mg.tag_len 100000 0 (parts_le hi hsz)
  rw [hi.len] at hl1
  have hsm := tag_small hU (mg_small hm) 0
  have hfo := Mg.fo_all hU drop (Mg.tag xss 0).length (Nat.le_refl _)
  have hfi := fun (a' : Option Addr) (c' : Nat) (os : List OH) (W : World) (hS : SO w W a' (Mg.tag xss 0).length c' os (Mg.tag xss 0)) (hW : Below w.heap.size w W) => mfirst_any w a' (Mg.tag xss 0).length c' os (Mg.tag xss 0) drop ((Mg.tag xss 0).length : Nat) W hS hW (by omega) hsm
  rw [hfo] at hfi
  have hl2 : Hid ((Mg.tag xss 0).length ≤ 100000000) := (by omega : (Mg.tag xss 0).length ≤ 100000000)
  generalize Mg.tag xss 0 = T at *
  generalize Mg.all xss drop = R at *
  clear hi hsz hm hU hsm hfo hl1
  go_enter Try.func9, Try.ntmps9
  go_wp2_with (first
    | (go_at_call 22; go_must (refine hck.mono ?_; rintro e w1 ⟨rfl, hb1⟩))
    | (go_at_call 23; go_must (refine (hmg _ hb1).mono ?_; rintro e w2 ⟨a2, c2, os2, rfl, ho2, hA2, hbel2⟩; have hb2 := hb1.trans (hbel2.mono hb1.size)))
    | (go_at_call 24; go_must (refine (hfi _ _ _ _ (so_of_owns ho2 hA2 (by have := hl2.out; omega)) hb2).mono ?_; rintro e w3 ⟨a3, c3, hs3, rfl, hi3, hbel3⟩; have hb3 := hb2.trans (hbel3.mono hb2.size))))
  go_ret2
  exact ⟨a3, c3, hs3, rfl, hi3, hb3⟩

set_option maxRecDepth 100000 in
set_option maxHeartbeats 1000000 in
theorem mall_no (a : Option Addr) (n c : Nat) (ps : List PH) (gss : List (List IH)) (xss : List (List It.I)) (drop : Bool) (w : World) (hi : InP w a n ps gss xss) (hsz : ∀ i, i < n → (ps.getD i phz).n ≤ 100000) (hm : Mg.may xss = false) :
    Calls Try.prog 9 #[.slice a n c, .bool drop] w fun e w' => e = .returned (.tuple #[.slice none 0 0, .int .i64 1]) ∧ Below w.heap.size w w' := by
  have hck := mcheck_any a n c ps gss xss w hi hsz
  rw [hm] at hck
  simp only [Bool.false_eq_true, if_false] at hck
  clear hi hsz hm
  go_enter Try.func9, Try.ntmps9
  go_wp2_with (go_at_call 22; go_must (refine hck.mono ?_; rintro e w1 ⟨rfl, hb1⟩))
  go_ret2
  exact ⟨rfl, hb1⟩
end Go.Proofs.Ytchiilhdkbpboaa
