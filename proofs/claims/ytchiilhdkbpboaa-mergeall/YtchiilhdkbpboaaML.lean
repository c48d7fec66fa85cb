/- What the program's Scan does. -/
import Derived.Test.YtchiilhdkbpboaaMK
namespace Go.Proofs.Ytchiilhdkbpboaa
open Go.RowKit

theorem win_small {l : List (List It.I)} (h : ∀ a ∈ l, ∀ x ∈ a, Small x) (lo hi : List Nat) : ∀ a ∈ Mg.win lo hi l, ∀ x ∈ a, Small x := fun a ha x hx => by
  obtain ⟨b, hb, rfl⟩ := List.mem_map.mp ha
  exact h b hb x (List.mem_filter.mp hx).1

set_option maxRecDepth 100000 in
set_option maxHeartbeats 1000000 in
theorem mscan_yes (a : Option Addr) (n c : Nat) (ps : List PH) (gss : List (List IH)) (xss : List (List It.I)) (lo hi : ByteArray) (most : Int) (w : World) (hi0 : InP w a n ps gss xss) (hsz : ∀ i, i < n → (ps.getD i phz).n ≤ 100000) (hm : Mg.may xss = true) :
    Calls Try.prog 11 #[.slice a n c, .string lo, .string hi, .int .i64 most] w (MAllRes w (It.scan (Mg.all xss true) (kb lo) (kb hi) most)) := by
  obtain ⟨hU, -, hl⟩ := Mg.may_keys hm
  rw [hi0.len] at hl
  have hck := mcheck_any a n c ps gss xss w hi0 hsz
  rw [hm, if_pos rfl] at hck
  have hwi := fun W (hW : Below w.heap.size w W) => mwithin_any a n c ps gss xss lo hi W (hi0.below hW (Nat.le_refl _)) (by omega) hU hsz
  have hUw := Mg.up_win hU (kb lo) (kb hi)
  have hfo := Mg.fo_scan hU (kb lo) (kb hi) most
  have hsm := tag_small hUw (win_small (mg_small hm) _ _) 0
  have hmg : ∀ (W : World) (g : Nat) (qs : List PH) (hss : List (List IH)), TRow 1 phe phz W (some ⟨g, 0, none⟩) n qs → PartsAt W qs hss (Mg.win (kb lo) (kb hi) xss) → (∀ p ∈ qs, p.n ≤ 100000) → Calls Try.prog 23 #[.slice (some ⟨g, 0, none⟩) n n, .int .i64 0] W (ORes W W (Mg.tag (Mg.win (kb lo) (kb hi) xss) 0)) := fun W g qs hss h1 h2 h3 => by
    have h4 : ∀ i, i < n → (qs.getD i phz).n ≤ 100000 := fun i hi' => h3 _ (by rw [List.getD_eq_getElem?_getD, List.getElem?_eq_getElem (by rw [h1.1]; exact hi')]; exact List.getElem_mem _)
    exact mmerged_any W n _ n n qs hss _ 0 W (Nat.le_refl _) ⟨h1, h2⟩ (Nat.le_refl _) hUw h4 (by omega) (by omega) (Below.refl _ _)
  have hl1 : Hid ((Mg.tag (Mg.win (kb lo) (kb hi) xss) 0).length ≤ 100000000) := (by
    have h := Mg.tag_len 100000 0 (l := Mg.win (kb lo) (kb hi) xss) (fun b hb => by
      obtain ⟨x, hx, rfl⟩ := List.mem_map.mp hb
      exact Nat.le_trans (List.length_filter_le _ _) (parts_le hi0 hsz x hx))
    have h2 : (Mg.win (kb lo) (kb hi) xss).length = n := by unfold Mg.win; rw [List.length_map, hi0.len]
    rw [h2] at h
    omega : (Mg.tag (Mg.win (kb lo) (kb hi) xss) 0).length ≤ 100000000)
  generalize Mg.win (kb lo) (kb hi) xss = V at *
  have hfi := fun (w0 : World) (a' : Option Addr) (c' : Nat) (os : List OH) (W : World) (hS : SO w0 W a' (Mg.tag V 0).length c' os (Mg.tag V 0)) (hW : Below w0.heap.size w0 W) => mfirst_any w0 a' (Mg.tag V 0).length c' os (Mg.tag V 0) true most W hS hW hl1.out hsm
  rw [hfo] at hfi
  generalize Mg.tag V 0 = T at *
  generalize It.scan (Mg.all xss true) (kb lo) (kb hi) most = R at *
  clear hi0 hsz hm hU hsm hfo hUw
  go_enter Try.func11, Try.ntmps11
  go_wp2_with (first
    | (go_at_call 22; go_must (refine hck.mono ?_; rintro e w1 ⟨rfl, hb1⟩))
    | (go_at_call 26; go_must (refine (hwi _ hb1).mono ?_; rintro e w2 ⟨g2, qs2, hss2, rfl, ht2, hp2, hk2, hbel2⟩; have hb2 := hb1.trans (hbel2.mono hb1.size); have hq2 := hp2.below hbel2 (Nat.le_refl _)))
    | (go_at_call 23; go_must (refine (hmg _ _ _ _ ht2 hq2 hk2).mono ?_; rintro e w3 ⟨a3, c3, os3, rfl, ho3, hA3, hbel3⟩; have hb3 := hb2.trans (hbel3.mono hb2.size)))
    | (go_at_call 24; go_must (refine (hfi _ _ _ _ _ (so_of_owns ho3 hA3 (by have := hl1.out; omega)) hbel3).mono ?_; rintro e w4 ⟨a4, c4, hs4, rfl, hi4, hbel4⟩; have hb4 := hb3.trans (hbel4.mono hb3.size))))
  go_ret2
  exact ⟨a4, c4, hs4, rfl, hi4, hb4⟩

set_option maxRecDepth 100000 in
set_option maxHeartbeats 1000000 in
theorem mscan_no (a : Option Addr) (n c : Nat) (ps : List PH) (gss : List (List IH)) (xss : List (List It.I)) (lo hi : ByteArray) (most : Int) (w : World) (hi0 : InP w a n ps gss xss) (hsz : ∀ i, i < n → (ps.getD i phz).n ≤ 100000) (hm : Mg.may xss = false) :
    Calls Try.prog 11 #[.slice a n c, .string lo, .string hi, .int .i64 most] w fun e w' => e = .returned (.tuple #[.slice none 0 0, .int .i64 1]) ∧ Below w.heap.size w w' := by
  have hck := mcheck_any a n c ps gss xss w hi0 hsz
  rw [hm] at hck
  simp only [Bool.false_eq_true, if_false] at hck
  clear hi0 hsz hm
  go_enter Try.func11, Try.ntmps11
  go_wp2_with (go_at_call 22; go_must (refine hck.mono ?_; rintro e w1 ⟨rfl, hb1⟩))
  go_ret2
  exact ⟨rfl, hb1⟩
end Go.Proofs.Ytchiilhdkbpboaa
