/- The disk's Crash. -/
import Derived.Test.YtefadkengfjdmaaDKO
namespace Go.Proofs.Ytefadkengfjdmaa
open Go.RowKit Go.Shelf

/-- what a crash leaves -/
def Dk.crash (D : Dk.D) (kn : Int) (zs : List Int) : Dk.D :=
  { (Dk.tails (Dk.settle D (min (max kn 0) (D.turns.length : Int)).toNat) zs (Dk.order (Dk.settle D (min (max kn 0) (D.turns.length : Int)).toNat))).1 with stop := 0, fault := 0, dead := false }

theorem DK.tight {w : World} {p : Nat} {D : Dk.D} {S : Nat → Prop} (h : DK w p D S) : DK w p D (fun k => S k ∧ k < w.heap.size) := by
  obtain ⟨hO, fm, nm, sm, tv, J, hP, hS⟩ := h
  exact ⟨hO, fm, nm, sm, tv, J, hP, fun k hk => ⟨hS k hk, hP.lt hk⟩⟩

theorem Dk.turns_length : ∀ (l : List Dk.T) (K : List (ByteArray × Nat)), (Dk.turns l K).length ≤ K.length + l.length
  | [], K => by simp [Dk.turns]
  | t :: l, K => by
    have h1 : (Dk.turn t K).length ≤ K.length + 1 := by
      have h2 := (mdel_sub K t.taken).length_le
      unfold Dk.turn
      split
      · omega
      · have : ∀ (l : List (ByteArray × Nat)) (k : ByteArray) (v : Nat), (mput l k v).length ≤ l.length + 1 := fun l k v => by
          induction l with
          | nil => simp [mput]
          | cons a l ih =>
            obtain ⟨b, x⟩ := a
            by_cases hb : b = k
            · simp [mput, hb]
            · simp [mput, hb, ih]
        have := this (mdel K t.taken) t.given t.file
        omega
    have := Dk.turns_length l (Dk.turn t K)
    simp only [Dk.turns, List.foldl_cons, List.length_cons] at this ⊢
    omega

set_option maxRecDepth 100000 in
set_option maxHeartbeats 4000000 in
theorem crash_any {w : World} {p : Nat} {D : Dk.D} {S : Nat → Prop} (h : DK w p D S) (hSw : ∀ k, S k → k < w.heap.size) (kn : Int) (ta : Option Addr) (tn tc : Nat) (zs : List Int) (hz : ZIn w ta tn tc zs) (hts : ∀ b o, ta = some ⟨b, o, none⟩ → S b ∨ w.heap.size ≤ b → tn = 0) (htl : D.turns.length ≤ 100000) (hkl : D.kept.length ≤ 100000) :
    Calls Try.prog 13 #[.pointer (some ⟨p, 0, none⟩), .agg #[.int .i64 kn, .slice ta tn tc]] w fun e w' => e = .returned (.tuple #[]) ∧ DK w' p (Dk.crash D kn zs) (grow1 S w) ∧ OnlyIn S w w' := by
  have hm : Try.prog.follows .mixedOrders = true := by kernel_rfl
  obtain ⟨hO, fm, nm, sm, tv, J, hP, hS⟩ := id h
  have hP1 : Parts (w.alloc (.cells #[.int .i64 kn, .slice ta tn tc] 34)) p D (Dk.sum D.files) fm nm sm tv J := hP.keep fun k hk => heap_alloc_old w _ (hP.lt hk)
  have hb1 : (w.alloc (.cells #[.int .i64 kn, .slice ta tn tc] 34)).heap[w.heap.size]? = some (.cells #[.int .i64 kn, .slice ta tn tc] 34 (0, 0)) := heap_alloc_new w _
  have hbel : Below w.heap.size w (w.alloc (.cells #[.int .i64 kn, .slice ta tn tc] 34)) := below_alloc w _
  have hsz : (w.alloc (.cells #[.int .i64 kn, .slice ta tn tc] 34)).heap.size = w.heap.size + 1 := by simp
  have hmade := made_any hP1
  go_enter Try.func13, Try.ntmps13
  go_wp2_with (go_at_call 20; go_must (refine hmade.mono ?_; rintro e w1 ⟨rfl, hw⟩; rw [hw]; clear hw w1))
  generalize w.alloc (.cells #[.int .i64 kn, .slice ta tn tc] 34) = W at *
  have k0 : W.cell? ⟨w.heap.size, 0, none⟩ = some (.int .i64 kn) := (Go.Joins.cell_of_block hb1 _).trans rfl
  have k1 : W.cell? ⟨w.heap.size, 1, none⟩ = some (.slice ta tn tc) := (Go.Joins.cell_of_block hb1 _).trans rfl
  obtain ⟨va, vc, htv, _, _⟩ := t_shape hP1.turns
  have c6 := hP1.cells.1.2.2.2.2.2.2.1
  rw [htv] at c6
  obtain ⟨n, hn⟩ : ∃ n : Nat, n = (min (max kn 0) (D.turns.length : Int)).toNat := ⟨_, rfl⟩
  have hcl := clamp_any kn (D.turns.length : Int) W.drew
  rw [show min (max kn 0) (D.turns.length : Int) = (n : Int) by omega] at hcl
  have HN : Hid (n = (min (max kn 0) (D.turns.length : Int)).toNat) := hn
  have hst := settle_any (w := W.drew) (S := S) hO (hP1.keep fun k _ => rfl) hS n (by omega) (by omega)
  clear hn htv
  refine wp_region_still_tail 9 hm (by kernel_rfl) ?_
  simp only [List.take_succ_cons, List.take_zero, List.drop_succ_cons, List.drop_zero]
  repeat still_step
  still_call hcl
  refine wpStill_nil ?_
  have hnS : ¬ S w.heap.size := fun h => by have := hSw _ h; omega
  have hwl : w.heap.size < W.drew.heap.size := by show w.heap.size < W.heap.size; omega
  have hlen : (Dk.settle D n).names.length ≤ 1000000 := by
    have h1 := Dk.turns_length (D.turns.take n) D.kept
    have h2 : (D.turns.take n).length ≤ D.turns.length := by rw [List.length_take]; omega
    show (Dk.turns (D.turns.take n) D.kept).length ≤ 1000000
    omega
  have hzW : ∀ w2, OnlyIn S W.drew w2 → ZIn w2 ta tn tc zs := fun w2 ho => ⟨trow_only (hz.1.below (bd1 hbel) (Nat.le_refl _)) ho (fun b o e hs => hts b o e (.inl hs)), hz.2⟩
  have hbx : ∀ w2, OnlyIn S W.drew w2 → w2.cell? ⟨w.heap.size, 1, none⟩ = some (.slice ta tn tc) := fun w2 ho => (World.cell?_of_block (ho.block _ hwl hnS)).trans k1
  go_wp2_with (first
    | (go_at_call 29; go_must (refine hst.mono ?_; rintro e w2 ⟨rfl, hD2, hon2⟩; have r1 := hbx w2 hon2; have hkt := keepTails_any hD2.tight (fun k h => h.2) ta tn tc zs (hzW w2 hon2) (fun b o e h => h.1.elim (fun hs => hts b o e (.inl hs)) (fun h9 => hts b o e (.inr (by have h7 : W.heap.size ≤ b := h9; omega)))) hlen))
    | (go_at_call 31; go_must (refine hkt.mono ?_; rintro e w3 ⟨rfl, hD3, hon3⟩; obtain ⟨hO3, fm3, nm3, sm3, tv3, J3, hP3, hS3⟩ := id hD3; obtain ⟨⟨e0, e1, e2, e3, e4, e5, e6, e7, e8, e9⟩, hf3⟩ := hP3.cells)))
  first | go_end0 | refine bodyPost_ret (results_none rfl _ _ _) rfl ?_
  have hP4 := ((hP3.setStop 0).setFault 0).setDead false
  have hSp : grow1 S w p := .inl (hS p (.inl rfl))
  have hsub : ∀ k, (grow1 S W.drew k ∧ k < w2.heap.size) → grow1 S w k := fun k h => h.1.imp id fun h9 => by have h7 : W.heap.size ≤ k := h9; omega
  refine ⟨rfl, ⟨?_, fm3, nm3, sm3, tv3, J3, ?_, fun k hk => hsub k (hS3 k hk)⟩, ?_⟩
  · unfold Dk.crash
    rw [← HN.out]
    exact hO3.with rfl rfl rfl rfl rfl rfl (by show (-9223372036854775808 : Int) ≤ 0 ∧ (0 : Int) ≤ 9223372036854775807; omega) (by show (-9223372036854775808 : Int) ≤ 0 ∧ (0 : Int) ≤ 9223372036854775807; omega)
  · unfold Dk.crash
    rw [← HN.out]
    exact hP4
  · have h1 : OnlyIn S w w2 := (OnlyIn.of_below (bd1 hbel)).trans (hon2.mono fun _ _ h => .inl h)
    have h2 : OnlyIn S w w3 := h1.trans (hon3.mono fun k _ hk => hsub k hk)
    exact ((h2.trans (only_set w3 p 7 _ hSp)).trans (only_set _ p 8 _ hSp)).trans (only_set _ p 9 _ hSp)
end Go.Proofs.Ytefadkengfjdmaa
