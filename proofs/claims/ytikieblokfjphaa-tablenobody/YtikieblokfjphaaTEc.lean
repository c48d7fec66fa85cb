/- What is asked of the program's own tables; awake, like. -/
import Derived.Test.YtikieblokfjphaaTEb
import Derived.Test.YtikieblokfjphaaTR6
import Derived.Test.YtikieblokfjphaaTEa
import Derived.Deep.RegionHeld3
namespace Go.Proofs.Ytikieblokfjphaa
open Go.RowKit

namespace Tb
def makeR (xs : List It.I) (z : Int) : Nat × List Nat := if xs.length = 0 ∨ z < 1 ∨ 65536 < z ∨ It.sorted xs = false then (1, []) else (0, put (parted xs z))
def err (L : List It.I) : Nat := if L = [] then 2 else 0
def lastKey (L : List It.I) : List Nat := (L.getD (L.length - 1) It.zero).1
end Tb
/-- bytes are told, with a code -/
def TMRes (w : World) (R : Nat × List Nat) (e : Ending) (w' : World) : Prop :=
  ∃ a c, e = .returned (.tuple #[.slice a R.2.length c, .int .i64 (R.1 : Nat)]) ∧ Row .u8 w' a R.2.length R.2 ∧ (a = none → R.2.length = 0 ∧ c = 0) ∧ R.2.length ≤ c ∧ Shape a R.2.length c ∧ Below w.heap.size w w'
/-- whether a key may be there -/
def TMayRes (w : World) (L : List It.I) (k : List Nat) (e : Ending) (w' : World) : Prop := ∃ r : Bool, e = .returned (.bool r) ∧ ((∃ x ∈ L, x.1 = k) → r = true) ∧ Below w.heap.size w w'
/-- what is asked of the program; T: a table with these items lies there -/
structure TableC (T : World → Addr → List It.I → Prop) : Prop where
  keep : ∀ (w w' : World) (p : Addr) (L : List It.I), T w p L → Below w.heap.size w w' → T w' p L
  make : ∀ (a : Option Addr) (n c : Nat) (gs : List IH) (xs : List It.I) (z : Int) (w : World), Fine gs n → InI w a n c gs xs → -9223372036854775808 ≤ z → z ≤ 9223372036854775807 → Calls Try.prog 9 #[.slice a n c, .int .i64 z] w (TMRes w (Tb.makeR xs z))
  no : ∀ (a : Option Addr) (n c : Nat) (bs : List Nat) (w : World), n ≤ 100000 → n ≤ c → (a = none → n = 0 ∧ c = 0) → Shape a n c → Row .u8 w a n bs → Tb.get bs = [] → Calls Try.prog 14 #[.slice a n c] w fun e w' => e = .returned (.tuple #[.pointer none, .int .i64 2]) ∧ Below w.heap.size w w'
  yes : ∀ (a : Option Addr) (n c : Nat) (bs : List Nat) (w : World), n ≤ 100000 → n ≤ c → (a = none → n = 0 ∧ c = 0) → Shape a n c → Row .u8 w a n bs → Tb.get bs ≠ [] → Calls Try.prog 14 #[.slice a n c] w fun e w' => ∃ p, e = .returned (.tuple #[.pointer (some p), .int .i64 0]) ∧ T w' p (Tb.get bs) ∧ Below w.heap.size w w'
  find : ∀ (p : Addr) (L : List It.I) (s : ByteArray) (w : World), T w p L → s.size ≤ 1000 → Calls Try.prog 16 #[.pointer (some p), .string s] w fun e w' => ∃ h, e = .returned (.tuple #[iv h, .bool (decide ((It.get L (kb s)).1 ≠ []))]) ∧ IsItem w' h (It.get L (kb s)) ∧ Below w.heap.size w w'
  may : ∀ (p : Addr) (L : List It.I) (s : ByteArray) (w : World), T w p L → s.size ≤ 1000 → Calls Try.prog 18 #[.pointer (some p), .string s] w (TMayRes w L (kb s))
  scan : ∀ (p : Addr) (L : List It.I) (lo hi : ByteArray) (most : Int) (w : World), T w p L → lo.size ≤ 1000 → hi.size ≤ 1000 → -9223372036854775808 ≤ most → most ≤ 9223372036854775807 → Calls Try.prog 21 #[.pointer (some p), .string lo, .string hi, .int .i64 most] w (TGetRes w (It.scan L (kb lo) (kb hi) most))
  all : ∀ (p : Addr) (L : List It.I) (w : World), T w p L → Calls Try.prog 23 #[.pointer (some p)] w (TGetRes w L)
  len : ∀ (p : Addr) (L : List It.I) (w : World), T w p L → Calls Try.prog 24 #[.pointer (some p)] w fun e w' => e = .returned (.int .i64 (L.length : Nat)) ∧ Below w.heap.size w w'
  ends : ∀ (p : Addr) (L : List It.I) (w : World), T w p L → L ≠ [] → Calls Try.prog 25 #[.pointer (some p)] w fun e w' => ∃ s t : ByteArray, e = .returned (.tuple #[.string s, .string t]) ∧ Hid (kb s = Tb.firstKey L) ∧ Hid (kb t = Tb.lastKey L) ∧ Below w.heap.size w w'

theorem tb_few {l : List It.I} {z : Int} (hs : It.sorted l = true) (hsm : ∀ x ∈ l, Bl.Small x) (h1 : 1 ≤ l.length) (h2 : l.length ≤ 100) :
    Fr.scan (Tb.put (Tb.parted l z)) = (Tb.frames (Tb.parted l z), Fr.places (Tb.frames (Tb.parted l z)) 0, (Tb.put (Tb.parted l z)).length) ∧ Tb.get (Tb.put (Tb.parted l z)) = l ∧ (Tb.put (Tb.parted l z)).length ≤ 100000 ∧ (∀ y ∈ Tb.put (Tb.parted l z), y < 256) := by
  have hj := Tb.parted_join l z
  have hc := Tb.pgo_count z l []
  have hpp : ∀ p ∈ Tb.parted l z, p ≠ [] ∧ p.length ≤ 256 := fun q hq => ⟨(Tb.parted_part q hq).1, Nat.le_trans (Tb.parted_part q hq).2 (by omega)⟩
  have hg : Fr.Good (Tb.frames (Tb.parted l z)) := Tb.good_few (by rw [hj]; exact hs) (by rw [hj]; exact hsm) hpp (by unfold Tb.parted; omega) (by rw [hj]; omega)
  refine ⟨Fr.scan_all hg, Tb.get_made hs hsm h1 (by omega), ?_, Fr.all_small hg⟩
  have hmay := ((It.sorted_iff _).mp hs).1
  have hpl : ∀ (ps : List (List It.I)), (∀ p ∈ ps, ∀ x ∈ p, It.may x = true) → (∀ p ∈ ps, p.length ≤ 256) → (Fr.all (ps.map Tb.frame)).length ≤ 20 * ps.length + 130 * ps.flatten.length := by
    intro ps
    induction ps with
    | nil => intro _ _; simp [Fr.all]
    | cons p ps ih =>
      intro h1 h2
      have i1 := ih (fun q hq => h1 q (by simp [hq])) (fun q hq => h2 q (by simp [hq]))
      have i2 := Bl.putGo_len (l := p) (last := []) (h1 p (by simp))
      have i3 := h2 p (by simp)
      have i4 := Va.one_len10 (u := p.length) (by omega)
      have i5 : (Bl.put p).length = (Va.one p.length).length + (Bl.putGo [] p).length := by unfold Bl.put; rw [List.length_append]
      have i6 := Fr.size_le (n := (Tb.frame p).2.length) (by show (Bl.put p).length ≤ _; omega)
      have i7 : (Tb.frame p).2.length = (Bl.put p).length := rfl
      rw [List.map_cons, Fr.all_len_cons, List.flatten_cons, List.length_append, List.length_cons]
      omega
  have q1 := hpl (Tb.parted l z) (fun p hp x hx => hmay x (by rw [← hj]; exact (Tb.part_sub hp).mem hx)) (fun p hp => (hpp p hp).2)
  have q2 : (Tb.parted l z).flatten.length = l.length := congrArg List.length hj
  have q3 : (Tb.parted l z).length ≤ l.length := hc
  have q4 := Tb.ix_len (Tb.parted l z) 0 (fun p hp => (Bl.it_parts (hmay _ (by rw [← hj]; exact (Tb.part_sub hp).mem (Tb.first_mem (hpp p hp).1)))).2.1) (by omega)
  have q5 := Va.one_len10 (u := (Tb.joined (Tb.parted l z)).length) (by rw [hj]; omega)
  have q6 : (Sv.of ((Tb.joined (Tb.parted l z)).map (fun x => x.1))).length ≤ 200 := by rw [Sv.of_length, List.length_map, hj]; unfold Sv.size; omega
  have g1 := Fr.size_le (n := (Tb.ix 0 (Tb.parted l z)).length) (by omega)
  have g2 := Fr.size_le (n := (Sv.of ((Tb.joined (Tb.parted l z)).map (fun x => x.1))).length) (by omega)
  have g3 := Fr.size_le (n := (Va.one (Tb.joined (Tb.parted l z)).length).length) (by omega)
  unfold Tb.put Tb.frames
  rw [Fr.all_append, List.length_append]
  unfold Tb.tail
  rw [Fr.all_len_cons, Fr.all_len_cons, Fr.all_len_cons, show (Fr.all []).length = 0 from rfl]
  simp only
  omega

theorem lit_one (w : World) {g : Nat} (hg : w.heap.size = g) : InI (w.alloc (.cells #[.string ⟨#[97]⟩, .bool true, .bool false, .slice none 0 0, .int .i64 0, .int .i64 0, .int .i64 0, .int .u32 0] 47)) (some ⟨g, 0, none⟩) 1 1 [⟨⟨#[97]⟩, true, false, none, 0, 0, Po.zero⟩] [itA] := by
  refine ⟨⟨lit_item w ⟨⟨#[97]⟩, true, false, none, 0, 0, Po.zero⟩ hg, ⟨rfl, fun i hi => ?_⟩⟩, (fun h => by cases h), Nat.le_refl _⟩
  match i, hi with
  | 0, _ => exact item_a _
theorem itA_small : ∀ x ∈ [itA], Bl.Small x := by
  intro x hx
  rw [List.mem_singleton.mp hx]
  refine ⟨?_, ?_, ?_⟩ <;> decide

set_option maxRecDepth 100000 in
set_option maxHeartbeats 2000000 in
theorem tbawake {T : World → Addr → List It.I → Prop} (hC : TableC T) (w : World) : Calls Try.prog 8 #[] w fun e w' => e = .returned (.bool true) ∧ Below w.heap.size w w' := by
  have hb0 := below_alloc w (.cells #[.string ⟨#[97]⟩, .bool true, .bool false, .slice none 0 0, .int .i64 0, .int .i64 0, .int .i64 0, .int .u32 0] 47)
  have hs : It.sorted [itA] = true := by decide
  obtain ⟨f1, f2, f3, f4⟩ := tb_few (l := [itA]) (z := 100) hs itA_small (by decide) (by decide)
  have hmk := hC.make _ 1 1 _ _ 100 _ ⟨by omega, fun i hi => by match i, hi with | 0, _ => decide⟩ (lit_one w rfl) (by omega) (by omega)
  have e1 : Tb.makeR [itA] 100 = (0, Tb.put (Tb.parted [itA] 100)) := by unfold Tb.makeR; rw [if_neg]; rw [hs]; simp
  rw [e1] at hmk
  have e2 : (Tb.frames (Tb.parted [itA] 100)).length = 4 := by
    have : Tb.parted [itA] 100 = [[itA]] := by
      have := Tb.parted_join [itA] 100
      unfold Tb.parted Tb.pgo
      rw [if_pos (.inr (.inr rfl))]
      rfl
    rw [this]; rfl
  unfold TMRes at hmk
  simp only at hmk
  have hsc := fun (W : World) A C (h : Shape A (Tb.put (Tb.parted [itA] 100)).length C) (hr : Row .u8 W A (Tb.put (Tb.parted [itA] 100)).length (Tb.put (Tb.parted [itA] 100))) => refscan_any A _ C _ W f3 h hr
  rw [f1] at hsc
  unfold ScanRes at hsc
  simp only [e2] at hsc
  have hop := fun (W : World) A C (h1 : (Tb.put (Tb.parted [itA] 100)).length ≤ C) h2 (h3 : Shape A (Tb.put (Tb.parted [itA] 100)).length C) (hr : Row .u8 W A (Tb.put (Tb.parted [itA] 100)).length (Tb.put (Tb.parted [itA] 100))) => hC.yes A _ C _ W f3 h1 h2 h3 hr (by rw [f2]; simp)
  rw [f2] at hop
  have hln := fun W p (h : T W p [itA]) => hC.len p [itA] W h
  simp only [List.length_singleton] at hln
  generalize Tb.put (Tb.parted [itA] 100) = PT at *
  clear f1 f2 f4 e1 e2 hs
  go_enter Try.func8, Try.ntmps8
  go_wp2_with (first
    | (go_at_call 9; go_must (refine hmk.mono ?_; rintro e w1 ⟨a1, c1, rfl, r1, z1, l1, s1, b1⟩; have hb1 := hb0.trans (b1.mono hb0.size)))
    | (go_at_call 26; go_must (refine (hsc _ _ _ s1 r1).mono ?_; rintro e w2 ⟨a2, c2, a3, c3, cs, rfl, o2, h2, o3, h3, b2⟩; have hb2 := hb1.trans (b2.mono hb1.size)))
    | (go_at_call 14; go_must (refine (hop _ _ _ l1 z1 s1 (r1.below b2 (Nat.le_refl _))).mono ?_; rintro e w3 ⟨p, rfl, hT, b3⟩; have hb3 := hb2.trans (b3.mono hb2.size)))
    | (go_at_call 24; go_must (refine (hln _ _ hT).mono ?_; rintro e w4 ⟨rfl, b4⟩)))
  go_ret
  exact ⟨rfl, hb3.trans (b4.mono hb3.size)⟩
end Go.Proofs.Ytikieblokfjphaa

/- Whether a table has just these items; the laws TableMakes, TableOpens and TableParts, given what is asked of the program. -/
namespace Go.Proofs.Ytikieblokfjphaa
open Go.RowKit

theorem same_self13 (l : List It.I) : It.sameGo l l = true := (It.sameGo_iff l l).mpr rfl

set_option maxRecDepth 100000 in
set_option maxHeartbeats 2000000 in
theorem tblike {T : World → Addr → List It.I → Prop} (hC : TableC T) (p : Addr) (L : List It.I) (a : Option Addr) (n c : Nat) (gs : List IH) (w : World) (hT : T w p L) (hi : InI w a n c gs L) (hL : L ≠ []) (hn : n ≤ 1000000) :
    Calls Try.prog 15 #[.pointer (some p), .slice a n c] w fun e w' => e = .returned (.bool true) ∧ Below w.heap.size w w' := by
  have hln : L.length = n := hi.1.len
  have hpos : 0 < n := by rw [← hln]; exact List.length_pos_iff.mpr hL
  have hen := hC.ends p L w hT hL
  have hle := fun W (h : Below w.heap.size w W) => hC.len p L W (hC.keep w W p L hT h)
  have hal := fun W (h : Below w.heap.size w W) => hC.all p L W (hC.keep w W p L hT h)
  rw [hln] at hle
  unfold TGetRes at hal
  rw [hln] at hal
  have hsm := fun (w0 : World) (a' : Option Addr) (c' : Nat) (hs : List IH) W r1 i1 (b0 : Below w0.heap.size w0 W) (b1 : Below w.heap.size w W) => isame_any w0 w a' n c' hs L a n c gs L W r1 i1 (hi.1.1.below b1 (Nat.le_refl _)) hi.1.2 b0 b1
  simp only [same_self13] at hsm
  obtain ⟨b, off, rfl, hc⟩ := hi.1.at hpos
  obtain ⟨M, hM⟩ : ∃ M, M = n - 1 := ⟨_, rfl⟩
  have hy0 := fun W (h : Below w.heap.size w W) => ((hc 0 hpos).below h (Nat.le_refl _)).1
  have hyM := fun W (h : Below w.heap.size w W) => ((hc M (by omega)).below h (Nat.le_refl _)).1
  have k0 : kb (gs.getD 0 ihz).key = Tb.firstKey L := (hi.1.item hpos).key
  have kM : kb (gs.getD M ihz).key = Tb.lastKey L := by unfold Tb.lastKey; rw [hln, ← hM]; exact (hi.1.item (by omega)).key
  simp only [Nat.zero_mul, Nat.add_zero] at hy0
  generalize (gs.getD 0 ihz).key = K0 at *
  generalize (gs.getD M ihz).key = KM at *
  have H0 : Hid (kb K0 = Tb.firstKey L) := k0
  have HM : Hid (kb KM = Tb.lastKey L) := kM
  have jM : IntKind.i64.wrap ((n : Int) - 1) = (M : Int) := by rw [IntKind.wrap_i64]; omega
  have m0 : (0 : Int) ≤ (M : Int) := by omega
  have m1 : (M : Int) < (n : Int) := by omega
  have m2 : (0 : Int) < (n : Int) := by omega
  clear hi hc k0 kM hM hT hln
  go_enter Try.func15, Try.ntmps15
  go_wp2_with (first
    | (go_at_call 25; go_must (refine hen.mono ?_; rintro e w1 ⟨s, t, rfl, hs, ht, b1⟩; obtain rfl : K0 = s := kb_inj (H0.out.trans hs.out.symm); obtain rfl : KM = t := kb_inj (HM.out.trans ht.out.symm)))
    | (go_at_call 24; go_must (refine (hle _ b1).mono ?_; rintro e w2 ⟨rfl, b2⟩; have hb2 := b1.trans (b2.mono b1.size)))
    | (go_at_call 23; go_must (refine (hal _ hb2).mono ?_; rintro e w3 ⟨a3, c3, hs3, rfl, i3, b3⟩; have hb3 := hb2.trans (b3.mono hb2.size)))
    | (go_at_call 20; go_must (refine (hsm _ _ _ _ _ i3.1.1 i3.1.2 (Below.refl _ _) hb3).mono ?_; rintro e w4 ⟨rfl, b4⟩; have hb4 := hb3.trans (b4.mono hb3.size); have z0 := hy0 _ hb4; have zM := hyM _ hb4)))
  go_ret
  exact ⟨rfl, hb4⟩

end Go.Proofs.Ytikieblokfjphaa


/- The laws TableMakes and TableParts, given what is asked of the program. -/
namespace Go.Proofs.Ytikieblokfjphaa
open Go.RowKit

theorem Tb.parted_may {l : List It.I} {z : Int} (hs : It.sorted l = true) : ∀ p ∈ Tb.parted l z, Bl.may p = true := fun p hp => by
  obtain ⟨h1, h2⟩ := Tb.parted_part p hp
  have hsub := Tb.part_sub hp
  rw [Tb.parted_join] at hsub
  have := It.sorted_sub hs hsub
  have hpos := List.length_pos_iff.mpr h1
  simp only [Bl.may, Bool.and_eq_true, decide_eq_true_eq]
  exact ⟨by omega, this⟩

set_option maxRecDepth 100000 in
set_option maxHeartbeats 4000000 in
theorem tbmakes_any {T : World → Addr → List It.I → Prop} (hC : TableC T) (a : Option Addr) (n c : Nat) (gs : List IH) (xs : List It.I) (z : Int) (w : World) (hi : InI w a n c gs xs) (hz1 : -9223372036854775808 ≤ z) (hz2 : z ≤ 9223372036854775807) :
    Calls Try.prog 3 #[.slice a n c, .int .i64 z] w fun e w' => e = .returned (.bool true) ∧ Below w.heap.size w w' := by
  have hA := fun W => tbawake hC W
  by_cases hf : Fine gs n
  · have hlt := trlightT a n c gs xs w hi.1 hf
    have hmk := fun W (h : Below w.heap.size w W) => hC.make a n c gs xs z W hf (hi.below h (Nat.le_refl _)) hz1 hz2
    have hso := fun W (h : Below w.heap.size w W) => isorted_any a n c gs xs W (by have := hf.1; omega) (hi.1.below h (Nat.le_refl _))
    have hln : xs.length = n := hi.1.len
    have hn100 := hf.1
    unfold TMRes at hmk
    by_cases hn0 : n = 0
    · have e : Tb.makeR xs z = (1, []) := by unfold Tb.makeR; rw [if_pos (.inl (by omega))]
      simp only [e, List.length_nil] at hmk
      subst hn0
      clear hso e hln hi hf
      go_enter Try.func3, Try.ntmps3
      go_wp2_with (first
        | (go_at_call 7; go_must (refine hlt.mono ?_; rintro e w1 ⟨rfl, b1⟩))
        | (go_at_call 9; go_must (refine (hmk _ b1).mono ?_; rintro e w2 ⟨a2, c2, rfl, r2, z2, l2, s2, b2⟩; have hb2 := b1.trans (b2.mono b1.size)))
        | (go_at_call 8; go_must (refine (hA _).mono ?_; rintro e w3 ⟨rfl, b3⟩)))
      go_ret
      exact ⟨rfl, hb2.trans (b3.mono hb2.size)⟩
    have d0 : ((n : Int) == 0) = false := by simp; omega
    by_cases hzl : z < 1
    · have e : Tb.makeR xs z = (1, []) := by unfold Tb.makeR; rw [if_pos (.inr (.inl hzl))]
      simp only [e, List.length_nil] at hmk
      have d1 : decide (z < 1) = true := by simp; omega
      clear hso e hln hi hf
      go_enter Try.func3, Try.ntmps3
      go_wp2_with (first
        | (go_at_call 7; go_must (refine hlt.mono ?_; rintro e w1 ⟨rfl, b1⟩))
        | (go_at_call 9; go_must (refine (hmk _ b1).mono ?_; rintro e w2 ⟨a2, c2, rfl, r2, z2, l2, s2, b2⟩; have hb2 := b1.trans (b2.mono b1.size)))
        | (go_at_call 8; go_must (refine (hA _).mono ?_; rintro e w3 ⟨rfl, b3⟩)))
      go_ret
      exact ⟨rfl, hb2.trans (b3.mono hb2.size)⟩
    have d1 : decide (z < 1) = false := by simp; omega
    have d1' : ¬ (z < 1) := by omega
    by_cases hzg : 65536 < z
    · have e : Tb.makeR xs z = (1, []) := by unfold Tb.makeR; rw [if_pos (.inr (.inr (.inl hzg)))]
      simp only [e, List.length_nil] at hmk
      have d2 : decide (65536 < z) = true := by simp; omega
      clear hso e hln hi hf
      go_enter Try.func3, Try.ntmps3
      go_wp2_with (first
        | (go_at_call 7; go_must (refine hlt.mono ?_; rintro e w1 ⟨rfl, b1⟩))
        | (go_at_call 9; go_must (refine (hmk _ b1).mono ?_; rintro e w2 ⟨a2, c2, rfl, r2, z2, l2, s2, b2⟩; have hb2 := b1.trans (b2.mono b1.size)))
        | (go_at_call 8; go_must (refine (hA _).mono ?_; rintro e w3 ⟨rfl, b3⟩)))
      go_ret
      exact ⟨rfl, hb2.trans (b3.mono hb2.size)⟩
    have d2 : decide (65536 < z) = false := by simp; omega
    have d2' : ¬ (65536 < z) := by omega
    cases hs : It.sorted xs with
    | false =>
      have e : Tb.makeR xs z = (1, []) := by unfold Tb.makeR; rw [if_pos (.inr (.inr (.inr hs)))]
      simp only [e, List.length_nil] at hmk
      rw [hs] at hso
      clear e hln hi hf hs
      go_enter Try.func3, Try.ntmps3
      go_wp2_with (first
        | (go_at_call 7; go_must (refine hlt.mono ?_; rintro e w1 ⟨rfl, b1⟩))
        | (go_at_call 9; go_must (refine (hmk _ b1).mono ?_; rintro e w2 ⟨a2, c2, rfl, r2, z2, l2, s2, b2⟩; have hb2 := b1.trans (b2.mono b1.size)))
        | (go_at_call 10; go_must (refine (hso _ hb2).mono ?_; rintro e w3 ⟨rfl, b3⟩; have hb3 := hb2.trans (b3.mono hb2.size)))
        | (go_at_call 8; go_must (refine (hA _).mono ?_; rintro e w4 ⟨rfl, b4⟩)))
      go_ret
      exact ⟨rfl, hb3.trans (b4.mono hb3.size)⟩
    | true =>
      have e : Tb.makeR xs z = (0, Tb.put (Tb.parted xs z)) := by
        unfold Tb.makeR
        rw [if_neg]
        rintro (h | h | h | h)
        · omega
        · omega
        · omega
        · rw [hs] at h; cases h
      simp only [e] at hmk
      rw [hs] at hso
      have hfa := hf.all hi.1
      have hsm : ∀ x ∈ xs, Bl.Small x := parts_small hi.1.2
      have hmay := Tb.parted_may (z := z) hs
      have hj := Tb.parted_join xs z
      obtain ⟨-, -, f3, f4⟩ := tb_few (l := xs) (z := z) hs hsm (by omega) (by omega)
      have hpt := fun W (h : Below w.heap.size w W) => tparted_any a n c gs xs z W (by omega) (hi.below h (Nat.le_refl _)) (fun x hx => by have := hfa.1 x hx; omega)
      have hcn : (Tb.parted xs z).length ≤ 1000 := Nat.le_trans (Tb.pgo_count z xs []) (by omega)
      have htp := fun W a' c' ps gss (h : InP W a' (Tb.parted xs z).length ps gss (Tb.parted xs z)) => tput_any a' _ c' ps gss (Tb.parted xs z) W hcn h hmay (by rw [hj]; exact hs) (by rw [hj]; omega)
      unfold PartedRes at hpt
      unfold Made at htp
      have hby := fun W a1 c1 a2 c2 (h1 : Row .u8 W a1 (Tb.put (Tb.parted xs z)).length (Tb.put (Tb.parted xs z))) (h2 : Row .u8 W a2 (Tb.put (Tb.parted xs z)).length (Tb.put (Tb.parted xs z))) => bytes_any a1 _ c1 _ a2 _ c2 _ W h1 h2
      simp only [decide_true] at hby
      have HP : Hid (∀ (W W' : World) ps gss, POwn (fun _ g x => ItAll W g x) W' W.heap.size ps gss (Tb.parted xs z) → Below W.heap.size W W' → PartsAt W' ps gss (Tb.parted xs z)) := (fun W W' ps gss h hb => POwn.parts h (fun g x h' => h'.below hb (Nat.le_refl _)) : ∀ (W W' : World) ps gss, POwn (fun _ g x => ItAll W g x) W' W.heap.size ps gss (Tb.parted xs z) → Below W.heap.size W W' → PartsAt W' ps gss (Tb.parted xs z))
      generalize Tb.put (Tb.parted xs z) = PT at *
      generalize Tb.parted xs z = PS at *
      clear e hln hi hf hs hsm hmay hj hfa hcn
      go_enter Try.func3, Try.ntmps3
      go_wp2_with (first
        | (go_at_call 7; go_must (refine hlt.mono ?_; rintro e w1 ⟨rfl, b1⟩))
        | (go_at_call 9; go_must (refine (hmk _ b1).mono ?_; rintro e w2 ⟨a2, c2, rfl, r2, z2, l2, s2, b2⟩; have hb2 := b1.trans (b2.mono b1.size)))
        | (go_at_call 10; go_must (refine (hso _ hb2).mono ?_; rintro e w3 ⟨rfl, b3⟩; have hb3 := hb2.trans (b3.mono hb2.size)))
        | (go_at_call 13; go_must (refine (hpt _ hb3).mono ?_; rintro e w4 ⟨a4, c4, ps4, gs4, rfl, z4, l4, t4, p4, b4⟩; have hb4 := hb3.trans (b4.mono hb3.size)))
        | (go_at_call 12; go_must (refine (htp _ _ _ _ _ ⟨t4, HP.out _ _ _ _ p4 b4⟩).mono ?_; rintro e w5 ⟨a5, c5, rfl, o5, b5⟩; have hb5 := hb4.trans (b5.mono hb4.size); have r5 := row_of_owns o5 f4 (by omega); have r25 := r2.below ((b3.trans (b4.mono b3.size)).trans (b5.mono (Nat.le_trans b3.size b4.size))) (Nat.le_refl _)))
        | (go_at_call 11; go_must (refine (hby _ _ _ _ _ r25 r5.1).mono ?_; rintro e w6 ⟨rfl, q6, hw6⟩))
        | (go_at_call 8; go_must (refine (hA _).mono ?_; rintro e w7 ⟨rfl, b7⟩)))
      go_ret
      have hb6 := hb5.trans (below_drewN w.heap.size w5 q6)
      exact ⟨rfl, hb6.trans (b7.mono hb6.size)⟩
  · have hlt := trlightF a n c gs xs w hi.1 hf
    clear hi hf
    go_enter Try.func3, Try.ntmps3
    go_wp2_with (first
      | (go_at_call 7; go_must (refine hlt.mono ?_; rintro e w1 ⟨rfl, b1⟩))
      | (go_at_call 8; go_must (refine (hA _).mono ?_; rintro e w2 ⟨rfl, b2⟩)))
    go_ret
    exact ⟨rfl, b1.trans (b2.mono b1.size)⟩

set_option maxRecDepth 100000 in
set_option maxHeartbeats 4000000 in
theorem tbparts_any {T : World → Addr → List It.I → Prop} (hC : TableC T) (a : Option Addr) (n c : Nat) (gs : List IH) (xs : List It.I) (x y : Int) (w : World) (hi : InI w a n c gs xs) (hx : 0 ≤ x ∧ x < 65536) (hy : 0 ≤ y ∧ y < 65536) :
    Calls Try.prog 5 #[.slice a n c, .int .u16 x, .int .u16 y] w fun e w' => e = .returned (.bool true) ∧ Below w.heap.size w w' := by
  have hA := fun W => tbawake hC W
  by_cases hf : Fine gs n
  · have hlt := trlightT a n c gs xs w hi.1 hf
    have hso := fun W (h : Below w.heap.size w W) => isorted_any a n c gs xs W (by have := hf.1; omega) (hi.1.below h (Nat.le_refl _))
    have hln : xs.length = n := hi.1.len
    have hn100 := hf.1
    by_cases hn0 : n = 0
    · subst hn0
      clear hso hln hi hf
      go_enter Try.func5, Try.ntmps5
      go_wp2_with (first
        | (go_at_call 7; go_must (refine hlt.mono ?_; rintro e w1 ⟨rfl, b1⟩))
        | (go_at_call 8; go_must (refine (hA _).mono ?_; rintro e w2 ⟨rfl, b2⟩)))
      go_ret
      exact ⟨rfl, b1.trans (b2.mono b1.size)⟩
    have d0 : ((n : Int) == 0) = false := by simp; omega
    cases hs : It.sorted xs with
    | false =>
      rw [hs] at hso
      clear hln hi hf hs
      go_enter Try.func5, Try.ntmps5
      go_wp2_with (first
        | (go_at_call 7; go_must (refine hlt.mono ?_; rintro e w1 ⟨rfl, b1⟩))
        | (go_at_call 10; go_must (refine (hso _ b1).mono ?_; rintro e w2 ⟨rfl, b2⟩; have hb2 := b1.trans (b2.mono b1.size)))
        | (go_at_call 8; go_must (refine (hA _).mono ?_; rintro e w3 ⟨rfl, b3⟩)))
      go_ret
      exact ⟨rfl, hb2.trans (b3.mono hb2.size)⟩
    | true =>
      rw [hs] at hso
      have hsm : ∀ x ∈ xs, Bl.Small x := parts_small hi.1.2
      have hmR : ∀ z : Int, 1 ≤ z → z ≤ 65536 → Tb.makeR xs z = (0, Tb.put (Tb.parted xs z)) := fun z h1 h2 => by
        unfold Tb.makeR
        rw [if_neg]
        rintro (h | h | h | h)
        · omega
        · omega
        · omega
        · rw [hs] at h; cases h
      have hne : xs ≠ [] := fun e => by rw [e] at hln; simp at hln; omega
      have hmk := fun (z : Int) (h1 : 1 ≤ z) (h2 : z ≤ 65536) W (h : Below w.heap.size w W) => hC.make a n c gs xs z W hf (hi.below h (Nat.le_refl _)) (by omega) (by omega)
      obtain ⟨-, fx2, fx3, -⟩ := tb_few (l := xs) (z := 1 + x) hs hsm (by omega) (by omega)
      obtain ⟨-, fy2, fy3, -⟩ := tb_few (l := xs) (z := 1 + y) hs hsm (by omega) (by omega)
      have hmx := hmk (1 + x) (by omega) (by omega)
      have hmy := hmk (1 + y) (by omega) (by omega)
      rw [hmR (1 + x) (by omega) (by omega)] at hmx
      rw [hmR (1 + y) (by omega) (by omega)] at hmy
      unfold TMRes at hmx hmy
      simp only at hmx hmy
      have hox := fun (W : World) A C h1 h2 h3 (hr : Row .u8 W A (Tb.put (Tb.parted xs (1 + x))).length (Tb.put (Tb.parted xs (1 + x)))) => hC.yes A _ C _ W fx3 h1 h2 h3 hr (by rw [fx2]; exact hne)
      have hoy := fun (W : World) A C h1 h2 h3 (hr : Row .u8 W A (Tb.put (Tb.parted xs (1 + y))).length (Tb.put (Tb.parted xs (1 + y)))) => hC.yes A _ C _ W fy3 h1 h2 h3 hr (by rw [fy2]; exact hne)
      simp only [fx2] at hox
      simp only [fy2] at hoy
      have hal := fun W p (h : T W p xs) => hC.all p xs W h
      have hle := fun W p (h : T W p xs) => hC.len p xs W h
      unfold TGetRes at hal
      rw [hln] at hal hle
      have hsa := fun (w0 w1 : World) a1 c1 h1 a2 c2 h2 W r1 i1 r2 i2 b1 b2 => isame_any w0 w1 a1 n c1 h1 xs a2 n c2 h2 xs W r1 i1 r2 i2 b1 b2
      simp only [same_self13] at hsa
      have jx : IntKind.i64.wrap x = x := by rw [IntKind.wrap_i64]; omega
      have jy : IntKind.i64.wrap y = y := by rw [IntKind.wrap_i64]; omega
      have jx1 : IntKind.i64.wrap (1 + x) = 1 + x := by rw [IntKind.wrap_i64]; omega
      have jy1 : IntKind.i64.wrap (1 + y) = 1 + y := by rw [IntKind.wrap_i64]; omega
      generalize Tb.put (Tb.parted xs (1 + x)) = PX at *
      generalize Tb.put (Tb.parted xs (1 + y)) = PY at *
      clear hln hi hf hs hsm hmR hmk fx2 fy2 hne
      go_enter Try.func5, Try.ntmps5
      go_wp2_with (first
        | (go_at_call 7; go_must (refine hlt.mono ?_; rintro e w1 ⟨rfl, b1⟩))
        | (go_at_call 10; go_must (refine (hso _ b1).mono ?_; rintro e w2 ⟨rfl, b2⟩; have hb2 := b1.trans (b2.mono b1.size)))
        | (go_at_call 9; have := hb3; go_must (refine (hmy _ hb3).mono ?_; rintro e w4 ⟨a4, c4, rfl, r4, z4, l4, s4, b4⟩; have hb4 := hb3.trans (b4.mono hb3.size); have r34 := r3.below b4 (Nat.le_refl _)))
        | (go_at_call 9; go_must (refine (hmx _ hb2).mono ?_; rintro e w3 ⟨a3, c3, rfl, r3, z3, l3, s3, b3⟩; have hb3 := hb2.trans (b3.mono hb2.size)))
        | (go_at_call 14; have := hT5; go_must (refine (hoy _ _ _ l4 z4 s4 r45).mono ?_; rintro e w6 ⟨p6, rfl, hT6, b6⟩; have hb6 := hb5.trans (b6.mono hb5.size); have hT56 := hC.keep _ _ _ _ hT5 b6))
        | (go_at_call 14; go_must (refine (hox _ _ _ l3 z3 s3 r34).mono ?_; rintro e w5 ⟨p5, rfl, hT5, b5⟩; have hb5 := hb4.trans (b5.mono hb4.size); have r45 := r4.below b5 (Nat.le_refl _)))
        | (go_at_call 23; have := i7; go_must (refine (hal _ _ hT67).mono ?_; rintro e w8 ⟨a8, c8, h8, rfl, i8, b8⟩; have hb8 := hb7.trans (b8.mono hb7.size); have i78 := i7.below b8 (Nat.le_refl _); have hT58 := hC.keep _ _ _ _ hT57 b8; have hT68 := hC.keep _ _ _ _ hT67 b8))
        | (go_at_call 23; go_must (refine (hal _ _ hT56).mono ?_; rintro e w7 ⟨a7, c7, h7, rfl, i7, b7⟩; have hb7 := hb6.trans (b7.mono hb6.size); have hT57 := hC.keep _ _ _ _ hT56 b7; have hT67 := hC.keep _ _ _ _ hT6 b7))
        | (go_at_call 20; go_must (refine (hsa _ _ _ _ _ _ _ _ _ i78.1.1 i78.1.2 i8.1.1 i8.1.2 (Below.refl _ _) (Below.refl _ _)).mono ?_; rintro e w9 ⟨rfl, b9⟩; have hb9 := hb8.trans (b9.mono hb8.size); have hT59 := hC.keep _ _ _ _ hT58 b9; have hT69 := hC.keep _ _ _ _ hT68 b9))
        | (go_at_call 24; have := hTA; go_must (refine (hle _ _ hTA).mono ?_; rintro e w11 ⟨rfl, b11⟩; have hb11 := hb10.trans (b11.mono hb10.size)))
        | (go_at_call 24; go_must (refine (hle _ _ hT59).mono ?_; rintro e w10 ⟨rfl, b10⟩; have hb10 := hb9.trans (b10.mono hb9.size); have hTA := hC.keep _ _ _ _ hT69 b10))
        | (go_at_call 8; go_must (refine (hA _).mono ?_; rintro e w12 ⟨rfl, b12⟩)))
      go_ret
      exact ⟨rfl, hb11.trans (b12.mono hb11.size)⟩
  · have hlt := trlightF a n c gs xs w hi.1 hf
    clear hi hf
    go_enter Try.func5, Try.ntmps5
    go_wp2_with (first
      | (go_at_call 7; go_must (refine hlt.mono ?_; rintro e w1 ⟨rfl, b1⟩))
      | (go_at_call 8; go_must (refine (hA _).mono ?_; rintro e w2 ⟨rfl, b2⟩)))
    go_ret
    exact ⟨rfl, b1.trans (b2.mono b1.size)⟩
end Go.Proofs.Ytikieblokfjphaa

/- The law TableReads, given what is asked of the program. -/
namespace Go.Proofs.Ytikieblokfjphaa
open Go.RowKit

theorem one_self13 (x : It.I) : It.one x x = true := (It.one_iff x x).mpr rfl

set_option maxRecDepth 100000 in
set_option maxHeartbeats 8000000 in
theorem tbreads_any {T : World → Addr → List It.I → Prop} (hC : TableC T) (a : Option Addr) (n c : Nat) (gs : List IH) (xs : List It.I) (x : Int) (lo hi : ByteArray) (most : Int) (w : World) (hi' : InI w a n c gs xs) (hx : 0 ≤ x ∧ x < 65536) (hm1 : -9223372036854775808 ≤ most) (hm2 : most ≤ 9223372036854775807) :
    Calls Try.prog 4 #[.slice a n c, .int .u16 x, .agg #[.string lo, .string hi, .int .i64 most]] w fun e w' => e = .returned (.bool true) ∧ Below w.heap.size w w' := by
  have hA := fun W => tbawake hC W
  have hb0 := below_alloc w (.cells #[.string lo, .string hi, .int .i64 most] 36)
  have HX : Hid (∀ W, Below (w.alloc (.cells #[.string lo, .string hi, .int .i64 most] 36)).heap.size (w.alloc (.cells #[.string lo, .string hi, .int .i64 most] 36)) W → W.cell? ⟨w.heap.size, 0, none⟩ = some (.string lo) ∧ W.cell? ⟨w.heap.size, 1, none⟩ = some (.string hi) ∧ W.cell? ⟨w.heap.size, 2, none⟩ = some (.int .i64 most)) := (fun W hW => ⟨(hW.cell (p := ⟨w.heap.size, 0, none⟩) (by simp)).trans (cell_new w _ _ 0), (hW.cell (p := ⟨w.heap.size, 1, none⟩) (by simp)).trans (cell_new w _ _ 1), (hW.cell (p := ⟨w.heap.size, 2, none⟩) (by simp)).trans (cell_new w _ _ 2)⟩ : _)
  by_cases hf : Fine gs n
  case neg =>
    have hlt := trlightF a n c gs xs _ (hi'.1.below hb0 (Nat.le_refl _)) hf
    clear hi' hf
    go_enter Try.func4, Try.ntmps4
    go_wp2_with (first
      | (go_at_call 7; go_must (refine hlt.mono ?_; rintro e w1 ⟨rfl, b1⟩; have hb1 := hb0.trans (b1.mono hb0.size); obtain ⟨x0, x1, x2⟩ := HX.out w1 b1))
      | (go_at_call 8; go_must (refine (hA _).mono ?_; rintro e wz ⟨rfl, bz⟩)))
    go_ret
    exact ⟨rfl, hb1.trans (bz.mono hb1.size)⟩
  have hlt := trlightT a n c gs xs _ (hi'.1.below hb0 (Nat.le_refl _)) hf
  have hso := fun W (h : Below w.heap.size w W) => isorted_any a n c gs xs W (by have := hf.1; omega) (hi'.1.below h (Nat.le_refl _))
  have hln : xs.length = n := hi'.1.len
  have hn100 := hf.1
  by_cases hn0 : n = 0
  case pos =>
    subst hn0
    clear hso hln hi' hf
    go_enter Try.func4, Try.ntmps4
    go_wp2_with (first
      | (go_at_call 7; go_must (refine hlt.mono ?_; rintro e w1 ⟨rfl, b1⟩; have hb1 := hb0.trans (b1.mono hb0.size); obtain ⟨x0, x1, x2⟩ := HX.out w1 b1))
      | (go_at_call 8; go_must (refine (hA _).mono ?_; rintro e wz ⟨rfl, bz⟩)))
    go_ret
    exact ⟨rfl, hb1.trans (bz.mono hb1.size)⟩
  have d0 : ((n : Int) == 0) = false := by simp; omega
  cases hs : It.sorted xs with
  | false =>
    rw [hs] at hso
    clear hln hi' hf hs
    go_enter Try.func4, Try.ntmps4
    go_wp2_with (first
      | (go_at_call 7; go_must (refine hlt.mono ?_; rintro e w1 ⟨rfl, b1⟩; have hb1 := hb0.trans (b1.mono hb0.size); obtain ⟨x0, x1, x2⟩ := HX.out w1 b1))
      | (go_at_call 10; go_must (refine (hso _ hb1).mono ?_; rintro e w2 ⟨rfl, b2⟩; have hb2 := hb1.trans (b2.mono hb1.size); have c2 := b1.trans (b2.mono b1.size); obtain ⟨v0, v1, v2⟩ := HX.out w2 c2))
      | (go_at_call 8; go_must (refine (hA _).mono ?_; rintro e wz ⟨rfl, bz⟩)))
    go_ret
    exact ⟨rfl, hb2.trans (bz.mono hb2.size)⟩
  | true =>
  rw [hs] at hso
  by_cases hl2 : 200 < lo.size
  case pos =>
    have d1 : decide ((200 : Int) < (lo.size : Int)) = true := by simp; omega
    clear hln hi' hf hs
    go_enter Try.func4, Try.ntmps4
    go_wp2_with (first
      | (go_at_call 7; go_must (refine hlt.mono ?_; rintro e w1 ⟨rfl, b1⟩; have hb1 := hb0.trans (b1.mono hb0.size); obtain ⟨x0, x1, x2⟩ := HX.out w1 b1))
      | (go_at_call 10; go_must (refine (hso _ hb1).mono ?_; rintro e w2 ⟨rfl, b2⟩; have hb2 := hb1.trans (b2.mono hb1.size); have c2 := b1.trans (b2.mono b1.size); obtain ⟨v0, v1, v2⟩ := HX.out w2 c2))
      | (go_at_call 8; go_must (refine (hA _).mono ?_; rintro e wz ⟨rfl, bz⟩)))
    go_ret
    exact ⟨rfl, hb2.trans (bz.mono hb2.size)⟩
  have d1 : decide ((200 : Int) < (lo.size : Int)) = false := by simp; omega
  have d1' : ¬ ((200 : Int) < (lo.size : Int)) := by omega
  by_cases hh2 : 200 < hi.size
  case pos =>
    have d2 : decide ((200 : Int) < (hi.size : Int)) = true := by simp; omega
    clear hln hi' hf hs
    go_enter Try.func4, Try.ntmps4
    go_wp2_with (first
      | (go_at_call 7; go_must (refine hlt.mono ?_; rintro e w1 ⟨rfl, b1⟩; have hb1 := hb0.trans (b1.mono hb0.size); obtain ⟨x0, x1, x2⟩ := HX.out w1 b1))
      | (go_at_call 10; go_must (refine (hso _ hb1).mono ?_; rintro e w2 ⟨rfl, b2⟩; have hb2 := hb1.trans (b2.mono hb1.size); have c2 := b1.trans (b2.mono b1.size); obtain ⟨v0, v1, v2⟩ := HX.out w2 c2))
      | (go_at_call 8; go_must (refine (hA _).mono ?_; rintro e wz ⟨rfl, bz⟩)))
    go_ret
    exact ⟨rfl, hb2.trans (bz.mono hb2.size)⟩
  have d2 : decide ((200 : Int) < (hi.size : Int)) = false := by simp; omega
  have d2' : ¬ ((200 : Int) < (hi.size : Int)) := by omega
  have hsm : ∀ x ∈ xs, Bl.Small x := parts_small hi'.1.2
  have hne : xs ≠ [] := fun e => by rw [e] at hln; simp at hln; omega
  obtain ⟨hmayx, hpw⟩ := (It.sorted_iff xs).mp hs
  obtain ⟨-, fx2, fx3, -⟩ := tb_few (l := xs) (z := 1 + x) hs hsm (by omega) (by omega)
  have hmx := fun W (h : Below w.heap.size w W) => hC.make a n c gs xs (1 + x) W hf (hi'.below h (Nat.le_refl _)) (by omega) (by omega)
  have hmR : Tb.makeR xs (1 + x) = (0, Tb.put (Tb.parted xs (1 + x))) := by
    unfold Tb.makeR
    rw [if_neg]
    rintro (h | h | h | h)
    · omega
    · omega
    · omega
    · rw [hs] at h; cases h
  rw [hmR] at hmx
  unfold TMRes at hmx
  simp only at hmx
  have hox := fun (W : World) A C h1 h2 h3 (hr : Row .u8 W A (Tb.put (Tb.parted xs (1 + x))).length (Tb.put (Tb.parted xs (1 + x)))) => hC.yes A _ C _ W fx3 h1 h2 h3 hr (by rw [fx2]; exact hne)
  simp only [fx2] at hox
  generalize Tb.put (Tb.parted xs (1 + x)) = PX at *
  have hlk := fun W p (h1 : T W p xs) (h2 : Below w.heap.size w W) => tblike hC p xs a n c gs W h1 (hi'.below h2 (Nat.le_refl _)) hne (by omega)
  have jx : IntKind.i64.wrap x = x := by rw [IntKind.wrap_i64]; omega
  have jx1 : IntKind.i64.wrap (1 + x) = 1 + x := by rw [IntKind.wrap_i64]; omega
  have Hi : Hid (InI w a n c gs xs) := hi'
  have Hf : Hid (Fine gs n) := hf
  have HPW : Hid ((∀ x ∈ xs, It.may x = true) ∧ xs.Pairwise (fun a b => Na.lt a.1 b.1 = true)) := ⟨hmayx, hpw⟩
  have HLN : Hid (xs.length = n) := hln
  clear hmR hi' hf hs hsm hne hmayx hpw fx2 hln
  go_enter Try.func4, Try.ntmps4
  go_wp2_with (first
    | (go_at_call 7; go_must (refine hlt.mono ?_; rintro e w1 ⟨rfl, b1⟩; have hb1 := hb0.trans (b1.mono hb0.size); obtain ⟨x0, x1, x2⟩ := HX.out w1 b1))
    | (go_at_call 10; go_must (refine (hso _ hb1).mono ?_; rintro e w2 ⟨rfl, b2⟩; have hb2 := hb1.trans (b2.mono hb1.size); have c2 := b1.trans (b2.mono b1.size); obtain ⟨v0, v1, v2⟩ := HX.out w2 c2))
    | (go_at_call 9; go_must (refine (hmx _ hb2).mono ?_; rintro e w3 ⟨a3, c3, rfl, r3, z3, l3, s3, b3⟩; have hb3 := hb2.trans (b3.mono hb2.size); have c3' := c2.trans (b3.mono c2.size)))
    | (go_at_call 14; go_must (refine (hox _ _ _ l3 z3 s3 r3).mono ?_; rintro e w4 ⟨p, rfl, hT4, b4⟩; have hb4 := hb3.trans (b4.mono hb3.size); have c4 := c3'.trans (b4.mono c3'.size)))
    | (go_at_call 15; go_must (refine (hlk _ _ hT4 hb4).mono ?_; rintro e w5 ⟨rfl, b5⟩; have hb5 := hb4.trans (b5.mono hb4.size); have c5 := c4.trans (b5.mono c4.size); have hT5 := hC.keep _ _ _ _ hT4 b5)))
  clear hlt hso hmx hox hlk r3 s3 z3 l3 hT4 x0 x1 x2 v0 v1 v2
  go_loopw [11] (fun i wr => ∃ k : Nat, k ≤ n ∧ i = .int .i64 k ∧ Below w5.heap.size w5 wr) (fun i _ => n - (intOf i).toNat)
  case atStart => exact ⟨0, Nat.zero_le _, rfl, Below.refl _ _⟩
  case round =>
    obtain ⟨k, hk, rfl, hbel⟩ := hrel
    have hbw := hb5.trans (hbel.mono hb5.size)
    have cw := c5.trans (hbel.mono c5.size)
    have hTr := hC.keep _ _ _ _ hT5 hbel
    by_cases hlt : k < n
    · obtain ⟨bb, off, rfl, hc⟩ := Hi.out.1.1.items (by omega)
      have hck := hc k hlt
      have C0 : Hid (∀ W, Below w.heap.size w W → ICells W bb (off + k * 8) (gs.getD k ihz)) := (fun W hW => hck.below hW (Nat.le_refl _) : ∀ W, Below w.heap.size w W → ICells W bb (off + k * 8) (gs.getD k ihz))
      have Hy : Hid (IsItem w (gs.getD k ihz) (xs.getD k It.zero)) := Hi.out.1.item hlt
      have hkl : k < xs.length := by rw [HLN.out]; exact hlt
      have hmem : xs.getD k It.zero ∈ xs := by rw [getD_get hkl]; exact List.getElem_mem _
      have hgm := It.get_at HPW.out.2 hkl
      have hpos := (Bl.it_parts (HPW.out.1 _ hmem)).1
      have hks := (Hf.out.2 k hlt).1
      have hfi := fun W (h : T W p xs) => hC.find p xs (gs.getD k ihz).key W h (by omega)
      have hmy := fun W (h : T W p xs) => (hC.may p xs (gs.getD k ihz).key W h (by omega)).mono (R' := fun e w' => e = .returned (.bool true) ∧ Below W.heap.size W w') (fun e w' ⟨r, h1, h2, h3⟩ => ⟨by rw [h1, h2 ⟨_, hmem, Hy.out.key.symm⟩], h3⟩)
      rw [Hy.out.key, hgm] at hfi
      simp only [hpos, ne_eq, not_false_eq_true, decide_true] at hfi
      have hone := fun (h1 : IH) W (i1 : IsItem W h1 (xs.getD k It.zero)) (h : Below w.heap.size w W) => ione_any h1 (xs.getD k It.zero) (gs.getD k ihz) (xs.getD k It.zero) W i1 (Hy.out.below h (Nat.le_refl _))
      simp only [one_self13] at hone
      generalize gs.getD k ihz = q at *
      generalize xs.getD k It.zero = y at *
      obtain ⟨key, dead, far, qa, qn, qc, ⟨p1, p2, p3, p4⟩⟩ := q
      obtain ⟨y0, y1, y2, y3, y4, y5, y6, y7⟩ := C0.out wr hbw
      simp only at y0 y1 y2 y3 y4 y5 y6 y7 hfi hone hmy
      have i0 : (0 : Int) ≤ (k : Int) := by omega
      have i1 : (k : Int) < (n : Int) := by omega
      have i2 : IntKind.i64.wrap ((k : Int) + 1) = (k : Int) + 1 := by rw [IntKind.wrap_i64]; omega
      clear hck hc hmem hgm hpos hkl
      go_wp2_with (go_at_call 16; go_must (refine (hfi _ hTr).mono ?_; rintro e w7 ⟨h, rfl, hi7, hb7⟩; have hc7 := hbel.trans (hb7.mono hbel.size); have hw7 := hbw.trans (hb7.mono hbw.size); have hT7 := hC.keep _ _ _ _ hTr hb7; obtain ⟨t0, t1, t2, t3, t4, t5, t6, t7⟩ := C0.out _ (hw7.alloc hw7.size (.cells #[.string h.key, .bool h.dead, .bool h.far, .slice h.a h.n h.c, .int .i64 h.p.1, .int .i64 h.p.2.1, .int .i64 h.p.2.2.1, .int .u32 (h.p.2.2.2 : Nat)] 47)); simp only at t0 t1 t2 t3 t4 t5 t6 t7; clear y0 y1 y2 y3 y4 y5 y6 y7))
      have hbA := hw7.alloc hw7.size (.cells #[.string h.key, .bool h.dead, .bool h.far, .slice h.a h.n h.c, .int .i64 h.p.1, .int .i64 h.p.2.1, .int .i64 h.p.2.2.1, .int .u32 (h.p.2.2.2 : Nat)] 47)
      have hcA := hc7.alloc hc7.size (.cells #[.string h.key, .bool h.dead, .bool h.far, .slice h.a h.n h.c, .int .i64 h.p.1, .int .i64 h.p.2.1, .int .i64 h.p.2.2.1, .int .u32 (h.p.2.2.2 : Nat)] 47)
      have hTA := hC.keep _ _ _ _ hT7 (below_alloc w7 (.cells #[.string h.key, .bool h.dead, .bool h.far, .slice h.a h.n h.c, .int .i64 h.p.1, .int .i64 h.p.2.1, .int .i64 h.p.2.2.1, .int .u32 (h.p.2.2.2 : Nat)] 47))
      have hiA := hi7.below (below_alloc w7 (.cells #[.string h.key, .bool h.dead, .bool h.far, .slice h.a h.n h.c, .int .i64 h.p.1, .int .i64 h.p.2.1, .int .i64 h.p.2.2.1, .int .u32 (h.p.2.2.2 : Nat)] 47)) (Nat.le_refl _)
      have u0 := cell_new w7 #[.string h.key, .bool h.dead, .bool h.far, .slice h.a h.n h.c, .int .i64 h.p.1, .int .i64 h.p.2.1, .int .i64 h.p.2.2.1, .int .u32 (h.p.2.2.2 : Nat)] 47 0
      have u1 := cell_new w7 #[.string h.key, .bool h.dead, .bool h.far, .slice h.a h.n h.c, .int .i64 h.p.1, .int .i64 h.p.2.1, .int .i64 h.p.2.2.1, .int .u32 (h.p.2.2.2 : Nat)] 47 1
      have u2 := cell_new w7 #[.string h.key, .bool h.dead, .bool h.far, .slice h.a h.n h.c, .int .i64 h.p.1, .int .i64 h.p.2.1, .int .i64 h.p.2.2.1, .int .u32 (h.p.2.2.2 : Nat)] 47 2
      have u3 := cell_new w7 #[.string h.key, .bool h.dead, .bool h.far, .slice h.a h.n h.c, .int .i64 h.p.1, .int .i64 h.p.2.1, .int .i64 h.p.2.2.1, .int .u32 (h.p.2.2.2 : Nat)] 47 3
      have u4 := cell_new w7 #[.string h.key, .bool h.dead, .bool h.far, .slice h.a h.n h.c, .int .i64 h.p.1, .int .i64 h.p.2.1, .int .i64 h.p.2.2.1, .int .u32 (h.p.2.2.2 : Nat)] 47 4
      have u5 := cell_new w7 #[.string h.key, .bool h.dead, .bool h.far, .slice h.a h.n h.c, .int .i64 h.p.1, .int .i64 h.p.2.1, .int .i64 h.p.2.2.1, .int .u32 (h.p.2.2.2 : Nat)] 47 5
      have u6 := cell_new w7 #[.string h.key, .bool h.dead, .bool h.far, .slice h.a h.n h.c, .int .i64 h.p.1, .int .i64 h.p.2.1, .int .i64 h.p.2.2.1, .int .u32 (h.p.2.2.2 : Nat)] 47 6
      have u7 := cell_new w7 #[.string h.key, .bool h.dead, .bool h.far, .slice h.a h.n h.c, .int .i64 h.p.1, .int .i64 h.p.2.1, .int .i64 h.p.2.2.1, .int .u32 (h.p.2.2.2 : Nat)] 47 7
      have hlt7 : w7.heap.size < (w7.alloc (.cells #[.string h.key, .bool h.dead, .bool h.far, .slice h.a h.n h.c, .int .i64 h.p.1, .int .i64 h.p.2.1, .int .i64 h.p.2.2.1, .int .u32 (h.p.2.2.2 : Nat)] 47)).heap.size := by simp
      generalize w7.alloc (.cells #[.string h.key, .bool h.dead, .bool h.far, .slice h.a h.n h.c, .int .i64 h.p.1, .int .i64 h.p.2.1, .int .i64 h.p.2.2.1, .int .u32 (h.p.2.2.2 : Nat)] 47) = W8 at *
      go_region_held3 (fun w' => w'.cell? ⟨bb, off + k * 8, none⟩ = some (.string key) ∧ w'.cell? ⟨bb, off + k * 8 + 1, none⟩ = some (.bool dead) ∧ w'.cell? ⟨bb, off + k * 8 + 2, none⟩ = some (.bool far) ∧ w'.cell? ⟨bb, off + k * 8 + 3, none⟩ = some (.slice qa qn qc) ∧ w'.cell? ⟨bb, off + k * 8 + 4, none⟩ = some (.int .i64 p1) ∧ w'.cell? ⟨bb, off + k * 8 + 5, none⟩ = some (.int .i64 p2) ∧ w'.cell? ⟨bb, off + k * 8 + 6, none⟩ = some (.int .i64 p3) ∧ w'.cell? ⟨bb, off + k * 8 + 7, none⟩ = some (.int .u32 (p4 : Nat)) ∧ w'.cell? ⟨w7.heap.size, 0, none⟩ = some (.string h.key) ∧ w'.cell? ⟨w7.heap.size, 1, none⟩ = some (.bool h.dead) ∧ w'.cell? ⟨w7.heap.size, 2, none⟩ = some (.bool h.far) ∧ w'.cell? ⟨w7.heap.size, 3, none⟩ = some (.slice h.a h.n h.c) ∧ w'.cell? ⟨w7.heap.size, 4, none⟩ = some (.int .i64 h.p.1) ∧ w'.cell? ⟨w7.heap.size, 5, none⟩ = some (.int .i64 h.p.2.1) ∧ w'.cell? ⟨w7.heap.size, 6, none⟩ = some (.int .i64 h.p.2.2.1) ∧ w'.cell? ⟨w7.heap.size, 7, none⟩ = some (.int .u32 (h.p.2.2.2 : Nat))) (first | go_keep | (refine ⟨?_, ?_, ?_, ?_, ?_, ?_, ?_, ?_, ?_, ?_, ?_, ?_, ?_, ?_, ?_, ?_⟩ <;> assumption))
        (first
          | (go_at_call 17; refine (hone _ _ (hiA.below (below_drewN _ _ 1) (Nat.le_refl _)) hbA.drew).mono ?_; rintro e w9 ⟨rfl, hb9d⟩; have hb9 := below_of_drew hb9d; have hw9 := hbA.trans (hb9.mono hbA.size); have hc9 := hcA.trans (hb9.mono hcA.size); have hT9 := hC.keep _ _ _ _ hTA hb9; obtain ⟨g0, g1, g2, g3, g4, g5, g6, g7⟩ := C0.out w9 hw9; simp only at g0 g1 g2 g3 g4 g5 g6 g7; have m0 := (hb9.cell (p := ⟨w7.heap.size, 0, none⟩) hlt7).trans u0; have m1 := (hb9.cell (p := ⟨w7.heap.size, 1, none⟩) hlt7).trans u1; have m2 := (hb9.cell (p := ⟨w7.heap.size, 2, none⟩) hlt7).trans u2; have m3 := (hb9.cell (p := ⟨w7.heap.size, 3, none⟩) hlt7).trans u3; have m4 := (hb9.cell (p := ⟨w7.heap.size, 4, none⟩) hlt7).trans u4; have m5 := (hb9.cell (p := ⟨w7.heap.size, 5, none⟩) hlt7).trans u5; have m6 := (hb9.cell (p := ⟨w7.heap.size, 6, none⟩) hlt7).trans u6; have m7 := (hb9.cell (p := ⟨w7.heap.size, 7, none⟩) hlt7).trans u7)
          | (go_at_call 18; refine (hmy _ hT9).mono ?_; rintro e w10 ⟨rfl, hb10⟩; have hw10 := hw9.trans (hb10.mono hw9.size); have hc10 := hc9.trans (hb10.mono hc9.size); obtain ⟨k0, k1, k2, k3, k4, k5, k6, k7⟩ := C0.out w10 hw10; simp only at k0 k1 k2 k3 k4 k5 k6 k7; have n0 := (hb10.cell (p := ⟨w7.heap.size, 0, none⟩) (Nat.lt_of_lt_of_le hlt7 hb9.size)).trans m0; have n1 := (hb10.cell (p := ⟨w7.heap.size, 1, none⟩) (Nat.lt_of_lt_of_le hlt7 hb9.size)).trans m1; have n2 := (hb10.cell (p := ⟨w7.heap.size, 2, none⟩) (Nat.lt_of_lt_of_le hlt7 hb9.size)).trans m2; have n3 := (hb10.cell (p := ⟨w7.heap.size, 3, none⟩) (Nat.lt_of_lt_of_le hlt7 hb9.size)).trans m3; have n4 := (hb10.cell (p := ⟨w7.heap.size, 4, none⟩) (Nat.lt_of_lt_of_le hlt7 hb9.size)).trans m4; have n5 := (hb10.cell (p := ⟨w7.heap.size, 5, none⟩) (Nat.lt_of_lt_of_le hlt7 hb9.size)).trans m5; have n6 := (hb10.cell (p := ⟨w7.heap.size, 6, none⟩) (Nat.lt_of_lt_of_le hlt7 hb9.size)).trans m6; have n7 := (hb10.cell (p := ⟨w7.heap.size, 7, none⟩) (Nat.lt_of_lt_of_le hlt7 hb9.size)).trans m7))
      go_wp2
      go_roundw
      case rel => exact ⟨k + 1, hlt, by go_num, hc10⟩
      case measure => simp [intOf]; omega
    · obtain rfl : k = n := by omega
      obtain ⟨x0, x1, x2⟩ := HX.out wr cw
      have hfi := fun W (h : T W p xs) => hC.find p xs lo W h (by omega)
      have hrg := fun W (h : Below w.heap.size w W) => iget_any w a k c gs xs lo W (by omega) (Hi.out.1.1.below h (Nat.le_refl _)) Hi.out.1.2
      have hone := fun (h1 h2 : IH) W i1 i2 => ione_any h1 (It.get xs (kb lo)) h2 (It.get xs (kb lo)) W i1 i2
      simp only [one_self13] at hone
      have hsc := fun W (h : T W p xs) => hC.scan p xs lo hi most W h (by omega) (by omega) hm1 hm2
      have hrs := fun W (h : Below w.heap.size w W) => iscan_any w a k c gs xs lo hi most W (by omega) (Hi.out.1.1.below h (Nat.le_refl _)) Hi.out.1.2
      have hsa := fun (w0 w1 : World) a1 c1 h1 a2 c2 h2 W r1 i1 r2 i2 b1 b2 => isame_any w0 w1 a1 (It.scan xs (kb lo) (kb hi) most).length c1 h1 (It.scan xs (kb lo) (kb hi) most) a2 (It.scan xs (kb lo) (kb hi) most).length c2 h2 (It.scan xs (kb lo) (kb hi) most) W r1 i1 r2 i2 b1 b2
      simp only [same_self13] at hsa
      unfold TGetRes at hsc
      unfold RowRes at hrs
      generalize It.scan xs (kb lo) (kb hi) most = SC at *
      generalize It.get xs (kb lo) = G at *
      have hi13 : Hid (InI w a k c gs xs) := Hi
      clear Hi Hf HPW HLN
      by_cases hGz : G.1 = []
      · have e0 : decide (G.1 ≠ []) = false := by simp [hGz]
        simp only [e0] at hfi
        have hGe : Hid (G.1 = []) := hGz
        clear hGz e0
        go_wp2_with (first
          | (go_at_call 16; go_must (refine (hfi _ hTr).mono ?_; rintro e w7 ⟨h, rfl, hi7, hb7⟩; have hw7 := hbw.trans (hb7.mono hbw.size); have cw7 := cw.trans (hb7.mono cw.size); have hT7 := hC.keep _ _ _ _ hTr hb7; have hbA := hw7.alloc hw7.size (.cells #[.string h.key, .bool h.dead, .bool h.far, .slice h.a h.n h.c, .int .i64 h.p.1, .int .i64 h.p.2.1, .int .i64 h.p.2.2.1, .int .u32 (h.p.2.2.2 : Nat)] 47); have cA := cw7.alloc cw7.size (.cells #[.string h.key, .bool h.dead, .bool h.far, .slice h.a h.n h.c, .int .i64 h.p.1, .int .i64 h.p.2.1, .int .i64 h.p.2.2.1, .int .u32 (h.p.2.2.2 : Nat)] 47); have hTA := hC.keep _ _ _ _ hT7 (below_alloc w7 (.cells #[.string h.key, .bool h.dead, .bool h.far, .slice h.a h.n h.c, .int .i64 h.p.1, .int .i64 h.p.2.1, .int .i64 h.p.2.2.1, .int .u32 (h.p.2.2.2 : Nat)] 47)); have hiA := hi7.below (below_alloc w7 (.cells #[.string h.key, .bool h.dead, .bool h.far, .slice h.a h.n h.c, .int .i64 h.p.1, .int .i64 h.p.2.1, .int .i64 h.p.2.2.1, .int .u32 (h.p.2.2.2 : Nat)] 47)) (Nat.le_refl _); obtain ⟨z0, z1, z2⟩ := HX.out _ cA; have u0 := cell_new w7 #[.string h.key, .bool h.dead, .bool h.far, .slice h.a h.n h.c, .int .i64 h.p.1, .int .i64 h.p.2.1, .int .i64 h.p.2.2.1, .int .u32 (h.p.2.2.2 : Nat)] 47 0; have u1 := cell_new w7 #[.string h.key, .bool h.dead, .bool h.far, .slice h.a h.n h.c, .int .i64 h.p.1, .int .i64 h.p.2.1, .int .i64 h.p.2.2.1, .int .u32 (h.p.2.2.2 : Nat)] 47 1; have u2 := cell_new w7 #[.string h.key, .bool h.dead, .bool h.far, .slice h.a h.n h.c, .int .i64 h.p.1, .int .i64 h.p.2.1, .int .i64 h.p.2.2.1, .int .u32 (h.p.2.2.2 : Nat)] 47 2; have u3 := cell_new w7 #[.string h.key, .bool h.dead, .bool h.far, .slice h.a h.n h.c, .int .i64 h.p.1, .int .i64 h.p.2.1, .int .i64 h.p.2.2.1, .int .u32 (h.p.2.2.2 : Nat)] 47 3; have u4 := cell_new w7 #[.string h.key, .bool h.dead, .bool h.far, .slice h.a h.n h.c, .int .i64 h.p.1, .int .i64 h.p.2.1, .int .i64 h.p.2.2.1, .int .u32 (h.p.2.2.2 : Nat)] 47 4; have u5 := cell_new w7 #[.string h.key, .bool h.dead, .bool h.far, .slice h.a h.n h.c, .int .i64 h.p.1, .int .i64 h.p.2.1, .int .i64 h.p.2.2.1, .int .u32 (h.p.2.2.2 : Nat)] 47 5; have u6 := cell_new w7 #[.string h.key, .bool h.dead, .bool h.far, .slice h.a h.n h.c, .int .i64 h.p.1, .int .i64 h.p.2.1, .int .i64 h.p.2.2.1, .int .u32 (h.p.2.2.2 : Nat)] 47 6; have u7 := cell_new w7 #[.string h.key, .bool h.dead, .bool h.far, .slice h.a h.n h.c, .int .i64 h.p.1, .int .i64 h.p.2.1, .int .i64 h.p.2.2.1, .int .u32 (h.p.2.2.2 : Nat)] 47 7))
          | (go_at_call 19; go_must (refine (hrg _ hbA).mono ?_; rintro e w8 ⟨⟨gk, gd, gf, ga, gn, gc, ⟨g1, g2, g3, g4⟩⟩, rfl, hi8, hb8⟩; obtain rfl : gk = ⟨#[]⟩ := (kb_nil gk).mp (hi8.key.trans hGe.out); have hw8 := hbA.trans (hb8.mono hbA.size); have cw8 := cA.trans (hb8.mono cA.size); have hT8 := hC.keep _ _ _ _ hTA hb8; have hiB := hiA.below hb8 (Nat.le_refl _); have hl8 : w7.heap.size < w8.heap.size := Nat.lt_of_lt_of_le (by simp) hb8.size; have m0 := (hb8.cell (p := ⟨w7.heap.size, 0, none⟩) (by simp)).trans u0; have m1 := (hb8.cell (p := ⟨w7.heap.size, 1, none⟩) (by simp)).trans u1; have m2 := (hb8.cell (p := ⟨w7.heap.size, 2, none⟩) (by simp)).trans u2; have m3 := (hb8.cell (p := ⟨w7.heap.size, 3, none⟩) (by simp)).trans u3; have m4 := (hb8.cell (p := ⟨w7.heap.size, 4, none⟩) (by simp)).trans u4; have m5 := (hb8.cell (p := ⟨w7.heap.size, 5, none⟩) (by simp)).trans u5; have m6 := (hb8.cell (p := ⟨w7.heap.size, 6, none⟩) (by simp)).trans u6; have m7 := (hb8.cell (p := ⟨w7.heap.size, 7, none⟩) (by simp)).trans u7; have hbB := hw8.alloc hw8.size (.cells #[.string ⟨#[]⟩, .bool gd, .bool gf, .slice ga gn gc, .int .i64 g1, .int .i64 g2, .int .i64 g3, .int .u32 (g4 : Nat)] 47); have cB := cw8.alloc cw8.size (.cells #[.string ⟨#[]⟩, .bool gd, .bool gf, .slice ga gn gc, .int .i64 g1, .int .i64 g2, .int .i64 g3, .int .u32 (g4 : Nat)] 47); have hTB := hC.keep _ _ _ _ hT8 (below_alloc w8 (.cells #[.string ⟨#[]⟩, .bool gd, .bool gf, .slice ga gn gc, .int .i64 g1, .int .i64 g2, .int .i64 g3, .int .u32 (g4 : Nat)] 47)); have hiC := hiB.below (below_alloc w8 (.cells #[.string ⟨#[]⟩, .bool gd, .bool gf, .slice ga gn gc, .int .i64 g1, .int .i64 g2, .int .i64 g3, .int .u32 (g4 : Nat)] 47)) (Nat.le_refl _); have hi9 := hi8.below hbB (Nat.le_refl _); have kz := cell_new w8 #[.string ⟨#[]⟩, .bool gd, .bool gf, .slice ga gn gc, .int .i64 g1, .int .i64 g2, .int .i64 g3, .int .u32 (g4 : Nat)] 47 0))
          | (go_at_call 17; go_must (refine (hone _ _ _ hiC hi9).mono ?_; rintro e w9 ⟨rfl, b9⟩; have hb9 := hbB.trans (b9.mono hbB.size); have cw9 := cB.trans (b9.mono cB.size); have hT9 := hC.keep _ _ _ _ hTB b9; have kz9 := (b9.cell (p := ⟨w8.heap.size, 0, none⟩) (by simp)).trans kz; obtain ⟨e0, e1, e2⟩ := HX.out w9 cw9)))
        have hT9d := hC.keep _ _ _ _ hT9 (Below.refl w9.heap.size w9).drew
        clear z0 z1 z2 x0 x1 x2 u0 m0 u1 m1 u2 m2 u3 m3 u4 m4 u5 m5 u6 m6 u7 m7
        go_region_held3 (fun w' => w'.cell? ⟨w.heap.size, 0, none⟩ = some (.string lo) ∧ w'.cell? ⟨w.heap.size, 1, none⟩ = some (.string hi) ∧ w'.cell? ⟨w.heap.size, 2, none⟩ = some (.int .i64 most)) (first | go_keep | (refine ⟨?_, ?_, ?_⟩ <;> assumption))
          (first
            | (go_at_call 21; refine (hsc _ hT9d).mono ?_; rintro e w10 ⟨a10, c10, h10, rfl, i10, b10d⟩; have b10 := below_of_drew b10d; have hb10 := hb9.trans (b10.mono hb9.size); have cw10 := cw9.trans (b10.mono cw9.size); obtain ⟨q0, q1, q2⟩ := HX.out w10 cw10)
            | (go_at_call 22; refine (hrs _ hb10).mono ?_; rintro e w11 ⟨a11, c11, h11, rfl, l11, n11, t11, i11, b11⟩; have hb11 := hb10.trans (b11.mono hb10.size); have cw11 := cw10.trans (b11.mono cw10.size); have i1011 := i10.1.1.below b11 (Nat.le_refl _); obtain ⟨r0, r1, r2⟩ := HX.out w11 cw11)
            | (go_at_call 20; refine (hsa _ _ _ _ _ _ _ _ _ i1011 i10.1.2 t11 i11 b11 hb11).mono ?_; rintro e w12 ⟨rfl, b12⟩; have hb12 := hb11.trans (b12.mono hb11.size); have cw12 := cw11.trans (b12.mono cw11.size); obtain ⟨s0, s1, s2⟩ := HX.out w12 cw12)
            | (go_at_call 8; refine (hA _).mono ?_; rintro e w13 ⟨rfl, b13⟩; have hb13 := hb12.trans (b13.mono hb12.size); have cw13 := cw12.trans (b13.mono cw12.size); obtain ⟨v0, v1, v2⟩ := HX.out w13 cw13))
        go_wp2
        go_ret
        exact ⟨rfl, hb13⟩
      · have e0 : decide (G.1 ≠ []) = true := by simp [hGz]
        simp only [e0] at hfi
        have hGe : Hid (G.1 ≠ []) := hGz
        clear hGz e0
        go_wp2_with (first
          | (go_at_call 16; go_must (refine (hfi _ hTr).mono ?_; rintro e w7 ⟨h, rfl, hi7, hb7⟩; have hw7 := hbw.trans (hb7.mono hbw.size); have cw7 := cw.trans (hb7.mono cw.size); have hT7 := hC.keep _ _ _ _ hTr hb7; have hbA := hw7.alloc hw7.size (.cells #[.string h.key, .bool h.dead, .bool h.far, .slice h.a h.n h.c, .int .i64 h.p.1, .int .i64 h.p.2.1, .int .i64 h.p.2.2.1, .int .u32 (h.p.2.2.2 : Nat)] 47); have cA := cw7.alloc cw7.size (.cells #[.string h.key, .bool h.dead, .bool h.far, .slice h.a h.n h.c, .int .i64 h.p.1, .int .i64 h.p.2.1, .int .i64 h.p.2.2.1, .int .u32 (h.p.2.2.2 : Nat)] 47); have hTA := hC.keep _ _ _ _ hT7 (below_alloc w7 (.cells #[.string h.key, .bool h.dead, .bool h.far, .slice h.a h.n h.c, .int .i64 h.p.1, .int .i64 h.p.2.1, .int .i64 h.p.2.2.1, .int .u32 (h.p.2.2.2 : Nat)] 47)); have hiA := hi7.below (below_alloc w7 (.cells #[.string h.key, .bool h.dead, .bool h.far, .slice h.a h.n h.c, .int .i64 h.p.1, .int .i64 h.p.2.1, .int .i64 h.p.2.2.1, .int .u32 (h.p.2.2.2 : Nat)] 47)) (Nat.le_refl _); obtain ⟨z0, z1, z2⟩ := HX.out _ cA; have u0 := cell_new w7 #[.string h.key, .bool h.dead, .bool h.far, .slice h.a h.n h.c, .int .i64 h.p.1, .int .i64 h.p.2.1, .int .i64 h.p.2.2.1, .int .u32 (h.p.2.2.2 : Nat)] 47 0; have u1 := cell_new w7 #[.string h.key, .bool h.dead, .bool h.far, .slice h.a h.n h.c, .int .i64 h.p.1, .int .i64 h.p.2.1, .int .i64 h.p.2.2.1, .int .u32 (h.p.2.2.2 : Nat)] 47 1; have u2 := cell_new w7 #[.string h.key, .bool h.dead, .bool h.far, .slice h.a h.n h.c, .int .i64 h.p.1, .int .i64 h.p.2.1, .int .i64 h.p.2.2.1, .int .u32 (h.p.2.2.2 : Nat)] 47 2; have u3 := cell_new w7 #[.string h.key, .bool h.dead, .bool h.far, .slice h.a h.n h.c, .int .i64 h.p.1, .int .i64 h.p.2.1, .int .i64 h.p.2.2.1, .int .u32 (h.p.2.2.2 : Nat)] 47 3; have u4 := cell_new w7 #[.string h.key, .bool h.dead, .bool h.far, .slice h.a h.n h.c, .int .i64 h.p.1, .int .i64 h.p.2.1, .int .i64 h.p.2.2.1, .int .u32 (h.p.2.2.2 : Nat)] 47 4; have u5 := cell_new w7 #[.string h.key, .bool h.dead, .bool h.far, .slice h.a h.n h.c, .int .i64 h.p.1, .int .i64 h.p.2.1, .int .i64 h.p.2.2.1, .int .u32 (h.p.2.2.2 : Nat)] 47 5; have u6 := cell_new w7 #[.string h.key, .bool h.dead, .bool h.far, .slice h.a h.n h.c, .int .i64 h.p.1, .int .i64 h.p.2.1, .int .i64 h.p.2.2.1, .int .u32 (h.p.2.2.2 : Nat)] 47 6; have u7 := cell_new w7 #[.string h.key, .bool h.dead, .bool h.far, .slice h.a h.n h.c, .int .i64 h.p.1, .int .i64 h.p.2.1, .int .i64 h.p.2.2.1, .int .u32 (h.p.2.2.2 : Nat)] 47 7))
          | (go_at_call 19; go_must (refine (hrg _ hbA).mono ?_; rintro e w8 ⟨⟨gk, gd, gf, ga, gn, gc, ⟨g1, g2, g3, g4⟩⟩, rfl, hi8, hb8⟩; have kne : gk.toList.isEmpty = false := (by rw [isEmpty_kb]; exact decide_eq_false (fun e => hGe.out (by rw [← hi8.key, e]; rfl))); have hw8 := hbA.trans (hb8.mono hbA.size); have cw8 := cA.trans (hb8.mono cA.size); have hT8 := hC.keep _ _ _ _ hTA hb8; have hiB := hiA.below hb8 (Nat.le_refl _); have hl8 : w7.heap.size < w8.heap.size := Nat.lt_of_lt_of_le (by simp) hb8.size; have m0 := (hb8.cell (p := ⟨w7.heap.size, 0, none⟩) (by simp)).trans u0; have m1 := (hb8.cell (p := ⟨w7.heap.size, 1, none⟩) (by simp)).trans u1; have m2 := (hb8.cell (p := ⟨w7.heap.size, 2, none⟩) (by simp)).trans u2; have m3 := (hb8.cell (p := ⟨w7.heap.size, 3, none⟩) (by simp)).trans u3; have m4 := (hb8.cell (p := ⟨w7.heap.size, 4, none⟩) (by simp)).trans u4; have m5 := (hb8.cell (p := ⟨w7.heap.size, 5, none⟩) (by simp)).trans u5; have m6 := (hb8.cell (p := ⟨w7.heap.size, 6, none⟩) (by simp)).trans u6; have m7 := (hb8.cell (p := ⟨w7.heap.size, 7, none⟩) (by simp)).trans u7; have hbB := hw8.alloc hw8.size (.cells #[.string gk, .bool gd, .bool gf, .slice ga gn gc, .int .i64 g1, .int .i64 g2, .int .i64 g3, .int .u32 (g4 : Nat)] 47); have cB := cw8.alloc cw8.size (.cells #[.string gk, .bool gd, .bool gf, .slice ga gn gc, .int .i64 g1, .int .i64 g2, .int .i64 g3, .int .u32 (g4 : Nat)] 47); have hTB := hC.keep _ _ _ _ hT8 (below_alloc w8 (.cells #[.string gk, .bool gd, .bool gf, .slice ga gn gc, .int .i64 g1, .int .i64 g2, .int .i64 g3, .int .u32 (g4 : Nat)] 47)); have hiC := hiB.below (below_alloc w8 (.cells #[.string gk, .bool gd, .bool gf, .slice ga gn gc, .int .i64 g1, .int .i64 g2, .int .i64 g3, .int .u32 (g4 : Nat)] 47)) (Nat.le_refl _); have hi9 := hi8.below hbB (Nat.le_refl _); have kz := cell_new w8 #[.string gk, .bool gd, .bool gf, .slice ga gn gc, .int .i64 g1, .int .i64 g2, .int .i64 g3, .int .u32 (g4 : Nat)] 47 0))
          | (go_at_call 17; go_must (refine (hone _ _ _ hiC hi9).mono ?_; rintro e w9 ⟨rfl, b9⟩; have hb9 := hbB.trans (b9.mono hbB.size); have cw9 := cB.trans (b9.mono cB.size); have hT9 := hC.keep _ _ _ _ hTB b9; have kz9 := (b9.cell (p := ⟨w8.heap.size, 0, none⟩) (by simp)).trans kz; obtain ⟨e0, e1, e2⟩ := HX.out w9 cw9)))
        have hT9d := hC.keep _ _ _ _ hT9 (Below.refl w9.heap.size w9).drew
        clear z0 z1 z2 x0 x1 x2 u0 m0 u1 m1 u2 m2 u3 m3 u4 m4 u5 m5 u6 m6 u7 m7
        go_region_held3 (fun w' => w'.cell? ⟨w.heap.size, 0, none⟩ = some (.string lo) ∧ w'.cell? ⟨w.heap.size, 1, none⟩ = some (.string hi) ∧ w'.cell? ⟨w.heap.size, 2, none⟩ = some (.int .i64 most)) (first | go_keep | (refine ⟨?_, ?_, ?_⟩ <;> assumption))
          (first
            | (go_at_call 21; refine (hsc _ hT9d).mono ?_; rintro e w10 ⟨a10, c10, h10, rfl, i10, b10d⟩; have b10 := below_of_drew b10d; have hb10 := hb9.trans (b10.mono hb9.size); have cw10 := cw9.trans (b10.mono cw9.size); obtain ⟨q0, q1, q2⟩ := HX.out w10 cw10)
            | (go_at_call 22; refine (hrs _ hb10).mono ?_; rintro e w11 ⟨a11, c11, h11, rfl, l11, n11, t11, i11, b11⟩; have hb11 := hb10.trans (b11.mono hb10.size); have cw11 := cw10.trans (b11.mono cw10.size); have i1011 := i10.1.1.below b11 (Nat.le_refl _); obtain ⟨r0, r1, r2⟩ := HX.out w11 cw11)
            | (go_at_call 20; refine (hsa _ _ _ _ _ _ _ _ _ i1011 i10.1.2 t11 i11 b11 hb11).mono ?_; rintro e w12 ⟨rfl, b12⟩; have hb12 := hb11.trans (b12.mono hb11.size); have cw12 := cw11.trans (b12.mono cw11.size); obtain ⟨s0, s1, s2⟩ := HX.out w12 cw12)
            | (go_at_call 8; refine (hA _).mono ?_; rintro e w13 ⟨rfl, b13⟩; have hb13 := hb12.trans (b13.mono hb12.size); have cw13 := cw12.trans (b13.mono cw12.size); obtain ⟨v0, v1, v2⟩ := HX.out w13 cw13))
        go_wp2
        go_ret
        exact ⟨rfl, hb13⟩
end Go.Proofs.Ytikieblokfjphaa
