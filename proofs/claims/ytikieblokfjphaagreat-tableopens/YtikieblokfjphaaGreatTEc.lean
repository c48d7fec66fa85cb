/- What is asked of the program's own tables; awake, like. -/
import Derived.Test.YtikieblokfjphaaGreatTEb
import Derived.Test.YtikieblokfjphaaGreatTR6
import Derived.Test.YtikieblokfjphaaGreatTEa
import Derived.Deep.RegionHeld3
namespace Go.Proofs.YtikieblokfjphaaGreat
open Go.RowKit

namespace Tb
def makeR (xs : List It.I) (z : Int) : Nat × List Nat := if xs.length = 0 ∨ z < 1 ∨ 65536 < z ∨ It.sorted xs = false then (1, []) else (0, put (parted xs z))
def err (L : List It.I) : Nat := if L = [] then 2 else 0
def lastKey (L : List It.I) : List Nat := (L.getD (L.length - 1) It.zero).1
end Tb
/-- bytes are told, with a code -/
def TMRes (w : World) (R : Nat × List Nat) (e : Ending) (w' : World) : Prop :=
  ∃ a c, e = .returned (.tuple #[.slice a R.2.length c, .int .i64 (R.1 : Nat)]) ∧ Row .u8 w' a R.2.length R.2 ∧ (a = none → R.2.length = 0 ∧ c = 0) ∧ R.2.length ≤ c ∧ Shape a R.2.length c ∧ Below w.heap.size w w'
/-- whether a key may be there -/
def TMayRes (w : World) (L : List It.I) (k : List Nat) (e : Ending) (w' : World) : Prop := ∃ r : Bool, e = .returned (.bool r) ∧ ((∃ x ∈ L, x.1 = k) → r = true) ∧ Below w.heap.size w w'
/-- what is asked of the program, without what looks for keys; T: a table with these items lies there -/
structure TableO (T : World → Addr → List It.I → Prop) : Prop where
  keep : ∀ (w w' : World) (p : Addr) (L : List It.I), T w p L → Below w.heap.size w w' → T w' p L
  make : ∀ (a : Option Addr) (n c : Nat) (gs : List IH) (xs : List It.I) (z : Int) (w : World), Fine gs n → InI w a n c gs xs → -9223372036854775808 ≤ z → z ≤ 9223372036854775807 → Calls Tryz.prog 8 #[.slice a n c, .int .i64 z] w (TMRes w (Tb.makeR xs z))
  no : ∀ (a : Option Addr) (n c : Nat) (bs : List Nat) (w : World), n ≤ 100000 → n ≤ c → (a = none → n = 0 ∧ c = 0) → Shape a n c → Row .u8 w a n bs → Tb.get bs = [] → Calls Tryz.prog 5 #[.slice a n c] w fun e w' => e = .returned (.tuple #[.pointer none, .int .i64 2]) ∧ Below w.heap.size w w'
  yes : ∀ (a : Option Addr) (n c : Nat) (bs : List Nat) (w : World), n ≤ 100000 → n ≤ c → (a = none → n = 0 ∧ c = 0) → Shape a n c → Row .u8 w a n bs → Tb.get bs ≠ [] → Calls Tryz.prog 5 #[.slice a n c] w fun e w' => ∃ p, e = .returned (.tuple #[.pointer (some p), .int .i64 0]) ∧ T w' p (Tb.get bs) ∧ Below w.heap.size w w'
  all : ∀ (p : Addr) (L : List It.I) (w : World), T w p L → Calls Tryz.prog 23 #[.pointer (some p)] w (TGetRes w L)
  len : ∀ (p : Addr) (L : List It.I) (w : World), T w p L → Calls Tryz.prog 10 #[.pointer (some p)] w fun e w' => e = .returned (.int .i64 (L.length : Nat)) ∧ Below w.heap.size w w'
  ends : ∀ (p : Addr) (L : List It.I) (w : World), T w p L → L ≠ [] → Calls Tryz.prog 21 #[.pointer (some p)] w fun e w' => ∃ s t : ByteArray, e = .returned (.tuple #[.string s, .string t]) ∧ Hid (kb s = Tb.firstKey L) ∧ Hid (kb t = Tb.lastKey L) ∧ Below w.heap.size w w'

theorem tb_few {l : List It.I} {z : Int} (hs : It.sorted l = true) (hsm : ∀ x ∈ l, Bl.Small x) (h1 : 1 ≤ l.length) (h2 : l.length ≤ 100) :
    Fr.scan (Tb.put (Tb.parted l z)) = (Tb.frames (Tb.parted l z), Fr.places (Tb.frames (Tb.parted l z)) 0, (Tb.put (Tb.parted l z)).length) ∧ Tb.get (Tb.put (Tb.parted l z)) = l ∧ (Tb.put (Tb.parted l z)).length ≤ 100000 ∧ (∀ y ∈ Tb.put (Tb.parted l z), y < 256) := by
  have hj := Tb.parted_join l z
  have hc := Tb.pgo_count z l []
  have hpp : ∀ p ∈ Tb.parted l z, p ≠ [] ∧ p.length ≤ 256 := fun q hq => ⟨(Tb.parted_part q hq).1, Nat.le_trans (Tb.parted_part q hq).2 (by omega)⟩
  have hg : Fr.Good (Tb.frames (Tb.parted l z)) := Tb.good_few (by rw [hj]; exact hs) (by rw [hj]; exact hsm) hpp (by unfold Tb.parted; omega) (by rw [hj]; omega)
  refine ⟨Fr.scan_all hg, Tb.get_made hs hsm h1 (by omega), ?_, Fr.all_small hg⟩
  have hmay := ((It.sorted_iff _).mp hs).1
  have hpl : ∀ (ps : List (List It.I)), (∀ p ∈ ps, ∀ x ∈ p, It.may x = true) → (∀ p ∈ ps, p.length ≤ 256) → (Fr.all (ps.map Tb.frame)).length ≤ 20 * ps.length + 130 * ps.flatten.length := by
    intro ps
    induction ps with
    | nil => intro _ _; simp [Fr.all]
    | cons p ps ih =>
      intro h1 h2
      have i1 := ih (fun q hq => h1 q (by simp [hq])) (fun q hq => h2 q (by simp [hq]))
      have i2 := Bl.putGo_len (l := p) (last := []) (h1 p (by simp))
      have i3 := h2 p (by simp)
      have i4 := Va.one_len10 (u := p.length) (by omega)
      have i5 : (Bl.put p).length = (Va.one p.length).length + (Bl.putGo [] p).length := by unfold Bl.put; rw [List.length_append]
      have i6 := Fr.size_le (n := (Tb.frame p).2.length) (by show (Bl.put p).length ≤ _; omega)
      have i7 : (Tb.frame p).2.length = (Bl.put p).length := rfl
      rw [List.map_cons, Fr.all_len_cons, List.flatten_cons, List.length_append, List.length_cons]
      omega
  have q1 := hpl (Tb.parted l z) (fun p hp x hx => hmay x (by rw [← hj]; exact (Tb.part_sub hp).mem hx)) (fun p hp => (hpp p hp).2)
  have q2 : (Tb.parted l z).flatten.length = l.length := congrArg List.length hj
  have q3 : (Tb.parted l z).length ≤ l.length := hc
  have q4 := Tb.ix_len (Tb.parted l z) 0 (fun p hp => (Bl.it_parts (hmay _ (by rw [← hj]; exact (Tb.part_sub hp).mem (Tb.first_mem (hpp p hp).1)))).2.1) (by omega)
  have q5 := Va.one_len10 (u := (Tb.joined (Tb.parted l z)).length) (by rw [hj]; omega)
  have q6 : (Sv.of ((Tb.joined (Tb.parted l z)).map (fun x => x.1))).length ≤ 200 := by rw [Sv.of_length, List.length_map, hj]; unfold Sv.size; omega
  have g1 := Fr.size_le (n := (Tb.ix 0 (Tb.parted l z)).length) (by omega)
  have g2 := Fr.size_le (n := (Sv.of ((Tb.joined (Tb.parted l z)).map (fun x => x.1))).length) (by omega)
  have g3 := Fr.size_le (n := (Va.one (Tb.joined (Tb.parted l z)).length).length) (by omega)
  unfold Tb.put Tb.frames
  rw [Fr.all_append, List.length_append]
  unfold Tb.tail
  rw [Fr.all_len_cons, Fr.all_len_cons, Fr.all_len_cons, show (Fr.all []).length = 0 from rfl]
  simp only
  omega

theorem lit_one (w : World) {g : Nat} (hg : w.heap.size = g) : InI (w.alloc (.cells #[.string ⟨#[97]⟩, .bool true, .bool false, .slice none 0 0, .int .i64 0, .int .i64 0, .int .i64 0, .int .u32 0] 40)) (some ⟨g, 0, none⟩) 1 1 [⟨⟨#[97]⟩, true, false, none, 0, 0, Po.zero⟩] [itA] := by
  refine ⟨⟨lit_item w ⟨⟨#[97]⟩, true, false, none, 0, 0, Po.zero⟩ hg, ⟨rfl, fun i hi => ?_⟩⟩, (fun h => by cases h), Nat.le_refl _⟩
  match i, hi with
  | 0, _ => exact item_a _
theorem itA_small : ∀ x ∈ [itA], Bl.Small x := by
  intro x hx
  rw [List.mem_singleton.mp hx]
  refine ⟨?_, ?_, ?_⟩ <;> decide

set_option maxRecDepth 100000 in
set_option maxHeartbeats 2000000 in
theorem tbawake {T : World → Addr → List It.I → Prop} (hC : TableO T) (w : World) : Calls Tryz.prog 4 #[] w fun e w' => e = .returned (.bool true) ∧ Below w.heap.size w w' := by
  have hb0 := below_alloc w (.cells #[.string ⟨#[97]⟩, .bool true, .bool false, .slice none 0 0, .int .i64 0, .int .i64 0, .int .i64 0, .int .u32 0] 40)
  have hs : It.sorted [itA] = true := by decide
  obtain ⟨f1, f2, f3, f4⟩ := tb_few (l := [itA]) (z := 100) hs itA_small (by decide) (by decide)
  have hmk := hC.make _ 1 1 _ _ 100 _ ⟨by omega, fun i hi => by match i, hi with | 0, _ => decide⟩ (lit_one w rfl) (by omega) (by omega)
  have e1 : Tb.makeR [itA] 100 = (0, Tb.put (Tb.parted [itA] 100)) := by unfold Tb.makeR; rw [if_neg]; rw [hs]; simp
  rw [e1] at hmk
  have e2 : (Tb.frames (Tb.parted [itA] 100)).length = 4 := by
    have : Tb.parted [itA] 100 = [[itA]] := by
      have := Tb.parted_join [itA] 100
      unfold Tb.parted Tb.pgo
      rw [if_pos (.inr (.inr rfl))]
      rfl
    rw [this]; rfl
  unfold TMRes at hmk
  simp only at hmk
  have hsc := fun (W : World) A C (h : Shape A (Tb.put (Tb.parted [itA] 100)).length C) (hr : Row .u8 W A (Tb.put (Tb.parted [itA] 100)).length (Tb.put (Tb.parted [itA] 100))) => refscan_any A _ C _ W f3 h hr
  rw [f1] at hsc
  unfold ScanRes at hsc
  simp only [e2] at hsc
  have hop := fun (W : World) A C (h1 : (Tb.put (Tb.parted [itA] 100)).length ≤ C) h2 (h3 : Shape A (Tb.put (Tb.parted [itA] 100)).length C) (hr : Row .u8 W A (Tb.put (Tb.parted [itA] 100)).length (Tb.put (Tb.parted [itA] 100))) => hC.yes A _ C _ W f3 h1 h2 h3 hr (by rw [f2]; simp)
  rw [f2] at hop
  have hln := fun W p (h : T W p [itA]) => hC.len p [itA] W h
  simp only [List.length_singleton] at hln
  generalize Tb.put (Tb.parted [itA] 100) = PT at *
  clear f1 f2 f4 e1 e2 hs
  go_enter Tryz.func4, Tryz.ntmps4
  go_wp2_with (first
    | (go_at_call 8; go_must (refine hmk.mono ?_; rintro e w1 ⟨a1, c1, rfl, r1, z1, l1, s1, b1⟩; have hb1 := hb0.trans (b1.mono hb0.size)))
    | (go_at_call 9; go_must (refine (hsc _ _ _ s1 r1).mono ?_; rintro e w2 ⟨a2, c2, a3, c3, cs, rfl, o2, h2, o3, h3, b2⟩; have hb2 := hb1.trans (b2.mono hb1.size)))
    | (go_at_call 5; go_must (refine (hop _ _ _ l1 z1 s1 (r1.below b2 (Nat.le_refl _))).mono ?_; rintro e w3 ⟨p, rfl, hT, b3⟩; have hb3 := hb2.trans (b3.mono hb2.size)))
    | (go_at_call 10; go_must (refine (hln _ _ hT).mono ?_; rintro e w4 ⟨rfl, b4⟩)))
  go_ret
  exact ⟨rfl, hb3.trans (b4.mono hb3.size)⟩
end Go.Proofs.YtikieblokfjphaaGreat

/- Whether a table has just these items; the laws TableMakes, TableOpens and TableParts, given what is asked of the program. -/
namespace Go.Proofs.YtikieblokfjphaaGreat
open Go.RowKit

theorem same_self13 (l : List It.I) : It.sameGo l l = true := (It.sameGo_iff l l).mpr rfl

set_option maxRecDepth 100000 in
set_option maxHeartbeats 2000000 in
theorem tblike {T : World → Addr → List It.I → Prop} (hC : TableO T) (p : Addr) (L : List It.I) (a : Option Addr) (n c : Nat) (gs : List IH) (w : World) (hT : T w p L) (hi : InI w a n c gs L) (hL : L ≠ []) (hn : n ≤ 1000000) :
    Calls Tryz.prog 7 #[.pointer (some p), .slice a n c] w fun e w' => e = .returned (.bool true) ∧ Below w.heap.size w w' := by
  have hln : L.length = n := hi.1.len
  have hpos : 0 < n := by rw [← hln]; exact List.length_pos_iff.mpr hL
  have hen := hC.ends p L w hT hL
  have hle := fun W (h : Below w.heap.size w W) => hC.len p L W (hC.keep w W p L hT h)
  have hal := fun W (h : Below w.heap.size w W) => hC.all p L W (hC.keep w W p L hT h)
  rw [hln] at hle
  unfold TGetRes at hal
  rw [hln] at hal
  have hsm := fun (w0 : World) (a' : Option Addr) (c' : Nat) (hs : List IH) W r1 i1 (b0 : Below w0.heap.size w0 W) (b1 : Below w.heap.size w W) => isame_any w0 w a' n c' hs L a n c gs L W r1 i1 (hi.1.1.below b1 (Nat.le_refl _)) hi.1.2 b0 b1
  simp only [same_self13] at hsm
  obtain ⟨b, off, rfl, hc⟩ := hi.1.at hpos
  obtain ⟨M, hM⟩ : ∃ M, M = n - 1 := ⟨_, rfl⟩
  have hy0 := fun W (h : Below w.heap.size w W) => ((hc 0 hpos).below h (Nat.le_refl _)).1
  have hyM := fun W (h : Below w.heap.size w W) => ((hc M (by omega)).below h (Nat.le_refl _)).1
  have k0 : kb (gs.getD 0 ihz).key = Tb.firstKey L := (hi.1.item hpos).key
  have kM : kb (gs.getD M ihz).key = Tb.lastKey L := by unfold Tb.lastKey; rw [hln, ← hM]; exact (hi.1.item (by omega)).key
  simp only [Nat.zero_mul, Nat.add_zero] at hy0
  generalize (gs.getD 0 ihz).key = K0 at *
  generalize (gs.getD M ihz).key = KM at *
  have H0 : Hid (kb K0 = Tb.firstKey L) := k0
  have HM : Hid (kb KM = Tb.lastKey L) := kM
  have jM : IntKind.i64.wrap ((n : Int) - 1) = (M : Int) := by rw [IntKind.wrap_i64]; omega
  have m0 : (0 : Int) ≤ (M : Int) := by omega
  have m1 : (M : Int) < (n : Int) := by omega
  have m2 : (0 : Int) < (n : Int) := by omega
  clear hi hc k0 kM hM hT hln
  go_enter Tryz.func7, Tryz.ntmps7
  go_wp2_with (first
    | (go_at_call 21; go_must (refine hen.mono ?_; rintro e w1 ⟨s, t, rfl, hs, ht, b1⟩; obtain rfl : K0 = s := kb_inj (H0.out.trans hs.out.symm); obtain rfl : KM = t := kb_inj (HM.out.trans ht.out.symm)))
    | (go_at_call 10; go_must (refine (hle _ b1).mono ?_; rintro e w2 ⟨rfl, b2⟩; have hb2 := b1.trans (b2.mono b1.size)))
    | (go_at_call 23; go_must (refine (hal _ hb2).mono ?_; rintro e w3 ⟨a3, c3, hs3, rfl, i3, b3⟩; have hb3 := hb2.trans (b3.mono hb2.size)))
    | (go_at_call 22; go_must (refine (hsm _ _ _ _ _ i3.1.1 i3.1.2 (Below.refl _ _) hb3).mono ?_; rintro e w4 ⟨rfl, b4⟩; have hb4 := hb3.trans (b4.mono hb3.size); have z0 := hy0 _ hb4; have zM := hyM _ hb4)))
  go_ret
  exact ⟨rfl, hb4⟩

set_option maxRecDepth 100000 in
set_option maxHeartbeats 2000000 in
theorem tbopens_long {T : World → Addr → List It.I → Prop} (hC : TableO T) (a : Option Addr) (n c : Nat) (w : World) (h : 3000 < n) :
    Calls Tryz.prog 3 #[.slice a n c] w fun e w' => e = .returned (.bool true) ∧ Below w.heap.size w w' := by
  have hA := fun W => tbawake hC W
  have d1 : decide ((3000 : Int) < (n : Int)) = true := by simp; omega
  go_enter Tryz.func3, Tryz.ntmps3
  go_wp2_with (go_at_call 4; go_must (refine (hA _).mono ?_; rintro e w1 ⟨rfl, b1⟩))
  go_ret
  exact ⟨rfl, b1⟩

set_option maxRecDepth 100000 in
set_option maxHeartbeats 2000000 in
theorem tbopens_any {T : World → Addr → List It.I → Prop} (hC : TableO T) (a : Option Addr) (n c : Nat) (bs : List Nat) (w : World) (h : n ≤ 3000) (hsh : Shape a n c) (hnil : a = none → n = 0 ∧ c = 0) (hr : Row .u8 w a n bs) :
    Calls Tryz.prog 3 #[.slice a n c] w fun e w' => e = .returned (.bool true) ∧ Below w.heap.size w w' := by
  have hA := fun W => tbawake hC W
  have d1 : decide ((3000 : Int) < (n : Int)) = false := by simp; omega
  have d1' : ¬ ((3000 : Int) < (n : Int)) := by omega
  have hb0 := below_alloc w (.cells #[] 5)
  have o0 := made_at w 5 w.heap.size rfl (Nat.le_refl _)
  have hsm := hr.2.2.1
  have hrf := fun W (h' : Below w.heap.size w W) => tget_any a n c bs W h hsh (hr.below h' (Nat.le_refl _))
  unfold TGetRes at hrf
  have hlen : Hid (bs.length = n) := hr.1
  by_cases hz : Tb.get bs = []
  · have hno := fun (W : World) a' c' (h2 : n ≤ c') h3 h4 (hr' : Row .u8 W a' n bs) => hC.no a' n c' bs W (by omega) h2 h3 h4 hr' hz
    rw [hz] at hrf
    simp only [List.length_nil] at hrf
    go_enter Tryz.func3, Tryz.ntmps3
    go_wp2_with (first
      | (at_builtin; go_must (refine append_u8 (w0 := w) (B := w.heap.size) rfl (.tmp 11) (.tmp 12) rfl _ 0 [] rfl o0 a n c bs rfl (hr.below hb0 (Nat.le_refl _)) hnil (by omega) hb0 (by simp) ?_; intro a1 c1 w1 o1 b1 _; rw [Nat.zero_add, List.nil_append] at o1; have r1 := row_of_owns o1 hsm (by omega); have s1 := own_shape2 o1))
      | (go_at_call 5; go_must (refine (hno _ _ _ r1.2.2 r1.2.1 s1.1 r1.1).mono ?_; rintro e w2 ⟨rfl, b2⟩; have hb2 := b1.trans (b2.mono b1.size)))
      | (go_at_call 6; go_must (refine (hrf _ hb2).mono ?_; rintro e w3 ⟨a3, c3, hs, rfl, i3, b3⟩; have hb3 := hb2.trans (b3.mono hb2.size)))
      | (go_at_call 4; go_must (refine (hA _).mono ?_; rintro e w4 ⟨rfl, b4⟩)))
    go_ret
    exact ⟨rfl, hb3.trans (b4.mono hb3.size)⟩
  · have hyes := fun (W : World) a' c' (h2 : n ≤ c') h3 h4 (hr' : Row .u8 W a' n bs) => hC.yes a' n c' bs W (by omega) h2 h3 h4 hr' hz
    have hlk := fun W p a' c' gs (h1 : T W p (Tb.get bs)) (h2 : InI W a' (Tb.get bs).length c' gs (Tb.get bs)) (h3 : (Tb.get bs).length ≤ 1000000) => tblike hC p (Tb.get bs) a' _ c' gs W h1 h2 hz h3
    have hgl : (Tb.get bs).length ≤ 1000000 := by
      unfold Tb.get
      split
      · simp
      · split
        · simp
        · omega
    have hpos : 0 < (Tb.get bs).length := List.length_pos_iff.mpr hz
    generalize Tb.get bs = L at *
    obtain ⟨N, hN⟩ : ∃ N, L.length = N := ⟨_, rfl⟩
    rw [hN] at hrf hlk hgl hpos
    have d2 : ((N : Int) == 0) = false := by simp; omega
    clear hN hz
    go_enter Tryz.func3, Tryz.ntmps3
    go_wp2_with (first
      | (at_builtin; go_must (refine append_u8 (w0 := w) (B := w.heap.size) rfl (.tmp 11) (.tmp 12) rfl _ 0 [] rfl o0 a n c bs rfl (hr.below hb0 (Nat.le_refl _)) hnil (by omega) hb0 (by simp) ?_; intro a1 c1 w1 o1 b1 _; rw [Nat.zero_add, List.nil_append] at o1; have r1 := row_of_owns o1 hsm (by omega); have s1 := own_shape2 o1))
      | (go_at_call 5; go_must (refine (hyes _ _ _ r1.2.2 r1.2.1 s1.1 r1.1).mono ?_; rintro e w2 ⟨p, rfl, hT, b2⟩; have hb2 := b1.trans (b2.mono b1.size)))
      | (go_at_call 6; go_must (refine (hrf _ hb2).mono ?_; rintro e w3 ⟨a3, c3, hs, rfl, i3, b3⟩; have hb3 := hb2.trans (b3.mono hb2.size); have hT3 := hC.keep _ _ _ _ hT b3))
      | (go_at_call 7; go_must (refine (hlk _ _ _ _ _ hT3 i3 hgl).mono ?_; rintro e w4 ⟨rfl, b4⟩; have hb4 := hb3.trans (b4.mono hb3.size)))
      | (go_at_call 4; go_must (refine (hA _).mono ?_; rintro e w5 ⟨rfl, b5⟩)))
    go_ret
    exact ⟨rfl, hb4.trans (b5.mono hb4.size)⟩
end Go.Proofs.YtikieblokfjphaaGreat

/- The laws TableMakes and TableParts, given what is asked of the program. -/
namespace Go.Proofs.YtikieblokfjphaaGreat
open Go.RowKit

theorem Tb.parted_may {l : List It.I} {z : Int} (hs : It.sorted l = true) : ∀ p ∈ Tb.parted l z, Bl.may p = true := fun p hp => by
  obtain ⟨h1, h2⟩ := Tb.parted_part p hp
  have hsub := Tb.part_sub hp
  rw [Tb.parted_join] at hsub
  have := It.sorted_sub hs hsub
  have hpos := List.length_pos_iff.mpr h1
  simp only [Bl.may, Bool.and_eq_true, decide_eq_true_eq]
  exact ⟨by omega, this⟩

end Go.Proofs.YtikieblokfjphaaGreat


/- The law TableReads, given what is asked of the program. -/
namespace Go.Proofs.YtikieblokfjphaaGreat
open Go.RowKit

theorem one_self13 (x : It.I) : It.one x x = true := (It.one_iff x x).mpr rfl

end Go.Proofs.YtikieblokfjphaaGreat
