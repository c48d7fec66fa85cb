/- A disk that was made here; the chapter's example is told. -/
import Derived.Test.YtefadkengfjdmaaDKQ
namespace Go.Proofs.Ytefadkengfjdmaa
open Go.RowKit Go.Shelf

/-- the blocks from B on, as far as they are there -/
def From (B : Nat) (w : World) (k : Nat) : Prop := B ≤ k ∧ k < w.heap.size
theorem DK.from {w : World} {p B : Nat} {D : Dk.D} {S : Nat → Prop} (h : DK w p D S) (hS : ∀ k, S k → B ≤ k) : DK w p D (From B w) := by
  obtain ⟨hO, fm, nm, sm, tv, J, hP, hF⟩ := h
  exact ⟨hO, fm, nm, sm, tv, J, hP, fun k hk => ⟨hS k (hF k hk), hP.lt hk⟩⟩
/-- a disk that was made since w0 -/
structure Here (w0 w : World) (p : Nat) (D : Dk.D) : Prop where
  dk : DK w p D (From w0.heap.size w)
  below : Below w0.heap.size w0 w
theorem Here.keep {w0 w w' : World} {p : Nat} {D : Dk.D} (h : Here w0 w p D) (hb : Below w.heap.size w w') : Here w0 w' p D :=
  ⟨h.dk.keep (fun k hk _ => hb.block k hk) (fun _ hk hf => ⟨hf.1, Nat.lt_of_lt_of_le hk hb.size⟩), h.below.trans (hb.mono h.below.size)⟩
theorem Here.step {w0 w w1 w' : World} {p : Nat} {D D' : Dk.D} (h : Here w0 w p D) (hb : Below w.heap.size w w1) (h1 : DK w' p D' (grow1 (From w0.heap.size w) w1)) (h2 : OnlyIn (From w0.heap.size w) w1 w') : Here w0 w' p D' := by
  have h3 := h.below.size
  have h4 := hb.size
  exact ⟨h1.from fun k hk => by rcases hk with hk | hk; exact hk.1; omega, (h.below.trans (hb.mono h.below.size)).trans (h2.below (by omega) fun k hk => hk.1)⟩
theorem Here.put {w0 w w1 : World} {p : Nat} {D : Dk.D} (h : Here w0 w p D) (hb : Below w.heap.size w w1) : DK w1 p D (From w0.heap.size w) := h.dk.keep (fun k hk _ => hb.block k hk) (fun _ _ hf => hf)
theorem here_append_in {w0 w w1 : World} {p b q : Nat} {D : Dk.D} (h : Here w0 w p D) (hw : Below w.heap.size w w1) (hs : Dk.Small D b q) (hb : b ≤ 100000) (s : ByteArray) (ax : Option Addr) (m c : Nat) (bs : List Nat)
    (hrow : Row .u8 w1 ax m bs) (hnil : ax = none → m = 0 ∧ c = 0) (hax : ∀ b o, ax = some ⟨b, o, none⟩ → ¬ From w0.heap.size w b ∧ b < w1.heap.size) :
    Calls Try.prog 10 #[.pointer (some ⟨p, 0, none⟩), .string s, .slice ax m c] w1 fun e w' => e = .returned (.int .i64 (Dk.append D s bs).2) ∧ Here w0 w' p (Dk.append D s bs).1 ∧ OnlyIn (From w0.heap.size w) w1 w' := by
  have h1 := hs.turns; have h2 := hs.last; have h3 := hs.names
  refine (appendD_any (h.put hw) (fun k hk => Nat.lt_of_lt_of_le hk.2 hw.size) s ax m c bs (by omega) (by omega) (by omega) hrow hnil hax).mono ?_
  rintro e w' ⟨he, hD, ho⟩
  exact ⟨he, h.step hw hD ho, ho⟩
theorem here_append {w0 w w1 : World} {p b q : Nat} {D : Dk.D} (h : Here w0 w p D) (hw : Below w.heap.size w w1) (hs : Dk.Small D b q) (hb : b ≤ 100000) (s : ByteArray) (ax : Option Addr) (m c : Nat) (bs : List Nat)
    (hrow : Row .u8 w1 ax m bs) (hnil : ax = none → m = 0 ∧ c = 0) (hax : ∀ b o, ax = some ⟨b, o, none⟩ → ¬ From w0.heap.size w b ∧ b < w1.heap.size) :
    Calls Try.prog 10 #[.pointer (some ⟨p, 0, none⟩), .string s, .slice ax m c] w1 fun e w' => e = .returned (.int .i64 (Dk.append D s bs).2) ∧ Here w0 w' p (Dk.append D s bs).1 :=
  (here_append_in h hw hs hb s ax m c bs hrow hnil hax).mono fun _ _ h => ⟨h.1, h.2.1⟩
theorem here_crash {w0 w w1 : World} {p b q : Nat} {D : Dk.D} (h : Here w0 w p D) (hw : Below w.heap.size w w1) (hs : Dk.Small D b q) (hb : b ≤ 100000) (kn : Int) (ta : Option Addr) (tn tc : Nat) (zs : List Int) (hz : ZIn w1 ta tn tc zs) (hts : ∀ b o, ta = some ⟨b, o, none⟩ → w0.heap.size ≤ b → tn = 0) :
    Calls Try.prog 13 #[.pointer (some ⟨p, 0, none⟩), .agg #[.int .i64 kn, .slice ta tn tc]] w1 fun e w' => e = .returned (.tuple #[]) ∧ Here w0 w' p (Dk.crash D kn zs) := by
  have h1 := hs.turns
  refine (crash_any (h.put hw) (fun k hk => Nat.lt_of_lt_of_le hk.2 hw.size) kn ta tn tc zs hz (fun b o e hs => hts b o e (by have h5 := h.below.size; have h6 := hw.size; rcases hs with hs | hs; exact hs.1; omega)) (by omega) (by omega)).mono ?_
  rintro e w' ⟨he, hD, ho⟩
  exact ⟨he, h.step hw hD ho⟩
theorem here_cut {w0 w w1 : World} {p : Nat} {D : Dk.D} (h : Here w0 w p D) (hw : Below w.heap.size w w1) (s : ByteArray) (n : Int) (hn : -9223372036854775808 ≤ n ∧ n ≤ 9223372036854775807) :
    Calls Try.prog 15 #[.pointer (some ⟨p, 0, none⟩), .string s, .int .i64 n] w1 fun e w' => e = .returned (.int .i64 (Dk.cut D s n).2) ∧ Here w0 w' p (Dk.cut D s n).1 := by
  refine (cutD_any (h.put hw) s n hn).mono ?_
  rintro e w' ⟨he, hD, ho⟩
  exact ⟨he, h.step hw hD ho⟩
theorem here_sync {w0 w w1 : World} {p : Nat} {D : Dk.D} (h : Here w0 w p D) (hw : Below w.heap.size w w1) (s : ByteArray) :
    Calls Try.prog 11 #[.pointer (some ⟨p, 0, none⟩), .string s] w1 fun e w' => e = .returned (.int .i64 (Dk.sync D s).2) ∧ Here w0 w' p (Dk.sync D s).1 := by
  refine (syncD_any (h.put hw) s).mono ?_
  rintro e w' ⟨he, hD, ho⟩
  exact ⟨he, h.step hw hD ho⟩
theorem here_syncNames {w0 w w1 : World} {p b q : Nat} {D : Dk.D} (h : Here w0 w p D) (hw : Below w.heap.size w w1) (hs : Dk.Small D b q) (hb : b ≤ 100000) :
    Calls Try.prog 12 #[.pointer (some ⟨p, 0, none⟩)] w1 fun e w' => e = .returned (.int .i64 (Dk.syncNames D).2) ∧ Here w0 w' p (Dk.syncNames D).1 := by
  have h1 := hs.turns
  refine (syncNamesD_any (h.put hw) (by omega)).mono ?_
  rintro e w' ⟨he, hD, ho⟩
  exact ⟨he, h.step hw hD ho⟩
theorem here_rename {w0 w w1 : World} {p b q : Nat} {D : Dk.D} (h : Here w0 w p D) (hw : Below w.heap.size w w1) (hs : Dk.Small D b q) (hb : b ≤ 100000) (old fresh : ByteArray) :
    Calls Try.prog 16 #[.pointer (some ⟨p, 0, none⟩), .string old, .string fresh] w1 fun e w' => e = .returned (.int .i64 (Dk.rename D old fresh).2) ∧ Here w0 w' p (Dk.rename D old fresh).1 := by
  have h1 := hs.turns
  refine (renameD_any (h.put hw) old fresh (by omega)).mono ?_
  rintro e w' ⟨he, hD, ho⟩
  exact ⟨he, h.step hw hD ho⟩
theorem here_remove {w0 w w1 : World} {p b q : Nat} {D : Dk.D} (h : Here w0 w p D) (hw : Below w.heap.size w w1) (hs : Dk.Small D b q) (hb : b ≤ 100000) (s : ByteArray) :
    Calls Try.prog 17 #[.pointer (some ⟨p, 0, none⟩), .string s] w1 fun e w' => e = .returned (.int .i64 (Dk.remove D s).2) ∧ Here w0 w' p (Dk.remove D s).1 := by
  have h1 := hs.turns
  refine (removeD_any (h.put hw) s (by omega)).mono ?_
  rintro e w' ⟨he, hD, ho⟩
  exact ⟨he, h.step hw hD ho⟩
theorem here_stop {w0 w w1 : World} {p : Nat} {D : Dk.D} (h : Here w0 w p D) (hw : Below w.heap.size w w1) (n : Int) (hn : -9223372036854775808 ≤ n ∧ n ≤ 9223372036854775807) :
    Calls Try.prog 18 #[.pointer (some ⟨p, 0, none⟩), .int .i64 n] w1 fun e w' => e = .returned (.tuple #[]) ∧ Here w0 w' p (Dk.stopped D n) := by
  refine (stop_any (h.put hw) n hn).mono ?_
  rintro e w' ⟨he, hD, ho⟩
  exact ⟨he, h.step hw (hD.keep (fun _ _ _ => rfl) fun _ _ h => .inl h) ho⟩
theorem here_fault {w0 w w1 : World} {p : Nat} {D : Dk.D} (h : Here w0 w p D) (hw : Below w.heap.size w w1) (n : Int) (hn : -9223372036854775808 ≤ n ∧ n ≤ 9223372036854775807) :
    Calls Try.prog 19 #[.pointer (some ⟨p, 0, none⟩), .int .i64 n] w1 fun e w' => e = .returned (.tuple #[]) ∧ Here w0 w' p { D with fault := n } := by
  refine (fault_any (h.put hw) n hn).mono ?_
  rintro e w' ⟨he, hD, ho⟩
  exact ⟨he, h.step hw (hD.keep (fun _ _ _ => rfl) fun _ _ h => .inl h) ho⟩
theorem here_size {w0 w : World} {p : Nat} {D : Dk.D} (h : Here w0 w p D) (s : ByteArray) :
    Calls Try.prog 14 #[.pointer (some ⟨p, 0, none⟩), .string s] w fun e w' => e = .returned (.tuple #[.int .i64 (match Dk.find D s with | some x => (x.2.bs.length : Int) | none => 0), .bool (Dk.find D s).isSome]) ∧ Here w0 w' p D := by
  refine (size_any h.dk s).mono ?_
  rintro e w' ⟨he, hb⟩
  exact ⟨he, h.keep hb⟩
theorem here_used {w0 w : World} {p : Nat} {D : Dk.D} (h : Here w0 w p D) :
    Calls Try.prog 8 #[.pointer (some ⟨p, 0, none⟩)] w fun e w' => e = .returned (.int .i64 (Dk.sum D.files : Int)) ∧ Here w0 w' p D := by
  obtain ⟨hO, fm, nm, sm, tv, J, hP, hS⟩ := id h.dk
  refine (used_any hP).mono ?_
  rintro e w' ⟨he, rfl⟩
  exact ⟨he, h⟩
theorem here_room {w0 w : World} {p : Nat} {D : Dk.D} (h : Here w0 w p D) :
    Calls Try.prog 9 #[.pointer (some ⟨p, 0, none⟩)] w fun e w' => e = .returned (.int .i64 ((D.quota : Int) - (Dk.sum D.files : Int))) ∧ Here w0 w' p D := by
  obtain ⟨hO, fm, nm, sm, tv, J, hP, hS⟩ := id h.dk
  refine (room_any hP hO.use hO.q).mono ?_
  rintro e w' ⟨he, n, rfl⟩
  exact ⟨he, h.keep (below_drewN _ _ _)⟩
theorem here_new (q : Nat) (w : World) (hq : q ≤ 4194304) :
    Calls Try.prog 6 #[.int .i64 (q : Int)] w fun e w' => ∃ p, e = .returned (.tuple #[.pointer (some ⟨p, 0, none⟩), .int .i64 0]) ∧ Here w w' p (Dk.new q) := by
  refine (new_any q w hq).mono ?_
  rintro e w' ⟨p, he, hD, hb⟩
  exact ⟨p, he, hD.from fun k hk => hk, hb⟩

def e0 : Dk.D := Dk.new 100
def e1 : Dk.D := ⟨100, [(1, ⟨[1, 2], 0⟩)], 1, [(sa, 1)], [], [⟨⟨#[]⟩, sa, 1⟩], 0, 0, false⟩
def e2 : Dk.D := ⟨100, [(1, ⟨[1, 2], 2⟩)], 1, [(sa, 1)], [], [⟨⟨#[]⟩, sa, 1⟩], 0, 0, false⟩
def e3 : Dk.D := ⟨100, [(1, ⟨[1, 2], 2⟩)], 1, [(sa, 1)], [(sa, 1)], [], 0, 0, false⟩
def e4 : Dk.D := ⟨100, [(1, ⟨[1, 2, 3], 2⟩)], 1, [(sa, 1)], [(sa, 1)], [], 0, 0, false⟩
theorem e0s : Dk.Small e0 100 100 := ⟨by decide, by decide, by decide, rfl⟩
theorem e1s : Dk.Small e1 100 100 := ⟨by decide, by decide, by decide, rfl⟩
theorem e2s : Dk.Small e2 100 100 := ⟨by decide, by decide, by decide, rfl⟩
theorem e3s : Dk.Small e3 100 100 := ⟨by decide, by decide, by decide, rfl⟩
theorem e4s : Dk.Small e4 100 100 := ⟨by decide, by decide, by decide, rfl⟩
theorem aw1 {w0 w : World} {p : Nat} (h : Here w0 w p e0) : Calls Try.prog 10 #[.pointer (some ⟨p, 0, none⟩), .string { data := #[97] }, .slice (some ⟨w.heap.size, 0, none⟩) 2 2] (w.alloc (.cells #[.int .u8 1, .int .u8 2] 5)) fun e w' => e = .returned (.int .i64 0) ∧ Here w0 w' p e1 := by
  refine (here_append h (below_alloc w _) e0s (by decide) sa (some ⟨w.heap.size, 0, none⟩) 2 2 [1, 2] (row_lit .u8 w _ _ [1, 2] 2 (by rfl) rfl (by decide) (by decide)) (fun e => by cases e) (fun b o e => by cases e; exact ⟨fun h => Nat.lt_irrefl _ h.2, by simp⟩)).mono ?_
  rintro e w' ⟨he, hH⟩
  exact ⟨he, (show _ = e1 from ex1) ▸ hH⟩
theorem aw2 {w0 w : World} {p : Nat} (h : Here w0 w p e1) : Calls Try.prog 11 #[.pointer (some ⟨p, 0, none⟩), .string { data := #[97] }] w fun e w' => e = .returned (.int .i64 0) ∧ Here w0 w' p e2 := by
  refine (here_sync h (Below.refl _ _) sa).mono ?_
  rintro e w' ⟨he, hH⟩
  exact ⟨he, (show _ = e2 from ex2) ▸ hH⟩
theorem aw3 {w0 w : World} {p : Nat} (h : Here w0 w p e2) : Calls Try.prog 12 #[.pointer (some ⟨p, 0, none⟩)] w fun e w' => e = .returned (.int .i64 0) ∧ Here w0 w' p e3 := by
  refine (here_syncNames h (Below.refl _ _) e2s (by decide)).mono ?_
  rintro e w' ⟨he, hH⟩
  exact ⟨he, (show _ = e3 from ex3) ▸ hH⟩
theorem aw4 {w0 w : World} {p : Nat} (h : Here w0 w p e3) : Calls Try.prog 10 #[.pointer (some ⟨p, 0, none⟩), .string { data := #[97] }, .slice (some ⟨w.heap.size, 0, none⟩) 1 1] (w.alloc (.cells #[.int .u8 3] 5)) fun e w' => e = .returned (.int .i64 0) ∧ Here w0 w' p e4 := by
  refine (here_append h (below_alloc w _) e3s (by decide) sa (some ⟨w.heap.size, 0, none⟩) 1 1 [3] (row_lit .u8 w _ _ [3] 1 (by rfl) rfl (by decide) (by decide)) (fun e => by cases e) (fun b o e => by cases e; exact ⟨fun h => Nat.lt_irrefl _ h.2, by simp⟩)).mono ?_
  rintro e w' ⟨he, hH⟩
  exact ⟨he, (show _ = e4 from ex4) ▸ hH⟩
theorem aw5 {w0 w : World} {p : Nat} (h : Here w0 w p e4) : Calls Try.prog 13 #[.pointer (some ⟨p, 0, none⟩), .agg #[.int .i64 0, .slice none 0 0]] w fun e w' => e = .returned (.tuple #[]) ∧ Here w0 w' p e3 := by
  refine (here_crash h (Below.refl _ _) e4s (by decide) 0 none 0 0 [] ⟨⟨rfl, by omega, .inl rfl⟩, (fun _ => ⟨rfl, rfl⟩), Nat.le_refl _⟩ (fun b o e => by cases e)).mono ?_
  rintro e w' ⟨he, hH⟩
  exact ⟨he, (show _ = e3 from ex5) ▸ hH⟩
theorem aw6 {w0 w : World} {p : Nat} (h : Here w0 w p e3) : Calls Try.prog 14 #[.pointer (some ⟨p, 0, none⟩), .string { data := #[97] }] w fun e w' => e = .returned (.tuple #[.int .i64 2, .bool true]) ∧ Here w0 w' p e3 := by
  refine (here_size h sa).mono ?_
  rintro e w' ⟨he, hH⟩
  exact ⟨he, hH⟩
theorem aw7 {w0 w : World} {p : Nat} (h : Here w0 w p e3) : Calls Try.prog 8 #[.pointer (some ⟨p, 0, none⟩)] w fun e w' => e = .returned (.int .i64 2) ∧ Here w0 w' p e3 := by
  refine (here_used h).mono ?_
  rintro e w' ⟨he, hH⟩
  exact ⟨he, hH⟩

set_option maxRecDepth 100000 in
set_option maxHeartbeats 4000000 in
theorem diskawake_any (w : World) : Calls Try.prog 5 #[] w fun e w' => e = .returned (.bool true) ∧ Below w.heap.size w w' := by
  have hnew := here_new 100 w (by decide)
  go_enter Try.func5, Try.ntmps5
  go_wp2_with (first
    | (go_at_call 6; go_must (refine hnew.mono ?_; rintro e w1 ⟨p, rfl, hD1⟩))
    | (go_at_call 10; go_must (first | (have hz := hD4; refine (aw4 hz).mono ?_; rintro e w5 ⟨rfl, hD5⟩) | (refine (aw1 hD1).mono ?_; rintro e w2 ⟨rfl, hD2⟩)))
    | (go_at_call 11; go_must (refine (aw2 hD2).mono ?_; rintro e w3 ⟨rfl, hD3⟩))
    | (go_at_call 12; go_must (refine (aw3 hD3).mono ?_; rintro e w4 ⟨rfl, hD4⟩))
    | (go_at_call 13; go_must (refine (aw5 hD5).mono ?_; rintro e w6 ⟨rfl, hD6⟩))
    | (go_at_call 14; go_must (refine (aw6 hD6).mono ?_; rintro e w7 ⟨rfl, hD7⟩))
    | (go_at_call 8; go_must (refine (aw7 hD7).mono ?_; rintro e w8 ⟨rfl, hD8⟩)))
  all_goals go_ret
  all_goals exact ⟨rfl, hD8.below⟩
end Go.Proofs.Ytefadkengfjdmaa
