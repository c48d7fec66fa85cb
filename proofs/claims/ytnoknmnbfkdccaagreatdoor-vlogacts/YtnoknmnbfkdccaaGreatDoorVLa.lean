/- Names of values' files; a disk, and what stays of all else when it turns. -/
import Derived.Test.YtnoknmnbfkdccaaGreatDoorNP1
import Derived.Test.YtnoknmnbfkdccaaGreatDoorDKF
import Derived.Test.YtnoknmnbfkdccaaGreatDoorDKD
namespace Go.Proofs.YtnoknmnbfkdccaaGreatDoor
open Go.RowKit Go.Shelf

/-- the name of a values' file; empty: there is none -/
def vname (s : Int) : ByteArray := ⟨((Na.of (3, s)).map UInt8.ofNat).toArray⟩
theorem vname_of (s : Int) (h : 1 ≤ s ∧ s ≤ 2147483647) : Na.of (3, s) = 118 :: Na.dig 10 s.toNat := Na.of_num ⟨by omega, by omega, h.1, h.2⟩
theorem vname_bad {s : Int} (h : ¬ (1 ≤ s ∧ s ≤ 2147483647)) : vname s = ⟨#[]⟩ := by
  have : Na.of (3, s) = [] := by
    unfold Na.of
    rw [if_neg (by simp), if_neg (by simp), if_neg (by omega)]
  unfold vname; rw [this]; rfl
theorem kb_vname (s : Int) : kb (vname s) = Na.of (3, s) := by
  have hs : ∀ x ∈ Na.of (3, s), x < 256 := by
    by_cases h : 1 ≤ s ∧ s ≤ 2147483647
    · rw [vname_of s h]
      intro x hx
      rcases List.mem_cons.1 hx with rfl | hx
      · omega
      · have := Na.dig_small _ _ x hx; omega
    · have : Na.of (3, s) = [] := by
        unfold Na.of
        rw [if_neg (by simp), if_neg (by simp), if_neg (by omega)]
      rw [this]; intro x hx; cases hx
  unfold kb vname
  simp only [List.map_map]
  refine List.map_congr_left (fun x hx => ?_) |>.trans (List.map_id _)
  have := hs x hx
  simp only [Function.comp, UInt8.toNat_ofNat', id]
  omega
theorem vname_inj {a b : Int} (ha : 1 ≤ a ∧ a ≤ 2147483647) (hb : 1 ≤ b ∧ b ≤ 2147483647) (h : vname a = vname b) : a = b := by
  have h1 := kb_vname a
  rw [h, kb_vname b] at h1
  exact ((Na.of_lt ⟨by omega, by omega⟩ ha hb).2).1 h1.symm
theorem vname_size {s : Int} (h : 1 ≤ s ∧ s ≤ 2147483647) : (vname s).size = 11 := by
  rw [← kb_len, kb_vname, vname_of s h, List.length_cons, Na.dig_len]
theorem vname_is {s : Int} (h : 1 ≤ s ∧ s ≤ 2147483647) : 1 ≤ (vname s).size ∧ (vname s).size ≤ 16 := by rw [vname_size h]; omega
set_option maxRecDepth 100000 in
theorem vnameof_any (s : Int) (hs : -9223372036854775808 ≤ s ∧ s ≤ 9223372036854775807) (w : World) (hT : Tab w) :
    Calls Tryz.prog 39 #[.int .i64 s] w fun e w' => e = .returned (.string (vname s)) ∧ Below w.heap.size w w' := by
  have ho := nofC 3 s w (by decide) hs hT
  go_enter Tryz.func39, Tryz.ntmps39
  go_wp2_with (go_at_call 75; go_must (refine ho.mono ?_; rintro e w1 ⟨t, rfl, ht, hb⟩))
  go_ret
  exact ⟨by rw [show t = vname s from kb_inj (ht.trans (kb_vname s).symm)]; rfl, hb⟩

/-- the blocks that a disk may have -/
def DT (w : World) (k : Nat) : Prop := (∃ es c, w.heap[k]? = some (.map es c)) ∨ ∃ cs T r, w.heap[k]? = some (.cells cs T r) ∧ (T = 76 ∨ T = 123 ∨ T = 129 ∨ T = 5)
theorem foot_dt {w : World} {p u fm nm sm : Nat} {D : Dk.D} {tv : Value} {J : List (Nat × FH × Dk.F)} (h : Parts w p D u fm nm sm tv J) {k : Nat} (hk : foot p fm nm sm tv J k) : DT w k := by
  rcases hk with rfl | rfl | rfl | rfl | hk | ⟨x, hx, rfl | hk⟩
  · exact .inr ⟨_, _, _, h.blk, .inl rfl⟩
  · exact .inl h.files.blk
  · exact .inl h.names.blk
  · exact .inl h.kept.blk
  · obtain ⟨_, hc⟩ := own_blk h.turns hk; exact .inr ⟨_, _, _, hc, .inr (.inr (.inl rfl))⟩
  · exact .inr ⟨_, _, _, (h.each x hx).blk, .inr (.inl rfl)⟩
  · obtain ⟨_, hc⟩ := own_blk (h.each x hx).row hk; exact .inr ⟨_, _, _, hc, .inr (.inr (.inr rfl))⟩
theorem dt_not {w : World} {k : Nat} {cs : Array Value} {T : TypeId} {r : Nat × Nat} (h : w.heap[k]? = some (.cells cs T r)) (h1 : T ≠ 76) (h2 : T ≠ 123) (h3 : T ≠ 129) (h4 : T ≠ 5) : ¬ DT w k := by
  rintro (⟨es, c, e⟩ | ⟨cs', T', r', e, hT⟩)
  · rw [h] at e; cases e
  · rw [h] at e
    simp only [Option.some.injEq, Obj.cells.injEq] at e
    obtain ⟨_, rfl, _⟩ := e
    rcases hT with e | e | e | e
    · exact h1 e
    · exact h2 e
    · exact h3 e
    · exact h4 e
theorem dt_keep {w w' : World} {k : Nat} (h : w'.heap[k]? = w.heap[k]?) : DT w' k ↔ DT w k := by unfold DT; rw [h]

/-- the library's table lies below B -/
structure TB (B : Nat) (w : World) : Prop where
  tab : Tab w
  lt : ∃ g, Tryz.prog.globalNamed "internal/strconv.uint64pow10" = some g ∧ g < B
theorem TB.keep {B : Nat} {w w' : World} (h : TB B w) (hb : Below B w w') : TB B w' := by
  obtain ⟨h1, g, hg, hl⟩ := h
  refine ⟨?_, g, hg, hl⟩
  unfold Tab Lib.TabIs World.var? at *
  rw [hg] at h1 ⊢
  simp only [Option.bind_some] at h1 ⊢
  rw [hb.block g hl]
  exact h1
theorem TB.of {w : World} (h : Tab w) : TB w.heap.size w := ⟨h, h.lt⟩

/-- since w nothing that lies below B, or has nothing of a disk, has turned -/
def Wk (B : Nat) (w w' : World) : Prop := OnlyIn (fun k => B ≤ k ∧ DT w k) w w'
theorem Wk.refl (B : Nat) (w : World) : Wk B w w := OnlyIn.refl _ _
theorem Wk.of_below {B : Nat} {w w' : World} (h : Below w.heap.size w w') : Wk B w w' := OnlyIn.of_below h
theorem Wk.trans {B : Nat} {a b c : World} (h : Wk B a b) (k : Wk B b c) : Wk B a c :=
  ⟨k.os.trans h.os, k.tape.trans h.tape, k.output.trans h.output, Nat.le_trans h.size k.size, fun i hi hn => by
    have e := h.block i hi hn
    exact (k.block i (Nat.lt_of_lt_of_le hi h.size) (fun hs => hn ⟨hs.1, (dt_keep e).1 hs.2⟩)).trans e⟩
theorem Wk.below {B : Nat} {w w' : World} (h : Wk B w w') (hB : B ≤ w.heap.size) : Below B w w' := OnlyIn.below h hB fun _ hk => hk.1
theorem Wk.blk {B : Nat} {w w' : World} (h : Wk B w w') {k : Nat} {cs : Array Value} {T : TypeId} {r : Nat × Nat} (hc : w.heap[k]? = some (.cells cs T r)) (h1 : T ≠ 76) (h2 : T ≠ 123) (h3 : T ≠ 129) (h4 : T ≠ 5) : w'.heap[k]? = some (.cells cs T r) :=
  (h.block k (heap_lt hc) fun hs => dt_not hc h1 h2 h3 h4 hs.2).trans hc
theorem Wk.own {B : Nat} {w w' : World} (h : Wk B w w') {B' e s n : Nat} {v : Value} {xs : List Value} (ho : w.ownsRow B' e s v n xs) (h1 : e ≠ 76) (h2 : e ≠ 123) (h3 : e ≠ 129) (h4 : e ≠ 5) : w'.ownsRow B' e s v n xs :=
  own_keep ho fun g hg => by
    obtain ⟨cur, hc⟩ := own_blk ho hg
    exact (h.blk hc h1 h2 h3 h4).trans hc.symm

/-- a disk lies at p, all of it made since there were B blocks -/
structure VD (B : Nat) (w : World) (p : Nat) (D : Dk.D) : Prop where
  tb : TB B w
  le : B ≤ w.heap.size
  dk : ∃ S, DK w p D S ∧ ∀ k, S k → B ≤ k ∧ k < w.heap.size ∧ DT w k
theorem VD.ok {B : Nat} {w : World} {p : Nat} {D : Dk.D} (h : VD B w p D) : Dk.Ok D := by obtain ⟨S, hD, _⟩ := h.dk; exact hD.1
theorem VD.of {B : Nat} {w : World} {p : Nat} {D : Dk.D} {S : Nat → Prop} (hT : TB B w) (hle : B ≤ w.heap.size) (h : DK w p D S) (hS : ∀ k, S k → B ≤ k) : VD B w p D := by
  obtain ⟨hO, fm, nm, sm, tv, J, hP, hF⟩ := h
  exact ⟨hT, hle, fun k => foot p fm nm sm tv J k, ⟨hO, fm, nm, sm, tv, J, hP, fun k hk => hk⟩, fun k hk => ⟨hS k (hF k hk), hP.lt hk, foot_dt hP hk⟩⟩
theorem VD.keep {B : Nat} {w w' : World} {p : Nat} {D : Dk.D} (h : VD B w p D) (hb : Below w.heap.size w w') : VD B w' p D := by
  obtain ⟨S, hD, hS⟩ := h.dk
  refine ⟨h.tb.keep (hb.mono h.le), Nat.le_trans h.le hb.size, S, hD.keep (fun k hk _ => hb.block k hk) (fun _ _ hs => hs), fun k hk => ?_⟩
  obtain ⟨h1, h2, h3⟩ := hS k hk
  exact ⟨h1, Nat.lt_of_lt_of_le h2 hb.size, (dt_keep (hb.block k h2)).2 h3⟩
/-- what is no disk's has turned -/
theorem VD.other {B : Nat} {w w' : World} {p : Nat} {D : Dk.D} (h : VD B w p D) {T : Nat → Prop} (ho : OnlyIn T w w') (hT : ∀ k, T k → k < w.heap.size → B ≤ k ∧ ¬ DT w k) : VD B w' p D := by
  obtain ⟨S, hD, hS⟩ := h.dk
  have hk : ∀ k, S k → w'.heap[k]? = w.heap[k]? := fun k hk => ho.block k (hS k hk).2.1 fun ht => (hT k ht (hS k hk).2.1).2 (hS k hk).2.2
  have hb : Below B w w' := ⟨ho.os, ho.tape, ho.output, ho.size, fun k hk => by
    have hl : k < w.heap.size := Nat.lt_of_lt_of_le hk h.le
    exact ho.block k hl fun ht => by have := (hT k ht hl).1; omega⟩
  refine ⟨h.tb.keep hb, Nat.le_trans h.le ho.size, S, hD.keep (fun k _ hs => hk k hs) (fun _ _ hs => hs), fun k hs => ?_⟩
  obtain ⟨h1, h2, h3⟩ := hS k hs
  exact ⟨h1, Nat.lt_of_lt_of_le h2 ho.size, (dt_keep (hk k hs)).2 h3⟩
/-- an act that turns the disk -/
theorem VD.act {B : Nat} {w w1 w' : World} {p : Nat} {D D' : Dk.D} {S : Nat → Prop} (h : VD B w p D) (hS : ∀ k, S k → B ≤ k ∧ k < w.heap.size ∧ DT w k) (hb : Below w.heap.size w w1) (h1 : DK w' p D' (grow1 S w1)) (h2 : OnlyIn S w1 w') : VD B w' p D' ∧ Wk B w w' := by
  have h3 := hb.size
  have h4 := h.le
  have hon : OnlyIn S w w' := (OnlyIn.of_below hb).trans (h2.mono fun _ _ h => .inl h)
  refine ⟨VD.of (h.tb.keep (hon.below h4 fun k hk => (hS k hk).1)) (Nat.le_trans h4 hon.size) h1 fun k hk => ?_, hon.mono fun k _ hk => ⟨(hS k hk).1, (hS k hk).2.2⟩⟩
  rcases hk with hk | hk
  · exact (hS k hk).1
  · omega

/-- a disk of few files, names and turns -/
structure Dk.Few (D : Dk.D) (b : Nat) : Prop where
  last : D.last ≤ b
  turns : D.turns.length ≤ b
  names : D.names.length ≤ b

section
variable {B : Nat} {w : World} {p : Nat} {D : Dk.D}
theorem vd_dead (h : VD B w p D) : Calls Tryz.prog 42 #[.pointer (some ⟨p, 0, none⟩)] w fun e w' => e = .returned (.bool D.dead) ∧ w' = w := by
  obtain ⟨S, hD, hS⟩ := h.dk
  obtain ⟨hO, fm, nm, sm, tv, J, hP, hF⟩ := hD
  exact dead_any hP
theorem vd_size (h : VD B w p D) (s : ByteArray) :
    Calls Tryz.prog 60 #[.pointer (some ⟨p, 0, none⟩), .string s] w fun e w' => e = .returned (.tuple #[.int .i64 (match Dk.find D s with | some x => (x.2.bs.length : Int) | none => 0), .bool (Dk.find D s).isSome]) ∧ Below w.heap.size w w' := by
  obtain ⟨S, hD, hS⟩ := h.dk
  exact dsize_any hD s
/-- the same; what lay there besides, made since w, is as it was -/
theorem vd_append2 {w1 : World} {b : Nat} (h : VD B w p D) (hb : Below w.heap.size w w1) (hs : Dk.Few D b) (hb6 : b ≤ 1000000) (s : ByteArray) (ax : Option Addr) (m c : Nat) (bs : List Nat)
    (hrow : Row .u8 w1 ax m bs) (hnil : ax = none → m = 0 ∧ c = 0) (hax : ∀ g o, ax = some ⟨g, o, none⟩ → w.heap.size ≤ g ∧ g < w1.heap.size) :
    Calls Tryz.prog 38 #[.pointer (some ⟨p, 0, none⟩), .string s, .slice ax m c] w1 fun e w' => e = .returned (.int .i64 (Dk.append D s bs).2) ∧ VD B w' p (Dk.append D s bs).1 ∧ Wk B w w' ∧ ∀ k, w.heap.size ≤ k → k < w1.heap.size → w'.heap[k]? = w1.heap[k]? := by
  obtain ⟨S, hD, hS⟩ := h.dk
  have h1 := hs.turns; have h2 := hs.last; have h3 := hs.names
  refine (appendD_any (hD.keep (fun k hk _ => hb.block k hk) (fun _ _ hs => hs)) (fun k hk => Nat.lt_of_lt_of_le (hS k hk).2.1 hb.size) s ax m c bs (by omega) (by omega) (by omega) hrow hnil (fun g o e => ⟨fun hs => by have := (hS g hs).2.1; have := (hax g o e).1; omega, (hax g o e).2⟩)).mono ?_
  rintro e w' ⟨he, hD', ho⟩
  exact ⟨he, (h.act hS hb hD' ho).1, (h.act hS hb hD' ho).2, fun k h1 h2 => ho.block k h2 fun hs => by have := (hS k hs).2.1; omega⟩
theorem vd_cut {w1 : World} (h : VD B w p D) (hb : Below w.heap.size w w1) (s : ByteArray) (n : Int) (hn : -9223372036854775808 ≤ n ∧ n ≤ 9223372036854775807) :
    Calls Tryz.prog 82 #[.pointer (some ⟨p, 0, none⟩), .string s, .int .i64 n] w1 fun e w' => e = .returned (.int .i64 (Dk.cut D s n).2) ∧ VD B w' p (Dk.cut D s n).1 ∧ Wk B w w' := by
  obtain ⟨S, hD, hS⟩ := h.dk
  refine (cutD_any (hD.keep (fun k hk _ => hb.block k hk) (fun _ _ hs => hs)) s n hn).mono ?_
  rintro e w' ⟨he, hD', ho⟩
  exact ⟨he, h.act hS hb hD' ho⟩
theorem vd_sync {w1 : World} (h : VD B w p D) (hb : Below w.heap.size w w1) (s : ByteArray) :
    Calls Tryz.prog 41 #[.pointer (some ⟨p, 0, none⟩), .string s] w1 fun e w' => e = .returned (.int .i64 (Dk.sync D s).2) ∧ VD B w' p (Dk.sync D s).1 ∧ Wk B w w' := by
  obtain ⟨S, hD, hS⟩ := h.dk
  refine (syncD_any (hD.keep (fun k hk _ => hb.block k hk) (fun _ _ hs => hs)) s).mono ?_
  rintro e w' ⟨he, hD', ho⟩
  exact ⟨he, h.act hS hb hD' ho⟩
theorem vd_remove {w1 : World} {b : Nat} (h : VD B w p D) (hb : Below w.heap.size w w1) (hs : Dk.Few D b) (hb6 : b ≤ 1000000) (s : ByteArray) :
    Calls Tryz.prog 57 #[.pointer (some ⟨p, 0, none⟩), .string s] w1 fun e w' => e = .returned (.int .i64 (Dk.remove D s).2) ∧ VD B w' p (Dk.remove D s).1 ∧ Wk B w w' := by
  obtain ⟨S, hD, hS⟩ := h.dk
  have h1 := hs.turns
  refine (removeD_any (hD.keep (fun k hk _ => hb.block k hk) (fun _ _ hs => hs)) s (by omega)).mono ?_
  rintro e w' ⟨he, hD', ho⟩
  exact ⟨he, h.act hS hb hD' ho⟩
end
theorem vd_new {B : Nat} (q : Nat) (w : World) (hq : q ≤ 4194304) (hT : TB B w) (hB : B ≤ w.heap.size) :
    Calls Tryz.prog 26 #[.int .i64 (q : Int)] w fun e w' => ∃ p, e = .returned (.tuple #[.pointer (some ⟨p, 0, none⟩), .int .i64 0]) ∧ VD B w' p (Dk.new q) ∧ Below w.heap.size w w' := by
  refine (new_any q w hq).mono ?_
  rintro e w' ⟨p, he, hD, hb⟩
  exact ⟨p, he, VD.of (hT.keep (hb.mono hB)) (Nat.le_trans hB hb.size) hD (fun k hk => Nat.le_trans hB hk), hb⟩
end Go.Proofs.YtnoknmnbfkdccaaGreatDoor
