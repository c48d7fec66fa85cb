/- What the sums do: crc.take, More, Of, and the reference's bit, step, run, Of, More. -/
import Derived.Test.YtfogodbbgbnhkaaGreatDoorWa
import Derived.Test.YtfogodbbgbnhkaaGreatDoorMa
import Derived.Laws.BitsAllLaws
import Derived.Test.YtfogodbbgbnhkaaGreatDoorGa
import Derived.Deep.QuietTactic
import Derived.BigQuiet
import Derived.Deep.AppendLies
import Derived.Deep.Onto
import Derived.Deep.RegionHeld3
namespace Go.Proofs.YtfogodbbgbnhkaaGreatDoor
open Go.RowKit

theorem lin_walk (r : Nat) (h : r < 4294967296) :
    bits .xor .u32 ((r : Int) / 2) (bits .and .u32 2197175160 (-bits .and .u32 (r : Int) 1 % 4294967296)) = (Crc.lin r : Nat) := by
  have e1 : bits .and .u32 (r : Int) 1 = ((r % 2 : Nat) : Int) := by
    have := u32_and_nat r 1 h (by omega); rw [Nat.and_one_is_mod] at this; exact_mod_cast this
  have e2 : (r : Int) / 2 = ((r / 2 : Nat) : Int) := by omega
  rw [e1, e2]
  unfold Crc.lin
  rcases Nat.mod_two_eq_zero_or_one r with h1 | h1
  · rw [h1, if_neg (by omega)]
    have e3 : (-((0 : Nat) : Int) % 4294967296) = ((0 : Nat) : Int) := by decide
    rw [e3]
    have := u32_and_nat 2197175160 0 (by omega) (by omega)
    rw [show ((2197175160 : Nat) : Int) = 2197175160 from rfl] at this
    rw [this, u32_xor_nat _ _ (by omega) (by decide)]
    simp
  · rw [h1, if_pos rfl]
    have e3 : (-((1 : Nat) : Int) % 4294967296) = ((4294967295 : Nat) : Int) := by decide
    rw [e3]
    have := u32_and_nat 2197175160 4294967295 (by omega) (by omega)
    rw [show ((2197175160 : Nat) : Int) = 2197175160 from rfl, show 2197175160 &&& 4294967295 = 2197175160 by decide +kernel] at this
    rw [this, u32_xor_nat _ _ (by omega) (by omega)]

set_option maxHeartbeats 400000 in
theorem take_any (r x : Nat) (w : World) (hr : r < 4294967296) (hx : x < 256) :
    Calls Tryz.prog 238 #[.int .u32 r, .int .u8 x] w fun e w' => e = .returned (.int .u32 (Crc.tk r x : Nat)) ∧ w' = w := by
  go_enter Tryz.func238, Tryz.ntmps238
  go_wp2
  go_loop [0, 10] (fun t i => ∃ k : Nat, k ≤ 8 ∧ i = .int .i64 k ∧ t = .int .u32 (Crc.lins k (r ^^^ x) : Nat)) (fun _ i => 8 - (intOf i).toNat)
  case atStart => exact ⟨0, by omega, rfl, val_int (u32_xor_nat r x hr (by omega))⟩
  case round =>
    obtain ⟨k, hk, rfl, rfl⟩ := hrel
    have hb := Crc.lins_lt (r := r ^^^ x) k (Crc.xor_lt hr (by omega))
    by_cases hlt : k < 8
    · go_wp2
      go_round
      case rel => exact ⟨k + 1, by omega, by go_num, val_int (lin_walk _ hb)⟩
      case measure => simp [intOf]; omega
    · have hk8 : 8 = k := by omega
      go_wp2
      go_ret
      exact ⟨ret_int (by subst hk8; rfl), rfl⟩

theorem not_walk (s : Nat) (h : s < 4294967296) : bits .xor .u32 IntKind.u32.max (s : Int) = ((s ^^^ 4294967295 : Nat) : Int) := by
  have := u32_xor_nat 4294967295 s (by omega) h
  rw [Nat.xor_comm] at this
  rw [← this]; rfl
theorem run_hid (q : Nat) (bs : List Nat) (k : Nat) (h : k < bs.length) : Crc.run q (bs.take (k + 1)) = Crc.tk (Crc.run q (bs.take k)) (bs.getD k 0) := by
  rw [Va.take_snoc bs k h, Crc.run_snoc]

set_option maxHeartbeats 400000 in
theorem more_any (s : Nat) (a : Option Addr) (len cap : Nat) (bs : List Nat) (w : World) (hs : s < 4294967296) (hrow : Row .u8 w a len bs) :
    Calls Tryz.prog 212 #[.int .u32 s, .slice a len cap] w fun e w' => e = .returned (.int .u32 (Crc.more s bs : Nat)) ∧ w' = w := by
  obtain ⟨hlen, hbig, hsm, hcells⟩ := hrow
  rcases hcells with h0 | ⟨b, off, rfl, hc⟩
  · subst h0
    obtain rfl : bs = [] := List.length_eq_zero_iff.mp hlen
    go_enter Tryz.func212, Tryz.ntmps212
    go_wp2
    go_loop [5, 12] (fun t i => i = .int .i64 (0 : Nat) ∧ t = .int .u32 (s ^^^ 4294967295 : Nat)) (fun _ i => 0)
    case atStart => exact ⟨rfl, val_int (not_walk s hs)⟩
    case round =>
      obtain ⟨rfl, rfl⟩ := hrel
      have hb := Crc.xor_lt hs (show 4294967295 < 4294967296 by omega)
      go_wp2
      go_ret
      exact ⟨ret_int (not_walk _ hb), rfl⟩
  · go_enter Tryz.func212, Tryz.ntmps212
    go_wp2
    go_loop [5, 12] (fun t i => ∃ k : Nat, k ≤ len ∧ i = .int .i64 k ∧ t = .int .u32 (Crc.run (s ^^^ 4294967295) (bs.take k) : Nat)) (fun _ i => len - (intOf i).toNat)
    case atStart => exact ⟨0, by omega, rfl, val_int (not_walk s hs)⟩
    case round =>
      obtain ⟨k, hk, rfl, rfl⟩ := hrel
      have hb := Crc.run_lt (r := s ^^^ 4294967295) (bs.take k) (Crc.xor_lt hs (by omega)) (take_small hsm k)
      by_cases hlt : k < len
      · have hcell := hc k hlt
        have hg := getD_lt8 hsm k
        have H1 : Hid (Crc.run (s ^^^ 4294967295) (bs.take (k + 1)) = Crc.tk (Crc.run (s ^^^ 4294967295) (bs.take k)) (bs.getD k 0)) := run_hid _ bs k (by omega)
        generalize Crc.run (s ^^^ 4294967295) (bs.take k) = q at *
        generalize bs.getD k 0 = x at *
        clear hc
        go_wp2_with (go_at_call 238; refine (take_any _ _ _ (by omega) (by omega)).mono ?_; rintro e w' ⟨rfl, rfl⟩)
        go_round
        case rel => exact ⟨k + 1, by omega, by go_num, by rw [H1.out]⟩
        case measure => simp [intOf]; omega
      · have hkl : Hid (k = bs.length) := (by omega : k = bs.length)
        go_wp2
        go_ret
        exact ⟨ret_int (by rw [not_walk _ hb, hkl.out, List.take_length]; rfl), rfl⟩

set_option maxHeartbeats 400000 in
theorem of_any (a : Option Addr) (len cap : Nat) (bs : List Nat) (w : World) (hrow : Row .u8 w a len bs) :
    Calls Tryz.prog 192 #[.slice a len cap] w fun e w' => e = .returned (.int .u32 (Crc.more 0 bs : Nat)) ∧ w' = w := by
  have hm := more_any 0 a len cap bs w (by omega) hrow
  go_enter Tryz.func192, Tryz.ntmps192
  go_wp2_with (go_at_call 212; refine hm.mono ?_; rintro e w' ⟨rfl, rfl⟩)
  go_ret
  exact ⟨rfl, rfl⟩

end Go.Proofs.YtfogodbbgbnhkaaGreatDoor

/- What the reference's Ints does. -/
namespace Go.Proofs.YtfogodbbgbnhkaaGreatDoor
open Go.RowKit

end Go.Proofs.YtfogodbbgbnhkaaGreatDoor

/- What the reference's May and Put of a frame do. -/
namespace Go.Proofs.YtfogodbbgbnhkaaGreatDoor
open Go.RowKit

/-- may a frame of that kind and so many bytes be? -/
def mayB (k : Int) (n : Nat) : Bool := decide (1 ≤ k ∧ k ≤ 250 ∧ n ≤ 1048576)
theorem mayB_may (k : Int) (b : List Nat) : mayB k b.length = Fr.may (k, b) := rfl

end Go.Proofs.YtfogodbbgbnhkaaGreatDoor


/- Rows of frames; what the reference's Ints, Same and All do. -/
namespace Go.Proofs.YtfogodbbgbnhkaaGreatDoor
open Go.RowKit

/-- a frame's cells at a place -/
def FAt (w : World) (b o : Nat) (f : Fr.F) : Prop :=
  ∃ A L C, w.cell? ⟨b, o, none⟩ = some (.int .i64 f.1) ∧ w.cell? ⟨b, o + 1, none⟩ = some (.slice A L C) ∧ Row .u8 w A L f.2 ∧ Shape A L C ∧ (A = none → L = 0 ∧ C = 0) ∧ -9223372036854775808 ≤ f.1 ∧ f.1 ≤ 9223372036854775807
/-- A slice that reads as the frames fs. -/
def FRow (w : World) (a : Option Addr) (len : Nat) (fs : List Fr.F) : Prop :=
  fs.length = len ∧ len ≤ 1000000000000000 ∧ (len = 0 ∨ ∃ b off, a = some ⟨b, off, none⟩ ∧ ∀ i, i < len → FAt w b (off + i * 2) (fs.getD i (0, [])))
theorem FAt.below {w w' : World} {B b o : Nat} {f : Fr.F} (h : FAt w b o f) (hb : Below B w w') (hB : w.heap.size ≤ B) : FAt w' b o f := by
  obtain ⟨A, L, C, h1, h2, h3, h4⟩ := h
  exact ⟨A, L, C, (hb.cell (p := ⟨b, o, none⟩) (Nat.lt_of_lt_of_le (cell_lt h1) hB)).trans h1, (hb.cell (p := ⟨b, o + 1, none⟩) (Nat.lt_of_lt_of_le (cell_lt h2) hB)).trans h2, h3.below hb hB, h4⟩
theorem FRow.below {w w' : World} {B : Nat} {a : Option Addr} {l : Nat} {fs : List Fr.F} (h : FRow w a l fs) (hb : Below B w w') (hB : w.heap.size ≤ B) : FRow w' a l fs := by
  obtain ⟨h1, h2, h3⟩ := h
  refine ⟨h1, h2, ?_⟩
  rcases h3 with h0 | ⟨b, off, e, hc⟩
  · exact .inl h0
  · exact .inr ⟨b, off, e, fun i hi => (hc i hi).below hb hB⟩
theorem FRow.at {w : World} {a : Option Addr} {n : Nat} {fs : List Fr.F} (h : FRow w a n fs) (hn : 0 < n) :
    ∃ b off, a = some ⟨b, off, none⟩ ∧ ∀ i, i < n → FAt w b (off + i * 2) (fs.getD i (0, [])) := by
  obtain ⟨_, _, h0 | h0⟩ := h
  · omega
  · exact h0
end Go.Proofs.YtfogodbbgbnhkaaGreatDoor


/- What the reference's Ints and All do. -/
namespace Go.Proofs.YtfogodbbgbnhkaaGreatDoor
open Go.RowKit

theorem fall_take (l : List Fr.F) (k : Nat) (h : k < l.length) : Fr.all (l.take (k + 1)) = Fr.all (l.take k) ++ Fr.one (l.getD k (0, [])) := by
  rw [List.take_succ_eq_append_getElem h, Fr.all_append]; simp [h, Fr.all]
end Go.Proofs.YtfogodbbgbnhkaaGreatDoor

/- What the reference's First does. -/
namespace Go.Proofs.YtfogodbbgbnhkaaGreatDoor
open Go.RowKit

/-- what First tells: a frame whose body is new memory, how many bytes, the code -/
def FirstRes (w : World) (R : Fr.F × Nat × Nat) (e : Ending) (w' : World) : Prop :=
  ∃ A C, e = .returned (.tuple #[.agg #[.int .i64 R.1.1, .slice A R.1.2.length C], .int .i64 (R.2.1 : Nat), .int .i64 (R.2.2 : Nat)]) ∧ w'.ownsRow w.heap.size 5 1 (.slice A R.1.2.length C) R.1.2.length (kcells .u8 R.1.2) ∧ Below w.heap.size w w'
theorem gap_iff {bs : List Nat} {k : Nat} (hk : k ≤ bs.length) (hh : ∀ j, j < k → 128 ≤ bs.getD j 0) (he : k = bs.length ∨ k = 3 ∨ bs.getD k 0 < 128) : Fr.gapHead bs = decide (k = bs.length ∧ k < 3) := by
  unfold Fr.gapHead
  by_cases h1 : k = bs.length ∧ k < 3
  · have : decide (k = bs.length ∧ k < 3) = true := decide_eq_true h1
    rw [this, Bool.and_eq_true, List.all_eq_true]
    refine ⟨by simp; omega, fun x hx => ?_⟩
    obtain ⟨j, hj, e⟩ := List.mem_iff_getElem.mp hx
    have := hh j (by omega)
    rw [List.getD_eq_getElem?_getD, List.getElem?_eq_getElem hj] at this
    rw [← e]; simp at this ⊢; exact this
  · have : decide (k = bs.length ∧ k < 3) = false := by simpa using h1
    rw [this]
    rw [Bool.and_eq_false_iff]
    by_cases h3 : bs.length < 3
    · right
      rw [List.all_eq_false]
      refine ⟨bs.getD k 0, ?_, ?_⟩
      · have hk' : k < bs.length := by omega
        have : bs.getD k 0 = bs[k] := by simp [hk']
        rw [this]; exact List.getElem_mem hk'
      · have : bs.getD k 0 < 128 := by omega
        simp only [decide_eq_true_eq]; omega
    · left; simpa using h3

end Go.Proofs.YtfogodbbgbnhkaaGreatDoor


/- Frames that a call makes of its own: a row of frames, their bodies rows of their own. -/
namespace Go.Proofs.YtfogodbbgbnhkaaGreatDoor
open Go.RowKit

theorem Tryz.info150 : (Tryz.prog.info? 150).map (fun i => (i.zero, i.size, i.bytes)) = some (some (.agg #[.int .i64 0, .slice none 0 0]), 2, 32) := by kernel_rfl
theorem Tryz.info3 : (Tryz.prog.info? 3).map (fun i => (i.zero, i.size, i.bytes)) = some (some (.int .i64 0), 1, 8) := by kernel_rfl

/-- the cells of frames, each body a row of its own -/
def Held (w : World) (B : Nat) : List Fr.F → List Value → Prop
  | [], cs => cs = []
  | f :: fs, cs => ∃ A C rest, cs = .int .i64 f.1 :: .slice A f.2.length C :: rest ∧ w.ownsRow B 5 1 (.slice A f.2.length C) f.2.length (kcells .u8 f.2) ∧ (∀ x ∈ f.2, x < 256) ∧ f.2.length ≤ 1000000000 ∧ (-9223372036854775808 ≤ f.1 ∧ f.1 ≤ 9223372036854775807) ∧ Held w B fs rest
theorem Held.length {w : World} {B : Nat} : ∀ {fs : List Fr.F} {cs : List Value}, Held w B fs cs → cs.length = fs.length * 2 := by
  intro fs
  induction fs with
  | nil => intro cs h; rw [show cs = [] from h]; rfl
  | cons f fs ih => rintro cs ⟨A, C, rest, rfl, _, _, _, _, h⟩; simp [ih h]; omega
theorem Held.snoc {w : World} {B : Nat} {f : Fr.F} {A : Option Addr} {C : Nat} (hf : w.ownsRow B 5 1 (.slice A f.2.length C) f.2.length (kcells .u8 f.2)) (hs : ∀ x ∈ f.2, x < 256) (hl : f.2.length ≤ 1000000000) (hk : -9223372036854775808 ≤ f.1 ∧ f.1 ≤ 9223372036854775807) :
    ∀ {fs : List Fr.F} {cs : List Value}, Held w B fs cs → Held w B (fs ++ [f]) (cs ++ [.int .i64 f.1, .slice A f.2.length C]) := by
  intro fs
  induction fs with
  | nil => intro cs h; rw [show cs = [] from h]; exact ⟨A, C, [], rfl, hf, hs, hl, hk, rfl⟩
  | cons g fs ih => rintro cs ⟨A', C', rest, rfl, h1, h2, h3, h4, h5⟩; exact ⟨A', C', _, rfl, h1, h2, h3, h4, ih h5⟩
theorem Held.below {w w' : World} {B : Nat} (hb : Below w.heap.size w w') : ∀ {fs : List Fr.F} {cs : List Value}, Held w B fs cs → Held w' B fs cs := by
  intro fs
  induction fs with
  | nil => intro cs h; exact h
  | cons f fs ih => rintro cs ⟨A, C, rest, rfl, h1, h2, h3, h4, h5⟩; exact ⟨A, C, rest, rfl, owns_below h1 hb, h2, h3, h4, ih h5⟩
theorem Held.grown {w w' : World} {B B' : Nat} {e : TypeId} {s : Nat} {v : Value} {n : Nat} {xs : List Value} (hv : w.ownsRow B' e s v n xs) (he : (5 : Nat) ≠ e) (hg : w.grownBy w' v.ownBlock) : ∀ {fs : List Fr.F} {cs : List Value}, Held w B fs cs → Held w' B fs cs := by
  intro fs
  induction fs with
  | nil => intro cs h; exact h
  | cons f fs ih => rintro cs ⟨A, C, rest, rfl, h1, h2, h3, h4, h5⟩; exact ⟨A, C, rest, rfl, h1.kept hg (own_apart h1 hv he), h2, h3, h4, ih h5⟩
theorem Held.get {w : World} {B : Nat} : ∀ {fs : List Fr.F} {cs : List Value}, Held w B fs cs → ∀ i, i < fs.length → ∃ A C, cs[i * 2]? = some (.int .i64 (fs.getD i (0, [])).1) ∧ cs[i * 2 + 1]? = some (.slice A (fs.getD i (0, [])).2.length C) ∧
    w.ownsRow B 5 1 (.slice A (fs.getD i (0, [])).2.length C) (fs.getD i (0, [])).2.length (kcells .u8 (fs.getD i (0, [])).2) ∧ (∀ x ∈ (fs.getD i (0, [])).2, x < 256) ∧ (fs.getD i (0, [])).2.length ≤ 1000000000 ∧ (-9223372036854775808 ≤ (fs.getD i (0, [])).1 ∧ (fs.getD i (0, [])).1 ≤ 9223372036854775807) := by
  intro fs
  induction fs with
  | nil => intro cs h i hi; simp at hi
  | cons f fs ih =>
    rintro cs ⟨A, C, rest, rfl, h1, h2, h3, h4, h5⟩ i hi
    cases i with
    | zero => exact ⟨A, C, rfl, rfl, h1, h2, h3, h4⟩
    | succ i =>
      obtain ⟨A', C', q1, q2, q3⟩ := ih h5 i (by simpa using hi)
      refine ⟨A', C', ?_, ?_, q3⟩
      · rw [show (i + 1) * 2 = i * 2 + 1 + 1 by omega]; simpa using q1
      · rw [show (i + 1) * 2 + 1 = i * 2 + 1 + 1 + 1 by omega]; simpa using q2
end Go.Proofs.YtfogodbbgbnhkaaGreatDoor

/- What the reference's Scan does. -/
namespace Go.Proofs.YtfogodbbgbnhkaaGreatDoor
open Go.RowKit

theorem append_i64g {w0 w : World} {B : Nat} {ops : Array Oper} {rest : List Oper} {o : Oper} {a : Act} {Q : Exit → Act → World → Prop} (hgd : o.guard = none) (s x : Operand)
    (ho : o.op = .call { callee := .builtin .append, args := #[s, x], argTypes := #[27, 27] })
    (v : Value) (n : Nat) (xs : List Nat) (hs : a.eval s = v) (hown : w.ownsRow B 3 1 v n (kcells .i64 xs))
    (ad : Option Addr) (m c : Nat) (bs : List Nat) (hx : a.eval x = .slice ad m c) (hrow : Row .i64 w ad m bs) (hnil : ad = none → m = 0 ∧ c = 0)
    (hnm : n + m ≤ 1000000000000) (hbel : Below B w0 w) (hB : B ≤ w.heap.size)
    (h : ∀ a' c' w', w'.ownsRow B 3 1 (.slice a' (n + m) c') (n + m) (kcells .i64 (xs ++ bs)) → Below B w0 w' → B ≤ w'.heap.size → w.grownBy w' v.ownBlock → wpList Tryz.prog ops Q rest (a.put o.dst (.slice a' (n + m) c')) w') : wpList Tryz.prog ops Q (o :: rest) a w := by
  obtain ⟨i0, hi, hz0, hz1, hz2⟩ := info_parts Tryz.info3
  obtain ⟨h1, h2, h3, h4⟩ := hrow
  cases ad with
  | none =>
    obtain ⟨rfl, rfl⟩ := hnil rfl
    obtain rfl : bs = [] := List.length_eq_zero_iff.mp h1
    refine wpList_append_own_none hgd s x 27 ho B 3 i0 1 Tryz.underlying27 hi v n (kcells .i64 xs) hs hown hx ?_
    obtain ⟨a', c', rfl⟩ := slice_of_owns hown
    exact h a' c' w (by simpa using hown) hbel hB ⟨rfl, rfl, rfl, Nat.le_refl _, fun _ _ _ => rfl⟩
  | some ad =>
    refine wpList_append_own w hgd s x 27 ho B 3 i0 (.int .i64 0) 1 8 Tryz.underlying27 hi hz0 hz1 hz2 rfl (by decide) v n (kcells .i64 xs) hs hown ad m c (kcells .i64 bs) hx (by rw [kcells_length]; omega) ?_ ?_ (by unfold maxLen; omega) (by omega) hB ?_
    · intro j u hj
      obtain ⟨hlt, rfl⟩ := kcells_get .i64 bs j u hj
      rcases h4 with h0 | ⟨b, off, e, hc⟩
      · omega
      · obtain rfl : ad = ⟨b, off, none⟩ := by simpa using e
        rw [add_at]; exact hc j (by omega)
    · intro u hu
      simp only [kcells, List.mem_map] at hu
      obtain ⟨n, _, rfl⟩ := hu
      rfl
    · intro v' w' hown' hg _
      obtain ⟨a', c', rfl⟩ := slice_of_owns hown'
      refine h a' c' w' (by rw [kcells_append]; exact hown') (hbel.grown hg hB (fun k hk => (hown.lt k hk).1)) (Nat.le_trans hB hg.size) hg

/-- append of one frame to a row of frames -/
theorem append_fr {w0 w : World} {B : Nat} {ops : Array Oper} {rest : List Oper} {o : Oper} {a : Act} {Q : Exit → Act → World → Prop} (hgd : o.guard = none) (s x : Operand)
    (ho : o.op = .call { callee := .builtin .append, args := #[s, x], argTypes := #[151, 151] })
    (v : Value) (n : Nat) (cs : List Value) (hs : a.eval s = v) (hown : w.ownsRow B 150 2 v n cs)
    (b c : Nat) (c0 c1 : Value) (hx : a.eval x = .slice (some ⟨b, 0, none⟩) 1 c) (h0 : w.cell? ⟨b, 0, none⟩ = some c0) (h1 : w.cell? ⟨b, 1, none⟩ = some c1) (ho0 : c0.oneCell' = true) (ho1 : c1.oneCell' = true)
    (hn : n ≤ 1000000000) (hbel : Below B w0 w) (hB : B ≤ w.heap.size)
    (h : ∀ a' c' w', w'.ownsRow B 150 2 (.slice a' (n + 1) c') (n + 1) (cs ++ [c0, c1]) → Below B w0 w' → B ≤ w'.heap.size → w.grownBy w' v.ownBlock → wpList Tryz.prog ops Q rest (a.put o.dst (.slice a' (n + 1) c')) w') : wpList Tryz.prog ops Q (o :: rest) a w := by
  obtain ⟨i0, hi, hz0, hz1, hz2⟩ := info_parts Tryz.info150
  refine wpList_append_own w hgd s x 151 ho B 150 i0 (.agg #[.int .i64 0, .slice none 0 0]) 2 32 Tryz.underlying151 hi hz0 hz1 hz2 rfl (by decide) v n cs hs hown ⟨b, 0, none⟩ 1 c [c0, c1] hx rfl ?_ ?_ (by unfold maxLen; omega) (by omega) hB ?_
  · intro j u hj
    rw [add_at]
    match j, hj with
    | 0, hj => simp at hj; subst hj; exact h0
    | 1, hj => simp at hj; subst hj; exact h1
    | j + 2, hj => simp at hj
  · intro u hu
    simp at hu
    rcases hu with rfl | rfl
    · exact ho0
    · exact ho1
  · intro v' w' hown' hg _
    rcases hown'.2 with ⟨rfl, h0⟩ | ⟨g, cap, cur, rfl, _⟩
    · omega
    · exact h _ _ w' hown' (hbel.grown hg hB (fun k hk => (hown.lt k hk).1)) (Nat.le_trans hB hg.size) hg

/-- what Scan tells -/
def ScanRes (w : World) (R : List Fr.F × List Nat × Nat) (e : Ending) (w' : World) : Prop :=
  ∃ a1 c1 a2 c2 cs, e = .returned (.tuple #[.slice a1 R.1.length c1, .slice a2 R.1.length c2, .int .i64 (R.2.2 : Nat)]) ∧ w'.ownsRow w.heap.size 150 2 (.slice a1 R.1.length c1) R.1.length cs ∧ Held w' w.heap.size R.1 cs ∧ w'.ownsRow w.heap.size 3 1 (.slice a2 R.1.length c2) R.1.length (kcells .i64 R.2.1) ∧ R.2.1.length = R.1.length ∧ Below w.heap.size w w'

theorem scan_mid {wr w1 w3 : World} {B : Nat} {vl vp : Value} {k : Nat} {cs cs' xs : List Value} {fs : List Fr.F} {c0 c1 : Value}
    (hl : wr.ownsRow B 150 2 vl k cs) (hs1 : wr.heap.size ≤ w1.heap.size) (hl1 : w1.ownsRow B 150 2 vl k cs) (hp1 : w1.ownsRow B 3 1 vp k xs) (hh1 : Held w1 B fs cs')
    (hg : ((w1.alloc (.cells #[c0, c1] 150)).alloc (.cells #[c0, c1] 150)).grownBy w3 vl.ownBlock) :
    w3.cell? ⟨w1.heap.size, 1, none⟩ = some c1 ∧ w3.ownsRow B 3 1 vp k xs ∧ w1.heap.size < w3.heap.size ∧ Held w3 B fs cs' := by
  have hl2 := (hl1.alloc (.cells #[c0, c1] 150)).alloc (.cells #[c0, c1] 150)
  have hp2 := (hp1.alloc (.cells #[c0, c1] 150)).alloc (.cells #[c0, c1] 150)
  have hs := hg.size
  simp only [World.size_alloc] at hs
  refine ⟨?_, hp2.kept hg (own_apart hp2 hl2 (by decide)), by omega, ((hh1.below (below_alloc _ _)).below (below_alloc _ _)).grown hl2 (by decide) hg⟩
  refine (grown_cell hg (p := ⟨w1.heap.size, 1, none⟩) (by simp; omega) (own_lt_ne hl hs1)).trans ?_
  exact (cell_past _ _ ⟨w1.heap.size, 1, none⟩ (by simp)).trans (cell_two w1 c0 c1 150 rfl).2

theorem scan_end {w3 w4 : World} {o : Obj} {B : Nat} {vl vp : Value} {n k : Nat} {cs xs : List Value} {fs : List Fr.F}
    (hl3 : w3.ownsRow B 150 2 vl n cs) (hp3 : w3.ownsRow B 3 1 vp k xs) (hh3 : Held w3 B fs cs) (hg : (w3.alloc o).grownBy w4 vp.ownBlock) : w4.ownsRow B 150 2 vl n cs ∧ Held w4 B fs cs :=
  ⟨(hl3.alloc o).kept hg (own_apart (hl3.alloc o) (hp3.alloc o) (by decide)), (hh3.below (below_alloc _ o)).grown (hp3.alloc o) (by decide) hg⟩

end Go.Proofs.YtfogodbbgbnhkaaGreatDoor
