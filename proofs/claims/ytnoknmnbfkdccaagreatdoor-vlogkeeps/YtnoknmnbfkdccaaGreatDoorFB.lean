/- What the sums do: crc.take, More, Of, and the reference's bit, step, run, Of, More. -/
import Derived.Test.YtnoknmnbfkdccaaGreatDoorGa
import Derived.Test.YtnoknmnbfkdccaaGreatDoorMa
import Derived.Laws.BitsAllLaws
import Derived.Deep.QuietTactic
import Derived.BigQuiet
import Derived.Deep.AppendLies
import Derived.Deep.Onto
import Derived.Deep.RegionHeld3
namespace Go.Proofs.YtnoknmnbfkdccaaGreatDoor
open Go.RowKit

theorem lin_walk (r : Nat) (h : r < 4294967296) :
    bits .xor .u32 ((r : Int) / 2) (bits .and .u32 2197175160 (-bits .and .u32 (r : Int) 1 % 4294967296)) = (Crc.lin r : Nat) := by
  have e1 : bits .and .u32 (r : Int) 1 = ((r % 2 : Nat) : Int) := by
    have := u32_and_nat r 1 h (by omega); rw [Nat.and_one_is_mod] at this; exact_mod_cast this
  have e2 : (r : Int) / 2 = ((r / 2 : Nat) : Int) := by omega
  rw [e1, e2]
  unfold Crc.lin
  rcases Nat.mod_two_eq_zero_or_one r with h1 | h1
  · rw [h1, if_neg (by omega)]
    have e3 : (-((0 : Nat) : Int) % 4294967296) = ((0 : Nat) : Int) := by decide
    rw [e3]
    have := u32_and_nat 2197175160 0 (by omega) (by omega)
    rw [show ((2197175160 : Nat) : Int) = 2197175160 from rfl] at this
    rw [this, u32_xor_nat _ _ (by omega) (by decide)]
    simp
  · rw [h1, if_pos rfl]
    have e3 : (-((1 : Nat) : Int) % 4294967296) = ((4294967295 : Nat) : Int) := by decide
    rw [e3]
    have := u32_and_nat 2197175160 4294967295 (by omega) (by omega)
    rw [show ((2197175160 : Nat) : Int) = 2197175160 from rfl, show 2197175160 &&& 4294967295 = 2197175160 by decide +kernel] at this
    rw [this, u32_xor_nat _ _ (by omega) (by omega)]

set_option maxHeartbeats 400000 in
theorem take_any (r x : Nat) (w : World) (hr : r < 4294967296) (hx : x < 256) :
    Calls Tryz.prog 134 #[.int .u32 r, .int .u8 x] w fun e w' => e = .returned (.int .u32 (Crc.tk r x : Nat)) ∧ w' = w := by
  go_enter Tryz.func134, Tryz.ntmps134
  go_wp2
  go_loop [0, 10] (fun t i => ∃ k : Nat, k ≤ 8 ∧ i = .int .i64 k ∧ t = .int .u32 (Crc.lins k (r ^^^ x) : Nat)) (fun _ i => 8 - (intOf i).toNat)
  case atStart => exact ⟨0, by omega, rfl, val_int (u32_xor_nat r x hr (by omega))⟩
  case round =>
    obtain ⟨k, hk, rfl, rfl⟩ := hrel
    have hb := Crc.lins_lt (r := r ^^^ x) k (Crc.xor_lt hr (by omega))
    by_cases hlt : k < 8
    · go_wp2
      go_round
      case rel => exact ⟨k + 1, by omega, by go_num, val_int (lin_walk _ hb)⟩
      case measure => simp [intOf]; omega
    · have hk8 : 8 = k := by omega
      go_wp2
      go_ret
      exact ⟨ret_int (by subst hk8; rfl), rfl⟩

theorem not_walk (s : Nat) (h : s < 4294967296) : bits .xor .u32 IntKind.u32.max (s : Int) = ((s ^^^ 4294967295 : Nat) : Int) := by
  have := u32_xor_nat 4294967295 s (by omega) h
  rw [Nat.xor_comm] at this
  rw [← this]; rfl
theorem run_hid (q : Nat) (bs : List Nat) (k : Nat) (h : k < bs.length) : Crc.run q (bs.take (k + 1)) = Crc.tk (Crc.run q (bs.take k)) (bs.getD k 0) := by
  rw [Va.take_snoc bs k h, Crc.run_snoc]

set_option maxHeartbeats 400000 in
theorem more_any (s : Nat) (a : Option Addr) (len cap : Nat) (bs : List Nat) (w : World) (hs : s < 4294967296) (hrow : Row .u8 w a len bs) :
    Calls Tryz.prog 121 #[.int .u32 s, .slice a len cap] w fun e w' => e = .returned (.int .u32 (Crc.more s bs : Nat)) ∧ w' = w := by
  obtain ⟨hlen, hbig, hsm, hcells⟩ := hrow
  rcases hcells with h0 | ⟨b, off, rfl, hc⟩
  · subst h0
    obtain rfl : bs = [] := List.length_eq_zero_iff.mp hlen
    go_enter Tryz.func121, Tryz.ntmps121
    go_wp2
    go_loop [5, 12] (fun t i => i = .int .i64 (0 : Nat) ∧ t = .int .u32 (s ^^^ 4294967295 : Nat)) (fun _ i => 0)
    case atStart => exact ⟨rfl, val_int (not_walk s hs)⟩
    case round =>
      obtain ⟨rfl, rfl⟩ := hrel
      have hb := Crc.xor_lt hs (show 4294967295 < 4294967296 by omega)
      go_wp2
      go_ret
      exact ⟨ret_int (not_walk _ hb), rfl⟩
  · go_enter Tryz.func121, Tryz.ntmps121
    go_wp2
    go_loop [5, 12] (fun t i => ∃ k : Nat, k ≤ len ∧ i = .int .i64 k ∧ t = .int .u32 (Crc.run (s ^^^ 4294967295) (bs.take k) : Nat)) (fun _ i => len - (intOf i).toNat)
    case atStart => exact ⟨0, by omega, rfl, val_int (not_walk s hs)⟩
    case round =>
      obtain ⟨k, hk, rfl, rfl⟩ := hrel
      have hb := Crc.run_lt (r := s ^^^ 4294967295) (bs.take k) (Crc.xor_lt hs (by omega)) (take_small hsm k)
      by_cases hlt : k < len
      · have hcell := hc k hlt
        have hg := getD_lt8 hsm k
        have H1 : Hid (Crc.run (s ^^^ 4294967295) (bs.take (k + 1)) = Crc.tk (Crc.run (s ^^^ 4294967295) (bs.take k)) (bs.getD k 0)) := run_hid _ bs k (by omega)
        generalize Crc.run (s ^^^ 4294967295) (bs.take k) = q at *
        generalize bs.getD k 0 = x at *
        clear hc
        go_wp2_with (go_at_call 134; refine (take_any _ _ _ (by omega) (by omega)).mono ?_; rintro e w' ⟨rfl, rfl⟩)
        go_round
        case rel => exact ⟨k + 1, by omega, by go_num, by rw [H1.out]⟩
        case measure => simp [intOf]; omega
      · have hkl : Hid (k = bs.length) := (by omega : k = bs.length)
        go_wp2
        go_ret
        exact ⟨ret_int (by rw [not_walk _ hb, hkl.out, List.take_length]; rfl), rfl⟩

set_option maxHeartbeats 400000 in
theorem of_any (a : Option Addr) (len cap : Nat) (bs : List Nat) (w : World) (hrow : Row .u8 w a len bs) :
    Calls Tryz.prog 100 #[.slice a len cap] w fun e w' => e = .returned (.int .u32 (Crc.more 0 bs : Nat)) ∧ w' = w := by
  have hm := more_any 0 a len cap bs w (by omega) hrow
  go_enter Tryz.func100, Tryz.ntmps100
  go_wp2_with (go_at_call 121; refine hm.mono ?_; rintro e w' ⟨rfl, rfl⟩)
  go_ret
  exact ⟨rfl, rfl⟩

end Go.Proofs.YtnoknmnbfkdccaaGreatDoor

/- What the reference's Ints does. -/
namespace Go.Proofs.YtnoknmnbfkdccaaGreatDoor
open Go.RowKit

end Go.Proofs.YtnoknmnbfkdccaaGreatDoor

/- What the reference's May and Put of a frame do. -/
namespace Go.Proofs.YtnoknmnbfkdccaaGreatDoor
open Go.RowKit

/-- may a frame of that kind and so many bytes be? -/
def mayB (k : Int) (n : Nat) : Bool := decide (1 ≤ k ∧ k ≤ 250 ∧ n ≤ 1048576)
theorem mayB_may (k : Int) (b : List Nat) : mayB k b.length = Fr.may (k, b) := rfl

end Go.Proofs.YtnoknmnbfkdccaaGreatDoor

/- Rows of frames; what the reference's Ints, Same and All do. -/
namespace Go.Proofs.YtnoknmnbfkdccaaGreatDoor
open Go.RowKit

/-- a frame's cells at a place -/
def FAt (w : World) (b o : Nat) (f : Fr.F) : Prop :=
  ∃ A L C, w.cell? ⟨b, o, none⟩ = some (.int .i64 f.1) ∧ w.cell? ⟨b, o + 1, none⟩ = some (.slice A L C) ∧ Row .u8 w A L f.2 ∧ Shape A L C ∧ (A = none → L = 0 ∧ C = 0) ∧ -9223372036854775808 ≤ f.1 ∧ f.1 ≤ 9223372036854775807
/-- A slice that reads as the frames fs. -/
def FRow (w : World) (a : Option Addr) (len : Nat) (fs : List Fr.F) : Prop :=
  fs.length = len ∧ len ≤ 1000000000000000 ∧ (len = 0 ∨ ∃ b off, a = some ⟨b, off, none⟩ ∧ ∀ i, i < len → FAt w b (off + i * 2) (fs.getD i (0, [])))
theorem FAt.below {w w' : World} {B b o : Nat} {f : Fr.F} (h : FAt w b o f) (hb : Below B w w') (hB : w.heap.size ≤ B) : FAt w' b o f := by
  obtain ⟨A, L, C, h1, h2, h3, h4⟩ := h
  exact ⟨A, L, C, (hb.cell (p := ⟨b, o, none⟩) (Nat.lt_of_lt_of_le (cell_lt h1) hB)).trans h1, (hb.cell (p := ⟨b, o + 1, none⟩) (Nat.lt_of_lt_of_le (cell_lt h2) hB)).trans h2, h3.below hb hB, h4⟩
theorem FRow.below {w w' : World} {B : Nat} {a : Option Addr} {l : Nat} {fs : List Fr.F} (h : FRow w a l fs) (hb : Below B w w') (hB : w.heap.size ≤ B) : FRow w' a l fs := by
  obtain ⟨h1, h2, h3⟩ := h
  refine ⟨h1, h2, ?_⟩
  rcases h3 with h0 | ⟨b, off, e, hc⟩
  · exact .inl h0
  · exact .inr ⟨b, off, e, fun i hi => (hc i hi).below hb hB⟩
theorem FRow.at {w : World} {a : Option Addr} {n : Nat} {fs : List Fr.F} (h : FRow w a n fs) (hn : 0 < n) :
    ∃ b off, a = some ⟨b, off, none⟩ ∧ ∀ i, i < n → FAt w b (off + i * 2) (fs.getD i (0, [])) := by
  obtain ⟨_, _, h0 | h0⟩ := h
  · omega
  · exact h0
end Go.Proofs.YtnoknmnbfkdccaaGreatDoor


/- What the reference's Ints and All do. -/
namespace Go.Proofs.YtnoknmnbfkdccaaGreatDoor
open Go.RowKit

theorem fall_take (l : List Fr.F) (k : Nat) (h : k < l.length) : Fr.all (l.take (k + 1)) = Fr.all (l.take k) ++ Fr.one (l.getD k (0, [])) := by
  rw [List.take_succ_eq_append_getElem h, Fr.all_append]; simp [h, Fr.all]
end Go.Proofs.YtnoknmnbfkdccaaGreatDoor

/- What the reference's First does. -/
namespace Go.Proofs.YtnoknmnbfkdccaaGreatDoor
open Go.RowKit

/-- what First tells: a frame whose body is new memory, how many bytes, the code -/
def FirstRes (w : World) (R : Fr.F × Nat × Nat) (e : Ending) (w' : World) : Prop :=
  ∃ A C, e = .returned (.tuple #[.agg #[.int .i64 R.1.1, .slice A R.1.2.length C], .int .i64 (R.2.1 : Nat), .int .i64 (R.2.2 : Nat)]) ∧ w'.ownsRow w.heap.size 5 1 (.slice A R.1.2.length C) R.1.2.length (kcells .u8 R.1.2) ∧ Below w.heap.size w w'
theorem gap_iff {bs : List Nat} {k : Nat} (hk : k ≤ bs.length) (hh : ∀ j, j < k → 128 ≤ bs.getD j 0) (he : k = bs.length ∨ k = 3 ∨ bs.getD k 0 < 128) : Fr.gapHead bs = decide (k = bs.length ∧ k < 3) := by
  unfold Fr.gapHead
  by_cases h1 : k = bs.length ∧ k < 3
  · have : decide (k = bs.length ∧ k < 3) = true := decide_eq_true h1
    rw [this, Bool.and_eq_true, List.all_eq_true]
    refine ⟨by simp; omega, fun x hx => ?_⟩
    obtain ⟨j, hj, e⟩ := List.mem_iff_getElem.mp hx
    have := hh j (by omega)
    rw [List.getD_eq_getElem?_getD, List.getElem?_eq_getElem hj] at this
    rw [← e]; simp at this ⊢; exact this
  · have : decide (k = bs.length ∧ k < 3) = false := by simpa using h1
    rw [this]
    rw [Bool.and_eq_false_iff]
    by_cases h3 : bs.length < 3
    · right
      rw [List.all_eq_false]
      refine ⟨bs.getD k 0, ?_, ?_⟩
      · have hk' : k < bs.length := by omega
        have : bs.getD k 0 = bs[k] := by simp [hk']
        rw [this]; exact List.getElem_mem hk'
      · have : bs.getD k 0 < 128 := by omega
        simp only [decide_eq_true_eq]; omega
    · left; simpa using h3

end Go.Proofs.YtnoknmnbfkdccaaGreatDoor

/- Frames that a call makes of its own: a row of frames, their bodies rows of their own. -/
namespace Go.Proofs.YtnoknmnbfkdccaaGreatDoor
open Go.RowKit

theorem Tryz.info113 : (Tryz.prog.info? 113).map (fun i => (i.zero, i.size, i.bytes)) = some (some (.agg #[.int .i64 0, .slice none 0 0]), 2, 32) := by kernel_rfl
/-- the cells of frames, each body a row of its own -/
def Held (w : World) (B : Nat) : List Fr.F → List Value → Prop
  | [], cs => cs = []
  | f :: fs, cs => ∃ A C rest, cs = .int .i64 f.1 :: .slice A f.2.length C :: rest ∧ w.ownsRow B 5 1 (.slice A f.2.length C) f.2.length (kcells .u8 f.2) ∧ (∀ x ∈ f.2, x < 256) ∧ f.2.length ≤ 1000000000 ∧ (-9223372036854775808 ≤ f.1 ∧ f.1 ≤ 9223372036854775807) ∧ Held w B fs rest
theorem Held.length {w : World} {B : Nat} : ∀ {fs : List Fr.F} {cs : List Value}, Held w B fs cs → cs.length = fs.length * 2 := by
  intro fs
  induction fs with
  | nil => intro cs h; rw [show cs = [] from h]; rfl
  | cons f fs ih => rintro cs ⟨A, C, rest, rfl, _, _, _, _, h⟩; simp [ih h]; omega
theorem Held.below {w w' : World} {B : Nat} (hb : Below w.heap.size w w') : ∀ {fs : List Fr.F} {cs : List Value}, Held w B fs cs → Held w' B fs cs := by
  intro fs
  induction fs with
  | nil => intro cs h; exact h
  | cons f fs ih => rintro cs ⟨A, C, rest, rfl, h1, h2, h3, h4, h5⟩; exact ⟨A, C, rest, rfl, owns_below h1 hb, h2, h3, h4, ih h5⟩
theorem Held.grown {w w' : World} {B B' : Nat} {e : TypeId} {s : Nat} {v : Value} {n : Nat} {xs : List Value} (hv : w.ownsRow B' e s v n xs) (he : (5 : Nat) ≠ e) (hg : w.grownBy w' v.ownBlock) : ∀ {fs : List Fr.F} {cs : List Value}, Held w B fs cs → Held w' B fs cs := by
  intro fs
  induction fs with
  | nil => intro cs h; exact h
  | cons f fs ih => rintro cs ⟨A, C, rest, rfl, h1, h2, h3, h4, h5⟩; exact ⟨A, C, rest, rfl, h1.kept hg (own_apart h1 hv he), h2, h3, h4, ih h5⟩
theorem Held.get {w : World} {B : Nat} : ∀ {fs : List Fr.F} {cs : List Value}, Held w B fs cs → ∀ i, i < fs.length → ∃ A C, cs[i * 2]? = some (.int .i64 (fs.getD i (0, [])).1) ∧ cs[i * 2 + 1]? = some (.slice A (fs.getD i (0, [])).2.length C) ∧
    w.ownsRow B 5 1 (.slice A (fs.getD i (0, [])).2.length C) (fs.getD i (0, [])).2.length (kcells .u8 (fs.getD i (0, [])).2) ∧ (∀ x ∈ (fs.getD i (0, [])).2, x < 256) ∧ (fs.getD i (0, [])).2.length ≤ 1000000000 ∧ (-9223372036854775808 ≤ (fs.getD i (0, [])).1 ∧ (fs.getD i (0, [])).1 ≤ 9223372036854775807) := by
  intro fs
  induction fs with
  | nil => intro cs h i hi; simp at hi
  | cons f fs ih =>
    rintro cs ⟨A, C, rest, rfl, h1, h2, h3, h4, h5⟩ i hi
    cases i with
    | zero => exact ⟨A, C, rfl, rfl, h1, h2, h3, h4⟩
    | succ i =>
      obtain ⟨A', C', q1, q2, q3⟩ := ih h5 i (by simpa using hi)
      refine ⟨A', C', ?_, ?_, q3⟩
      · rw [show (i + 1) * 2 = i * 2 + 1 + 1 by omega]; simpa using q1
      · rw [show (i + 1) * 2 + 1 = i * 2 + 1 + 1 + 1 by omega]; simpa using q2
end Go.Proofs.YtnoknmnbfkdccaaGreatDoor

/- What the reference's Scan does. -/
namespace Go.Proofs.YtnoknmnbfkdccaaGreatDoor
open Go.RowKit

end Go.Proofs.YtnoknmnbfkdccaaGreatDoor
