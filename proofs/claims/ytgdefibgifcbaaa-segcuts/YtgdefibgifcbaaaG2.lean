/- What is asked of the program's own functions; what the law FrameReads does, given that. -/
import Derived.Test.YtgdefibgifcbaaaG1
import Derived.Test.YtgdefibgifcbaaaFB
namespace Go.Proofs.Ytgdefibgifcbaaa
open Go.RowKit

/-- what Put tells -/
def FPutRes (w : World) (fs : List Fr.F) (e : Ending) (w' : World) : Prop :=
  (fs.all Fr.may = true ∧ ∃ a c, e = .returned (.tuple #[.slice a (Fr.all fs).length c, .int .i64 0]) ∧ w'.ownsRow w.heap.size 5 1 (.slice a (Fr.all fs).length c) (Fr.all fs).length (kcells .u8 (Fr.all fs)) ∧ Below w.heap.size w w') ∨
  (fs.all Fr.may = false ∧ ∃ a c, e = .returned (.tuple #[.slice a 0 c, .int .i64 1]) ∧ Below w.heap.size w w')
def PutC : Prop := ∀ (a : Option Addr) (len cap : Nat) (fs : List Fr.F) (w : World), FRow w a len fs → len ≤ 1000 → tot fs ≤ 100000 → Calls Try.prog 23 #[.slice a len cap] w (FPutRes w fs)

def FirstC : Prop := ∀ (a : Option Addr) (len cap : Nat) (bs : List Nat) (w : World), Shape a len cap → len ≤ cap → len ≤ 100000 → Row .u8 w a len bs → Calls Try.prog 29 #[.slice a len cap] w (FirstRes w (Fr.first bs))

def sizeZ (z : Int) : Nat := if 0 ≤ z ∧ z ≤ 1048576 then Fr.size z.toNat else 0
def headZ (z : Int) : Nat := if 0 ≤ z ∧ z ≤ 1048576 then (Va.one z.toNat).length + 1 else 0
def SizeC : Prop := ∀ (z : Int) (w : World), -9223372036854775808 ≤ z → z ≤ 9223372036854775807 → Calls Try.prog 36 #[.int .i64 z] w fun e w' => e = .returned (.int .i64 (sizeZ z : Nat)) ∧ Below w.heap.size w w'
def HeadC : Prop := ∀ (z : Int) (w : World), -9223372036854775808 ≤ z → z ≤ 9223372036854775807 → Calls Try.prog 25 #[.int .i64 z] w fun e w' => e = .returned (.int .i64 (headZ z : Nat)) ∧ Below w.heap.size w w'

/-- one frame, laid out as a row of its own -/
theorem frow_one {w : World} {B : Nat} {f : Fr.F} {A : Option Addr} {C : Nat} (hown : w.ownsRow B 5 1 (.slice A f.2.length C) f.2.length (kcells .u8 f.2)) (hs : ∀ x ∈ f.2, x < 256) (hl : f.2.length ≤ 1000000000) (hk : -9223372036854775808 ≤ f.1 ∧ f.1 ≤ 9223372036854775807)
    {b : Nat} (h0 : w.cell? ⟨b, 0, none⟩ = some (.int .i64 f.1)) (h1 : w.cell? ⟨b, 1, none⟩ = some (.slice A f.2.length C)) : FRow w (some ⟨b, 0, none⟩) 1 [f] := by
  obtain ⟨r1, r2, r3⟩ := row_of_owns hown hs (by omega)
  refine ⟨rfl, by omega, .inr ⟨b, 0, rfl, fun i hi => ?_⟩⟩
  obtain rfl : i = 0 := by omega
  refine ⟨A, _, C, by simpa using h0, by simpa using h1, r1, ?_, r2, hk⟩
  rcases hown.2 with ⟨e, h0⟩ | ⟨g', cap'', cur', e, _, _, hnc', _⟩
  · simp only [Value.slice.injEq] at e
    exact .inl ⟨h0, e.2.2⟩
  · simp only [Value.slice.injEq] at e
    obtain ⟨rfl, _, rfl⟩ := e
    exact .inr ⟨g', 0, rfl, hnc'⟩
theorem first_small {bs : List Nat} (hs : ∀ x ∈ bs, x < 256) : ∀ x ∈ (Fr.first bs).1.2, x < 256 := by
  by_cases h : (Fr.first bs).2.2 = 0
  · rw [(Fr.first_ok h).2.2.1]; exact take_small (drop_small hs _) _
  · have : (Fr.first bs).1.2 = [] := by
      revert h
      unfold Fr.first
      split
      · intro _; rfl
      · split
        · intro _; rfl
        · split
          · intro _; rfl
          · split
            · intro _; rfl
            · split
              · intro _; rfl
              · split
                · intro h; exact absurd rfl h
                · intro _; rfl
    rw [this]; intro x hx; simp at hx
theorem first_kind (bs : List Nat) : -9223372036854775808 ≤ (Fr.first bs).1.1 ∧ (Fr.first bs).1.1 ≤ 9223372036854775807 := by
  by_cases h : (Fr.first bs).2.2 = 0
  · have := Fr.first_ok h; omega
  · have : (Fr.first bs).1.1 = 0 := by
      revert h
      unfold Fr.first
      split
      · intro _; rfl
      · split
        · intro _; rfl
        · split
          · intro _; rfl
          · split
            · intro _; rfl
            · split
              · intro _; rfl
              · split
                · intro h; exact absurd rfl h
                · intro _; rfl
    omega
theorem first_blen (bs : List Nat) : (Fr.first bs).1.2.length ≤ bs.length := by
  by_cases h : (Fr.first bs).2.2 = 0
  · have h1 := (Fr.first_ok h).2.1; have h2 := Fr.first_le bs; omega
  · have : (Fr.first bs).1.2 = [] := by
      revert h
      unfold Fr.first
      split
      · intro _; rfl
      · split
        · intro _; rfl
        · split
          · intro _; rfl
          · split
            · intro _; rfl
            · split
              · intro _; rfl
              · split
                · intro h; exact absurd rfl h
                · intro _; rfl
    rw [this]; simp
end Go.Proofs.Ytgdefibgifcbaaa
