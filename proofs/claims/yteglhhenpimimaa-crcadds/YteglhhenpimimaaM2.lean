/- Three sums, put together, are the sum of the bytes, put together. -/
import Derived.Test.YteglhhenpimimaaMath
namespace Go.Proofs.Yteglhhenpimimaa.Crc

/-- three lists of one length, byte by byte -/
def x3 : List Nat → List Nat → List Nat → List Nat
  | a :: as, b :: bs, c :: cs => (a ^^^ b ^^^ c) :: x3 as bs cs
  | _, _, _ => []
/-- three sums, put together -/
def add3 (a b c : List Nat) : Nat := more 0 a ^^^ more 0 b ^^^ more 0 c

theorem tk_add (r s x y : Nat) : tk (r ^^^ s) (x ^^^ y) = tk r x ^^^ tk s y := by
  unfold tk
  rw [← lins_add]
  congr 1
  rw [Nat.xor_assoc, Nat.xor_assoc, ← Nat.xor_assoc s x y, Nat.xor_comm s x, Nat.xor_assoc x s y]
theorem run_x3 (a b c : List Nat) (h1 : a.length = b.length) (h2 : b.length = c.length) (r s t : Nat) :
    run (r ^^^ s ^^^ t) (x3 a b c) = run r a ^^^ run s b ^^^ run t c := by
  induction a generalizing b c r s t with
  | nil =>
    cases b with
    | nil => cases c with
      | nil => rfl
      | cons => simp at h2
    | cons => simp at h1
  | cons x a ih =>
    cases b with
    | nil => simp at h1
    | cons y b => cases c with
      | nil => simp at h2
      | cons z c =>
        show run (tk (r ^^^ s ^^^ t) (x ^^^ y ^^^ z)) (x3 a b c) = run (tk r x) a ^^^ run (tk s y) b ^^^ run (tk t z) c
        rw [tk_add, tk_add]
        exact ih b c (by simpa using h1) (by simpa using h2) _ _ _
theorem add3_x3 (a b c : List Nat) (h1 : a.length = b.length) (h2 : b.length = c.length) : add3 a b c = more 0 (x3 a b c) := by
  unfold add3 more
  have e : (0 ^^^ 4294967295 : Nat) = (0 ^^^ 4294967295) ^^^ (0 ^^^ 4294967295) ^^^ (0 ^^^ 4294967295) := by decide +kernel
  have h := run_x3 a b c h1 h2 (0 ^^^ 4294967295) (0 ^^^ 4294967295) (0 ^^^ 4294967295)
  rw [← e] at h
  rw [h]
  generalize run (0 ^^^ 4294967295) a = A
  generalize run (0 ^^^ 4294967295) b = B
  generalize run (0 ^^^ 4294967295) c = C
  apply Nat.eq_of_testBit_eq; intro i
  simp only [Nat.testBit_xor]
  cases A.testBit i <;> cases B.testBit i <;> cases C.testBit i <;> cases Nat.testBit 4294967295 i <;> rfl
theorem x3_snoc (a b c : List Nat) (k : Nat) (ha : k < a.length) (hb : k < b.length) (hc : k < c.length) :
    x3 (a.take (k + 1)) (b.take (k + 1)) (c.take (k + 1)) = x3 (a.take k) (b.take k) (c.take k) ++ [a.getD k 0 ^^^ b.getD k 0 ^^^ c.getD k 0] := by
  induction k generalizing a b c with
  | zero =>
    cases a with
    | nil => simp at ha
    | cons x a => cases b with
      | nil => simp at hb
      | cons y b => cases c with
        | nil => simp at hc
        | cons z c => simp [x3]
  | succ k ih =>
    cases a with
    | nil => simp at ha
    | cons x a => cases b with
      | nil => simp at hb
      | cons y b => cases c with
        | nil => simp at hc
        | cons z c =>
          have := ih a b c (by simpa using ha) (by simpa using hb) (by simpa using hc)
          show (x ^^^ y ^^^ z) :: x3 (a.take (k + 1)) (b.take (k + 1)) (c.take (k + 1)) = _
          rw [this]
          simp [x3]
theorem x3_length (a b c : List Nat) (h1 : a.length = b.length) (h2 : b.length = c.length) : (x3 a b c).length = a.length := by
  induction a generalizing b c with
  | nil => cases b <;> cases c <;> simp_all [x3]
  | cons x a ih =>
    cases b with
    | nil => simp at h1
    | cons y b => cases c with
      | nil => simp at h2
      | cons z c => simp [x3, ih b c (by simpa using h1) (by simpa using h2)]
theorem xor_lt8 {a b : Nat} (h : a < 256) (h' : b < 256) : a ^^^ b < 256 :=
  Nat.xor_lt_two_pow (n := 8) (by omega) (by omega)
theorem x3_small (a b c : List Nat) (ha : ∀ n ∈ a, n < 256) (hb : ∀ n ∈ b, n < 256) (hc : ∀ n ∈ c, n < 256) : ∀ n ∈ x3 a b c, n < 256 := by
  induction a generalizing b c with
  | nil => cases b <;> cases c <;> simp [x3]
  | cons x a ih =>
    cases b with
    | nil => simp [x3]
    | cons y b => cases c with
      | nil => simp [x3]
      | cons z c =>
        intro n hn
        rcases List.mem_cons.mp hn with rfl | hn
        · exact xor_lt8 (xor_lt8 (ha x (by simp)) (hb y (by simp))) (hc z (by simp))
        · exact ih b c (fun n hn => ha n (by simp [hn])) (fun n hn => hb n (by simp [hn])) (fun n hn => hc n (by simp [hn])) n hn
end Go.Proofs.Yteglhhenpimimaa.Crc
