/- What is asked of the program's own functions over entries. -/
import Derived.Test.YtfejgedgmaljfaaBEa
import Derived.Test.YtfejgedgmaljfaaBW
namespace Go.Proofs.Ytfejgedgmaljfaa
open Go.RowKit

/-- OK or ErrArg -/
def ecode (b : Bool) : Nat := if b = true then 0 else 1
/-- OK or ErrText -/
def gcode (es : List En.E) : Nat := if es.length = 0 then 2 else 0
/-- entries that are not too great -/
def ELight (es : List En.E) : Prop := es.length ≤ 40 ∧ ∀ e ∈ es, e.2.2.2.1.length ≤ 200 ∧ e.2.2.2.2.2.1.length ≤ 200
def ECheckC : Prop := ∀ (i t k : Int) (s : ByteArray) (f : Bool) (a : Option Addr) (n c : Nat) (bs : List Nat) (p : Po.P) (w : World), n ≤ 200 → s.size ≤ 200 → EFit (i, t, k, kb s, f, bs, p) → Row .u8 w a n bs → (a = none → n = 0 ∧ c = 0) → Calls Try.prog 8 #[ev i t k s f a n c p] w fun e w' => e = .returned (.int .i64 (ecode (En.may (i, t, k, kb s, f, bs, p)) : Nat)) ∧ Below w.heap.size w w'
def EBatchC : Prop := ∀ (a : Option Addr) (n c : Nat) (es : List En.E) (w : World), ELight es → ERow w a n es → (a = none → n = 0 ∧ c = 0) → Calls Try.prog 12 #[.slice a n c] w fun e w' => e = .returned (.int .i64 (ecode (En.batch es) : Nat)) ∧ Below w.heap.size w w'
def EPutRes (w : World) (es : List En.E) (e : Ending) (w' : World) : Prop :=
  (En.batch es = true ∧ ∃ a c, e = .returned (.tuple #[.slice a (En.put es).length c, .int .i64 0]) ∧ w'.ownsRow w.heap.size 5 1 (.slice a (En.put es).length c) (En.put es).length (kcells .u8 (En.put es)) ∧ Below w.heap.size w w') ∨
  (En.batch es = false ∧ ∃ a c, e = .returned (.tuple #[.slice a 0 c, .int .i64 1]) ∧ Below w.heap.size w w')
def EPutC : Prop := ∀ (a : Option Addr) (n c : Nat) (es : List En.E) (w : World), ELight es → ERow w a n es → (a = none → n = 0 ∧ c = 0) → Calls Try.prog 10 #[.slice a n c] w (EPutRes w es)
def EGetRes (w : World) (es : List En.E) (e : Ending) (w' : World) : Prop :=
  ∃ a c, e = .returned (.tuple #[.slice a es.length c, .int .i64 (gcode es : Nat)]) ∧ ERow w' a es.length es ∧ (a = none → es.length = 0 ∧ c = 0) ∧ Below w.heap.size w w'
def EGetC : Prop := ∀ (a : Option Addr) (len cap : Nat) (bs : List Nat) (w : World), Shape a len cap → len ≤ cap → len ≤ 10000 → Row .u8 w a len bs → (a = none → len = 0 ∧ cap = 0) → Calls Try.prog 15 #[.slice a len cap] w (EGetRes w (En.get bs))
def ESameC : Prop := ∀ (a1 : Option Addr) (n1 c1 : Nat) (es1 : List En.E) (a2 : Option Addr) (n2 c2 : Nat) (es2 : List En.E) (w : World) (r : Bool), (r = true ↔ es1 = es2) → n1 ≤ 40 → n2 ≤ 40 → ELight es1 → ELight es2 → ERow w a1 n1 es1 → ERow w a2 n2 es2 → Calls Try.prog 18 #[.slice a1 n1 c1, .slice a2 n2 c2] w fun e w' => e = .returned (.bool r) ∧ Below w.heap.size w w'
end Go.Proofs.Ytfejgedgmaljfaa
