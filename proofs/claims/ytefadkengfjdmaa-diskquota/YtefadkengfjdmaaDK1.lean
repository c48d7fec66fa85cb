/- A disk as it lies in memory: what it is, and what stays of it when one of its blocks turns. -/
import Derived.Test.YtefadkengfjdmaaDM
import Derived.Test.YtefadkengfjdmaaGI
namespace Go.Proofs.Ytefadkengfjdmaa
open Go.RowKit

namespace Dk
/-- a file: its bytes, how many of them are safe -/
structure F where
  bs : List Nat
  safe : Nat
/-- a turn of names -/
structure T where
  taken : ByteArray
  given : ByteArray
  file : Nat
/-- a disk -/
structure D where
  quota : Nat
  files : List (Nat × F)
  last : Nat
  names : List (ByteArray × Nat)
  kept : List (ByteArray × Nat)
  turns : List T
  stop : Int
  fault : Int
  dead : Bool
/-- what is used -/
def sum (l : List (Nat × F)) : Nat := (l.map fun x => x.2.bs.length).sum
end Dk

/-- where a file lies: its block, and its slice of bytes -/
structure FH where
  q : Nat
  v : Value
def ik (n : Nat) : Value := .int .i64 (n : Int)
def sk (s : ByteArray) : Value := .string s
def fv (h : FH) : Value := .pointer (some ⟨h.q, 0, none⟩)
theorem beq_bytes (a b : ByteArray) : (a == b) = decide (a = b) := by
  by_cases h : a = b
  · rw [(MapKept.bytes_beq a b).2 h, decide_eq_true h]
  · rw [decide_eq_false h]
    cases hc : a == b with
    | false => rfl
    | true => exact absurd ((MapKept.bytes_beq a b).1 hc) h
theorem skE : KeyE Try.prog 9 sk where
  und := ⟨.string, Try.underlying9, fun a b => by simp only [sk, Instr.sameNow, beq_bytes], fun e a w => MapKept.run_checkKey Try.underlying9 (by simp [sk, MapKept.IsKey]) e 9999⟩
  bits := fun a => by simp [sk, Instr.sameBits, beq_bytes]
theorem ikE : KeyE Try.prog 3 ik where
  und := ⟨.int .i64, Try.underlying3, fun a b => by simp only [ik, Instr.sameNow, if_true]; congr 1; by_cases h : a = b <;> simp [h]; omega, fun e a w => MapKept.run_checkKey Try.underlying3 (by simp [ik, MapKept.IsKey]) e 9999⟩
  bits := fun a => by simp [ik, Instr.sameBits]

def tenc (t : Dk.T) : List Value := [.string t.taken, .string t.given, .int .i64 (t.file : Int)]
theorem tencE : Enc 3 tenc := ⟨fun _ => rfl, fun x u hu => by simp only [tenc, List.mem_cons, List.not_mem_nil, or_false] at hu; rcases hu with rfl | rfl | rfl <;> rfl⟩

/-- a file lies there -/
structure FileAt (w : World) (h : FH) (f : Dk.F) : Prop where
  blk : w.heap[h.q]? = some (.cells #[h.v, .int .i64 (f.safe : Int)] 58 (0, 0))
  row : w.ownsRow 0 5 1 h.v f.bs.length (kcells .u8 f.bs)
  small : ∀ x ∈ f.bs, x < 256
  safe : f.safe ≤ f.bs.length

/-- a disk lies at p, its cell 'used' is u, its maps are fm, nm and sm, its turns tv, its files J -/
structure Parts (w : World) (p : Nat) (D : Dk.D) (u : Nat) (fm nm sm : Nat) (tv : Value) (J : List (Nat × FH × Dk.F)) : Prop where
  blk : w.heap[p]? = some (.cells #[.int .i64 (D.quota : Int), .map (some fm), .int .i64 (D.last : Int), .int .i64 (u : Int), .map (some nm), .map (some sm), tv, .int .i64 D.stop, .int .i64 D.fault, .bool D.dead] 49 (0, 0))
  jf : J.map (fun x => (x.1, x.2.2)) = D.files
  files : MapAt ik fv w fm (J.map fun x => (x.1, x.2.1))
  names : MapAt sk ik w nm D.names
  kept : MapAt sk ik w sm D.kept
  turns : w.ownsRow 0 64 3 tv D.turns.length (tcells tenc D.turns)
  each : ∀ x ∈ J, FileAt w x.2.1 x.2.2
  qs : (J.map (·.2.1.q)).Nodup
  vs : J.Pairwise fun x y => x.2.1.v.ownBlock = none ∨ x.2.1.v.ownBlock ≠ y.2.1.v.ownBlock
  ne : fm ≠ nm ∧ fm ≠ sm ∧ nm ≠ sm

theorem own_blk {w : World} {B e s n : Nat} {v : Value} {xs : List Value} (h : w.ownsRow B e s v n xs) {g : Nat} (hg : v.ownBlock = some g) : ∃ cur, w.heap[g]? = some (.cells cur e (0, 0)) := by
  rcases h.2 with ⟨rfl, _⟩ | ⟨g', cap, cur, rfl, _, hc, _⟩
  · simp [Value.ownBlock] at hg
  · simp [Value.ownBlock] at hg
    subst hg
    exact ⟨cur, hc⟩
theorem own_keep {w w' : World} {B e s n : Nat} {v : Value} {xs : List Value} (h : w.ownsRow B e s v n xs) (hk : ∀ g, v.ownBlock = some g → w'.heap[g]? = w.heap[g]?) : w'.ownsRow B e s v n xs := by
  refine ⟨h.1, ?_⟩
  rcases h.2 with h0 | ⟨g', cap, cur, rfl, h1, hc, h2⟩
  · exact .inl h0
  · exact .inr ⟨g', cap, cur, rfl, h1, (hk g' rfl).trans hc, h2⟩
theorem cells_ne {w : World} {a b : Nat} {c c' : Array Value} {T T' : TypeId} {r r' : Nat × Nat} (h : w.heap[a]? = some (.cells c T r)) (h' : w.heap[b]? = some (.cells c' T' r')) (hne : T ≠ T') : a ≠ b := by
  rintro rfl
  rw [h] at h'
  simp only [Option.some.injEq, Obj.cells.injEq] at h'
  exact hne h'.2.1
theorem cells_map {w : World} {a b : Nat} {c : Array Value} {T : TypeId} {r : Nat × Nat} {es : Array MapEntry} {cl : Nat} (h : w.heap[a]? = some (.cells c T r)) (h' : w.heap[b]? = some (.map es cl)) : a ≠ b := by
  rintro rfl
  rw [h] at h'
  simp at h'
theorem heap_lt {w : World} {a : Nat} {o : Obj} (h : w.heap[a]? = some o) : a < w.heap.size := by
  rcases Nat.lt_or_ge a w.heap.size with h1 | h1
  · exact h1
  · simp [Array.getElem?_eq_none h1] at h

theorem MapAt.blk {α β : Type} {ek : α → Value} {ev : β → Value} {w : World} {b : Nat} {l : List (α × β)} (h : MapAt ek ev w b l) : ∃ es c, w.heap[b]? = some (.map es c) := by
  obtain ⟨es, c, h1, _⟩ := h
  exact ⟨es, c, h1⟩
theorem FileAt.keep {w w' : World} {h : FH} {f : Dk.F} (x : FileAt w h f) (hq : w'.heap[h.q]? = w.heap[h.q]?) (hv : ∀ g, h.v.ownBlock = some g → w'.heap[g]? = w.heap[g]?) : FileAt w' h f :=
  ⟨hq.trans x.blk, own_keep x.row hv, x.small, x.safe⟩

/-- the disk's blocks -/
def foot (p fm nm sm : Nat) (tv : Value) (J : List (Nat × FH × Dk.F)) (k : Nat) : Prop :=
  k = p ∨ k = fm ∨ k = nm ∨ k = sm ∨ tv.ownBlock = some k ∨ ∃ x ∈ J, k = x.2.1.q ∨ x.2.1.v.ownBlock = some k

theorem Parts.lt {w : World} {p u fm nm sm : Nat} {D : Dk.D} {tv : Value} {J : List (Nat × FH × Dk.F)} (h : Parts w p D u fm nm sm tv J) {k : Nat} (hk : foot p fm nm sm tv J k) : k < w.heap.size := by
  rcases hk with rfl | rfl | rfl | rfl | hk | ⟨x, hx, rfl | hk⟩
  · exact heap_lt h.blk
  · exact h.files.lt
  · exact h.names.lt
  · exact h.kept.lt
  · obtain ⟨_, hc⟩ := own_blk h.turns hk; exact heap_lt hc
  · exact heap_lt (h.each x hx).blk
  · obtain ⟨_, hc⟩ := own_blk (h.each x hx).row hk; exact heap_lt hc

/-- nothing of the disk has turned -/
theorem Parts.keep {w w' : World} {p u fm nm sm : Nat} {D : Dk.D} {tv : Value} {J : List (Nat × FH × Dk.F)} (h : Parts w p D u fm nm sm tv J) (hk : ∀ k, foot p fm nm sm tv J k → w'.heap[k]? = w.heap[k]?) : Parts w' p D u fm nm sm tv J where
  blk := (hk p (.inl rfl)).trans h.blk
  jf := h.jf
  files := h.files.keep (hk fm (.inr (.inl rfl)))
  names := h.names.keep (hk nm (.inr (.inr (.inl rfl))))
  kept := h.kept.keep (hk sm (.inr (.inr (.inr (.inl rfl)))))
  turns := own_keep h.turns fun g hg => hk g (.inr (.inr (.inr (.inr (.inl hg)))))
  each := fun x hx => (h.each x hx).keep (hk _ (.inr (.inr (.inr (.inr (.inr ⟨x, hx, .inl rfl⟩)))))) fun g hg => hk g (.inr (.inr (.inr (.inr (.inr ⟨x, hx, .inr hg⟩)))))
  qs := h.qs
  vs := h.vs
  ne := h.ne

/-- the disk's own cells have turned -/
theorem Parts.self {w w' : World} {p u fm nm sm : Nat} {D : Dk.D} {tv : Value} {J : List (Nat × FH × Dk.F)} (h : Parts w p D u fm nm sm tv J) (hk : ∀ k, k < w.heap.size → k ≠ p → w'.heap[k]? = w.heap[k]?) (D' : Dk.D) (u' : Nat)
    (hb : w'.heap[p]? = some (.cells #[.int .i64 (D'.quota : Int), .map (some fm), .int .i64 (D'.last : Int), .int .i64 (u' : Int), .map (some nm), .map (some sm), tv, .int .i64 D'.stop, .int .i64 D'.fault, .bool D'.dead] 49 (0, 0)))
    (h1 : D'.files = D.files) (h2 : D'.names = D.names) (h3 : D'.kept = D.kept) (h4 : D'.turns = D.turns) : Parts w' p D' u' fm nm sm tv J where
  blk := hb
  jf := h1 ▸ h.jf
  files := h.files.keep (hk fm h.files.lt (by obtain ⟨es, c, he⟩ := h.files.blk; exact (cells_map h.blk he).symm))
  names := h2 ▸ h.names.keep (hk nm h.names.lt (by obtain ⟨es, c, he⟩ := h.names.blk; exact (cells_map h.blk he).symm))
  kept := h3 ▸ h.kept.keep (hk sm h.kept.lt (by obtain ⟨es, c, he⟩ := h.kept.blk; exact (cells_map h.blk he).symm))
  turns := h4 ▸ own_keep h.turns fun g hg => by obtain ⟨c, hc⟩ := own_blk h.turns hg; exact hk g (heap_lt hc) (cells_ne hc h.blk (by decide))
  each := fun x hx => (h.each x hx).keep (hk _ (heap_lt (h.each x hx).blk) (cells_ne (h.each x hx).blk h.blk (by decide))) fun g hg => by obtain ⟨c, hc⟩ := own_blk (h.each x hx).row hg; exact hk g (heap_lt hc) (cells_ne hc h.blk (by decide))
  qs := h.qs
  vs := h.vs
  ne := h.ne

/-- of the maps one has turned -/
theorem Parts.maps {w w' : World} {p u fm nm sm : Nat} {D : Dk.D} {tv : Value} {J : List (Nat × FH × Dk.F)} (h : Parts w p D u fm nm sm tv J) {b : Nat} {es : Array MapEntry} {cl : Nat} (hb : w.heap[b]? = some (.map es cl)) (hk : ∀ k, k < w.heap.size → k ≠ b → w'.heap[k]? = w.heap[k]?) :
    (w'.heap[p]? = w.heap[p]?) ∧ (fm ≠ b → MapAt ik fv w' fm (J.map fun x => (x.1, x.2.1))) ∧ (nm ≠ b → MapAt sk ik w' nm D.names) ∧ (sm ≠ b → MapAt sk ik w' sm D.kept) ∧ w'.ownsRow 0 64 3 tv D.turns.length (tcells tenc D.turns) ∧ (∀ x ∈ J, FileAt w' x.2.1 x.2.2) :=
  ⟨hk p (heap_lt h.blk) (cells_map h.blk hb), fun e => h.files.keep (hk fm h.files.lt e), fun e => h.names.keep (hk nm h.names.lt e), fun e => h.kept.keep (hk sm h.kept.lt e),
   own_keep h.turns fun g hg => by obtain ⟨c, hc⟩ := own_blk h.turns hg; exact hk g (heap_lt hc) (cells_map hc hb),
   fun x hx => (h.each x hx).keep (hk _ (heap_lt (h.each x hx).blk) (cells_map (h.each x hx).blk hb)) fun g hg => by obtain ⟨c, hc⟩ := own_blk (h.each x hx).row hg; exact hk g (heap_lt hc) (cells_map hc hb)⟩
theorem Parts.named {w w' : World} {p u fm nm sm : Nat} {D : Dk.D} {tv : Value} {J : List (Nat × FH × Dk.F)} (h : Parts w p D u fm nm sm tv J) (hk : ∀ k, k < w.heap.size → k ≠ nm → w'.heap[k]? = w.heap[k]?) {l : List (ByteArray × Nat)} (hm : MapAt sk ik w' nm l) : Parts w' p { D with names := l } u fm nm sm tv J := by
  obtain ⟨es, c, he⟩ := h.names.blk
  obtain ⟨a, b, _, d, e, f⟩ := h.maps he hk
  exact ⟨a.trans h.blk, h.jf, b h.ne.1, hm, d h.ne.2.2.symm, e, f, h.qs, h.vs, h.ne⟩
theorem Parts.keeps {w w' : World} {p u fm nm sm : Nat} {D : Dk.D} {tv : Value} {J : List (Nat × FH × Dk.F)} (h : Parts w p D u fm nm sm tv J) (hk : ∀ k, k < w.heap.size → k ≠ sm → w'.heap[k]? = w.heap[k]?) {l : List (ByteArray × Nat)} (hm : MapAt sk ik w' sm l) : Parts w' p { D with kept := l } u fm nm sm tv J := by
  obtain ⟨es, c, he⟩ := h.kept.blk
  obtain ⟨a, b, d, _, e, f⟩ := h.maps he hk
  exact ⟨a.trans h.blk, h.jf, b h.ne.2.1, d h.ne.2.2, hm, e, f, h.qs, h.vs, h.ne⟩
end Go.Proofs.Ytefadkengfjdmaa
