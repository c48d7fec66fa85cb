/- An act is done. -/
import Derived.Test.YtefadkengfjdmaaDKR
namespace Go.Proofs.Ytefadkengfjdmaa
open Go.RowKit Go.Shelf

/-- an act as it lies in memory -/
structure AH where
  d : Int
  name : ByteArray
  to : ByteArray
  ba : Option Addr
  bn : Nat
  bc : Nat
  n : Int
  kn : Int
  ta : Option Addr
  tn : Nat
  tc : Nat
def ah (h : AH) : List Value := [.int .i64 h.d, .string h.name, .string h.to, .slice h.ba h.bn h.bc, .int .i64 h.n, .int .i64 h.kn, .slice h.ta h.tn h.tc]
def ahz : AH := ⟨0, ⟨#[]⟩, ⟨#[]⟩, none, 0, 0, 0, 0, none, 0, 0⟩
/-- an act that reads as bytes and numbers -/
structure IsAct (w : World) (h : AH) (bs : List Nat) (zs : List Int) : Prop where
  row : Row .u8 w h.ba h.bn bs
  nil : h.ba = none → h.bn = 0 ∧ h.bc = 0
  cap : h.bn ≤ h.bc
  tails : ZIn w h.ta h.tn h.tc zs
  n : -9223372036854775808 ≤ h.n ∧ h.n ≤ 9223372036854775807
  name : h.name.size ≤ maxLen
  to : h.to.size ≤ maxLen
theorem IsAct.fresh {w : World} {h : AH} {bs : List Nat} {zs : List Int} (ha : IsAct w h bs zs) : ∀ b o, h.ta = some ⟨b, o, none⟩ → w.heap.size ≤ b → h.tn = 0 := by
  intro b o e hb
  obtain ⟨⟨h1, h2, h3⟩, _⟩ := ha.tails
  rcases h3 with h3 | ⟨b', off, e', hc⟩
  · exact h3
  · rw [e] at e'
    simp only [Option.some.injEq, Addr.mk.injEq] at e'
    obtain ⟨rfl, rfl, _⟩ := e'
    rcases Nat.eq_zero_or_pos h.tn with h0 | h0
    · exact h0
    · exact absurd (cell_lt (hc 0 h0 0 _ rfl)) (by show ¬ b < _; omega)

set_option maxRecDepth 100000 in
set_option maxHeartbeats 4000000 in
theorem act_do {w0 w : World} {p b q : Nat} {D : Dk.D} (hH : Here w0 w p D) (hs : Dk.Small D b q) (hb : b ≤ 1000) (d : Int) (name to : ByteArray) (ba : Option Addr) (bn bc : Nat) (n kn : Int) (ta : Option Addr) (tn tc : Nat) (bs : List Nat) (zs : List Int)
    (ha : IsAct w0 ⟨d, name, to, ba, bn, bc, n, kn, ta, tn, tc⟩ bs zs) (hbn : bn ≤ 300) :
    Calls Try.prog 7 #[.pointer (some ⟨p, 0, none⟩), .agg #[.int .i64 d, .string name, .string to, .slice ba bn bc, .int .i64 n, .int .i64 kn, .slice ta tn tc]] w fun e w' => ∃ D' z, e = .returned (.int .i64 z) ∧ Here w0 w' p D' ∧ Dk.Small D' (b + 1) q := by
  have hbw : Below w.heap.size w (w.alloc (.cells #[.int .i64 d, .string name, .string to, .slice ba bn bc, .int .i64 n, .int .i64 kn, .slice ta tn tc] 36)) := below_alloc w _
  have hb1 : (w.alloc (.cells #[.int .i64 d, .string name, .string to, .slice ba bn bc, .int .i64 n, .int .i64 kn, .slice ta tn tc] 36)).heap[w.heap.size]? = some (.cells #[.int .i64 d, .string name, .string to, .slice ba bn bc, .int .i64 n, .int .i64 kn, .slice ta tn tc] 36 (0, 0)) := heap_alloc_new w _
  have hH1 := hH.keep hbw
  have hn := ha.n
  have hnil := ha.nil
  simp only at hn hnil
  have HR : Hid (∀ W', Below w0.heap.size w0 W' → Row .u8 W' ba bn bs) := (fun W' h => ha.row.below h (Nat.le_refl _) : ∀ W', Below w0.heap.size w0 W' → Row .u8 W' ba bn bs)
  have HZ : Hid (∀ W', Below w0.heap.size w0 W' → ZIn W' ta tn tc zs) := (fun W' h => ⟨ha.tails.1.below h (Nat.le_refl _), ha.tails.2⟩ : ∀ W', Below w0.heap.size w0 W' → ZIn W' ta tn tc zs)
  have HF : Hid (∀ b o, ta = some ⟨b, o, none⟩ → w0.heap.size ≤ b → tn = 0) := ha.fresh
  have hle := hs.le (Nat.le_succ b)
  clear ha
  go_enter Try.func7, Try.ntmps7
  go_wp2_with (first
    | (go_at_call 15; go_must (refine (here_cut hH1 (Below.refl _ _) name n hn).mono ?_; rintro e w2 ⟨rfl, hD2⟩; have hS2 : Dk.Small _ (b + 1) q := hs.cut name n))
    | (go_at_call 11; go_must (refine (here_sync hH1 (Below.refl _ _) name).mono ?_; rintro e w2 ⟨rfl, hD2⟩; have hS2 : Dk.Small _ (b + 1) q := hs.sync name))
    | (go_at_call 12; go_must (refine (here_syncNames hH1 (Below.refl _ _) hs (by omega)).mono ?_; rintro e w2 ⟨rfl, hD2⟩; have hS2 : Dk.Small _ (b + 1) q := hs.syncNames))
    | (go_at_call 16; go_must (refine (here_rename hH1 (Below.refl _ _) hs (by omega) name to).mono ?_; rintro e w2 ⟨rfl, hD2⟩; have hS2 : Dk.Small _ (b + 1) q := hs.rename name to))
    | (go_at_call 17; go_must (refine (here_remove hH1 (Below.refl _ _) hs (by omega) name).mono ?_; rintro e w2 ⟨rfl, hD2⟩; have hS2 : Dk.Small _ (b + 1) q := hs.remove name))
    | (go_at_call 18; go_must (refine (here_stop hH1 (Below.refl _ _) n hn).mono ?_; rintro e w2 ⟨rfl, hD2⟩; have hS2 : Dk.Small _ (b + 1) q := hle.of (E := Dk.stopped D n) rfl rfl rfl rfl rfl))
    | (go_at_call 19; go_must (refine (here_fault hH1 (Below.refl _ _) n hn).mono ?_; rintro e w2 ⟨rfl, hD2⟩; have hS2 : Dk.Small _ (b + 1) q := hle.of (E := { D with fault := n }) rfl rfl rfl rfl rfl))
    | (go_at_call 13; go_must (refine (here_crash hH1 (Below.refl _ _) hs (by omega) kn ta tn tc zs (HZ.out _ hH1.below) HF.out).mono ?_; rintro e w2 ⟨rfl, hD2⟩; have hS2 : Dk.Small _ (b + 1) q := (hs.crash kn zs).le (Nat.le_succ _))))
  all_goals try (go_ret; exact ⟨_, _, rfl, hD2, hS2⟩)
  all_goals try (go_ret; exact ⟨_, _, rfl, hH1, hle⟩)
  generalize w.alloc (.cells #[.int .i64 d, .string name, .string to, .slice ba bn bc, .int .i64 n, .int .i64 kn, .slice ta tn tc] 36) = W at *
  have k1 : W.cell? ⟨w.heap.size, 1, none⟩ = some (.string name) := (Go.Joins.cell_of_block hb1 _).trans rfl
  have k3 : W.cell? ⟨w.heap.size, 3, none⟩ = some (.slice ba bn bc) := (Go.Joins.cell_of_block hb1 _).trans rfl
  have hwW : w.heap.size < W.heap.size := heap_lt hb1
  have hB1 : Below W.heap.size W (W.drew.alloc (.cells #[] 5)) := (Below.refl W.heap.size W).drew.alloc (Nat.le_refl _) _
  have hrow := HR.out _ (hH1.below.trans (hB1.mono hH1.below.size))
  have hsm := hrow.2.2.1
  have hmade := made_at W.drew 5 0 (b := W.heap.size) rfl (Nat.zero_le _)
  have HB : Hid (∀ w2, (W.drew.alloc (.cells #[] 5)).grownBy w2 (some W.heap.size) → Below W.heap.size W w2) := (fun w2 h => hB1.grown h hB1.size (fun k e => by cases e; exact Nat.le_refl _) : ∀ w2, (W.drew.alloc (.cells #[] 5)).grownBy w2 (some W.heap.size) → Below W.heap.size W w2)
  have HC : Hid (∀ w2, Below W.heap.size W w2 → w2.cell? ⟨w.heap.size, 1, none⟩ = some (.string name) ∧ w2.cell? ⟨w.heap.size, 3, none⟩ = some (.slice ba bn bc)) := (fun w2 h => ⟨(h.cell (p := ⟨w.heap.size, 1, none⟩) hwW).trans k1, (h.cell (p := ⟨w.heap.size, 3, none⟩) hwW).trans k3⟩ : ∀ w2, Below W.heap.size W w2 → w2.cell? ⟨w.heap.size, 1, none⟩ = some (.string name) ∧ w2.cell? ⟨w.heap.size, 3, none⟩ = some (.slice ba bn bc))
  have hcall : ∀ (a' : Option Addr) (c' : Nat) (w2 : World), w2.ownsRow 0 5 1 (.slice a' bn c') bn (kcells .u8 bs) → Below W.heap.size W w2 → (∀ g, (Value.slice a' bn c').ownBlock = some g → W.heap.size ≤ g) → Calls Try.prog 10 #[.pointer (some ⟨p, 0, none⟩), .string name, .slice a' bn c'] w2 fun e w' => e = .returned (.int .i64 (Dk.append D name bs).2) ∧ Here w0 w' p (Dk.append D name bs).1 ∧ w'.cell? ⟨w.heap.size, 1, none⟩ = some (.string name) ∧ w'.cell? ⟨w.heap.size, 3, none⟩ = some (.slice ba bn bc) := by
    intro a' c' w2 hown hbel hpl
    obtain ⟨r1, r2, r3⟩ := row_of_owns hown hsm (by omega)
    refine (here_append_in hH (hbw.trans (hbel.mono hbw.size)) hs (by omega) name a' bn c' bs r1 r2 ?_).mono ?_
    · rintro b o rfl
      refine ⟨fun hf => by have := hpl b rfl; have := hf.2; omega, ?_⟩
      rcases hown.2 with ⟨e, _⟩ | ⟨g, cap, cur, e, _, hh, _⟩
      · cases e
      · cases e
        exact heap_lt hh
    · rintro e w' ⟨he, hD, ho⟩
      have hlt := Nat.lt_of_lt_of_le hwW hbel.size
      have hno : ¬ From w0.heap.size w w.heap.size := fun h => Nat.lt_irrefl _ h.2
      obtain ⟨c1, c3⟩ := HC.out w2 hbel
      exact ⟨he, hD, (World.cell?_of_block (ho.block _ hlt hno)).trans c1, (World.cell?_of_block (ho.block _ hlt hno)).trans c3⟩
  clear hb1 hB1 hbw
  go_region_held3 (fun w' => w'.cell? ⟨w.heap.size, 1, none⟩ = some (.string name) ∧ w'.cell? ⟨w.heap.size, 3, none⟩ = some (.slice ba bn bc)) (first | go_keep | (refine ⟨?_, ?_⟩ <;> assumption))
    (first
      | ((refine step_bytes (by rfl) _ _ (by rfl) _ 0 [] (by rfl) hmade ba bn bc bs (by rfl) hrow hnil (by omega) ?_; intro a' c' w2 hown2 hg2 hpl2; rw [Nat.zero_add, List.nil_append] at hown2; rw [Nat.zero_add] at hpl2; have hb2 := HB.out w2 hg2; obtain ⟨m1, m3⟩ := HC.out w2 hb2))
      | ((go_at_call 10; have hz := hown2; refine (hcall a' c' w2 hown2 hb2 ?_).mono ?_; (intro g hg; rcases hpl2 g hg with h | h; (cases h; exact Nat.le_refl _); (have h9 : W.heap.size + 1 ≤ g := (by simpa using h); omega)); rintro e w3 ⟨rfl, hD3, n1, n3⟩)))
  go_wp2
  go_ret
  exact ⟨_, _, rfl, hD3, hs.append name bs⟩
end Go.Proofs.Ytefadkengfjdmaa
