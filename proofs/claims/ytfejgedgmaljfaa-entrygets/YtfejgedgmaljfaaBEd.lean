/- What the reference's Get of entries does. -/
import Derived.Test.YtfejgedgmaljfaaBEc
import Derived.Test.YtfejgedgmaljfaaE9
namespace Go.Proofs.Ytfejgedgmaljfaa
open Go.RowKit

theorem En.one_fits {bs : List Nat} {ix : Int} (h : ∀ x ∈ bs, x < 256) (hix : -9223372036854775808 ≤ ix ∧ ix ≤ 9223372036854775807) : EFit (En.one bs ix).1 ∧ (En.one bs ix).1.2.2.2.1.length ≤ 64 ∧ (En.one bs ix).1.2.2.2.2.2.1.length ≤ 32 := by
  have hz : EFit En.zero := ⟨by decide, by decide, by decide, by decide, by decide, by decide, by decide⟩
  have hp : Po.Fits Po.zero := ⟨by decide, by decide, by decide, by decide⟩
  have hm1 := number_most (bs := bs) (most := 2147483647)
  have hm2 := number_most (bs := bs.drop ((En.number bs 2147483647).2 + 1)) (most := 64)
  unfold En.one
  split
  · exact ⟨hz, by decide, by decide⟩
  · split
    · exact ⟨hz, by decide, by decide⟩
    · split
      · refine ⟨⟨hix, ⟨by simp only; omega, by simp only; omega⟩, ⟨by simp only; omega, by simp only; omega⟩, hp⟩, ?_, by simp [Ce.zero]⟩
        simp only [List.length_take]; omega
      · split
        · exact ⟨hz, by decide, by decide⟩
        · have hg := Ce.get_small (bs := bs.drop ((En.number bs 2147483647).2 + 1 + (En.number (bs.drop ((En.number bs 2147483647).2 + 1)) 64).2 + (En.number (bs.drop ((En.number bs 2147483647).2 + 1)) 64).1)) (fun x hx => h x (List.mem_of_mem_drop hx))
          have hk := getD_lt (m := 256) (by omega) h (En.number bs 2147483647).2
          refine ⟨⟨hix, ⟨by simp only; omega, by simp only; omega⟩, ⟨by simp only; omega, by simp only; omega⟩, hg.2.2⟩, ?_, hg.2.1⟩
          simp only [List.length_take]; omega

/-- what the reference's Get tells -/
def RGet (w : World) (es : List En.E) (e : Ending) (w' : World) : Prop :=
  ∃ a c, e = .returned (.slice a es.length c) ∧ ERow w' a es.length es ∧ (a = none → es.length = 0 ∧ c = 0) ∧ Below w.heap.size w w'
theorem rget_nil {w W : World} {es : List En.E} (h : es = []) (hb : Below w.heap.size w W) : RGet w es (.returned (.slice none 0 0)) W := by
  subst h
  exact ⟨none, 0, rfl, ⟨rfl, by simp, .inl rfl⟩, fun _ => ⟨rfl, rfl⟩, hb⟩
theorem rget_some {w W : World} {es : List En.E} {a : Option Addr} {n c : Nat} {l : List En.E} (h : es = l) (hl : l.length = n) (hr : ERow W a n l) (hn : a = none → n = 0 ∧ c = 0) (hb : Below w.heap.size w W) : RGet w es (.returned (.slice a n c)) W := by
  subst h; subst hl
  exact ⟨a, c, rfl, hr, hn, hb⟩

set_option maxRecDepth 100000 in
set_option maxHeartbeats 1000000 in
theorem enget_none (a : Option Addr) (len cap n k first m : Nat) (w : World) (out : List En.E) (HO : Hid (out = []))
    (hnum : Calls Try.prog 34 #[.slice a len cap, .int .u64 16] w fun e w' => e = .returned (.tuple #[.int .i64 (n : Nat), .int .i64 (k : Nat)]) ∧ Below w.heap.size w w')
    (hnum2 : ∀ W a' z c', Below w.heap.size w W → z = len - k → ((z = 0 ∧ c' = 0) ∨ ∃ b off, a = some ⟨b, off, none⟩ ∧ a' = some ⟨b, off + k, none⟩ ∧ c' = cap - k) → Calls Try.prog 34 #[.slice a' z c', .int .u64 2147483647] W fun e w' => e = .returned (.tuple #[.int .i64 (first : Nat), .int .i64 (m : Nat)]) ∧ Below W.heap.size W w')
    (hk : k ≤ len) (hlc : len ≤ cap) (hshape : Shape a len cap) (h : k = 0 ∨ m = 0) :
    Calls Try.prog 16 #[.slice a len cap] w (RGet w out) := by
  have j1 : (k : Int) ≤ (len : Int) := by omega
  have j2 : (len : Int) ≤ (cap : Int) := by omega
  have j3 : (k : Int) ≤ (cap : Int) := by omega
  by_cases hc : cap = k
  · obtain rfl : len = cap := by omega
    subst hc
    rcases h with h | h
    · subst h
      go_enter Try.func16, Try.ntmps16
      go_wp2_with (first
        | (go_at_call 34; have := hbel1; go_must (refine (hnum2 _ _ 0 0 hbel1 (by omega) (.inl ⟨rfl, rfl⟩)).mono ?_; rintro e w2 ⟨rfl, hbel2⟩))
        | (go_at_call 34; go_must (refine hnum.mono ?_; rintro e w1 ⟨rfl, hbel1⟩)))
      go_ret
      exact rget_nil HO.out (hbel1.trans (hbel2.mono hbel1.size))
    · subst h
      by_cases h0 : len = 0
      · subst h0
        go_enter Try.func16, Try.ntmps16
        go_wp2_with (first
          | (go_at_call 34; have := hbel1; go_must (refine (hnum2 _ _ 0 0 hbel1 (by omega) (.inl ⟨rfl, rfl⟩)).mono ?_; rintro e w2 ⟨rfl, hbel2⟩))
          | (go_at_call 34; go_must (refine hnum.mono ?_; rintro e w1 ⟨rfl, hbel1⟩)))
        go_ret
        exact rget_nil HO.out (hbel1.trans (hbel2.mono hbel1.size))
      · have hd : ((len : Int) == 0) = false := by simp; omega
        obtain ⟨b, off, rfl, _⟩ : ∃ b off, a = some ⟨b, off, none⟩ ∧ len ≤ len := by
          rcases hshape with h | h
          · omega
          · exact h
        go_enter Try.func16, Try.ntmps16
        go_wp2_with (first
          | (go_at_call 34; have := hbel1; go_must (refine (hnum2 _ _ 0 0 hbel1 (by omega) (.inl ⟨rfl, rfl⟩)).mono ?_; rintro e w2 ⟨rfl, hbel2⟩))
          | (go_at_call 34; go_must (refine hnum.mono ?_; rintro e w1 ⟨rfl, hbel1⟩)))
        go_ret
        exact rget_nil HO.out (hbel1.trans (hbel2.mono hbel1.size))
  · obtain ⟨b, off, rfl, _⟩ : ∃ b off, a = some ⟨b, off, none⟩ ∧ len ≤ cap := by
      rcases hshape with h | h
      · omega
      · exact h
    by_cases h0 : k = 0
    · subst h0
      go_enter Try.func16, Try.ntmps16
      go_wp2_with (first
        | (go_at_call 34; have := hbel1; go_must (refine (hnum2 _ _ _ _ hbel1 (by omega) (.inr ⟨b, off, rfl, rfl, by omega⟩)).mono ?_; rintro e w2 ⟨rfl, hbel2⟩))
        | (go_at_call 34; go_must (refine hnum.mono ?_; rintro e w1 ⟨rfl, hbel1⟩)))
      go_ret
      exact rget_nil HO.out (hbel1.trans (hbel2.mono hbel1.size))
    · have hd : ((k : Int) == 0) = false := by simp; omega
      obtain rfl : m = 0 := by omega
      go_enter Try.func16, Try.ntmps16
      go_wp2_with (first
        | (go_at_call 34; have := hbel1; go_must (refine (hnum2 _ _ _ _ hbel1 (by omega) (.inr ⟨b, off, rfl, rfl, by omega⟩)).mono ?_; rintro e w2 ⟨rfl, hbel2⟩))
        | (go_at_call 34; go_must (refine hnum.mono ?_; rintro e w1 ⟨rfl, hbel1⟩)))
      go_ret
      exact rget_nil HO.out (hbel1.trans (hbel2.mono hbel1.size))
end Go.Proofs.Ytfejgedgmaljfaa

/- What the reference's Get of entries does where its two numbers are there. -/
namespace Go.Proofs.Ytfejgedgmaljfaa
open Go.RowKit

theorem ent_cells2 {W : World} {g : Nat} {c0 c1 c2 c3 c4 c5 c6 c7 c8 c9 : Value} {e : TypeId} (h : W.heap[g]? = some (.cells #[c0, c1, c2, c3, c4, c5, c6, c7, c8, c9] e (0, 0))) : W.cell? ⟨g, 0, none⟩ = some c0 ∧ W.cell? ⟨g, 1, none⟩ = some c1 ∧ W.cell? ⟨g, 2, none⟩ = some c2 ∧ W.cell? ⟨g, 3, none⟩ = some c3 ∧ W.cell? ⟨g, 4, none⟩ = some c4 ∧ W.cell? ⟨g, 5, none⟩ = some c5 ∧ W.cell? ⟨g, 6, none⟩ = some c6 ∧ W.cell? ⟨g, 7, none⟩ = some c7 ∧ W.cell? ⟨g, 8, none⟩ = some c8 ∧ W.cell? ⟨g, 9, none⟩ = some c9 := by
  have k : ∀ i, W.cell? ⟨g, i, none⟩ = #[c0, c1, c2, c3, c4, c5, c6, c7, c8, c9][i]? := fun i => by
    simp only [World.cell?, h]
    rfl
  exact ⟨k 0, k 1, k 2, k 3, k 4, k 5, k 6, k 7, k 8, k 9⟩

theorem one_cells (i t k : Int) (s : ByteArray) (f : Bool) (a : Option Addr) (n c : Nat) (x y z : Int) (m : Nat) : ∀ u ∈ [(.int .i64 i : Value), .int .i64 t, .int .i64 k, .string s, .bool f, .slice a n c, .int .i64 x, .int .i64 y, .int .i64 z, .int .u32 (m : Nat)], u.oneCell' = true := by
  intro u hu
  simp only [List.mem_cons, List.not_mem_nil, or_false] at hu
  rcases hu with rfl | rfl | rfl | rfl | rfl | rfl | rfl | rfl | rfl | rfl <;> rfl

set_option maxRecDepth 100000 in
set_option maxHeartbeats 1000000 in
theorem enget_loop (b off len cap n k first m A0 : Nat) (bs : List Nat) (w : World) (out : List En.E) (G : Option (List En.E × Nat))
    (hnum : Calls Try.prog 34 #[.slice (some ⟨b, off, none⟩) len cap, .int .u64 16] w fun e w' => e = .returned (.tuple #[.int .i64 (n : Nat), .int .i64 (k : Nat)]) ∧ Below w.heap.size w w')
    (hnum2 : ∀ W z c', Below w.heap.size w W → z = len - k → c' = cap - k → Calls Try.prog 34 #[.slice (some ⟨b, off + k, none⟩) z c', .int .u64 2147483647] W fun e w' => e = .returned (.tuple #[.int .i64 (first : Nat), .int .i64 (m : Nat)]) ∧ Below W.heap.size W w')
    (hk0 : 0 < k) (hm0 : 0 < m) (hA0 : Hid (A0 = k + m)) (hAl : A0 ≤ len) (hlc : len ≤ cap) (hbig : len ≤ 100000) (hn16 : n ≤ 16) (hf : first ≤ 2147483647) (hr : Row .u8 w (some ⟨b, off, none⟩) len bs)
    (HG : Hid (G = En.sc n bs A0 (first : Int) [])) (HO0 : Hid (G = none → out = [])) (HO1 : Hid (∀ l A, G = some (l, A) → out = if A = len ∧ En.batch l = true then l else [])) :
    Calls Try.prog 16 #[.slice (some ⟨b, off, none⟩) len cap] w (RGet w out) := by
  have hlen : Hid (bs.length = len) := hr.1
  have hsm : Hid (∀ x ∈ bs, x < 256) := hr.2.2.1
  have hone : ∀ W a' z c' A (ix : Int), Below w.heap.size w W → A ≤ len → z = len - A → ((z = 0 ∧ c' = 0) ∨ (a' = some ⟨b, off + A, none⟩ ∧ c' = cap - A)) → Calls Try.prog 35 #[.slice a' z c', .int .i64 ix] W (ROne W (En.one (bs.drop A) ix)) := fun W a' z c' A ix hW hA hz hc => by
    have h1 := (hr.below hW (Nat.le_refl _)).drop A (by omega)
    rcases hc with ⟨rfl, rfl⟩ | ⟨rfl, rfl⟩
    · exact enone_any a' 0 0 _ ix W (by omega) (Nat.le_refl _) ⟨by rw [List.length_drop, hlen.out]; omega, by omega, h1.2.2.1, .inl rfl⟩
    · subst hz
      exact enone_any _ _ _ _ ix W (by omega) (by omega) h1
  have q := hA0.out
  have j1 : (k : Int) ≤ (len : Int) := by omega
  have j2 : (len : Int) ≤ (cap : Int) := by omega
  have j3 : (k : Int) ≤ (cap : Int) := by omega
  have j4 : IntKind.i64.wrap ((k : Int) + (m : Int)) = (A0 : Int) := by rw [IntKind.wrap_i64]; omega
  have hc1 : ¬ (cap = k) := by omega
  have hdk : ((k : Int) == 0) = false := by simp; omega
  have hdm : ((m : Int) == 0) = false := by simp; omega
  clear q hr
  go_enter Try.func16, Try.ntmps16
  go_wp2_with (first
    | (go_at_call 34; have := hbel1; go_must (refine (hnum2 _ _ _ hbel1 (by omega) (by omega)).mono ?_; rintro e w2 ⟨rfl, hbel2⟩))
    | (go_at_call 34; go_must (refine hnum.mono ?_; rintro e w1 ⟨rfl, hbel1⟩)))
  have hb2 := hbel1.trans (hbel2.mono hbel1.size)
  have hbs := hb2.alloc hb2.size (.cells #[] 34)
  have hmk := made_b w2 34 10 w.heap.size rfl hb2.size
  clear hnum hnum2 hbel1 hbel2
  go_loopw [7, 8, 9] (fun at' l i wr => ∃ (j A : Nat) (a' : Option Addr) (c' : Nat) (es : List En.E) (cs : List Value), j ≤ n ∧ A ≤ len ∧ i = .int .i64 j ∧ at' = .int .i64 A ∧ l = .slice a' j c' ∧ wr.ownsRow w.heap.size 34 10 (.slice a' j c') j cs ∧ Hid (EHeld wr w.heap.size es cs) ∧ Below w.heap.size w wr ∧ Hid (G = En.sc (n - j) bs A ((first : Int) + (j : Int)) es)) (fun _ _ i _ => n - (intOf i).toNat)
  case atStart => exact ⟨0, A0, _, 0, [], [], by omega, hAl, rfl, rfl, rfl, hmk, (rfl : EHeld _ _ [] []), hbs, (by rw [HG.out]; simp : G = En.sc (n - 0) bs A0 ((first : Int) + ((0 : Nat) : Int)) [])⟩
  case round =>
    obtain ⟨j, A, a', c', es, cs, hj, hA, rfl, rfl, rfl, hown, hheld, hbel, HS⟩ := hrel
    clear hbs hmk hb2
    by_cases hlt : j < n
    · obtain ⟨I, hI⟩ : ∃ I : Nat, I = first + j := ⟨_, rfl⟩
      have jI : IntKind.i64.wrap ((first : Int) + (j : Int)) = (I : Int) := by rw [IntKind.wrap_i64]; omega
      have jj : (j : Int) < (n : Int) := by omega
      have jA : (A : Int) ≤ (len : Int) := by omega
      have jB : (A : Int) ≤ (cap : Int) := by omega
      have HS1 : Hid (G = if (En.one (bs.drop A) (I : Int)).2 = 0 then none else En.sc (n - (j + 1)) bs (A + (En.one (bs.drop A) (I : Int)).2) ((first : Int) + ((j + 1 : Nat) : Int)) (es ++ [(En.one (bs.drop A) (I : Int)).1])) := by
        have : G = if (En.one (bs.drop A) (I : Int)).2 = 0 then none else En.sc (n - (j + 1)) bs (A + (En.one (bs.drop A) (I : Int)).2) ((first : Int) + ((j + 1 : Nat) : Int)) (es ++ [(En.one (bs.drop A) (I : Int)).1]) := by
          rw [HS.out, show n - j = n - (j + 1) + 1 by omega, En.sc, show (first : Int) + (j : Int) = (I : Int) by omega, show (first : Int) + ((j + 1 : Nat) : Int) = (I : Int) + 1 by omega]
        exact this
      have hft := En.one_fits (bs := bs.drop A) (ix := (I : Int)) (fun x hx => hsm.out x (List.mem_of_mem_drop hx)) (by omega)
      have hle := En.one_le (bs.drop A) (I : Int)
      rw [List.length_drop, hlen.out] at hle
      have ho := fun W a' z c' (h1 : Below w.heap.size w W) (h2 : z = len - A) h3 => hone W a' z c' A (I : Int) h1 hA h2 h3
      unfold ROne at ho
      clear HS hone hI
      generalize En.one (bs.drop A) (I : Int) = R at *
      obtain ⟨⟨xi, xt, xk, xkey, xf, xv, ps, py, pl, pm⟩, long⟩ := R
      simp only [ev] at ho hft hle HS1
      rcases Nat.eq_zero_or_pos long with h0 | h0
      · subst h0
        have H : Hid (out = []) := HO0.out (by rw [HS1.out, if_pos rfl])
        clear HS1 HO0 HO1 HG hft
        by_cases hcA : cap = A
        · subst hcA
          obtain rfl : len = cap := by omega
          go_wp2_with (go_at_call 35; go_must (refine (ho _ _ 0 0 hbel (by omega) (.inl ⟨rfl, rfl⟩)).mono ?_; rintro e w3 ⟨s3, a3, c3, rfl, hk3, r3, n3, ow3, hbel3⟩))
          go_ret
          exact rget_nil H.out ((hbel.trans (hbel3.mono hbel.size)).alloc (Nat.le_trans hbel.size hbel3.size) _)
        · go_wp2_with (go_at_call 35; go_must (refine (ho _ _ _ _ hbel (by omega) (.inr ⟨rfl, by omega⟩)).mono ?_; rintro e w3 ⟨s3, a3, c3, rfl, hk3, r3, n3, ow3, hbel3⟩))
          go_ret
          exact rget_nil H.out ((hbel.trans (hbel3.mono hbel.size)).alloc (Nat.le_trans hbel.size hbel3.size) _)
      · have hdl : ((long : Int) == 0) = false := by simp; omega
        obtain ⟨A2, hA2⟩ : ∃ A2 : Nat, A2 = A + long := ⟨_, rfl⟩
        have jA2 : IntKind.i64.wrap ((A : Int) + (long : Int)) = (A2 : Int) := by rw [IntKind.wrap_i64]; omega
        have H : Hid (G = En.sc (n - (j + 1)) bs A2 ((first : Int) + ((j + 1 : Nat) : Int)) (es ++ [(xi, xt, xk, xkey, xf, xv, ps, py, pl, pm)])) := (by rw [HS1.out, if_neg (by omega), hA2] : G = En.sc (n - (j + 1)) bs A2 ((first : Int) + ((j + 1 : Nat) : Int)) (es ++ [(xi, xt, xk, xkey, xf, xv, ps, py, pl, pm)]))
        have hA2l : A2 ≤ len := by omega
        have hcA : ¬ (cap = A) := by omega
        clear HS1 HO0 HO1 HG hA2
        go_wp2_with (first
          | (go_at_call 35; go_must (refine (ho _ _ _ _ hbel (by omega) (.inr ⟨rfl, by omega⟩)).mono ?_; rintro e w3 ⟨s3, a3, c3, rfl, hk3, r3, n3, ow3, hbel3⟩; have hb3 := hbel.trans (hbel3.mono hbel.size); have hbA := (hb3.alloc hb3.size (.cells #[.int .i64 xi, .int .i64 xt, .int .i64 xk, .string s3, .bool xf, .slice a3 xv.length c3, .int .i64 ps, .int .i64 py, .int .i64 pl, .int .u32 (pm : Nat)] 34)).alloc (by simp only [World.size_alloc]; have := hb3.size; omega) (.cells #[.int .i64 xi, .int .i64 xt, .int .i64 xk, .string s3, .bool xf, .slice a3 xv.length c3, .int .i64 ps, .int .i64 py, .int .i64 pl, .int .u32 (pm : Nat)] 34); have hownA := ((owns_below hown hbel3).alloc (.cells #[.int .i64 xi, .int .i64 xt, .int .i64 xk, .string s3, .bool xf, .slice a3 xv.length c3, .int .i64 ps, .int .i64 py, .int .i64 pl, .int .u32 (pm : Nat)] 34)).alloc (.cells #[.int .i64 xi, .int .i64 xt, .int .i64 xk, .string s3, .bool xf, .slice a3 xv.length c3, .int .i64 ps, .int .i64 py, .int .i64 pl, .int .u32 (pm : Nat)] 34); have hEA := heap_alloc_new (w3.alloc (.cells #[.int .i64 xi, .int .i64 xt, .int .i64 xk, .string s3, .bool xf, .slice a3 xv.length c3, .int .i64 ps, .int .i64 py, .int .i64 pl, .int .u32 (pm : Nat)] 34)) (.cells #[.int .i64 xi, .int .i64 xt, .int .i64 xk, .string s3, .bool xf, .slice a3 xv.length c3, .int .i64 ps, .int .i64 py, .int .i64 pl, .int .u32 (pm : Nat)] 34); rw [World.size_alloc] at hEA; have hcA' := ent_cells2 hEA))
          | (at_builtin; have := hownA; go_must (refine append_en (w0 := w) (B := w.heap.size) rfl (.tmp 51) (.tmp 53) rfl _ j cs rfl hownA (w3.heap.size + 1) 1 (.int .i64 xi) (.int .i64 xt) (.int .i64 xk) (.string s3) (.bool xf) (.slice a3 xv.length c3) (.int .i64 ps) (.int .i64 py) (.int .i64 pl) (.int .u32 (pm : Nat)) rfl hcA' (one_cells _ _ _ _ _ _ _ _ _ _ _ _) (by omega) hbA hbA.size ?_; intro a4 c4 w4 hown4 hb4 hsz4 hg4)))
        have hsz3 : s3.size ≤ maxLen := by
          have h1 := kb_len s3
          have h2 := hft.2.1
          rw [hk3] at h1
          unfold maxLen
          omega
        have ow4 := (((ow3.mono hbel.size).alloc (.cells #[.int .i64 xi, .int .i64 xt, .int .i64 xk, .string s3, .bool xf, .slice a3 xv.length c3, .int .i64 ps, .int .i64 py, .int .i64 pl, .int .u32 (pm : Nat)] 34)).alloc (.cells #[.int .i64 xi, .int .i64 xt, .int .i64 xk, .string s3, .bool xf, .slice a3 xv.length c3, .int .i64 ps, .int .i64 py, .int .i64 pl, .int .u32 (pm : Nat)] 34)).kept hg4 (own_apart (((ow3.mono hbel.size).alloc (.cells #[.int .i64 xi, .int .i64 xt, .int .i64 xk, .string s3, .bool xf, .slice a3 xv.length c3, .int .i64 ps, .int .i64 py, .int .i64 pl, .int .u32 (pm : Nat)] 34)).alloc (.cells #[.int .i64 xi, .int .i64 xt, .int .i64 xk, .string s3, .bool xf, .slice a3 xv.length c3, .int .i64 ps, .int .i64 py, .int .i64 pl, .int .u32 (pm : Nat)] 34)) hownA (by decide))
        have hh4 := ((hheld.out.below hbel3).below (below_alloc w3 (.cells #[.int .i64 xi, .int .i64 xt, .int .i64 xk, .string s3, .bool xf, .slice a3 xv.length c3, .int .i64 ps, .int .i64 py, .int .i64 pl, .int .u32 (pm : Nat)] 34))).below (below_alloc (w3.alloc (.cells #[.int .i64 xi, .int .i64 xt, .int .i64 xk, .string s3, .bool xf, .slice a3 xv.length c3, .int .i64 ps, .int .i64 py, .int .i64 pl, .int .u32 (pm : Nat)] 34)) (.cells #[.int .i64 xi, .int .i64 xt, .int .i64 xk, .string s3, .bool xf, .slice a3 xv.length c3, .int .i64 ps, .int .i64 py, .int .i64 pl, .int .u32 (pm : Nat)] 34))
        have hh5 := hh4.grown hownA (by decide) hg4
        have hh6 := EHeld.snoc (e := (xi, xt, xk, xkey, xf, xv, ps, py, pl, pm)) (s := s3) (A := a3) (C := c3) ⟨hk3, hsz3, ow4, r3.2.2.1, Nat.le_trans hft.2.2 (by omega), hft.1⟩ hh5
        have hh7 : Hid (_) := hh6
        clear hh6 hh5 hh4 ow4 hft hsz3
        go_roundw
        case rel => exact ⟨j + 1, A2, a4, c4, _, _, by omega, hA2l, by go_num, rfl, rfl, hown4, hh7, hb4, H⟩
        case measure => simp [intOf]; omega
    · obtain rfl : j = n := by omega
      have HE : Hid (out = if A = len ∧ En.batch es = true then es else []) := HO1.out es A (by rw [HS.out, Nat.sub_self]; rfl)
      have hrow := erow_of_owns hown hheld.out (by omega)
      have hbat := enbatch_any a' j c' es wr hrow.1
      clear HO0 HO1 HG HS hone hheld
      by_cases hAe : A = len
      · subst hAe
        have hdA : ((A : Int) != (A : Int)) = false := by simp
        cases hB : En.batch es with
        | true =>
          rw [hB] at hbat
          have H : Hid (out = es) := (by rw [HE.out, if_pos ⟨rfl, hB⟩] : out = es)
          clear HE hB
          go_wp2_with (go_at_call 11; go_must (refine hbat.mono ?_; rintro e w3 ⟨rfl, hbel3⟩))
          go_ret
          exact rget_some H.out hrow.2.1 (hrow.1.below hbel3 (Nat.le_refl _)) hrow.2.2 (hbel.trans (hbel3.mono hbel.size))
        | false =>
          rw [hB] at hbat
          have H : Hid (out = []) := (by rw [HE.out, if_neg (by rw [hB]; simp)] : out = [])
          clear HE hB
          go_wp2_with (go_at_call 11; go_must (refine hbat.mono ?_; rintro e w3 ⟨rfl, hbel3⟩))
          go_ret
          exact rget_nil H.out (hbel.trans (hbel3.mono hbel.size))
      · have hdA : ((A : Int) != (len : Int)) = true := by simp; omega
        have H : Hid (out = []) := (by rw [HE.out, if_neg (fun h => hAe h.1)] : out = [])
        clear HE
        go_wp2
        go_ret
        exact rget_nil H.out hbel
end Go.Proofs.Ytfejgedgmaljfaa

/- What the reference's Get of entries does, of any bytes. -/
namespace Go.Proofs.Ytfejgedgmaljfaa
open Go.RowKit

theorem enget_any (a : Option Addr) (len cap : Nat) (bs : List Nat) (w : World) (hbig : len ≤ 100000) (hlc : len ≤ cap) (hshape : Shape a len cap) (hr : Row .u8 w a len bs) :
    Calls Try.prog 16 #[.slice a len cap] w (RGet w (En.get bs)) := by
  have hlen := hr.1
  obtain ⟨n, k, e1⟩ : ∃ n k, En.number bs 16 = (n, k) := ⟨_, _, rfl⟩
  obtain ⟨first, m, e2⟩ : ∃ f m, En.number (bs.drop k) 2147483647 = (f, m) := ⟨_, _, rfl⟩
  have hk := En.number_le bs 16
  rw [e1, hlen] at hk
  have hm := En.number_le (bs.drop k) 2147483647
  rw [e2, List.length_drop, hlen] at hm
  have hn16 : n ≤ 16 := by have := number_most (bs := bs) (most := 16); rw [e1] at this; exact this
  have hf : first ≤ 2147483647 := by have := number_most (bs := bs.drop k) (most := 2147483647); rw [e2] at this; exact this
  simp only at hk hm
  have hnum := number_any a len cap 16 bs w hlc hbig (by omega) hr
  rw [e1] at hnum
  by_cases h : k = 0 ∨ m = 0
  · have HO : En.get bs = [] := by
      unfold En.get En.scan
      rw [e1]
      simp only
      rw [e2, if_pos h]
    refine enget_none a len cap n k first m w _ HO hnum ?_ hk hlc hshape h
    intro W a' z c' hW hz hc
    have h1 := (hr.below hW (Nat.le_refl _)).2.2.1
    have hs : ∀ x ∈ bs.drop k, x < lim .u8 := fun x hx => h1 x (List.mem_of_mem_drop hx)
    rcases hc with ⟨rfl, rfl⟩ | ⟨b, off, rfl, rfl, rfl⟩
    · have := number_any a' 0 0 2147483647 (bs.drop k) W (Nat.le_refl _) (by omega) (by omega) ⟨by rw [List.length_drop, hlen]; omega, by omega, hs, .inl rfl⟩
      rw [e2] at this
      exact this
    · subst hz
      have := number_any _ _ (cap - k) 2147483647 (bs.drop k) W (by omega) (by omega) (by omega) ((hr.below hW (Nat.le_refl _)).drop k hk)
      rw [e2] at this
      exact this
  · obtain ⟨b, off, rfl, _⟩ := hr.at (by omega)
    refine enget_loop b off len cap n k first m (k + m) bs w _ (En.sc n bs (k + m) (first : Int) []) hnum ?_ (by omega) (by omega) rfl (by omega) hlc hbig hn16 hf hr rfl ?_ ?_
    · intro W z c' hW hz hc
      subst hz; subst hc
      have := number_any _ _ (cap - k) 2147483647 (bs.drop k) W (by omega) (by omega) (by omega) ((hr.below hW (Nat.le_refl _)).drop k hk)
      rw [e2] at this
      exact this
    · have : En.sc n bs (k + m) (first : Int) [] = none → En.get bs = [] := by
        intro hg
        unfold En.get En.scan
        rw [e1]
        simp only
        rw [e2, if_neg h]
        simp only
        rw [hg]
      exact this
    · have : ∀ l A, En.sc n bs (k + m) (first : Int) [] = some (l, A) → En.get bs = if A = len ∧ En.batch l = true then l else [] := by
        intro l A hg
        unfold En.get En.scan
        rw [e1]
        simp only
        rw [e2, if_neg h]
        simp only
        rw [hg]
        simp only [hlen]
      exact this
end Go.Proofs.Ytfejgedgmaljfaa
