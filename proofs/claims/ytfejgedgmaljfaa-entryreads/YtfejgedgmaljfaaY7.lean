/- What the program's Put of entries does. -/
import Derived.Test.YtfejgedgmaljfaaY5
import Derived.Test.YtfejgedgmaljfaaY6
namespace Go.Proofs.Ytfejgedgmaljfaa
open Go.RowKit

theorem put1_len {e : En.E} (h : En.may e = true) : (En.put1 e).length ≤ 300 := by
  obtain ⟨_, _, h3, h4, hc, hk, hkind, _⟩ := En.may_parts h
  have a1 := Va.one_len10 (u := e.2.1.toNat) (by omega)
  have a2 := Va.one_len10 (u := e.2.2.2.1.length) (by omega)
  have a3 := Ce.put_len hc
  unfold En.put1
  simp only [List.length_append, List.length_singleton]
  split
  · simp only [List.length_nil]; omega
  · omega

set_option maxRecDepth 100000 in
set_option maxHeartbeats 4000000 in
theorem eput_yes (a : Option Addr) (l c : Nat) (es : List En.E) (w : World) (hli : ELight es) (hr : ERow w a l es) (hnil : a = none → l = 0 ∧ c = 0) (hbat : En.batch es = true) :
    Calls Try.prog 10 #[.slice a l c] w fun e w' => ∃ a c, e = .returned (.tuple #[.slice a (En.put es).length c, .int .i64 0]) ∧ w'.ownsRow w.heap.size 5 1 (.slice a (En.put es).length c) (En.put es).length (kcells .u8 (En.put es)) ∧ Below w.heap.size w w' := by
  have hB := ebatchC a l c es w hli hr hnil
  rw [hbat, show ecode true = 0 from rfl] at hB
  obtain ⟨hmay, hchain, hl1, hl16⟩ := En.batch_parts hbat
  have hlen := hr.1
  rw [hlen] at hl1 hl16
  obtain ⟨b, o, rfl, hc⟩ := hr.at (by omega)
  obtain ⟨s0, A0, L0, C0, p0, _⟩ := hc 0 (by omega)
  rw [Nat.zero_mul, Nat.add_zero] at p0
  have hmay0 : ∀ i, i < l → En.may (es.getD i En.zero) = true := fun i hi => by
    have hi' : i < es.length := by rw [hlen]; exact hi
    rw [show es.getD i En.zero = es[i] by simp [hi']]; exact hmay _ (List.getElem_mem hi')
  obtain ⟨hx1, hx2, _⟩ := En.may_parts (hmay0 0 (by omega))
  obtain ⟨ix, hix⟩ : ∃ ix : Nat, (es.getD 0 En.zero).1 = (ix : Int) := ⟨(es.getD 0 En.zero).1.toNat, by omega⟩
  rw [hix] at p0 hx1 hx2
  have H0 : Hid (En.put es = Va.put [l, ix] ++ es.flatMap En.put1) := (by
    unfold En.put
    rw [hlen, show (es.headD En.zero).1.toNat = ix by
      have : es.headD En.zero = es.getD 0 En.zero := by cases es <;> rfl
      rw [this, hix]; rfl] : En.put es = Va.put [l, ix] ++ es.flatMap En.put1)
  have i1 : IntKind.u64.wrap (ix : Int) = (ix : Int) := by simp only [IntKind.wrap_u64]; omega
  have i2 : IntKind.u64.wrap (l : Int) = (l : Int) := by simp only [IntKind.wrap_u64]; omega
  have i3 : (0 : Int) < (l : Int) := by omega
  have hput : ∀ (W : World) (q : Addr), Row .u64 W (some q) 2 [l, ix] → Calls Try.prog 25 #[.slice (some q) 2 2] W (Made .u8 5 W (Va.put [l, ix])) := fun W q h => put_any (some q) 2 2 [l, ix] W (by omega) h
  have hrow : ∀ W : World, Row .u64 (W.alloc (.cells #[.int .u64 (l : Nat), .int .u64 (ix : Nat)] 54)) (some ⟨W.heap.size, 0, none⟩) 2 [l, ix] := fun W => row_lit .u64 W 54 _ [l, ix] 2 rfl rfl (by intro u hu; simp only [List.mem_cons, List.not_mem_nil, or_false] at hu; show u < 18446744073709551616; omega) (by omega)
  have hpl : (Va.put [l, ix]).length ≤ 20 := by
    have := Va.put_len [l, ix] (by intro u hu; simp only [List.mem_cons, List.not_mem_nil, or_false] at hu; omega)
    simpa using this
  generalize Va.put [l, ix] = hd at *
  generalize En.put es = out at *
  clear hr hli hbat hchain
  go_enter Try.func10, Try.ntmps10
  go_wp2_with (first
    | (go_at_call 12; go_must (refine hB.mono ?_; rintro e w1 ⟨rfl, hbel1⟩; have p1 := (hbel1.cell (p := ⟨b, o, none⟩) (cell_lt p0)).trans p0; have hbA := hbel1.alloc hbel1.size (.cells #[.int .u64 (l : Nat), .int .u64 (ix : Nat)] 54)))
    | (go_at_call 25; go_must (refine (hput _ _ (hrow _)).mono ?_; rintro e w2 ⟨a2, c2, rfl, hown2, hbel2⟩)))
  have hown2' := hown2.mono (base' := w.heap.size) hbA.size
  have hbel2' := hbA.trans (hbel2.mono hbA.size)
  clear hown2 hbel2 hB hput hrow p0 p1 hbA hbel1
  go_loopw [5, 25] (fun v i wr => ∃ (k : Nat) (a' : Option Addr) (n c' : Nat), k ≤ l ∧ i = .int .i64 k ∧ v = .slice a' n c' ∧ n ≤ 20 + 300 * k ∧ wr.ownsRow w.heap.size 5 1 (.slice a' n c') n (kcells .u8 (hd ++ (es.take k).flatMap En.put1)) ∧ Below w.heap.size w wr) (fun _ i _ => l - (intOf i).toNat)
  case atStart => exact ⟨0, a2, _, c2, by omega, rfl, rfl, by omega, by simpa using hown2', hbel2'⟩
  case round =>
    obtain ⟨k, a', n, c', hk, rfl, rfl, hn, hown, hbel⟩ := hrel
    clear hown2' hbel2'
    by_cases hlt : k < l
    · obtain ⟨s1, A1, L1, C1, p0, p1, p2, p3, p4, p5, p6, p7, p8, p9, hk1, hz1, r1, t1, ff1⟩ := (hc k hlt).below hbel (Nat.le_refl _)
      have hM := hmay0 k hlt
      have i0 : (0 : Int) ≤ (k : Int) := Int.natCast_nonneg _
      have i4 : (k : Int) < (l : Int) := by omega
      have HT : Hid ((es.take (k + 1)).flatMap En.put1 = (es.take k).flatMap En.put1 ++ En.put1 (es.getD k En.zero)) := (by
        have hk' : k < es.length := by rw [hlen]; exact hlt
        rw [List.take_succ_eq_append_getElem hk', List.flatMap_append, show es.getD k En.zero = es[k] by simp [hk']]; simp : (es.take (k + 1)).flatMap En.put1 = (es.take k).flatMap En.put1 ++ En.put1 (es.getD k En.zero))
      obtain ⟨⟨xi, xt, xk, y1, f1, v1, ps, py, pl, pm⟩, hf1⟩ : ∃ f, f = es.getD k En.zero := ⟨_, rfl⟩
      rw [← hf1] at p0 p1 p2 p4 p6 p7 p8 p9 hk1 r1 ff1 hM HT
      simp only at p0 p1 p2 p4 p6 p7 p8 p9 hk1 r1
      subst hk1
      have hpe := put1_len hM
      have hps : ∀ u ∈ En.put1 (xi, xt, xk, kb s1, f1, v1, ps, py, pl, pm), u < lim .u8 := En.put1_small hM ⟨kb_small s1, r1.2.2.1, ff1.2.2.2.2.2.2⟩
      have hby := fun W (h : Below wr.heap.size wr W) => bytesof_any xi xt xk s1 f1 A1 L1 C1 v1 (ps, py, pl, pm) W hM (r1.below h (Nat.le_refl _)) t1 ff1.2.2.2
      simp only [ev] at hby
      have hbA := below_alloc wr (.cells #[.int .i64 xi, .int .i64 xt, .int .i64 xk, .string s1, .bool f1, .slice A1 L1 C1, .int .i64 ps, .int .i64 py, .int .i64 pl, .int .u32 (pm : Nat)] 34)
      have hbE := hbel.trans (hbA.mono hbel.size)
      have hoE := hown.alloc (.cells #[.int .i64 xi, .int .i64 xt, .int .i64 xk, .string s1, .bool f1, .slice A1 L1 C1, .int .i64 ps, .int .i64 py, .int .i64 pl, .int .u32 (pm : Nat)] 34)
      clear hf1 hc hmay0 hmay hM ff1 hz1 r1 t1
      generalize (es.take k).flatMap En.put1 = sofar at *
      generalize En.put1 (xi, xt, xk, kb s1, f1, v1, ps, py, pl, pm) = pe at *
      go_wp2_with (first
        | (go_at_call 26; go_must (refine (hby _ hbA).mono ?_; rintro e w3 ⟨a3, c3, rfl, hown3, hbel3⟩; have hb3 := hbE.trans (hbel3.mono hbE.size); have hr3 := row_of_owns hown3 hps (by omega); have hk3 := owns_below hoE hbel3))
        | (at_builtin; have := hk3; go_must (refine append_u8g (w0 := w) (B := w.heap.size) rfl (.tmp 29) (.tmp 31) rfl _ n (hd ++ sofar) rfl hk3 a3 pe.length c3 pe rfl hr3.1 hr3.2.1 (by omega) hb3 hb3.size ?_; intro a4 c4 w4 hown4 hb4 hsz4 hg4)))
      go_roundw
      case rel => exact ⟨k + 1, a4, _, c4, by omega, by go_num, rfl, by omega, by rw [HT.out]; simpa using hown4, hb4⟩
      case measure => simp [intOf]; omega
    · obtain rfl : k = l := by omega
      rw [List.take_of_length_le (by rw [hlen]; omega)] at hown
      have hn2 : n = out.length := by have := hown.1; rw [H0.out]; rw [kcells_length] at this; omega
      have Hn : Hid (n = out.length) := hn2
      rw [← H0.out] at hown
      clear hn2
      go_wp2
      go_ret2
      exact ⟨a', c', by rw [← Hn.out]; rfl, by rw [← Hn.out]; exact hown, hbel⟩

set_option maxRecDepth 100000 in
theorem eputC : EPutC := by
  intro a n c es w hl hr hnil
  cases hbat : En.batch es with
  | true =>
    refine (eput_yes a n c es w hl hr hnil hbat).mono ?_
    rintro e w' ⟨a', c', h⟩
    exact .inl ⟨hbat, a', c', h⟩
  | false =>
    have hB := ebatchC a n c es w hl hr hnil
    rw [hbat, show ecode false = 1 from rfl] at hB
    have HB : Hid (En.batch es = false) := hbat
    clear hbat hr hl
    go_enter Try.func10, Try.ntmps10
    go_wp2_with (go_at_call 12; go_must (refine hB.mono ?_; rintro e w1 ⟨rfl, hbel1⟩))
    go_ret2
    exact .inr ⟨HB.out, none, 0, rfl, hbel1⟩
end Go.Proofs.Ytfejgedgmaljfaa
