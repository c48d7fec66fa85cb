/- What the reference's May, Less, Sum and Put of a point do. -/
import Derived.Test.YtikieblokfjphaaGreatGa
import Derived.Test.YtikieblokfjphaaGreatMa
import Derived.Test.YtikieblokfjphaaGreatWa
namespace Go.Proofs.YtikieblokfjphaaGreat
open Go.RowKit

set_option maxRecDepth 100000 in
set_option maxHeartbeats 1000000 in
theorem pomay_any (s a l : Int) (m : Nat) (w : World) :
    Calls Tryz.prog 91 #[.agg #[.int .i64 s, .int .i64 a, .int .i64 l, .int .u32 m]] w fun e w' => e = .returned (.bool (Po.may (s, a, l, m))) ∧ Below w.heap.size w w' := by
  by_cases h1 : 1 ≤ s
  · skip
    by_cases h2 : s ≤ 2147483647
    · skip
      by_cases h3 : 0 ≤ a
      · skip
        by_cases h4 : a ≤ 2147483647
        · skip
          by_cases h5 : 0 ≤ l
          · skip
            have hm : Hid (Po.may (s, a, l, m) = decide (l ≤ 4096)) := (by unfold Po.may; simp only [h1, h2, h3, h4, h5, true_and] : Po.may (s, a, l, m) = decide (l ≤ 4096))
            go_enter Tryz.func91, Tryz.ntmps91
            go_wp2
            go_ret
            exact ⟨by rw [hm.out]; rfl, (Below.refl _ _).alloc (Nat.le_refl _) _⟩
          · have hm : Hid (Po.may (s, a, l, m) = false) := (by unfold Po.may; simp; omega : Po.may (s, a, l, m) = false)
            go_enter Tryz.func91, Tryz.ntmps91
            go_wp2
            go_ret
            exact ⟨by rw [hm.out]; rfl, (Below.refl _ _).alloc (Nat.le_refl _) _⟩
        · have hm : Hid (Po.may (s, a, l, m) = false) := (by unfold Po.may; simp; omega : Po.may (s, a, l, m) = false)
          go_enter Tryz.func91, Tryz.ntmps91
          go_wp2
          go_ret
          exact ⟨by rw [hm.out]; rfl, (Below.refl _ _).alloc (Nat.le_refl _) _⟩
      · have hm : Hid (Po.may (s, a, l, m) = false) := (by unfold Po.may; simp; omega : Po.may (s, a, l, m) = false)
        go_enter Tryz.func91, Tryz.ntmps91
        go_wp2
        go_ret
        exact ⟨by rw [hm.out]; rfl, (Below.refl _ _).alloc (Nat.le_refl _) _⟩
    · have hm : Hid (Po.may (s, a, l, m) = false) := (by unfold Po.may; simp; omega : Po.may (s, a, l, m) = false)
      go_enter Tryz.func91, Tryz.ntmps91
      go_wp2
      go_ret
      exact ⟨by rw [hm.out]; rfl, (Below.refl _ _).alloc (Nat.le_refl _) _⟩
  · have hm : Hid (Po.may (s, a, l, m) = false) := (by unfold Po.may; simp; omega : Po.may (s, a, l, m) = false)
    go_enter Tryz.func91, Tryz.ntmps91
    go_wp2
    go_ret
    exact ⟨by rw [hm.out]; rfl, (Below.refl _ _).alloc (Nat.le_refl _) _⟩

set_option maxRecDepth 100000 in
set_option maxHeartbeats 1000000 in
theorem posum_any (S : Nat) (w : World) (hS : S < 4294967296) : Calls Tryz.prog 108 #[.int .u32 S] w (Made .u8 5 w (Fr.le4 S)) := by
  have hb0 := below_alloc w (.cells #[] 5)
  have hm0 := made_at w 5 w.heap.size rfl (Nat.le_refl _)
  go_enter Tryz.func108, Tryz.ntmps108
  go_wp2
  go_loopw [3, 0, 4] (fun v t i wr => ∃ (j : Nat) (q : Nat) (a' : Option Addr) (c' : Nat), j ≤ 4 ∧ i = .int .i64 j ∧ t = .int .u32 q ∧ q < 4294967296 ∧ v = .slice a' j c' ∧ wr.ownsRow w.heap.size 5 1 (.slice a' j c') j (kcells .u8 ((Fr.le4 S).take j)) ∧ Below w.heap.size w wr ∧ Hid (q = S / 256 ^ j))
    (fun _ _ i _ => 4 - (intOf i).toNat)
  case atStart => exact ⟨0, S, _, 0, by omega, rfl, rfl, hS, rfl, hm0, hb0, (by simp : S = S / 256 ^ 0)⟩
  case round =>
    obtain ⟨j, q, a', c', hj, rfl, rfl, hq, rfl, hown, hbel, hqs⟩ := hrel
    have hsz := hbel.size
    by_cases hlt4 : j < 4
    · have Hl : Hid ((Fr.le4 S).take (j + 1) = (Fr.le4 S).take j ++ [q % 256]) := (by rw [le4_take S j hlt4, hqs.out] : (Fr.le4 S).take (j + 1) = (Fr.le4 S).take j ++ [q % 256])
      have Hq : Hid (q / 256 = S / 256 ^ (j + 1)) := (by rw [hqs.out, div_step] : q / 256 = S / 256 ^ (j + 1))
      clear hm0 hqs
      go_wp2_with (at_builtin; go_must (refine append_u8 (w0 := w) rfl (.tmp 10) (.tmp 14) rfl _ j _ rfl (hown.alloc _) _ 1 1 [q % 256] rfl (row_newz .u8 _ 5 _ (q % 256) (by omega) (by show _ < 256; omega)) (fun h => by cases h) (by omega) (hbel.alloc hsz _) (by simp; omega) ?_; intro a6 c6 w6 hown6 hbel6 hsz6))
      go_roundw
      case rel => exact ⟨j + 1, q / 256, a6, c6, by omega, by go_num, val_int (by omega), by omega, rfl, by rw [Hl.out]; exact hown6, hbel6, Hq⟩
      case measure => simp [intOf]; omega
    · obtain rfl : j = 4 := by omega
      clear hm0
      go_wp2
      go_ret
      exact ⟨a', c', rfl, hown, hbel⟩
end Go.Proofs.YtikieblokfjphaaGreat

/- What the reference's Put of a point does. -/
namespace Go.Proofs.YtikieblokfjphaaGreat
open Go.RowKit

theorem cell_four (w : World) (c0 c1 c2 c3 : Value) (e : TypeId) {b : Nat} (hb : w.heap.size = b) : (w.alloc (.cells #[c0, c1, c2, c3] e)).cell? ⟨b, 0, none⟩ = some c0 ∧ (w.alloc (.cells #[c0, c1, c2, c3] e)).cell? ⟨b, 1, none⟩ = some c1 ∧ (w.alloc (.cells #[c0, c1, c2, c3] e)).cell? ⟨b, 2, none⟩ = some c2 ∧ (w.alloc (.cells #[c0, c1, c2, c3] e)).cell? ⟨b, 3, none⟩ = some c3 := by
  subst hb
  exact ⟨by rw [cell_new]; rfl, by rw [cell_new]; rfl, by rw [cell_new]; rfl, by rw [cell_new]; rfl⟩

set_option maxRecDepth 100000 in
set_option maxHeartbeats 1000000 in
theorem porefput_any (x y z m : Nat) (w : World) (hx : x ≤ 2147483647) (hy : y ≤ 2147483647) (hz : z ≤ 4096) (hm : m < 4294967296) :
    Calls Tryz.prog 92 #[.agg #[.int .i64 x, .int .i64 y, .int .i64 z, .int .u32 m]] w (Made .u8 5 w (Va.put [x, y, z] ++ Fr.le4 m)) := by
  have hput : ∀ (W : World) (q : Addr), Row .u64 W (some q) 3 [x, y, z] → Calls Tryz.prog 107 #[.slice (some q) 3 3] W (Made .u8 5 W (Va.put [x, y, z])) := fun W q h => refput_any (some q) 3 3 [x, y, z] W (by omega) h
  have hsm := Va.put_small [x, y, z]
  have hpl : (Va.put [x, y, z]).length ≤ 30 := by
    have := Va.put_len [x, y, z] (by intro u hu; simp only [List.mem_cons, List.not_mem_nil, or_false] at hu; omega)
    simpa using this
  generalize Va.put [x, y, z] = o at *
  have hb0 := below_alloc w (.cells #[.int .i64 x, .int .i64 y, .int .i64 z, .int .u32 m] 36)
  obtain ⟨k0, k1, k2, k3⟩ := cell_four w (.int .i64 x) (.int .i64 y) (.int .i64 z) (.int .u32 m) 36 rfl
  have hlt : w.heap.size < (w.alloc (.cells #[.int .i64 x, .int .i64 y, .int .i64 z, .int .u32 m] 36)).heap.size := by simp
  go_enter Tryz.func92, Tryz.ntmps92
  go_wp2_with fail
  generalize w.alloc (.cells #[.int .i64 x, .int .i64 y, .int .i64 z, .int .u32 m] 36) = w0 at *
  have hw0 : w.heap.size ≤ w0.heap.size := hb0.size
  have hrow : Row .u64 (w0.alloc (.cells #[.int .u64 x, .int .u64 y, .int .u64 z] 83)) (some ⟨w0.heap.size, 0, none⟩) 3 [x, y, z] := row_lit .u64 w0 83 _ [x, y, z] 3 rfl rfl (by intro u hu; simp only [List.mem_cons, List.not_mem_nil, or_false] at hu; show u < 18446744073709551616; omega) (by omega)
  obtain ⟨N, hN⟩ : ∃ N, N = w.heap.size := ⟨_, rfl⟩
  rw [← hN] at k0 k1 k2 k3 hlt hb0 hw0 ⊢
  have HN : Hid (N = w.heap.size) := hN
  clear hN
  have hcs : Hid (∀ W, Below w0.heap.size w0 W → W.cell? ⟨N, 0, none⟩ = some (.int .i64 x) ∧ W.cell? ⟨N, 1, none⟩ = some (.int .i64 y) ∧ W.cell? ⟨N, 2, none⟩ = some (.int .i64 z) ∧ W.cell? ⟨N, 3, none⟩ = some (.int .u32 m)) := (fun W h => ⟨(h.cell (p := ⟨N, 0, none⟩) hlt).trans k0, (h.cell (p := ⟨N, 1, none⟩) hlt).trans k1, (h.cell (p := ⟨N, 2, none⟩) hlt).trans k2, (h.cell (p := ⟨N, 3, none⟩) hlt).trans k3⟩ : ∀ W, Below w0.heap.size w0 W → W.cell? ⟨N, 0, none⟩ = some (.int .i64 x) ∧ W.cell? ⟨N, 1, none⟩ = some (.int .i64 y) ∧ W.cell? ⟨N, 2, none⟩ = some (.int .i64 z) ∧ W.cell? ⟨N, 3, none⟩ = some (.int .u32 m))
  have i1 : IntKind.u64.wrap (x : Int) = x := by simp only [IntKind.wrap_u64]; omega
  have i2 : IntKind.u64.wrap (y : Int) = y := by simp only [IntKind.wrap_u64]; omega
  have i3 : IntKind.u64.wrap (z : Int) = z := by simp only [IntKind.wrap_u64]; omega
  go_region_held3 (fun w' => w'.cell? ⟨N, 0, none⟩ = some (.int .i64 x) ∧ w'.cell? ⟨N, 1, none⟩ = some (.int .i64 y) ∧ w'.cell? ⟨N, 2, none⟩ = some (.int .i64 z) ∧ w'.cell? ⟨N, 3, none⟩ = some (.int .u32 m)) (first | go_keep | (refine ⟨?_, ?_, ?_, ?_⟩ <;> assumption))
    (first
      | ((go_at_call 107; refine (hput _ _ ?_).mono ?_; exact hrow.below ((Below.refl _ _).drew) (Nat.le_refl _); rintro e w1 ⟨a1, c1, rfl, hown1, hbel1⟩; have hb1 : Below w0.heap.size w0 w1 := (below_alloc _ _).trans ((below_of_drew hbel1).mono (by simp)); obtain ⟨p0, p1, p2, p3⟩ := hcs.out w1 hb1))
      | ((go_at_call 108; have := hown1; refine (posum_any m _ hm).mono ?_; rintro e w2 ⟨a2, c2, rfl, hown2, hbel2⟩; have hb2 : Below w0.heap.size w0 w2 := hb1.trans (hbel2.mono hb1.size); obtain ⟨p4, p5, p6, p7⟩ := hcs.out w2 hb2; have hown1' := owns_below (hown1.mono (base' := w0.heap.size) (by simp)) hbel2; obtain ⟨g, rfl, _⟩ := own_at hown2 (by rw [Fr.le4_len]; omega); have r2 := (row_of_owns hown2 (Fr.le4_small m) (by rw [Fr.le4_len]; omega)).1))
      | ((have := hown2; refine step_u8 (w0 := w0) (B := w0.heap.size) (by rfl) _ _ (by rfl) _ o.length o (by rfl) hown1' ⟨g, 0, none⟩ _ _ (Fr.le4 m) (by rfl) r2 (by rw [Fr.le4_len]; omega) (by rw [Fr.le4_len]; omega) hb2 hb2.size ?_; intro a3 c3 w3 hown3 hbel3 hsz3 hg3; obtain ⟨p8, p9, p10, p11⟩ := hcs.out w3 hbel3)))
  all_goals
    go_wp2
    go_ret
    refine ⟨a3, c3, ?_, ?_, ?_⟩
    · rw [List.length_append]; rfl
    · rw [List.length_append, ← HN.out]; exact hown3.mono hw0
    · rw [← HN.out]; exact hb0.trans (hbel3.mono hw0)
end Go.Proofs.YtikieblokfjphaaGreat

/- What the reference's Get of a point does. -/
namespace Go.Proofs.YtikieblokfjphaaGreat
open Go.RowKit

/-- a point as a value -/
abbrev pv (p : Po.P) : Value := .agg #[.int .i64 p.1, .int .i64 p.2.1, .int .i64 p.2.2.1, .int .u32 (p.2.2.2 : Nat)]
def RGetRes (w : World) (R : Po.P × Nat) (e : Ending) (w' : World) : Prop := e = .returned (.tuple #[pv R.1, .int .i64 (R.2 : Nat)]) ∧ Below w.heap.size w w'
theorem three_of {w : World} {B c l0 l1 l2 : Nat} {a : Option Addr} {e : TypeId} (h : w.ownsRow B e 1 (.slice a 3 c) 3 (kcells .u64 [l0, l1, l2])) (hs : ∀ u ∈ [l0, l1, l2], u < 18446744073709551616) :
    ∃ g, a = some ⟨g, 0, none⟩ ∧ 3 ≤ c ∧ w.cell? ⟨g, 0, none⟩ = some (.int .u64 (l0 : Nat)) ∧ w.cell? ⟨g, 1, none⟩ = some (.int .u64 (l1 : Nat)) ∧ w.cell? ⟨g, 2, none⟩ = some (.int .u64 (l2 : Nat)) ∧ g < w.heap.size := by
  have hr := (row_of_owns h hs (by omega)).1
  rcases h.2 with ⟨e, h0⟩ | ⟨g, cap, cur, e, _, _, hnc, _⟩
  · omega
  · simp only [Value.slice.injEq] at e
    obtain ⟨rfl, _, rfl⟩ := e
    have c0 := hr.cell 0 (by omega)
    have c1 := hr.cell 1 (by omega)
    have c2 := hr.cell 2 (by omega)
    exact ⟨g, rfl, hnc, c0, c1, c2, cell_lt c0⟩

set_option maxRecDepth 100000 in
set_option maxHeartbeats 2000000 in
theorem porefget_any (a : Option Addr) (len cap : Nat) (bs : List Nat) (w : World) (hbig : len ≤ 100000) (hshape : Shape a len cap) (hr : Row .u8 w a len bs) :
    Calls Tryz.prog 72 #[.slice a len cap] w (RGetRes w (Po.get bs)) := by
  have hlen : Hid (bs.length = len) := hr.1
  obtain ⟨G, hG⟩ : ∃ G, G = Po.get bs := ⟨_, rfl⟩
  rw [← hG]
  have HG : Hid (G = Po.get bs) := hG
  clear hG
  have hb0 := below_alloc w (.cells #[.int .i64 0, .int .i64 0, .int .i64 0, .int .u32 0] 36)
  have hkeep : Hid (∀ W, Below (w.alloc (.cells #[.int .i64 0, .int .i64 0, .int .i64 0, .int .u32 0] 36)).heap.size (w.alloc (.cells #[.int .i64 0, .int .i64 0, .int .i64 0, .int .u32 0] 36)) W → W.cell? ⟨w.heap.size, 0, none⟩ = some (.int .i64 0) ∧ W.cell? ⟨w.heap.size, 1, none⟩ = some (.int .i64 0) ∧ W.cell? ⟨w.heap.size, 2, none⟩ = some (.int .i64 0) ∧ W.cell? ⟨w.heap.size, 3, none⟩ = some (.int .u32 0) ∧ W.frozen? ⟨w.heap.size, 0, none⟩ = false ∧ W.frozen? ⟨w.heap.size, 1, none⟩ = false ∧ W.frozen? ⟨w.heap.size, 2, none⟩ = false ∧ W.frozen? ⟨w.heap.size, 3, none⟩ = false ∧ Below w.heap.size w W ∧ w.heap.size < W.heap.size) := by
    refine (fun W h => ?_ : ∀ W, Below (w.alloc (.cells #[.int .i64 0, .int .i64 0, .int .i64 0, .int .u32 0] 36)).heap.size (w.alloc (.cells #[.int .i64 0, .int .i64 0, .int .i64 0, .int .u32 0] 36)) W → _)
    obtain ⟨k0, k1, k2, k3⟩ := cell_four w (.int .i64 0) (.int .i64 0) (.int .i64 0) (.int .u32 0) 36 rfl
    have hl : w.heap.size < (w.alloc (.cells #[.int .i64 0, .int .i64 0, .int .i64 0, .int .u32 0] 36)).heap.size := by simp
    exact ⟨(h.cell (p := ⟨w.heap.size, 0, none⟩) hl).trans k0, (h.cell (p := ⟨w.heap.size, 1, none⟩) hl).trans k1, (h.cell (p := ⟨w.heap.size, 2, none⟩) hl).trans k2, (h.cell (p := ⟨w.heap.size, 3, none⟩) hl).trans k3,
      (h.frozen (p := ⟨w.heap.size, 0, none⟩) hl).trans (frozen_new w _ 36 0), (h.frozen (p := ⟨w.heap.size, 1, none⟩) hl).trans (frozen_new w _ 36 1), (h.frozen (p := ⟨w.heap.size, 2, none⟩) hl).trans (frozen_new w _ 36 2), (h.frozen (p := ⟨w.heap.size, 3, none⟩) hl).trans (frozen_new w _ 36 3),
      hb0.trans (h.mono hb0.size), Nat.lt_of_lt_of_le hl h.size⟩
  have hall := refall_any a len cap bs 3 _ (by omega) hbig hshape (hr.below hb0 (Nat.le_refl _))
  have hok := Po.all_ok bs 3
  rw [hlen.out] at hok
  have hno := fun h => Po.get_no (bs := bs) h
  rw [← HG.out, hlen.out] at hno
  obtain ⟨R, hR⟩ : ∃ R, R = Va.all bs 3 := ⟨_, rfl⟩
  rw [← hR] at hall hok hno
  have HR : Hid (R = Va.all bs 3) := hR
  clear hR
  obtain ⟨nl, at', cd⟩ := R
  simp only at hok hno
  obtain ⟨hat, hcd, hsmall⟩ := hok
  have Hno : Hid (_) := hno
  clear hno
  by_cases hc : cd = 0
  · subst hc
    obtain ⟨l0, l1, l2, rfl⟩ : ∃ l0 l1 l2, nl = [l0, l1, l2] := by
      have h3 := hcd rfl
      match nl, h3 with
      | [l0, l1, l2], _ => exact ⟨l0, l1, l2, rfl⟩
    have hall3 : Calls Tryz.prog 90 #[.slice a len cap, .int .i64 3] (w.alloc (.cells #[.int .i64 0, .int .i64 0, .int .i64 0, .int .u32 0] 36)) fun e w' => ∃ a1 c1, e = .returned (.tuple #[.slice a1 3 c1, .int .i64 (at' : Nat), .int .i64 0]) ∧ w'.ownsRow (w.alloc (.cells #[.int .i64 0, .int .i64 0, .int .i64 0, .int .u32 0] 36)).heap.size 83 1 (.slice a1 3 c1) 3 (kcells .u64 [l0, l1, l2]) ∧ Below (w.alloc (.cells #[.int .i64 0, .int .i64 0, .int .i64 0, .int .u32 0] 36)).heap.size (w.alloc (.cells #[.int .i64 0, .int .i64 0, .int .i64 0, .int .u32 0] 36)) w' := hall
    have hs0 := hsmall l0 (by simp)
    have hs1 := hsmall l1 (by simp)
    have hs2 := hsmall l2 (by simp)
    clear hcd
    by_cases h4 : at' + 4 ≤ len
    · by_cases hl0 : l0 ≤ 2147483647
      · by_cases hl1 : l1 ≤ 2147483647
        · by_cases hl2 : l2 ≤ 4096
          · have Hget : Hid (G = if Po.may ((l0 : Int), (l1 : Int), (l2 : Int), Fr.val4 ((bs.drop at').take 4)) = true then (((l0 : Int), (l1 : Int), (l2 : Int), Fr.val4 ((bs.drop at').take 4)), at' + 4) else (Po.zero, 0)) := by
              have h1 : G = if Po.may ((l0 : Int), (l1 : Int), (l2 : Int), Fr.val4 ((bs.drop at').take 4)) = true then (((l0 : Int), (l1 : Int), (l2 : Int), Fr.val4 ((bs.drop at').take 4)), at' + 4) else (Po.zero, 0) := by
                rw [HG.out]; unfold Po.get; rw [← HR.out]; simp only [Po.ofNums, List.getD_cons_zero, List.getD_cons_succ]
                congr 1
                simp only [true_and, eq_iff_iff, and_iff_right_iff_imp]
                intro _; rw [hlen.out]; exact h4
              exact h1
            clear Hno HR HG hall
            obtain ⟨b, off, rfl, hcc⟩ := hr.at (by omega)
            clear hcc
            generalize hb4 : (bs.drop at').take 4 = b4 at *
            have hx : ∀ j, j < 4 → bs.getD (at' + j) 0 = b4.getD j 0 := by
              intro j hj
              rw [← hb4, List.getD_eq_getElem?_getD, List.getD_eq_getElem?_getD, List.getElem?_take, if_pos hj, List.getElem?_drop]
            have hx8 : ∀ j, b4.getD j 0 < 256 := fun j => by
              rw [← hb4]; exact getD_lt (by decide) (take_small (drop_small hr.2.2.1 _) _) j
            have Hx : Hid (∀ j, j < 4 → bs.getD (at' + j) 0 = b4.getD j 0) := hx
            clear hb4 hx
            go_enter Tryz.func72, Tryz.ntmps72
            go_wp2_with (go_at_call 90; go_must (refine hall3.mono ?_; rintro e w1 ⟨a1, c1, rfl, hown1, hbel1⟩; obtain ⟨n0, n1, n2, n3, f0, f1, f2, f3, hb1, hs1⟩ := hkeep.out w1 hbel1; obtain ⟨g, rfl, hgc, q0, q1, q2, hgl⟩ := three_of hown1 hsmall))
            have i0 : IntKind.i64.wrap (l0 : Int) = (l0 : Int) := by rw [IntKind.wrap_i64]; omega
            have i1 : IntKind.i64.wrap (l1 : Int) = (l1 : Int) := by rw [IntKind.wrap_i64]; omega
            have i2 : IntKind.i64.wrap (l2 : Int) = (l2 : Int) := by rw [IntKind.wrap_i64]; omega
            have hne := World.new_ne w1 ⟨g, 0, none⟩ q0
            go_region_held3 (fun w' => w'.cell? ⟨g, 0, none⟩ = some (.int .u64 (l0 : Nat)) ∧ w'.cell? ⟨g, 1, none⟩ = some (.int .u64 (l1 : Nat)) ∧ w'.cell? ⟨g, 2, none⟩ = some (.int .u64 (l2 : Nat))) (first | go_keep | (refine ⟨?_, ?_, ?_⟩ <;> assumption)) (fail)
            have hb2 := below_alloc w1 (.cells #[.int .i64 (l0 : Nat), .int .i64 (l1 : Nat), .int .i64 (l2 : Nat), .int .u32 0] 36)
            obtain ⟨m0, m1, m2, m3⟩ := cell_four w1 (.int .i64 (l0 : Nat)) (.int .i64 (l1 : Nat)) (.int .i64 (l2 : Nat)) (.int .u32 0) 36 rfl
            have m4 := frozen_new w1 #[.int .i64 (l0 : Nat), .int .i64 (l1 : Nat), .int .i64 (l2 : Nat), .int .u32 0] 36 3
            generalize w1.alloc (.cells #[.int .i64 (l0 : Nat), .int .i64 (l1 : Nat), .int .i64 (l2 : Nat), .int .u32 0] 36) = W2 at *
            have hr1 := hr.below hb1 (Nat.le_refl _)
            have hbM : b < w1.heap.size := cell_lt (hr1.cell 0 (by omega))
            clear hown1 hgl hne q0 q1 q2 hbel1 hkeep hall3 hb0 hsmall i0 i1 i2
            go_wp2
            go_loopw [8] (fun i wr => ∃ (k q : Nat) (t : Int), k ≤ 4 ∧ t = 3 - (k : Int) ∧ i = .int .i64 t ∧ q < 256 ^ k ∧ Hid (q = Po.hk b4 k) ∧ Below w1.heap.size w1 wr ∧ wr.cell? ⟨w1.heap.size, 0, none⟩ = some (.int .i64 (l0 : Nat)) ∧ wr.cell? ⟨w1.heap.size, 1, none⟩ = some (.int .i64 (l1 : Nat)) ∧ wr.cell? ⟨w1.heap.size, 2, none⟩ = some (.int .i64 (l2 : Nat)) ∧ wr.cell? ⟨w1.heap.size, 3, none⟩ = some (.int .u32 (q : Nat)) ∧ wr.frozen? ⟨w1.heap.size, 3, none⟩ = false)
              (fun i _ => (intOf i + 1).toNat)
            case atStart => exact ⟨0, 0, 3, by omega, by omega, rfl, by decide, (rfl : 0 = Po.hk b4 0), hb2.drew, m0, m1, m2, m3, m4⟩
            case round =>
              obtain ⟨k, q, t, hk, ht, rfl, hq, Hq, hbr, r0, r1, r2, r3, r4⟩ := hrel
              clear m0 m1 m2 m3 m4 hb2
              obtain ⟨M, hMM⟩ : ∃ M, M = w1.heap.size := ⟨_, rfl⟩
              rw [← hMM] at hbr r0 r1 r2 r3 r4 hbM ⊢
              have HM : Hid (M = w1.heap.size) := hMM
              clear hMM
              by_cases hk4 : k < 4
              · have hcell := (hbr.cell (p := ⟨b, off + (at' + (3 - k)), none⟩) hbM).trans (hr1.cell (at' + (3 - k)) (by omega))
                rw [Hx.out (3 - k) (by omega)] at hcell
                have Hs : Hid (q * 256 + b4.getD (3 - k) 0 = Po.hk b4 (k + 1)) := (by rw [Hq.out]; rfl : q * 256 + b4.getD (3 - k) 0 = Po.hk b4 (k + 1))
                have hxx := hx8 (3 - k)
                generalize b4.getD (3 - k) 0 = x at *
                have hk' : k = 0 ∨ k = 1 ∨ k = 2 ∨ k = 3 := by omega
                have hne : M ≠ b := by omega
                rcases hk' with rfl | rfl | rfl | rfl
                · obtain rfl : t = 3 := by omega
                  simp at hcell
                  clear ht hr hr1 hx8
                  have hq2 : q < 1 := by simpa using hq
                  have j1 : IntKind.i64.wrap ((at' : Int) + 3) = (at' : Int) + 3 := by rw [IntKind.wrap_i64]; omega
                  have j2 : (0 : Int) ≤ (at' : Int) + 3 := by omega
                  have j3 : (at' : Int) + 3 < (len : Int) := by omega
                  have j4 : IntKind.u32.wrap ((q : Int) * 256) = (q : Int) * 256 := by rw [IntKind.wrap_u32]; omega
                  have j5 : IntKind.u32.wrap (x : Int) = (x : Int) := by rw [IntKind.wrap_u32]; omega
                  have j6 : IntKind.u32.wrap ((q : Int) * 256 + x) = (q : Int) * 256 + x := by rw [IntKind.wrap_u32]; omega
                  have j7 : ((at' : Int) + 3).toNat = at' + 3 := by omega
                  go_wp2_with fail
                  go_region
                  have e1 : ((q * 256 + x : Nat) : Int) = (q : Int) * 256 + x := by omega
                  have s0 := (World.cell?_setCell_other wr ⟨M, 3, none⟩ ⟨M, 0, none⟩ (.int .u32 ((q : Int) * 256 + x)) (by simp)).trans r0
                  have s1 := (World.cell?_setCell_other wr ⟨M, 3, none⟩ ⟨M, 1, none⟩ (.int .u32 ((q : Int) * 256 + x)) (by simp)).trans r1
                  have s2 := (World.cell?_setCell_other wr ⟨M, 3, none⟩ ⟨M, 2, none⟩ (.int .u32 ((q : Int) * 256 + x)) (by simp)).trans r2
                  have s3 := World.cell?_setCell_same wr ⟨M, 3, none⟩ (.int .u32 ((q : Int) * 256 + x)) r3
                  have s4 : (wr.setCell ⟨M, 3, none⟩ (.int .u32 ((q : Int) * 256 + x))).frozen? ⟨M, 3, none⟩ = false := by rw [World.frozen?_setCell]; exact r4
                  have s5 : Below M w1 (wr.setCell ⟨M, 3, none⟩ (.int .u32 ((q : Int) * 256 + x))) := hbr.setCell (Nat.le_refl _) _
                  rw [← e1] at s0 s1 s2 s3 s4 s5 ⊢
                  generalize wr.setCell ⟨M, 3, none⟩ (.int .u32 ((q * 256 + x : Nat) : Int)) = W5 at *
                  clear r0 r1 r2 r3 r4 hbr hcell
                  go_wp2
                  go_roundw
                  case rel =>
                    obtain rfl := HM.out
                    exact ⟨1, q * 256 + x, 3-1, by omega, by omega, rfl, by simp; omega, Hs, s5.drew, s0, s1, s2, s3, s4⟩
                  case measure => simp [intOf]
                · obtain rfl : t = 2 := by omega
                  simp at hcell
                  clear ht hr hr1 hx8
                  have hq2 : q < 256 := by simpa using hq
                  have j1 : IntKind.i64.wrap ((at' : Int) + 2) = (at' : Int) + 2 := by rw [IntKind.wrap_i64]; omega
                  have j2 : (0 : Int) ≤ (at' : Int) + 2 := by omega
                  have j3 : (at' : Int) + 2 < (len : Int) := by omega
                  have j4 : IntKind.u32.wrap ((q : Int) * 256) = (q : Int) * 256 := by rw [IntKind.wrap_u32]; omega
                  have j5 : IntKind.u32.wrap (x : Int) = (x : Int) := by rw [IntKind.wrap_u32]; omega
                  have j6 : IntKind.u32.wrap ((q : Int) * 256 + x) = (q : Int) * 256 + x := by rw [IntKind.wrap_u32]; omega
                  have j7 : ((at' : Int) + 2).toNat = at' + 2 := by omega
                  go_wp2_with fail
                  go_region
                  have e1 : ((q * 256 + x : Nat) : Int) = (q : Int) * 256 + x := by omega
                  have s0 := (World.cell?_setCell_other wr ⟨M, 3, none⟩ ⟨M, 0, none⟩ (.int .u32 ((q : Int) * 256 + x)) (by simp)).trans r0
                  have s1 := (World.cell?_setCell_other wr ⟨M, 3, none⟩ ⟨M, 1, none⟩ (.int .u32 ((q : Int) * 256 + x)) (by simp)).trans r1
                  have s2 := (World.cell?_setCell_other wr ⟨M, 3, none⟩ ⟨M, 2, none⟩ (.int .u32 ((q : Int) * 256 + x)) (by simp)).trans r2
                  have s3 := World.cell?_setCell_same wr ⟨M, 3, none⟩ (.int .u32 ((q : Int) * 256 + x)) r3
                  have s4 : (wr.setCell ⟨M, 3, none⟩ (.int .u32 ((q : Int) * 256 + x))).frozen? ⟨M, 3, none⟩ = false := by rw [World.frozen?_setCell]; exact r4
                  have s5 : Below M w1 (wr.setCell ⟨M, 3, none⟩ (.int .u32 ((q : Int) * 256 + x))) := hbr.setCell (Nat.le_refl _) _
                  rw [← e1] at s0 s1 s2 s3 s4 s5 ⊢
                  generalize wr.setCell ⟨M, 3, none⟩ (.int .u32 ((q * 256 + x : Nat) : Int)) = W5 at *
                  clear r0 r1 r2 r3 r4 hbr hcell
                  go_wp2
                  go_roundw
                  case rel =>
                    obtain rfl := HM.out
                    exact ⟨2, q * 256 + x, 2-1, by omega, by omega, rfl, by simp; omega, Hs, s5.drew, s0, s1, s2, s3, s4⟩
                  case measure => simp [intOf]
                · obtain rfl : t = 1 := by omega
                  simp at hcell
                  clear ht hr hr1 hx8
                  have hq2 : q < 65536 := by simpa using hq
                  have j1 : IntKind.i64.wrap ((at' : Int) + 1) = (at' : Int) + 1 := by rw [IntKind.wrap_i64]; omega
                  have j2 : (0 : Int) ≤ (at' : Int) + 1 := by omega
                  have j3 : (at' : Int) + 1 < (len : Int) := by omega
                  have j4 : IntKind.u32.wrap ((q : Int) * 256) = (q : Int) * 256 := by rw [IntKind.wrap_u32]; omega
                  have j5 : IntKind.u32.wrap (x : Int) = (x : Int) := by rw [IntKind.wrap_u32]; omega
                  have j6 : IntKind.u32.wrap ((q : Int) * 256 + x) = (q : Int) * 256 + x := by rw [IntKind.wrap_u32]; omega
                  have j7 : ((at' : Int) + 1).toNat = at' + 1 := by omega
                  go_wp2_with fail
                  go_region
                  have e1 : ((q * 256 + x : Nat) : Int) = (q : Int) * 256 + x := by omega
                  have s0 := (World.cell?_setCell_other wr ⟨M, 3, none⟩ ⟨M, 0, none⟩ (.int .u32 ((q : Int) * 256 + x)) (by simp)).trans r0
                  have s1 := (World.cell?_setCell_other wr ⟨M, 3, none⟩ ⟨M, 1, none⟩ (.int .u32 ((q : Int) * 256 + x)) (by simp)).trans r1
                  have s2 := (World.cell?_setCell_other wr ⟨M, 3, none⟩ ⟨M, 2, none⟩ (.int .u32 ((q : Int) * 256 + x)) (by simp)).trans r2
                  have s3 := World.cell?_setCell_same wr ⟨M, 3, none⟩ (.int .u32 ((q : Int) * 256 + x)) r3
                  have s4 : (wr.setCell ⟨M, 3, none⟩ (.int .u32 ((q : Int) * 256 + x))).frozen? ⟨M, 3, none⟩ = false := by rw [World.frozen?_setCell]; exact r4
                  have s5 : Below M w1 (wr.setCell ⟨M, 3, none⟩ (.int .u32 ((q : Int) * 256 + x))) := hbr.setCell (Nat.le_refl _) _
                  rw [← e1] at s0 s1 s2 s3 s4 s5 ⊢
                  generalize wr.setCell ⟨M, 3, none⟩ (.int .u32 ((q * 256 + x : Nat) : Int)) = W5 at *
                  clear r0 r1 r2 r3 r4 hbr hcell
                  go_wp2
                  go_roundw
                  case rel =>
                    obtain rfl := HM.out
                    exact ⟨3, q * 256 + x, 1-1, by omega, by omega, rfl, by simp; omega, Hs, s5.drew, s0, s1, s2, s3, s4⟩
                  case measure => simp [intOf]
                · obtain rfl : t = 0 := by omega
                  simp at hcell
                  clear ht hr hr1 hx8
                  have hq2 : q < 16777216 := by simpa using hq
                  have j1 : IntKind.i64.wrap ((at' : Int) + 0) = (at' : Int) + 0 := by rw [IntKind.wrap_i64]; omega
                  have j2 : (0 : Int) ≤ (at' : Int) + 0 := by omega
                  have j3 : (at' : Int) + 0 < (len : Int) := by omega
                  have j4 : IntKind.u32.wrap ((q : Int) * 256) = (q : Int) * 256 := by rw [IntKind.wrap_u32]; omega
                  have j5 : IntKind.u32.wrap (x : Int) = (x : Int) := by rw [IntKind.wrap_u32]; omega
                  have j6 : IntKind.u32.wrap ((q : Int) * 256 + x) = (q : Int) * 256 + x := by rw [IntKind.wrap_u32]; omega
                  have j7 : ((at' : Int) + 0).toNat = at' + 0 := by omega
                  have j8 : IntKind.i64.wrap (at' : Int) = (at' : Int) := by rw [IntKind.wrap_i64]; omega
                  have j9 : (0 : Int) ≤ (at' : Int) := by omega
                  have j10 : (at' : Int) < (len : Int) := by omega
                  go_wp2_with fail
                  go_region
                  have e1 : ((q * 256 + x : Nat) : Int) = (q : Int) * 256 + x := by omega
                  have s0 := (World.cell?_setCell_other wr ⟨M, 3, none⟩ ⟨M, 0, none⟩ (.int .u32 ((q : Int) * 256 + x)) (by simp)).trans r0
                  have s1 := (World.cell?_setCell_other wr ⟨M, 3, none⟩ ⟨M, 1, none⟩ (.int .u32 ((q : Int) * 256 + x)) (by simp)).trans r1
                  have s2 := (World.cell?_setCell_other wr ⟨M, 3, none⟩ ⟨M, 2, none⟩ (.int .u32 ((q : Int) * 256 + x)) (by simp)).trans r2
                  have s3 := World.cell?_setCell_same wr ⟨M, 3, none⟩ (.int .u32 ((q : Int) * 256 + x)) r3
                  have s4 : (wr.setCell ⟨M, 3, none⟩ (.int .u32 ((q : Int) * 256 + x))).frozen? ⟨M, 3, none⟩ = false := by rw [World.frozen?_setCell]; exact r4
                  have s5 : Below M w1 (wr.setCell ⟨M, 3, none⟩ (.int .u32 ((q : Int) * 256 + x))) := hbr.setCell (Nat.le_refl _) _
                  rw [← e1] at s0 s1 s2 s3 s4 s5 ⊢
                  generalize wr.setCell ⟨M, 3, none⟩ (.int .u32 ((q * 256 + x : Nat) : Int)) = W5 at *
                  clear r0 r1 r2 r3 r4 hbr hcell
                  go_wp2
                  go_roundw
                  case rel =>
                    obtain rfl := HM.out
                    exact ⟨4, q * 256 + x, 0-1, by omega, by omega, rfl, by simp; omega, Hs, s5.drew, s0, s1, s2, s3, s4⟩
                  case measure => simp [intOf]
              · obtain rfl : k = 4 := by omega
                obtain rfl : t = -1 := by omega
                have HV : Hid (q = Fr.val4 b4) := (by rw [Hq.out, Po.hk4] : q = Fr.val4 b4)
                have hq2 : q < 4294967296 := by simpa using hq
                rw [← HV.out] at Hget
                have hmay := fun W => pomay_any l0 l1 l2 q W
                have hwM : w.heap.size < M := by rw [HM.out]; exact hs1
                have hMw : M < wr.heap.size := cell_lt r0
                have hcs : Hid (∀ W, Below wr.heap.size wr W → W.cell? ⟨M, 0, none⟩ = some (.int .i64 (l0 : Nat)) ∧ W.cell? ⟨M, 1, none⟩ = some (.int .i64 (l1 : Nat)) ∧ W.cell? ⟨M, 2, none⟩ = some (.int .i64 (l2 : Nat)) ∧ W.cell? ⟨M, 3, none⟩ = some (.int .u32 (q : Nat)) ∧ W.cell? ⟨w.heap.size, 0, none⟩ = some (.int .i64 0) ∧ W.cell? ⟨w.heap.size, 1, none⟩ = some (.int .i64 0) ∧ W.cell? ⟨w.heap.size, 2, none⟩ = some (.int .i64 0) ∧ W.cell? ⟨w.heap.size, 3, none⟩ = some (.int .u32 0) ∧ W.frozen? ⟨w.heap.size, 0, none⟩ = false ∧ W.frozen? ⟨w.heap.size, 1, none⟩ = false ∧ W.frozen? ⟨w.heap.size, 2, none⟩ = false ∧ W.frozen? ⟨w.heap.size, 3, none⟩ = false ∧ Below w.heap.size w W) := by
                  refine (fun W h => ?_ : ∀ W, Below wr.heap.size wr W → _)
                  have hww : w.heap.size < wr.heap.size := by omega
                  have hB : Below w.heap.size w W := hb1.trans ((hbr.mono (by omega)).trans (h.mono (by omega)))
                  exact ⟨(h.cell (p := ⟨M, 0, none⟩) hMw).trans r0, (h.cell (p := ⟨M, 1, none⟩) hMw).trans r1, (h.cell (p := ⟨M, 2, none⟩) hMw).trans r2, (h.cell (p := ⟨M, 3, none⟩) hMw).trans r3,
                    (h.cell (p := ⟨w.heap.size, 0, none⟩) hww).trans ((hbr.cell (p := ⟨w.heap.size, 0, none⟩) hwM).trans n0), (h.cell (p := ⟨w.heap.size, 1, none⟩) hww).trans ((hbr.cell (p := ⟨w.heap.size, 1, none⟩) hwM).trans n1), (h.cell (p := ⟨w.heap.size, 2, none⟩) hww).trans ((hbr.cell (p := ⟨w.heap.size, 2, none⟩) hwM).trans n2), (h.cell (p := ⟨w.heap.size, 3, none⟩) hww).trans ((hbr.cell (p := ⟨w.heap.size, 3, none⟩) hwM).trans n3),
                    (h.frozen (p := ⟨w.heap.size, 0, none⟩) hww).trans ((hbr.frozen (p := ⟨w.heap.size, 0, none⟩) hwM).trans f0), (h.frozen (p := ⟨w.heap.size, 1, none⟩) hww).trans ((hbr.frozen (p := ⟨w.heap.size, 1, none⟩) hwM).trans f1), (h.frozen (p := ⟨w.heap.size, 2, none⟩) hww).trans ((hbr.frozen (p := ⟨w.heap.size, 2, none⟩) hwM).trans f2), (h.frozen (p := ⟨w.heap.size, 3, none⟩) hww).trans ((hbr.frozen (p := ⟨w.heap.size, 3, none⟩) hwM).trans f3), hB⟩
                clear n0 n1 n2 n3 f0 f1 f2 f3 hb1 hs1 ht hq hx8 Hx HM Hq
                by_cases hmm : Po.may ((l0 : Int), (l1 : Int), (l2 : Int), q) = true
                · have H : Hid (G = (((l0 : Int), (l1 : Int), (l2 : Int), q), at' + 4)) := (by rw [Hget.out, if_pos hmm] : G = (((l0 : Int), (l1 : Int), (l2 : Int), q), at' + 4))
                  rw [hmm] at hmay
                  clear hmm Hget HV
                  go_wp2_with (go_at_call 91; go_must (refine (hmay _).mono ?_; rintro e w3 ⟨rfl, hbel3⟩; obtain ⟨t0, t1, t2, t3, n0, n1, n2, n3, f0, f1, f2, f3, hb1⟩ := hcs.out w3 hbel3))
                  exact bodyPost_ret (v := .tuple #[pv ((l0 : Int), (l1 : Int), (l2 : Int), q), .int .i64 ((at' + 4 : Nat) : Int)]) (by simp [pv, results, Tryz.results72, go_sem, n0, n1, n2, n3]) rfl ⟨by rw [H.out], (((hb1.setCell (Nat.le_refl _) _).setCell (Nat.le_refl _) _).setCell (Nat.le_refl _) _).setCell (Nat.le_refl _) _⟩
                · have H : Hid (G = (Po.zero, 0)) := (by rw [Hget.out, if_neg hmm] : G = (Po.zero, 0))
                  rw [show Po.may ((l0 : Int), (l1 : Int), (l2 : Int), q) = false by simpa using hmm] at hmay
                  clear hmm Hget HV
                  go_wp2_with (go_at_call 91; go_must (refine (hmay _).mono ?_; rintro e w3 ⟨rfl, hbel3⟩; obtain ⟨t0, t1, t2, t3, n0, n1, n2, n3, f0, f1, f2, f3, hb1⟩ := hcs.out w3 hbel3))
                  exact bodyPost_ret (v := .tuple #[pv Po.zero, .int .i64 0]) (by simp [pv, Po.zero, results, Tryz.results72, go_sem, n0, n1, n2, n3]) rfl ⟨by rw [H.out]; rfl, (((hb1.setCell (Nat.le_refl _) _).setCell (Nat.le_refl _) _).setCell (Nat.le_refl _) _).setCell (Nat.le_refl _) _⟩
          · have H : Hid (G = (Po.zero, 0)) := Hno.out (fun h => by have := (Po.may_iff _).mp h.2.2; simp only [Po.ofNums, List.getD_cons_zero, List.getD_cons_succ] at this; omega)
            clear Hno HR HG hall
            go_enter Tryz.func72, Tryz.ntmps72
            go_wp2_with (go_at_call 90; go_must (refine hall3.mono ?_; rintro e w1 ⟨a1, c1, rfl, hown1, hbel1⟩; obtain ⟨n0, n1, n2, n3, f0, f1, f2, f3, hb1, hs1⟩ := hkeep.out w1 hbel1; obtain ⟨g, rfl, hgc, q0, q1, q2, hgl⟩ := three_of hown1 hsmall))
            exact bodyPost_ret (v := .tuple #[pv Po.zero, .int .i64 0]) (by simp [pv, Po.zero, results, Tryz.results72, go_sem, n0, n1, n2, n3]) rfl ⟨by rw [H.out]; rfl, (((hb1.setCell (Nat.le_refl _) _).setCell (Nat.le_refl _) _).setCell (Nat.le_refl _) _).setCell (Nat.le_refl _) _⟩
        · have H : Hid (G = (Po.zero, 0)) := Hno.out (fun h => by have := (Po.may_iff _).mp h.2.2; simp only [Po.ofNums, List.getD_cons_zero, List.getD_cons_succ] at this; omega)
          clear Hno HR HG hall
          go_enter Tryz.func72, Tryz.ntmps72
          go_wp2_with (go_at_call 90; go_must (refine hall3.mono ?_; rintro e w1 ⟨a1, c1, rfl, hown1, hbel1⟩; obtain ⟨n0, n1, n2, n3, f0, f1, f2, f3, hb1, hs1⟩ := hkeep.out w1 hbel1; obtain ⟨g, rfl, hgc, q0, q1, q2, hgl⟩ := three_of hown1 hsmall))
          exact bodyPost_ret (v := .tuple #[pv Po.zero, .int .i64 0]) (by simp [pv, Po.zero, results, Tryz.results72, go_sem, n0, n1, n2, n3]) rfl ⟨by rw [H.out]; rfl, (((hb1.setCell (Nat.le_refl _) _).setCell (Nat.le_refl _) _).setCell (Nat.le_refl _) _).setCell (Nat.le_refl _) _⟩
      · have H : Hid (G = (Po.zero, 0)) := Hno.out (fun h => by have := (Po.may_iff _).mp h.2.2; simp only [Po.ofNums, List.getD_cons_zero, List.getD_cons_succ] at this; omega)
        clear Hno HR HG hall
        go_enter Tryz.func72, Tryz.ntmps72
        go_wp2_with (go_at_call 90; go_must (refine hall3.mono ?_; rintro e w1 ⟨a1, c1, rfl, hown1, hbel1⟩; obtain ⟨n0, n1, n2, n3, f0, f1, f2, f3, hb1, hs1⟩ := hkeep.out w1 hbel1; obtain ⟨g, rfl, hgc, q0, q1, q2, hgl⟩ := three_of hown1 hsmall))
        exact bodyPost_ret (v := .tuple #[pv Po.zero, .int .i64 0]) (by simp [pv, Po.zero, results, Tryz.results72, go_sem, n0, n1, n2, n3]) rfl ⟨by rw [H.out]; rfl, (((hb1.setCell (Nat.le_refl _) _).setCell (Nat.le_refl _) _).setCell (Nat.le_refl _) _).setCell (Nat.le_refl _) _⟩
    · have H : Hid (G = (Po.zero, 0)) := Hno.out (fun h => h4 h.2.1)
      clear Hno HR HG hall
      go_enter Tryz.func72, Tryz.ntmps72
      go_wp2_with (go_at_call 90; go_must (refine hall3.mono ?_; rintro e w1 ⟨a1, c1, rfl, hown1, hbel1⟩; obtain ⟨n0, n1, n2, n3, f0, f1, f2, f3, hb1, hs1⟩ := hkeep.out w1 hbel1; obtain ⟨g, rfl, hgc, q0, q1, q2, hgl⟩ := three_of hown1 hsmall))
      exact bodyPost_ret (v := .tuple #[pv Po.zero, .int .i64 0]) (by simp [pv, Po.zero, results, Tryz.results72, go_sem, n0, n1, n2, n3]) rfl ⟨by rw [H.out]; rfl, (((hb1.setCell (Nat.le_refl _) _).setCell (Nat.le_refl _) _).setCell (Nat.le_refl _) _).setCell (Nat.le_refl _) _⟩
  · have H : Hid (G = (Po.zero, 0)) := Hno.out (fun h => hc h.1)
    have hcb : ((cd : Int) == 0) = false := by simp; omega
    clear hcd Hno HR HG
    go_enter Tryz.func72, Tryz.ntmps72
    go_wp2_with (go_at_call 90; go_must (refine hall.mono ?_; rintro e w1 ⟨a1, c1, rfl, hown1, hbel1⟩; obtain ⟨n0, n1, n2, n3, f0, f1, f2, f3, hb1, hs1⟩ := hkeep.out w1 hbel1))
    exact bodyPost_ret (v := .tuple #[pv Po.zero, .int .i64 0]) (by simp [pv, Po.zero, results, Tryz.results72, go_sem, n0, n1, n2, n3]) rfl ⟨by rw [H.out]; rfl, (((hb1.setCell (Nat.le_refl _) _).setCell (Nat.le_refl _) _).setCell (Nat.le_refl _) _).setCell (Nat.le_refl _) _⟩
end Go.Proofs.YtikieblokfjphaaGreat

/- What is asked of the program's own functions over points; the laws PointPuts, PointGets, PointReads, given that. -/
namespace Go.Proofs.YtikieblokfjphaaGreat
open Go.RowKit

def PPutRes (w : World) (p : Po.P) (e : Ending) (w' : World) : Prop :=
  (Po.may p = true ∧ ∃ a c, e = .returned (.tuple #[.slice a (Po.put p).length c, .int .i64 0]) ∧ w'.ownsRow w.heap.size 5 1 (.slice a (Po.put p).length c) (Po.put p).length (kcells .u8 (Po.put p)) ∧ Below w.heap.size w w') ∨
  (Po.may p = false ∧ ∃ a c, e = .returned (.tuple #[.slice a 0 c, .int .i64 1]) ∧ Below w.heap.size w w')
def PCheckC : Prop := ∀ (p : Po.P) (w : World), Po.Fits p → Calls Tryz.prog 100 #[pv p] w fun e w' => e = .returned (.int .i64 (if Po.may p = true then 0 else 1 : Nat)) ∧ Below w.heap.size w w'
def PPutC : Prop := ∀ (p : Po.P) (w : World), Po.Fits p → Calls Tryz.prog 111 #[pv p] w (PPutRes w p)
def PGetC : Prop := ∀ (a : Option Addr) (len cap : Nat) (bs : List Nat) (w : World), Shape a len cap → len ≤ cap → len ≤ 100000 → Row .u8 w a len bs → Calls Tryz.prog 106 #[.slice a len cap] w fun e w' => e = .returned (.tuple #[pv (Po.get bs).1, .int .i64 ((Po.get bs).2 : Nat), .int .i64 (code (Po.get bs).2 : Nat)]) ∧ Below w.heap.size w w'

theorem po1234 : Po.put (1, 2, 3, 4) = [1, 2, 3, 4, 0, 0, 0] := by
  have h1 : Va.one 1 = [1] := Va.one_lo (by omega)
  have h2 : Va.one 2 = [2] := Va.one_lo (by omega)
  have h3 : Va.one 3 = [3] := Va.one_lo (by omega)
  simp [Po.put, Po.nums, Va.put, h1, h2, h3, Fr.le4]

end Go.Proofs.YtikieblokfjphaaGreat


/- The laws PointGets and PointReads, given the program's contracts. -/
namespace Go.Proofs.YtikieblokfjphaaGreat
open Go.RowKit

theorem four_keep {w W : World} {c0 c1 c2 c3 : Value} {e : TypeId} (h : Below (w.alloc (.cells #[c0, c1, c2, c3] e)).heap.size (w.alloc (.cells #[c0, c1, c2, c3] e)) W) :
    W.cell? ⟨w.heap.size, 0, none⟩ = some c0 ∧ W.cell? ⟨w.heap.size, 1, none⟩ = some c1 ∧ W.cell? ⟨w.heap.size, 2, none⟩ = some c2 ∧ W.cell? ⟨w.heap.size, 3, none⟩ = some c3 ∧ w.heap.size < W.heap.size ∧ Below w.heap.size w W := by
  obtain ⟨k0, k1, k2, k3⟩ := cell_four w c0 c1 c2 c3 e rfl
  have hl : w.heap.size < (w.alloc (.cells #[c0, c1, c2, c3] e)).heap.size := by simp
  exact ⟨(h.cell (p := ⟨w.heap.size, 0, none⟩) hl).trans k0, (h.cell (p := ⟨w.heap.size, 1, none⟩) hl).trans k1, (h.cell (p := ⟨w.heap.size, 2, none⟩) hl).trans k2, (h.cell (p := ⟨w.heap.size, 3, none⟩) hl).trans k3, Nat.lt_of_lt_of_le hl h.size, (below_alloc _ _).trans (h.mono (by simp))⟩

theorem own_shape {w : World} {B n c : Nat} {a : Option Addr} {e : TypeId} {xs : List Value} (h : w.ownsRow B e 1 (.slice a n c) n xs) : Shape a n c := by
  rcases h.2 with ⟨e, h0⟩ | ⟨g, cap, cur, e, _, _, hnc, _⟩
  · simp only [Value.slice.injEq] at e
    exact .inl ⟨h0, e.2.2⟩
  · simp only [Value.slice.injEq] at e
    obtain ⟨rfl, _, rfl⟩ := e
    exact .inr ⟨g, 0, rfl, hnc⟩

end Go.Proofs.YtikieblokfjphaaGreat
