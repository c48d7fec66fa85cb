/- What the reference's May, Less, Sum and Put of a point do. -/
import Derived.Test.YtikieblokfjphaaGa
import Derived.Test.YtikieblokfjphaaMa
import Derived.Test.YtikieblokfjphaaWa
namespace Go.Proofs.Ytikieblokfjphaa
open Go.RowKit

set_option maxRecDepth 100000 in
set_option maxHeartbeats 1000000 in
theorem pomay_any (s a l : Int) (m : Nat) (w : World) :
    Calls Try.prog 89 #[.agg #[.int .i64 s, .int .i64 a, .int .i64 l, .int .u32 m]] w fun e w' => e = .returned (.bool (Po.may (s, a, l, m))) ∧ Below w.heap.size w w' := by
  by_cases h1 : 1 ≤ s
  · skip
    by_cases h2 : s ≤ 2147483647
    · skip
      by_cases h3 : 0 ≤ a
      · skip
        by_cases h4 : a ≤ 2147483647
        · skip
          by_cases h5 : 0 ≤ l
          · skip
            have hm : Hid (Po.may (s, a, l, m) = decide (l ≤ 4096)) := (by unfold Po.may; simp only [h1, h2, h3, h4, h5, true_and] : Po.may (s, a, l, m) = decide (l ≤ 4096))
            go_enter Try.func89, Try.ntmps89
            go_wp2
            go_ret
            exact ⟨by rw [hm.out]; rfl, (Below.refl _ _).alloc (Nat.le_refl _) _⟩
          · have hm : Hid (Po.may (s, a, l, m) = false) := (by unfold Po.may; simp; omega : Po.may (s, a, l, m) = false)
            go_enter Try.func89, Try.ntmps89
            go_wp2
            go_ret
            exact ⟨by rw [hm.out]; rfl, (Below.refl _ _).alloc (Nat.le_refl _) _⟩
        · have hm : Hid (Po.may (s, a, l, m) = false) := (by unfold Po.may; simp; omega : Po.may (s, a, l, m) = false)
          go_enter Try.func89, Try.ntmps89
          go_wp2
          go_ret
          exact ⟨by rw [hm.out]; rfl, (Below.refl _ _).alloc (Nat.le_refl _) _⟩
      · have hm : Hid (Po.may (s, a, l, m) = false) := (by unfold Po.may; simp; omega : Po.may (s, a, l, m) = false)
        go_enter Try.func89, Try.ntmps89
        go_wp2
        go_ret
        exact ⟨by rw [hm.out]; rfl, (Below.refl _ _).alloc (Nat.le_refl _) _⟩
    · have hm : Hid (Po.may (s, a, l, m) = false) := (by unfold Po.may; simp; omega : Po.may (s, a, l, m) = false)
      go_enter Try.func89, Try.ntmps89
      go_wp2
      go_ret
      exact ⟨by rw [hm.out]; rfl, (Below.refl _ _).alloc (Nat.le_refl _) _⟩
  · have hm : Hid (Po.may (s, a, l, m) = false) := (by unfold Po.may; simp; omega : Po.may (s, a, l, m) = false)
    go_enter Try.func89, Try.ntmps89
    go_wp2
    go_ret
    exact ⟨by rw [hm.out]; rfl, (Below.refl _ _).alloc (Nat.le_refl _) _⟩

set_option maxRecDepth 100000 in
set_option maxHeartbeats 1000000 in
theorem posum_any (S : Nat) (w : World) (hS : S < 4294967296) : Calls Try.prog 107 #[.int .u32 S] w (Made .u8 5 w (Fr.le4 S)) := by
  have hb0 := below_alloc w (.cells #[] 5)
  have hm0 := made_at w 5 w.heap.size rfl (Nat.le_refl _)
  go_enter Try.func107, Try.ntmps107
  go_wp2
  go_loopw [3, 0, 4] (fun v t i wr => ∃ (j : Nat) (q : Nat) (a' : Option Addr) (c' : Nat), j ≤ 4 ∧ i = .int .i64 j ∧ t = .int .u32 q ∧ q < 4294967296 ∧ v = .slice a' j c' ∧ wr.ownsRow w.heap.size 5 1 (.slice a' j c') j (kcells .u8 ((Fr.le4 S).take j)) ∧ Below w.heap.size w wr ∧ Hid (q = S / 256 ^ j))
    (fun _ _ i _ => 4 - (intOf i).toNat)
  case atStart => exact ⟨0, S, _, 0, by omega, rfl, rfl, hS, rfl, hm0, hb0, (by simp : S = S / 256 ^ 0)⟩
  case round =>
    obtain ⟨j, q, a', c', hj, rfl, rfl, hq, rfl, hown, hbel, hqs⟩ := hrel
    have hsz := hbel.size
    by_cases hlt4 : j < 4
    · have Hl : Hid ((Fr.le4 S).take (j + 1) = (Fr.le4 S).take j ++ [q % 256]) := (by rw [le4_take S j hlt4, hqs.out] : (Fr.le4 S).take (j + 1) = (Fr.le4 S).take j ++ [q % 256])
      have Hq : Hid (q / 256 = S / 256 ^ (j + 1)) := (by rw [hqs.out, div_step] : q / 256 = S / 256 ^ (j + 1))
      clear hm0 hqs
      go_wp2_with (at_builtin; go_must (refine append_u8 (w0 := w) rfl (.tmp 10) (.tmp 14) rfl _ j _ rfl (hown.alloc _) _ 1 1 [q % 256] rfl (row_newz .u8 _ 5 _ (q % 256) (by omega) (by show _ < 256; omega)) (fun h => by cases h) (by omega) (hbel.alloc hsz _) (by simp; omega) ?_; intro a6 c6 w6 hown6 hbel6 hsz6))
      go_roundw
      case rel => exact ⟨j + 1, q / 256, a6, c6, by omega, by go_num, val_int (by omega), by omega, rfl, by rw [Hl.out]; exact hown6, hbel6, Hq⟩
      case measure => simp [intOf]; omega
    · obtain rfl : j = 4 := by omega
      clear hm0
      go_wp2
      go_ret
      exact ⟨a', c', rfl, hown, hbel⟩
end Go.Proofs.Ytikieblokfjphaa

/- What the reference's Put of a point does. -/
namespace Go.Proofs.Ytikieblokfjphaa
open Go.RowKit

theorem cell_four (w : World) (c0 c1 c2 c3 : Value) (e : TypeId) {b : Nat} (hb : w.heap.size = b) : (w.alloc (.cells #[c0, c1, c2, c3] e)).cell? ⟨b, 0, none⟩ = some c0 ∧ (w.alloc (.cells #[c0, c1, c2, c3] e)).cell? ⟨b, 1, none⟩ = some c1 ∧ (w.alloc (.cells #[c0, c1, c2, c3] e)).cell? ⟨b, 2, none⟩ = some c2 ∧ (w.alloc (.cells #[c0, c1, c2, c3] e)).cell? ⟨b, 3, none⟩ = some c3 := by
  subst hb
  exact ⟨by rw [cell_new]; rfl, by rw [cell_new]; rfl, by rw [cell_new]; rfl, by rw [cell_new]; rfl⟩

set_option maxRecDepth 100000 in
set_option maxHeartbeats 1000000 in
theorem porefput_any (x y z m : Nat) (w : World) (hx : x ≤ 2147483647) (hy : y ≤ 2147483647) (hz : z ≤ 4096) (hm : m < 4294967296) :
    Calls Try.prog 90 #[.agg #[.int .i64 x, .int .i64 y, .int .i64 z, .int .u32 m]] w (Made .u8 5 w (Va.put [x, y, z] ++ Fr.le4 m)) := by
  have hput : ∀ (W : World) (q : Addr), Row .u64 W (some q) 3 [x, y, z] → Calls Try.prog 106 #[.slice (some q) 3 3] W (Made .u8 5 W (Va.put [x, y, z])) := fun W q h => refput_any (some q) 3 3 [x, y, z] W (by omega) h
  have hsm := Va.put_small [x, y, z]
  have hpl : (Va.put [x, y, z]).length ≤ 30 := by
    have := Va.put_len [x, y, z] (by intro u hu; simp only [List.mem_cons, List.not_mem_nil, or_false] at hu; omega)
    simpa using this
  generalize Va.put [x, y, z] = o at *
  have hb0 := below_alloc w (.cells #[.int .i64 x, .int .i64 y, .int .i64 z, .int .u32 m] 43)
  obtain ⟨k0, k1, k2, k3⟩ := cell_four w (.int .i64 x) (.int .i64 y) (.int .i64 z) (.int .u32 m) 43 rfl
  have hlt : w.heap.size < (w.alloc (.cells #[.int .i64 x, .int .i64 y, .int .i64 z, .int .u32 m] 43)).heap.size := by simp
  go_enter Try.func90, Try.ntmps90
  go_wp2_with fail
  generalize w.alloc (.cells #[.int .i64 x, .int .i64 y, .int .i64 z, .int .u32 m] 43) = w0 at *
  have hw0 : w.heap.size ≤ w0.heap.size := hb0.size
  have hrow : Row .u64 (w0.alloc (.cells #[.int .u64 x, .int .u64 y, .int .u64 z] 83)) (some ⟨w0.heap.size, 0, none⟩) 3 [x, y, z] := row_lit .u64 w0 83 _ [x, y, z] 3 rfl rfl (by intro u hu; simp only [List.mem_cons, List.not_mem_nil, or_false] at hu; show u < 18446744073709551616; omega) (by omega)
  obtain ⟨N, hN⟩ : ∃ N, N = w.heap.size := ⟨_, rfl⟩
  rw [← hN] at k0 k1 k2 k3 hlt hb0 hw0 ⊢
  have HN : Hid (N = w.heap.size) := hN
  clear hN
  have hcs : Hid (∀ W, Below w0.heap.size w0 W → W.cell? ⟨N, 0, none⟩ = some (.int .i64 x) ∧ W.cell? ⟨N, 1, none⟩ = some (.int .i64 y) ∧ W.cell? ⟨N, 2, none⟩ = some (.int .i64 z) ∧ W.cell? ⟨N, 3, none⟩ = some (.int .u32 m)) := (fun W h => ⟨(h.cell (p := ⟨N, 0, none⟩) hlt).trans k0, (h.cell (p := ⟨N, 1, none⟩) hlt).trans k1, (h.cell (p := ⟨N, 2, none⟩) hlt).trans k2, (h.cell (p := ⟨N, 3, none⟩) hlt).trans k3⟩ : ∀ W, Below w0.heap.size w0 W → W.cell? ⟨N, 0, none⟩ = some (.int .i64 x) ∧ W.cell? ⟨N, 1, none⟩ = some (.int .i64 y) ∧ W.cell? ⟨N, 2, none⟩ = some (.int .i64 z) ∧ W.cell? ⟨N, 3, none⟩ = some (.int .u32 m))
  have i1 : IntKind.u64.wrap (x : Int) = x := by simp only [IntKind.wrap_u64]; omega
  have i2 : IntKind.u64.wrap (y : Int) = y := by simp only [IntKind.wrap_u64]; omega
  have i3 : IntKind.u64.wrap (z : Int) = z := by simp only [IntKind.wrap_u64]; omega
  go_region_held3 (fun w' => w'.cell? ⟨N, 0, none⟩ = some (.int .i64 x) ∧ w'.cell? ⟨N, 1, none⟩ = some (.int .i64 y) ∧ w'.cell? ⟨N, 2, none⟩ = some (.int .i64 z) ∧ w'.cell? ⟨N, 3, none⟩ = some (.int .u32 m)) (first | go_keep | (refine ⟨?_, ?_, ?_, ?_⟩ <;> assumption))
    (first
      | ((go_at_call 106; refine (hput _ _ ?_).mono ?_; exact hrow.below ((Below.refl _ _).drew) (Nat.le_refl _); rintro e w1 ⟨a1, c1, rfl, hown1, hbel1⟩; have hb1 : Below w0.heap.size w0 w1 := (below_alloc _ _).trans ((below_of_drew hbel1).mono (by simp)); obtain ⟨p0, p1, p2, p3⟩ := hcs.out w1 hb1))
      | ((go_at_call 107; have := hown1; refine (posum_any m _ hm).mono ?_; rintro e w2 ⟨a2, c2, rfl, hown2, hbel2⟩; have hb2 : Below w0.heap.size w0 w2 := hb1.trans (hbel2.mono hb1.size); obtain ⟨p4, p5, p6, p7⟩ := hcs.out w2 hb2; have hown1' := owns_below (hown1.mono (base' := w0.heap.size) (by simp)) hbel2; obtain ⟨g, rfl, _⟩ := own_at hown2 (by rw [Fr.le4_len]; omega); have r2 := (row_of_owns hown2 (Fr.le4_small m) (by rw [Fr.le4_len]; omega)).1))
      | ((have := hown2; refine step_u8 (w0 := w0) (B := w0.heap.size) (by rfl) _ _ (by rfl) _ o.length o (by rfl) hown1' ⟨g, 0, none⟩ _ _ (Fr.le4 m) (by rfl) r2 (by rw [Fr.le4_len]; omega) (by rw [Fr.le4_len]; omega) hb2 hb2.size ?_; intro a3 c3 w3 hown3 hbel3 hsz3 hg3; obtain ⟨p8, p9, p10, p11⟩ := hcs.out w3 hbel3)))
  all_goals
    go_wp2
    go_ret
    refine ⟨a3, c3, ?_, ?_, ?_⟩
    · rw [List.length_append]; rfl
    · rw [List.length_append, ← HN.out]; exact hown3.mono hw0
    · rw [← HN.out]; exact hb0.trans (hbel3.mono hw0)
end Go.Proofs.Ytikieblokfjphaa

/- What the reference's Get of a point does. -/
namespace Go.Proofs.Ytikieblokfjphaa
open Go.RowKit

/-- a point as a value -/
abbrev pv (p : Po.P) : Value := .agg #[.int .i64 p.1, .int .i64 p.2.1, .int .i64 p.2.2.1, .int .u32 (p.2.2.2 : Nat)]
def RGetRes (w : World) (R : Po.P × Nat) (e : Ending) (w' : World) : Prop := e = .returned (.tuple #[pv R.1, .int .i64 (R.2 : Nat)]) ∧ Below w.heap.size w w'
theorem three_of {w : World} {B c l0 l1 l2 : Nat} {a : Option Addr} {e : TypeId} (h : w.ownsRow B e 1 (.slice a 3 c) 3 (kcells .u64 [l0, l1, l2])) (hs : ∀ u ∈ [l0, l1, l2], u < 18446744073709551616) :
    ∃ g, a = some ⟨g, 0, none⟩ ∧ 3 ≤ c ∧ w.cell? ⟨g, 0, none⟩ = some (.int .u64 (l0 : Nat)) ∧ w.cell? ⟨g, 1, none⟩ = some (.int .u64 (l1 : Nat)) ∧ w.cell? ⟨g, 2, none⟩ = some (.int .u64 (l2 : Nat)) ∧ g < w.heap.size := by
  have hr := (row_of_owns h hs (by omega)).1
  rcases h.2 with ⟨e, h0⟩ | ⟨g, cap, cur, e, _, _, hnc, _⟩
  · omega
  · simp only [Value.slice.injEq] at e
    obtain ⟨rfl, _, rfl⟩ := e
    have c0 := hr.cell 0 (by omega)
    have c1 := hr.cell 1 (by omega)
    have c2 := hr.cell 2 (by omega)
    exact ⟨g, rfl, hnc, c0, c1, c2, cell_lt c0⟩

end Go.Proofs.Ytikieblokfjphaa


/- What is asked of the program's own functions over points; the laws PointPuts, PointGets, PointReads, given that. -/
namespace Go.Proofs.Ytikieblokfjphaa
open Go.RowKit

def PPutRes (w : World) (p : Po.P) (e : Ending) (w' : World) : Prop :=
  (Po.may p = true ∧ ∃ a c, e = .returned (.tuple #[.slice a (Po.put p).length c, .int .i64 0]) ∧ w'.ownsRow w.heap.size 5 1 (.slice a (Po.put p).length c) (Po.put p).length (kcells .u8 (Po.put p)) ∧ Below w.heap.size w w') ∨
  (Po.may p = false ∧ ∃ a c, e = .returned (.tuple #[.slice a 0 c, .int .i64 1]) ∧ Below w.heap.size w w')
def PCheckC : Prop := ∀ (p : Po.P) (w : World), Po.Fits p → Calls Try.prog 101 #[pv p] w fun e w' => e = .returned (.int .i64 (if Po.may p = true then 0 else 1 : Nat)) ∧ Below w.heap.size w w'
def PPutC : Prop := ∀ (p : Po.P) (w : World), Po.Fits p → Calls Try.prog 113 #[pv p] w (PPutRes w p)
def PGetC : Prop := ∀ (a : Option Addr) (len cap : Nat) (bs : List Nat) (w : World), Shape a len cap → len ≤ cap → len ≤ 100000 → Row .u8 w a len bs → Calls Try.prog 118 #[.slice a len cap] w fun e w' => e = .returned (.tuple #[pv (Po.get bs).1, .int .i64 ((Po.get bs).2 : Nat), .int .i64 (code (Po.get bs).2 : Nat)]) ∧ Below w.heap.size w w'

theorem po1234 : Po.put (1, 2, 3, 4) = [1, 2, 3, 4, 0, 0, 0] := by
  have h1 : Va.one 1 = [1] := Va.one_lo (by omega)
  have h2 : Va.one 2 = [2] := Va.one_lo (by omega)
  have h3 : Va.one 3 = [3] := Va.one_lo (by omega)
  simp [Po.put, Po.nums, Va.put, h1, h2, h3, Fr.le4]

end Go.Proofs.Ytikieblokfjphaa


/- The laws PointGets and PointReads, given the program's contracts. -/
namespace Go.Proofs.Ytikieblokfjphaa
open Go.RowKit

theorem four_keep {w W : World} {c0 c1 c2 c3 : Value} {e : TypeId} (h : Below (w.alloc (.cells #[c0, c1, c2, c3] e)).heap.size (w.alloc (.cells #[c0, c1, c2, c3] e)) W) :
    W.cell? ⟨w.heap.size, 0, none⟩ = some c0 ∧ W.cell? ⟨w.heap.size, 1, none⟩ = some c1 ∧ W.cell? ⟨w.heap.size, 2, none⟩ = some c2 ∧ W.cell? ⟨w.heap.size, 3, none⟩ = some c3 ∧ w.heap.size < W.heap.size ∧ Below w.heap.size w W := by
  obtain ⟨k0, k1, k2, k3⟩ := cell_four w c0 c1 c2 c3 e rfl
  have hl : w.heap.size < (w.alloc (.cells #[c0, c1, c2, c3] e)).heap.size := by simp
  exact ⟨(h.cell (p := ⟨w.heap.size, 0, none⟩) hl).trans k0, (h.cell (p := ⟨w.heap.size, 1, none⟩) hl).trans k1, (h.cell (p := ⟨w.heap.size, 2, none⟩) hl).trans k2, (h.cell (p := ⟨w.heap.size, 3, none⟩) hl).trans k3, Nat.lt_of_lt_of_le hl h.size, (below_alloc _ _).trans (h.mono (by simp))⟩

theorem own_shape {w : World} {B n c : Nat} {a : Option Addr} {e : TypeId} {xs : List Value} (h : w.ownsRow B e 1 (.slice a n c) n xs) : Shape a n c := by
  rcases h.2 with ⟨e, h0⟩ | ⟨g, cap, cur, e, _, _, hnc, _⟩
  · simp only [Value.slice.injEq] at e
    exact .inl ⟨h0, e.2.2⟩
  · simp only [Value.slice.injEq] at e
    obtain ⟨rfl, _, rfl⟩ := e
    exact .inr ⟨g, 0, rfl, hnc⟩

end Go.Proofs.Ytikieblokfjphaa
