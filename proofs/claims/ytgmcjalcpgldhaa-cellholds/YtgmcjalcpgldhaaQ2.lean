/- What the program's Put of a point does. -/
import Derived.Test.YtgmcjalcpgldhaaQ1
import Derived.Test.YtgmcjalcpgldhaaS6
namespace Go.Proofs.Ytgmcjalcpgldhaa
open Go.RowKit

set_option maxRecDepth 100000 in
set_option maxHeartbeats 1000000 in
theorem pput_no (p : Po.P) (w : World) (hf : Po.Fits p) (hmay : Po.may p = false) : Calls Try.prog 22 #[pv p] w fun e w' => ∃ a c, e = .returned (.tuple #[.slice a 0 c, .int .i64 1]) ∧ Below w.heap.size w w' := by
  have hc := fun W => pcheckC p W hf
  rw [hmay] at hc
  obtain ⟨s, a, l, m⟩ := p
  simp only [pv] at hc ⊢
  have hc2 : ∀ W, Calls Try.prog 26 #[.agg #[.int .i64 s, .int .i64 a, .int .i64 l, .int .u32 m]] W fun e w' => e = .returned (.int .i64 1) ∧ Below W.heap.size W w' := hc
  clear hc
  go_enter Try.func22, Try.ntmps22
  go_wp2_with (go_at_call 26; go_must (refine (hc2 _).mono ?_; rintro e w1 ⟨rfl, hbel1⟩))
  go_ret2
  exact ⟨none, 0, rfl, (below_alloc _ _).trans (hbel1.mono (by simp))⟩

theorem shr_byte (m k : Nat) : m / 2 ^ (8 * k) % 256 = m / 256 ^ k % 256 := by
  rw [show (256 : Nat) = 2 ^ 8 from rfl, ← Nat.pow_mul]

set_option maxRecDepth 100000 in
set_option maxHeartbeats 1000000 in
theorem pput_yes (p : Po.P) (w : World) (hf : Po.Fits p) (hmay : Po.may p = true) : Calls Try.prog 22 #[pv p] w fun e w' => ∃ a c, e = .returned (.tuple #[.slice a (Po.put p).length c, .int .i64 0]) ∧ w'.ownsRow w.heap.size 5 1 (.slice a (Po.put p).length c) (Po.put p).length (kcells .u8 (Po.put p)) ∧ Below w.heap.size w w' := by
  have hc := fun W => pcheckC p W hf
  rw [hmay] at hc
  obtain ⟨s, a, l, m⟩ := p
  simp only [pv] at hc ⊢
  have hb := (Po.may_iff _).mp hmay
  have hm4 : m < 4294967296 := hf.2.2.2
  simp only at hb
  obtain ⟨x, rfl⟩ : ∃ x : Nat, s = (x : Int) := ⟨s.toNat, by omega⟩
  obtain ⟨y, rfl⟩ : ∃ y : Nat, a = (y : Int) := ⟨a.toNat, by omega⟩
  obtain ⟨z, rfl⟩ : ∃ z : Nat, l = (z : Int) := ⟨l.toNat, by omega⟩
  have hc2 : ∀ W, Calls Try.prog 26 #[.agg #[.int .i64 x, .int .i64 y, .int .i64 z, .int .u32 m]] W fun e w' => e = .returned (.int .i64 0) ∧ Below W.heap.size W w' := hc
  clear hc
  have hput : ∀ (W : World) (q : Addr), Row .u64 W (some q) 3 [x, y, z] → Calls Try.prog 24 #[.slice (some q) 3 3] W (Made .u8 5 W (Va.put [x, y, z])) := fun W q h => put_any (some q) 3 3 [x, y, z] W (by omega) h
  have hsm := Va.put_small [x, y, z]
  have hpl : (Va.put [x, y, z]).length ≤ 30 := by
    have := Va.put_len [x, y, z] (by intro u hu; simp only [List.mem_cons, List.not_mem_nil, or_false] at hu; omega)
    simpa using this
  have he : Hid (Po.put ((x : Int), (y : Int), (z : Int), m) = Va.put [x, y, z] ++ Fr.le4 m) := (rfl : Po.put ((x : Int), (y : Int), (z : Int), m) = Va.put [x, y, z] ++ Fr.le4 m)
  generalize Po.put ((x : Int), (y : Int), (z : Int), m) = q at *
  generalize Va.put [x, y, z] = o at *
  have hb0 := below_alloc w (.cells #[.int .i64 x, .int .i64 y, .int .i64 z, .int .u32 m] 25)
  have i1 : IntKind.u64.wrap (x : Int) = x := by simp only [IntKind.wrap_u64]; omega
  have i2 : IntKind.u64.wrap (y : Int) = y := by simp only [IntKind.wrap_u64]; omega
  have i3 : IntKind.u64.wrap (z : Int) = z := by simp only [IntKind.wrap_u64]; omega
  have hrow : ∀ W : World, Row .u64 (W.alloc (.cells #[.int .u64 x, .int .u64 y, .int .u64 z] 53)) (some ⟨W.heap.size, 0, none⟩) 3 [x, y, z] := fun W => row_lit .u64 W 53 _ [x, y, z] 3 rfl rfl (by intro u hu; simp only [List.mem_cons, List.not_mem_nil, or_false] at hu; show u < 18446744073709551616; omega) (by omega)
  go_enter Try.func22, Try.ntmps22
  go_wp2_with (first
    | (go_at_call 26; go_must (refine (hc2 _).mono ?_; rintro e w1 ⟨rfl, hbel1⟩; obtain ⟨r0, r1, r2, r3, hs1, hb1⟩ := four_keep hbel1))
    | (go_at_call 24; go_must (have := hbel1; refine (hput _ _ (hrow _)).mono ?_; rintro e w2 ⟨a2, c2, rfl, hown2, hbel2⟩)))
  have hown2' : w2.ownsRow (w.alloc (.cells #[.int .i64 x, .int .i64 y, .int .i64 z, .int .u32 m] 25)).heap.size 5 1 (.slice a2 o.length c2) o.length (kcells .u8 o) := hown2.mono (by have := hbel1.size; simp at this ⊢; omega)
  have hbel2' : Below (w.alloc (.cells #[.int .i64 x, .int .i64 y, .int .i64 z, .int .u32 m] 25)).heap.size (w.alloc (.cells #[.int .i64 x, .int .i64 y, .int .i64 z, .int .u32 m] 25)) w2 := (hbel1.alloc hbel1.size _).trans (hbel2.mono (by have := hbel1.size; simp at this ⊢; omega))
  have hfour := fun W h => four_keep (w := w) (W := W) (c0 := .int .i64 x) (c1 := .int .i64 y) (c2 := .int .i64 z) (c3 := .int .u32 m) (e := 25) h
  clear hown2 hbel2 hbel1 r0 r1 r2 r3 hs1 hb1 hc2 hput hrow
  generalize w.alloc (.cells #[.int .i64 x, .int .i64 y, .int .i64 z, .int .u32 m] 25) = w0 at *
  have Hfour : Hid (_) := hfour
  clear hfour
  go_loopw [5, 23] (fun v i wr => ∃ (j : Nat) (a' : Option Addr) (c' : Nat), j ≤ 4 ∧ i = .int .i64 j ∧ v = .slice a' (o.length + j) c' ∧ wr.ownsRow w0.heap.size 5 1 (.slice a' (o.length + j) c') (o.length + j) (kcells .u8 (o ++ (Fr.le4 m).take j)) ∧ Below w0.heap.size w0 wr) (fun _ i _ => 4 - (intOf i).toNat)
  case atStart => exact ⟨0, a2, c2, by omega, rfl, rfl, by simpa using hown2', hbel2'⟩
  case round =>
    obtain ⟨j, a', c', hj, rfl, rfl, hown, hbel⟩ := hrel
    have hsz := hbel.size
    obtain ⟨r0, r1, r2, r3, hs1, hb1⟩ := Hfour.out _ hbel
    by_cases hlt4 : j < 4
    · have hj4 : j = 0 ∨ j = 1 ∨ j = 2 ∨ j = 3 := by omega
      rcases hj4 with rfl | rfl | rfl | rfl
      · have Hl : Hid ((Fr.le4 m).take (0 + 1) = (Fr.le4 m).take 0 ++ [m / 256 ^ 0 % 256]) := le4_take m 0 (by omega)
        go_wp2_with (at_builtin; go_must (refine append_u8 (w0 := w0) (B := w0.heap.size) rfl (.tmp 26) (.tmp 33) rfl _ (o.length + 0) _ rfl (hown.alloc _) _ 1 1 [m / 256 ^ 0 % 256] rfl (row_newz .u8 _ 5 _ (m / 256 ^ 0 % 256) (by omega) (by show _ < 256; omega)) (fun h => by cases h) (by omega) (hbel.alloc hsz _) (by simp; omega) ?_; intro a6 c6 w6 hown6 hbel6 hsz6))
        go_roundw
        case rel => exact ⟨0 + 1, a6, c6, by omega, by go_num, rfl, by rw [Hl.out, ← List.append_assoc]; exact hown6, hbel6⟩
        case measure => simp [intOf]
      · have Hl : Hid ((Fr.le4 m).take (1 + 1) = (Fr.le4 m).take 1 ++ [m / 256 ^ 1 % 256]) := le4_take m 1 (by omega)
        go_wp2_with (at_builtin; go_must (refine append_u8 (w0 := w0) (B := w0.heap.size) rfl (.tmp 26) (.tmp 33) rfl _ (o.length + 1) _ rfl (hown.alloc _) _ 1 1 [m / 256 ^ 1 % 256] rfl (row_newz .u8 _ 5 _ (m / 256 ^ 1 % 256) (by omega) (by show _ < 256; omega)) (fun h => by cases h) (by omega) (hbel.alloc hsz _) (by simp; omega) ?_; intro a6 c6 w6 hown6 hbel6 hsz6))
        go_roundw
        case rel => exact ⟨1 + 1, a6, c6, by omega, by go_num, rfl, by rw [Hl.out, ← List.append_assoc]; exact hown6, hbel6⟩
        case measure => simp [intOf]
      · have Hl : Hid ((Fr.le4 m).take (2 + 1) = (Fr.le4 m).take 2 ++ [m / 256 ^ 2 % 256]) := le4_take m 2 (by omega)
        go_wp2_with (at_builtin; go_must (refine append_u8 (w0 := w0) (B := w0.heap.size) rfl (.tmp 26) (.tmp 33) rfl _ (o.length + 2) _ rfl (hown.alloc _) _ 1 1 [m / 256 ^ 2 % 256] rfl (row_newz .u8 _ 5 _ (m / 256 ^ 2 % 256) (by omega) (by show _ < 256; omega)) (fun h => by cases h) (by omega) (hbel.alloc hsz _) (by simp; omega) ?_; intro a6 c6 w6 hown6 hbel6 hsz6))
        go_roundw
        case rel => exact ⟨2 + 1, a6, c6, by omega, by go_num, rfl, by rw [Hl.out, ← List.append_assoc]; exact hown6, hbel6⟩
        case measure => simp [intOf]
      · have Hl : Hid ((Fr.le4 m).take (3 + 1) = (Fr.le4 m).take 3 ++ [m / 256 ^ 3 % 256]) := le4_take m 3 (by omega)
        go_wp2_with (at_builtin; go_must (refine append_u8 (w0 := w0) (B := w0.heap.size) rfl (.tmp 26) (.tmp 33) rfl _ (o.length + 3) _ rfl (hown.alloc _) _ 1 1 [m / 256 ^ 3 % 256] rfl (row_newz .u8 _ 5 _ (m / 256 ^ 3 % 256) (by omega) (by show _ < 256; omega)) (fun h => by cases h) (by omega) (hbel.alloc hsz _) (by simp; omega) ?_; intro a6 c6 w6 hown6 hbel6 hsz6))
        go_roundw
        case rel => exact ⟨3 + 1, a6, c6, by omega, by go_num, rfl, by rw [Hl.out, ← List.append_assoc]; exact hown6, hbel6⟩
        case measure => simp [intOf]
    · obtain rfl : j = 4 := by omega
      go_wp2
      go_ret2
      exact ⟨a', c', by rw [he.out, List.length_append, Fr.le4_len]; rfl, by rw [he.out, List.length_append, Fr.le4_len]; exact hown.mono hb0.size, hb1⟩

theorem pputC : PPutC := by
  intro p w hf
  by_cases h : Po.may p = true
  · refine (pput_yes p w hf h).mono ?_
    exact fun e w' h' => .inl ⟨h, h'⟩
  · have h : Po.may p = false := by simpa using h
    refine (pput_no p w hf h).mono ?_
    exact fun e w' h' => .inr ⟨h, h'⟩
end Go.Proofs.Ytgmcjalcpgldhaa
