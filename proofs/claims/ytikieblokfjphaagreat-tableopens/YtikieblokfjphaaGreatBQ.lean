/- Four bytes as a number, the lowest first: what walks want of it. -/
import Derived.Test.YtikieblokfjphaaGreatGa
import Derived.Test.YtikieblokfjphaaGreatMa
import Derived.Test.YtikieblokfjphaaGreatBS
namespace Go.Proofs.YtikieblokfjphaaGreat
open Go.RowKit

/-- the first bytes' number, the lowest first -/
def vk (bs : List Nat) : Nat → Nat
  | 0 => 0
  | k + 1 => vk bs k + 256 ^ k * bs.getD k 0
theorem vk4 (bs : List Nat) : vk bs 4 = Fr.val4 bs := by simp [vk, Fr.val4]

theorem or32 (n x m M : Nat) (hM : M = 2 ^ m) (hn : n < M) (hn2 : n < 4294967296) (hx : x * M < 4294967296) : bits .or .u32 (n : Int) ((x : Int) * (M : Int)) = ((n + M * x : Nat) : Int) := by
  subst hM
  have e : (x : Int) * ((2 ^ m : Nat) : Int) = ((x * 2 ^ m : Nat) : Int) := by simp
  rw [e, u32_or_nat _ _ hn2 hx, Nat.or_comm, nat_join m _ _ (Nat.mul_mod_left _ _) hn, Nat.add_comm, Nat.mul_comm x]
end Go.Proofs.YtikieblokfjphaaGreat

/- What the program's Check and sumOf of a point, and slices.Max, do. -/
namespace Go.Proofs.YtikieblokfjphaaGreat
open Go.RowKit

set_option maxRecDepth 100000 in
set_option maxHeartbeats 1000000 in
theorem pcheckC : PCheckC := by
  intro p w hf
  obtain ⟨s, a, l, m⟩ := p
  obtain ⟨r, hr⟩ : ∃ r : Nat, r = if Po.may (s, a, l, m) = true then 0 else 1 := ⟨_, rfl⟩
  simp only [pv]
  rw [← hr]
  have hb := below_alloc w (.cells #[.int .i64 s, .int .i64 a, .int .i64 l, .int .u32 (m : Nat)] 36)
  have done : ∀ (z : Nat) (c : Bool), z = (if c = true then 0 else 1) → c = decide (1 ≤ s ∧ s ≤ 2147483647 ∧ 0 ≤ a ∧ a ≤ 2147483647 ∧ 0 ≤ l ∧ l ≤ 4096) → Ending.returned (.int .i64 (z : Nat)) = .returned (.int .i64 (r : Nat)) := by
    intro z c hz hc
    rw [hz, hr, hc]; rfl
  have Done : Hid (_) := done
  clear done hr
  go_enter Tryz.func100, Tryz.ntmps100
  by_cases h1 : 1 ≤ s
  · by_cases h2 : s ≤ 2147483647
    · by_cases h3 : 0 ≤ a
      · by_cases h4 : a ≤ 2147483647
        · by_cases h5 : 0 ≤ l
          · by_cases h6 : l ≤ 4096
            · go_wp2
              go_ret
              exact ⟨Done.out 0 true rfl (decide_eq_true (by omega)).symm, hb⟩
            · go_wp2
              go_ret
              exact ⟨Done.out 1 false rfl (decide_eq_false (by omega)).symm, hb⟩
          · go_wp2
            go_ret
            exact ⟨Done.out 1 false rfl (decide_eq_false (by omega)).symm, hb⟩
        · go_wp2
          go_ret
          exact ⟨Done.out 1 false rfl (decide_eq_false (by omega)).symm, hb⟩
      · go_wp2
        go_ret
        exact ⟨Done.out 1 false rfl (decide_eq_false (by omega)).symm, hb⟩
    · go_wp2
      go_ret
      exact ⟨Done.out 1 false rfl (decide_eq_false (by omega)).symm, hb⟩
  · go_wp2
    go_ret
    exact ⟨Done.out 1 false rfl (decide_eq_false (by omega)).symm, hb⟩

set_option maxRecDepth 100000 in
set_option maxHeartbeats 400000 in
theorem sumof_any (a : Option Addr) (cap z : Nat) (bs : List Nat) (w : World) (hz : z = 4) (hr : Row .u8 w a 4 bs) :
    Calls Tryz.prog 114 #[.slice a z cap] w fun e w' => e = .returned (.int .u32 (Fr.val4 bs : Nat)) ∧ w' = w := by
  subst hz
  obtain ⟨b, off, rfl, hc⟩ := hr.at (by omega)
  go_enter Tryz.func114, Tryz.ntmps114
  go_wp2
  go_loop [3, 8] (fun t i => ∃ k n : Nat, k ≤ 4 ∧ i = .int .i64 k ∧ t = .int .u32 n ∧ n < 256 ^ k ∧ Hid (n = vk bs k)) (fun _ i => 4 - (intOf i).toNat)
  case atStart => exact ⟨0, 0, by omega, rfl, rfl, by omega, (rfl : 0 = vk bs 0)⟩
  case round =>
    obtain ⟨k, n, hk, rfl, rfl, hn, Hn⟩ := hrel
    by_cases hlt : k < 4
    · have hcell := hc k hlt
      have hx8 := getD_lt8 hr.2.2.1 k
      have H : Hid (n + 256 ^ k * bs.getD k 0 = vk bs (k + 1)) := (by rw [Hn.out]; rfl : n + 256 ^ k * bs.getD k 0 = vk bs (k + 1))
      clear hc hr Hn
      generalize bs.getD k 0 = x at *
      have hk4 : k = 0 ∨ k = 1 ∨ k = 2 ∨ k = 3 := by omega
      rcases hk4 with rfl | rfl | rfl | rfl
      · rw [Nat.add_zero] at hcell
        go_wp2
        go_round
        case rel => exact ⟨1, n + 256 ^ 0 * x, by omega, by go_num, val_int (by have := or32 n x 0 1 rfl (by omega) (by omega) (by omega); simpa using this), by omega, H⟩
        case measure => simp [intOf]
      · go_wp2
        go_round
        case rel => exact ⟨2, n + 256 ^ 1 * x, by omega, by go_num, val_int (by have := or32 n x 8 256 rfl (by omega) (by omega) (by omega); exact this), by omega, H⟩
        case measure => simp [intOf]
      · go_wp2
        go_round
        case rel => exact ⟨3, n + 256 ^ 2 * x, by omega, by go_num, val_int (by have := or32 n x 16 65536 rfl (by omega) (by omega) (by omega); exact this), by omega, H⟩
        case measure => simp [intOf]
      · go_wp2
        go_round
        case rel => exact ⟨4, n + 256 ^ 3 * x, by omega, by go_num, val_int (by have := or32 n x 24 16777216 rfl (by omega) (by omega) (by omega); exact this), by omega, H⟩
        case measure => simp [intOf]
    · obtain rfl : k = 4 := by omega
      have H : Hid (n = Fr.val4 bs) := (by rw [Hn.out, vk4] : n = Fr.val4 bs)
      clear Hn hc hr
      go_wp2
      go_ret
      exact ⟨ret_int (by rw [H.out]), rfl⟩

/-- the greatest of three numbers -/
def max3 (x y z : Nat) : Nat := max (max x y) z

set_option maxRecDepth 100000 in
set_option maxHeartbeats 400000 in
theorem max3_any (g c x y z : Nat) (w : World) (h0 : w.cell? ⟨g, 0, none⟩ = some (.int .u64 (x : Nat))) (h1 : w.cell? ⟨g, 1, none⟩ = some (.int .u64 (y : Nat))) (h2 : w.cell? ⟨g, 2, none⟩ = some (.int .u64 (z : Nat))) :
    Calls Tryz.prog 113 #[.slice (some ⟨g, 0, none⟩) 3 c] w fun e w' => e = .returned (.int .u64 (max3 x y z : Nat)) ∧ w' = w := by
  go_enter Tryz.func113, Tryz.ntmps113
  go_wp2
  go_loop [3, 4] (fun t i => ∃ k : Nat, 1 ≤ k ∧ k ≤ 3 ∧ i = .int .i64 k ∧ ((k = 1 ∧ t = .int .u64 (x : Nat)) ∨ (k = 2 ∧ t = .int .u64 (max x y : Nat)) ∨ (k = 3 ∧ t = .int .u64 (max3 x y z : Nat)))) (fun _ i => 3 - (intOf i).toNat)
  case atStart => exact ⟨1, by omega, by omega, rfl, .inl ⟨rfl, rfl⟩⟩
  case round =>
    obtain ⟨k, hk1, hk, rfl, ⟨rfl, rfl⟩ | ⟨rfl, rfl⟩ | ⟨rfl, rfl⟩⟩ := hrel
    · go_wp2
      go_round
      case rel => exact ⟨2, by omega, by omega, rfl, .inr (.inl ⟨rfl, val_int (by omega)⟩)⟩
      case measure => simp [intOf]
    · go_wp2
      go_round
      case rel => exact ⟨3, by omega, by omega, rfl, .inr (.inr ⟨rfl, val_int (by unfold max3; omega)⟩)⟩
      case measure => simp [intOf]
    · go_wp2
      go_ret
      exact ⟨rfl, rfl⟩
end Go.Proofs.YtikieblokfjphaaGreat

/- What the program's Put of a point does. -/
namespace Go.Proofs.YtikieblokfjphaaGreat
open Go.RowKit

set_option maxRecDepth 100000 in
set_option maxHeartbeats 1000000 in
theorem pput_no (p : Po.P) (w : World) (hf : Po.Fits p) (hmay : Po.may p = false) : Calls Tryz.prog 111 #[pv p] w fun e w' => ∃ a c, e = .returned (.tuple #[.slice a 0 c, .int .i64 1]) ∧ Below w.heap.size w w' := by
  have hc := fun W => pcheckC p W hf
  rw [hmay] at hc
  obtain ⟨s, a, l, m⟩ := p
  simp only [pv] at hc ⊢
  have hc2 : ∀ W, Calls Tryz.prog 100 #[.agg #[.int .i64 s, .int .i64 a, .int .i64 l, .int .u32 m]] W fun e w' => e = .returned (.int .i64 1) ∧ Below W.heap.size W w' := hc
  clear hc
  go_enter Tryz.func111, Tryz.ntmps111
  go_wp2_with (go_at_call 100; go_must (refine (hc2 _).mono ?_; rintro e w1 ⟨rfl, hbel1⟩))
  go_ret2
  exact ⟨none, 0, rfl, (below_alloc _ _).trans (hbel1.mono (by simp))⟩

theorem shr_byte (m k : Nat) : m / 2 ^ (8 * k) % 256 = m / 256 ^ k % 256 := by
  rw [show (256 : Nat) = 2 ^ 8 from rfl, ← Nat.pow_mul]

set_option maxRecDepth 100000 in
set_option maxHeartbeats 1000000 in
theorem pput_yes (p : Po.P) (w : World) (hf : Po.Fits p) (hmay : Po.may p = true) : Calls Tryz.prog 111 #[pv p] w fun e w' => ∃ a c, e = .returned (.tuple #[.slice a (Po.put p).length c, .int .i64 0]) ∧ w'.ownsRow w.heap.size 5 1 (.slice a (Po.put p).length c) (Po.put p).length (kcells .u8 (Po.put p)) ∧ Below w.heap.size w w' := by
  have hc := fun W => pcheckC p W hf
  rw [hmay] at hc
  obtain ⟨s, a, l, m⟩ := p
  simp only [pv] at hc ⊢
  have hb := (Po.may_iff _).mp hmay
  have hm4 : m < 4294967296 := hf.2.2.2
  simp only at hb
  obtain ⟨x, rfl⟩ : ∃ x : Nat, s = (x : Int) := ⟨s.toNat, by omega⟩
  obtain ⟨y, rfl⟩ : ∃ y : Nat, a = (y : Int) := ⟨a.toNat, by omega⟩
  obtain ⟨z, rfl⟩ : ∃ z : Nat, l = (z : Int) := ⟨l.toNat, by omega⟩
  have hc2 : ∀ W, Calls Tryz.prog 100 #[.agg #[.int .i64 x, .int .i64 y, .int .i64 z, .int .u32 m]] W fun e w' => e = .returned (.int .i64 0) ∧ Below W.heap.size W w' := hc
  clear hc
  have hput : ∀ (W : World) (q : Addr), Row .u64 W (some q) 3 [x, y, z] → Calls Tryz.prog 39 #[.slice (some q) 3 3] W (Made .u8 5 W (Va.put [x, y, z])) := fun W q h => put_any (some q) 3 3 [x, y, z] W (by omega) h
  have hsm := Va.put_small [x, y, z]
  have hpl : (Va.put [x, y, z]).length ≤ 30 := by
    have := Va.put_len [x, y, z] (by intro u hu; simp only [List.mem_cons, List.not_mem_nil, or_false] at hu; omega)
    simpa using this
  have he : Hid (Po.put ((x : Int), (y : Int), (z : Int), m) = Va.put [x, y, z] ++ Fr.le4 m) := (rfl : Po.put ((x : Int), (y : Int), (z : Int), m) = Va.put [x, y, z] ++ Fr.le4 m)
  generalize Po.put ((x : Int), (y : Int), (z : Int), m) = q at *
  generalize Va.put [x, y, z] = o at *
  have hb0 := below_alloc w (.cells #[.int .i64 x, .int .i64 y, .int .i64 z, .int .u32 m] 36)
  have i1 : IntKind.u64.wrap (x : Int) = x := by simp only [IntKind.wrap_u64]; omega
  have i2 : IntKind.u64.wrap (y : Int) = y := by simp only [IntKind.wrap_u64]; omega
  have i3 : IntKind.u64.wrap (z : Int) = z := by simp only [IntKind.wrap_u64]; omega
  have hrow : ∀ W : World, Row .u64 (W.alloc (.cells #[.int .u64 x, .int .u64 y, .int .u64 z] 83)) (some ⟨W.heap.size, 0, none⟩) 3 [x, y, z] := fun W => row_lit .u64 W 83 _ [x, y, z] 3 rfl rfl (by intro u hu; simp only [List.mem_cons, List.not_mem_nil, or_false] at hu; show u < 18446744073709551616; omega) (by omega)
  go_enter Tryz.func111, Tryz.ntmps111
  go_wp2_with (first
    | (go_at_call 100; go_must (refine (hc2 _).mono ?_; rintro e w1 ⟨rfl, hbel1⟩; obtain ⟨r0, r1, r2, r3, hs1, hb1⟩ := four_keep hbel1))
    | (go_at_call 39; go_must (have := hbel1; refine (hput _ _ (hrow _)).mono ?_; rintro e w2 ⟨a2, c2, rfl, hown2, hbel2⟩)))
  have hown2' : w2.ownsRow (w.alloc (.cells #[.int .i64 x, .int .i64 y, .int .i64 z, .int .u32 m] 36)).heap.size 5 1 (.slice a2 o.length c2) o.length (kcells .u8 o) := hown2.mono (by have := hbel1.size; simp at this ⊢; omega)
  have hbel2' : Below (w.alloc (.cells #[.int .i64 x, .int .i64 y, .int .i64 z, .int .u32 m] 36)).heap.size (w.alloc (.cells #[.int .i64 x, .int .i64 y, .int .i64 z, .int .u32 m] 36)) w2 := (hbel1.alloc hbel1.size _).trans (hbel2.mono (by have := hbel1.size; simp at this ⊢; omega))
  have hfour := fun W h => four_keep (w := w) (W := W) (c0 := .int .i64 x) (c1 := .int .i64 y) (c2 := .int .i64 z) (c3 := .int .u32 m) (e := 36) h
  clear hown2 hbel2 hbel1 r0 r1 r2 r3 hs1 hb1 hc2 hput hrow
  generalize w.alloc (.cells #[.int .i64 x, .int .i64 y, .int .i64 z, .int .u32 m] 36) = w0 at *
  have Hfour : Hid (_) := hfour
  clear hfour
  go_loopw [5, 23] (fun v i wr => ∃ (j : Nat) (a' : Option Addr) (c' : Nat), j ≤ 4 ∧ i = .int .i64 j ∧ v = .slice a' (o.length + j) c' ∧ wr.ownsRow w0.heap.size 5 1 (.slice a' (o.length + j) c') (o.length + j) (kcells .u8 (o ++ (Fr.le4 m).take j)) ∧ Below w0.heap.size w0 wr) (fun _ i _ => 4 - (intOf i).toNat)
  case atStart => exact ⟨0, a2, c2, by omega, rfl, rfl, by simpa using hown2', hbel2'⟩
  case round =>
    obtain ⟨j, a', c', hj, rfl, rfl, hown, hbel⟩ := hrel
    have hsz := hbel.size
    obtain ⟨r0, r1, r2, r3, hs1, hb1⟩ := Hfour.out _ hbel
    by_cases hlt4 : j < 4
    · have hj4 : j = 0 ∨ j = 1 ∨ j = 2 ∨ j = 3 := by omega
      rcases hj4 with rfl | rfl | rfl | rfl
      · have Hl : Hid ((Fr.le4 m).take (0 + 1) = (Fr.le4 m).take 0 ++ [m / 256 ^ 0 % 256]) := le4_take m 0 (by omega)
        go_wp2_with (at_builtin; go_must (refine append_u8 (w0 := w0) (B := w0.heap.size) rfl (.tmp 26) (.tmp 33) rfl _ (o.length + 0) _ rfl (hown.alloc _) _ 1 1 [m / 256 ^ 0 % 256] rfl (row_newz .u8 _ 5 _ (m / 256 ^ 0 % 256) (by omega) (by show _ < 256; omega)) (fun h => by cases h) (by omega) (hbel.alloc hsz _) (by simp; omega) ?_; intro a6 c6 w6 hown6 hbel6 hsz6))
        go_roundw
        case rel => exact ⟨0 + 1, a6, c6, by omega, by go_num, rfl, by rw [Hl.out, ← List.append_assoc]; exact hown6, hbel6⟩
        case measure => simp [intOf]
      · have Hl : Hid ((Fr.le4 m).take (1 + 1) = (Fr.le4 m).take 1 ++ [m / 256 ^ 1 % 256]) := le4_take m 1 (by omega)
        go_wp2_with (at_builtin; go_must (refine append_u8 (w0 := w0) (B := w0.heap.size) rfl (.tmp 26) (.tmp 33) rfl _ (o.length + 1) _ rfl (hown.alloc _) _ 1 1 [m / 256 ^ 1 % 256] rfl (row_newz .u8 _ 5 _ (m / 256 ^ 1 % 256) (by omega) (by show _ < 256; omega)) (fun h => by cases h) (by omega) (hbel.alloc hsz _) (by simp; omega) ?_; intro a6 c6 w6 hown6 hbel6 hsz6))
        go_roundw
        case rel => exact ⟨1 + 1, a6, c6, by omega, by go_num, rfl, by rw [Hl.out, ← List.append_assoc]; exact hown6, hbel6⟩
        case measure => simp [intOf]
      · have Hl : Hid ((Fr.le4 m).take (2 + 1) = (Fr.le4 m).take 2 ++ [m / 256 ^ 2 % 256]) := le4_take m 2 (by omega)
        go_wp2_with (at_builtin; go_must (refine append_u8 (w0 := w0) (B := w0.heap.size) rfl (.tmp 26) (.tmp 33) rfl _ (o.length + 2) _ rfl (hown.alloc _) _ 1 1 [m / 256 ^ 2 % 256] rfl (row_newz .u8 _ 5 _ (m / 256 ^ 2 % 256) (by omega) (by show _ < 256; omega)) (fun h => by cases h) (by omega) (hbel.alloc hsz _) (by simp; omega) ?_; intro a6 c6 w6 hown6 hbel6 hsz6))
        go_roundw
        case rel => exact ⟨2 + 1, a6, c6, by omega, by go_num, rfl, by rw [Hl.out, ← List.append_assoc]; exact hown6, hbel6⟩
        case measure => simp [intOf]
      · have Hl : Hid ((Fr.le4 m).take (3 + 1) = (Fr.le4 m).take 3 ++ [m / 256 ^ 3 % 256]) := le4_take m 3 (by omega)
        go_wp2_with (at_builtin; go_must (refine append_u8 (w0 := w0) (B := w0.heap.size) rfl (.tmp 26) (.tmp 33) rfl _ (o.length + 3) _ rfl (hown.alloc _) _ 1 1 [m / 256 ^ 3 % 256] rfl (row_newz .u8 _ 5 _ (m / 256 ^ 3 % 256) (by omega) (by show _ < 256; omega)) (fun h => by cases h) (by omega) (hbel.alloc hsz _) (by simp; omega) ?_; intro a6 c6 w6 hown6 hbel6 hsz6))
        go_roundw
        case rel => exact ⟨3 + 1, a6, c6, by omega, by go_num, rfl, by rw [Hl.out, ← List.append_assoc]; exact hown6, hbel6⟩
        case measure => simp [intOf]
    · obtain rfl : j = 4 := by omega
      go_wp2
      go_ret2
      exact ⟨a', c', by rw [he.out, List.length_append, Fr.le4_len]; rfl, by rw [he.out, List.length_append, Fr.le4_len]; exact hown.mono hb0.size, hb1⟩

theorem pputC : PPutC := by
  intro p w hf
  by_cases h : Po.may p = true
  · refine (pput_yes p w hf h).mono ?_
    exact fun e w' h' => .inl ⟨h, h'⟩
  · have h : Po.may p = false := by simpa using h
    refine (pput_no p w hf h).mono ?_
    exact fun e w' h' => .inr ⟨h, h'⟩
end Go.Proofs.YtikieblokfjphaaGreat

/- What the program's Get of a point does. -/
namespace Go.Proofs.YtikieblokfjphaaGreat
open Go.RowKit

theorem get_code (bs : List Nat) (h : Po.get bs = (Po.zero, 0)) : code (Po.get bs).2 = 2 := by rw [h]; rfl

set_option maxRecDepth 100000 in
set_option maxHeartbeats 2000000 in
theorem pgetC : PGetC := by
  intro a len cap bs w hshape hcap hbig hr
  have hlen : Hid (bs.length = len) := hr.1
  obtain ⟨G, hG⟩ : ∃ G, G = Po.get bs := ⟨_, rfl⟩
  rw [← hG]
  have HG : Hid (G = Po.get bs) := hG
  clear hG
  have hb0 := below_alloc w (.cells #[.int .i64 0, .int .i64 0, .int .i64 0, .int .u32 0] 36)
  have hkeep : Hid (∀ W, Below (w.alloc (.cells #[.int .i64 0, .int .i64 0, .int .i64 0, .int .u32 0] 36)).heap.size (w.alloc (.cells #[.int .i64 0, .int .i64 0, .int .i64 0, .int .u32 0] 36)) W → W.cell? ⟨w.heap.size, 0, none⟩ = some (.int .i64 0) ∧ W.cell? ⟨w.heap.size, 1, none⟩ = some (.int .i64 0) ∧ W.cell? ⟨w.heap.size, 2, none⟩ = some (.int .i64 0) ∧ W.cell? ⟨w.heap.size, 3, none⟩ = some (.int .u32 0) ∧ W.frozen? ⟨w.heap.size, 0, none⟩ = false ∧ W.frozen? ⟨w.heap.size, 1, none⟩ = false ∧ W.frozen? ⟨w.heap.size, 2, none⟩ = false ∧ W.frozen? ⟨w.heap.size, 3, none⟩ = false ∧ Below w.heap.size w W ∧ w.heap.size < W.heap.size) := by
    refine (fun W h => ?_ : ∀ W, Below (w.alloc (.cells #[.int .i64 0, .int .i64 0, .int .i64 0, .int .u32 0] 36)).heap.size (w.alloc (.cells #[.int .i64 0, .int .i64 0, .int .i64 0, .int .u32 0] 36)) W → _)
    obtain ⟨k0, k1, k2, k3⟩ := cell_four w (.int .i64 0) (.int .i64 0) (.int .i64 0) (.int .u32 0) 36 rfl
    have hl : w.heap.size < (w.alloc (.cells #[.int .i64 0, .int .i64 0, .int .i64 0, .int .u32 0] 36)).heap.size := by simp
    exact ⟨(h.cell (p := ⟨w.heap.size, 0, none⟩) hl).trans k0, (h.cell (p := ⟨w.heap.size, 1, none⟩) hl).trans k1, (h.cell (p := ⟨w.heap.size, 2, none⟩) hl).trans k2, (h.cell (p := ⟨w.heap.size, 3, none⟩) hl).trans k3,
      (h.frozen (p := ⟨w.heap.size, 0, none⟩) hl).trans (frozen_new w _ 36 0), (h.frozen (p := ⟨w.heap.size, 1, none⟩) hl).trans (frozen_new w _ 36 1), (h.frozen (p := ⟨w.heap.size, 2, none⟩) hl).trans (frozen_new w _ 36 2), (h.frozen (p := ⟨w.heap.size, 3, none⟩) hl).trans (frozen_new w _ 36 3),
      hb0.trans (h.mono hb0.size), Nat.lt_of_lt_of_le hl h.size⟩
  have hall := all_any a len cap bs 3 _ (by omega) hbig hshape (hr.below hb0 (Nat.le_refl _))
  have hok := Po.all_ok bs 3
  rw [hlen.out] at hok
  have hno := fun h => Po.get_no (bs := bs) h
  rw [← HG.out, hlen.out] at hno
  obtain ⟨R, hR⟩ : ∃ R, R = Va.all bs 3 := ⟨_, rfl⟩
  rw [← hR] at hall hok hno
  have HR : Hid (R = Va.all bs 3) := hR
  clear hR
  obtain ⟨nl, at', cd⟩ := R
  simp only at hok hno
  obtain ⟨hat, hcd, hsmall⟩ := hok
  have Hno : Hid (_) := hno
  clear hno
  by_cases hc : cd = 0
  · subst hc
    obtain ⟨l0, l1, l2, rfl⟩ : ∃ l0 l1 l2, nl = [l0, l1, l2] := by
      have h3 := hcd rfl
      match nl, h3 with
      | [l0, l1, l2], _ => exact ⟨l0, l1, l2, rfl⟩
    have hall3 : Calls Tryz.prog 104 #[.slice a len cap, .int .i64 3] (w.alloc (.cells #[.int .i64 0, .int .i64 0, .int .i64 0, .int .u32 0] 36)) fun e w' => ∃ a1 c1, e = .returned (.tuple #[.slice a1 3 c1, .int .i64 (at' : Nat), .int .i64 0]) ∧ w'.ownsRow (w.alloc (.cells #[.int .i64 0, .int .i64 0, .int .i64 0, .int .u32 0] 36)).heap.size 83 1 (.slice a1 3 c1) 3 (kcells .u64 [l0, l1, l2]) ∧ Below (w.alloc (.cells #[.int .i64 0, .int .i64 0, .int .i64 0, .int .u32 0] 36)).heap.size (w.alloc (.cells #[.int .i64 0, .int .i64 0, .int .i64 0, .int .u32 0] 36)) w' := hall
    have hs0 := hsmall l0 (by simp)
    have hs1 := hsmall l1 (by simp)
    have hs2 := hsmall l2 (by simp)
    clear hcd
    have hmx : ∀ W g c, W.cell? ⟨g, 0, none⟩ = some (.int .u64 (l0 : Nat)) → W.cell? ⟨g, 1, none⟩ = some (.int .u64 (l1 : Nat)) → W.cell? ⟨g, 2, none⟩ = some (.int .u64 (l2 : Nat)) → Calls Tryz.prog 113 #[.slice (some ⟨g, 0, none⟩) 3 c] W fun e w' => e = .returned (.int .u64 (max3 l0 l1 l2 : Nat)) ∧ w' = W := fun W g c h0 h1 h2 => max3_any g c l0 l1 l2 W h0 h1 h2
    have Hmx : Hid (max3 l0 l1 l2 = max (max l0 l1) l2) := (rfl : max3 l0 l1 l2 = max (max l0 l1) l2)
    generalize max3 l0 l1 l2 = mx at *
    by_cases h4 : at' + 4 ≤ len
    · by_cases hm : mx ≤ 2147483647
      · have hl0 : l0 ≤ 2147483647 := by have := Hmx.out; omega
        have hl1 : l1 ≤ 2147483647 := by have := Hmx.out; omega
        have hl2 : l2 ≤ 2147483647 := by have := Hmx.out; omega
        have Hget : Hid (G = if Po.may ((l0 : Int), (l1 : Int), (l2 : Int), Fr.val4 ((bs.drop at').take 4)) = true then (((l0 : Int), (l1 : Int), (l2 : Int), Fr.val4 ((bs.drop at').take 4)), at' + 4) else (Po.zero, 0)) := by
          have h1 : G = if Po.may ((l0 : Int), (l1 : Int), (l2 : Int), Fr.val4 ((bs.drop at').take 4)) = true then (((l0 : Int), (l1 : Int), (l2 : Int), Fr.val4 ((bs.drop at').take 4)), at' + 4) else (Po.zero, 0) := by
            rw [HG.out]; unfold Po.get; rw [← HR.out]; simp only [Po.ofNums, List.getD_cons_zero, List.getD_cons_succ]
            congr 1
            simp only [true_and, eq_iff_iff, and_iff_right_iff_imp]
            intro _; rw [hlen.out]; exact h4
          exact h1
        clear Hno HR HG hall Hmx
        obtain ⟨b, off, rfl, hcc⟩ := hr.at (by omega)
        clear hcc
        have hv4 : Fr.val4 ((bs.drop at').take 4) < 4294967296 := Po.val4_lt (take_small (drop_small hr.2.2.1 _) _)
        have hr4 := (hr.drop at' (by omega)).take 4 (by omega)
        have hso : ∀ W z c q, Below w.heap.size w W → z = 4 → q = off + at' → Calls Tryz.prog 114 #[.slice (some ⟨b, q, none⟩) z c] W fun e w' => e = .returned (.int .u32 (Fr.val4 ((bs.drop at').take 4) : Nat)) ∧ w' = W := fun W z c q hW hz hq => by
          subst hq
          exact sumof_any _ _ _ _ _ hz (hr4.below hW (Nat.le_refl _))
        have hck := fun W => pcheckC ((l0 : Int), (l1 : Int), (l2 : Int), Fr.val4 ((bs.drop at').take 4)) W ⟨by simp only []; omega, by simp only []; omega, by simp only []; omega, hv4⟩
        generalize Fr.val4 ((bs.drop at').take 4) = q at *
        simp only [pv] at hck
        have hcap2 : at' + 4 ≤ cap := by omega
        have i0 : IntKind.i64.wrap (l0 : Int) = (l0 : Int) := by rw [IntKind.wrap_i64]; omega
        have i1 : IntKind.i64.wrap (l1 : Int) = (l1 : Int) := by rw [IntKind.wrap_i64]; omega
        have i2 : IntKind.i64.wrap (l2 : Int) = (l2 : Int) := by rw [IntKind.wrap_i64]; omega
        have i3 : (0 : Int) ≤ (at' : Int) := by omega
        have i4 : (at' : Int) ≤ (at' : Int) + 4 := by omega
        have i5 : (at' : Int) + 4 ≤ (cap : Int) := by omega
        have i8 : ¬ (cap = at') := by omega
        have d1 : decide ((len : Int) - (at' : Int) < 4) = false := by simp; omega
        have d2 : decide (2147483647 < (mx : Int)) = false := by simp; omega
        clear hr4 hshape
        go_enter Tryz.func106, Tryz.ntmps106
        go_wp2_with (first
          | (go_at_call 104; go_must (refine hall3.mono ?_; rintro e w1 ⟨a1, c1, rfl, hown1, hbel1⟩; obtain ⟨n0, n1, n2, n3, f0, f1, f2, f3, hb1, hs1'⟩ := hkeep.out w1 hbel1; obtain ⟨g, rfl, hgc, q0, q1, q2, hgl⟩ := three_of hown1 hsmall; have hne := World.new_ne w1 ⟨g, 0, none⟩ q0))
          | (go_at_call 113; go_must (refine (hmx _ _ _ q0 q1 q2).mono ?_; rintro e w1' ⟨rfl, hw⟩; obtain rfl : w1 = w1' := hw.symm)))
        go_region_held3 (fun w' => w'.cell? ⟨g, 0, none⟩ = some (.int .u64 (l0 : Nat)) ∧ w'.cell? ⟨g, 1, none⟩ = some (.int .u64 (l1 : Nat)) ∧ w'.cell? ⟨g, 2, none⟩ = some (.int .u64 (l2 : Nat))) (first | go_keep | (refine ⟨?_, ?_, ?_⟩ <;> assumption))
          (first
            | ((go_at_call 114; refine (hso _ _ _ _ hb1.drew ?_ ?_).mono ?_; omega; omega; rintro e w2 ⟨rfl, rfl⟩))
            | ((go_at_call 114; refine (hso _ _ _ _ ((hb1.alloc hb1.size _).drew) ?_ ?_).mono ?_; omega; omega; rintro e w2 ⟨rfl, rfl⟩)))
        all_goals
          obtain ⟨m0, m1, m2, m3⟩ := cell_four w1 (.int .i64 (l0 : Nat)) (.int .i64 (l1 : Nat)) (.int .i64 (l2 : Nat)) (.int .u32 (q : Nat)) 36 rfl
          have hbel2 : Below (w.alloc (.cells #[.int .i64 0, .int .i64 0, .int .i64 0, .int .u32 0] 36)).heap.size (w.alloc (.cells #[.int .i64 0, .int .i64 0, .int .i64 0, .int .u32 0] 36)) (w1.alloc (.cells #[.int .i64 (l0 : Nat), .int .i64 (l1 : Nat), .int .i64 (l2 : Nat), .int .u32 (q : Nat)] 36)) := hbel1.alloc hbel1.size _
          have hlt2 : w1.heap.size < (w1.alloc (.cells #[.int .i64 (l0 : Nat), .int .i64 (l1 : Nat), .int .i64 (l2 : Nat), .int .u32 (q : Nat)] 36)).heap.size := by simp
          clear hown1 hbel1 n0 n1 n2 n3 f0 f1 f2 f3 hb1 hs1' hgc q0 q1 q2 hgl hne hso hmx hall3 hr hb0
          generalize w1.alloc (.cells #[.int .i64 (l0 : Nat), .int .i64 (l1 : Nat), .int .i64 (l2 : Nat), .int .u32 (q : Nat)] 36) = W2 at *
          generalize w1.heap.size = M at *
          have hcs : Hid (∀ W, Below W2.heap.size W2.drew W → W.cell? ⟨M, 0, none⟩ = some (.int .i64 (l0 : Nat)) ∧ W.cell? ⟨M, 1, none⟩ = some (.int .i64 (l1 : Nat)) ∧ W.cell? ⟨M, 2, none⟩ = some (.int .i64 (l2 : Nat)) ∧ W.cell? ⟨M, 3, none⟩ = some (.int .u32 (q : Nat)) ∧ Below (w.alloc (.cells #[.int .i64 0, .int .i64 0, .int .i64 0, .int .u32 0] 36)).heap.size (w.alloc (.cells #[.int .i64 0, .int .i64 0, .int .i64 0, .int .u32 0] 36)) W) := by
            refine (fun W h0 => ?_ : ∀ W, Below W2.heap.size W2.drew W → _)
            have h := below_of_drew h0
            exact ⟨(h.cell (p := ⟨M, 0, none⟩) hlt2).trans m0, (h.cell (p := ⟨M, 1, none⟩) hlt2).trans m1, (h.cell (p := ⟨M, 2, none⟩) hlt2).trans m2, (h.cell (p := ⟨M, 3, none⟩) hlt2).trans m3, hbel2.trans (h.mono hbel2.size)⟩
          by_cases hmm : Po.may ((l0 : Int), (l1 : Int), (l2 : Int), q) = true
          · have H : Hid (G = (((l0 : Int), (l1 : Int), (l2 : Int), q), at' + 4)) := (by rw [Hget.out, if_pos hmm] : G = (((l0 : Int), (l1 : Int), (l2 : Int), q), at' + 4))
            rw [if_pos hmm] at hck
            have hck2 : ∀ W, Calls Tryz.prog 100 #[.agg #[.int .i64 l0, .int .i64 l1, .int .i64 l2, .int .u32 q]] W fun e w' => e = .returned (.int .i64 0) ∧ Below W.heap.size W w' := hck
            clear hmm Hget hck
            go_wp2_with (go_at_call 100; go_must (refine (hck2 _).mono ?_; rintro e w3 ⟨rfl, hbel3⟩; obtain ⟨t0, t1, t2, t3, hbel4⟩ := hcs.out w3 hbel3; obtain ⟨n0, n1, n2, n3, f0, f1, f2, f3, hb1, hs1'⟩ := hkeep.out w3 hbel4))
            exact bodyPost_ret (v := .tuple #[pv ((l0 : Int), (l1 : Int), (l2 : Int), q), .int .i64 ((at' + 4 : Nat) : Int), .int .i64 0]) (by simp [pv, results, Tryz.results106, go_sem, n0, n1, n2, n3]) rfl ⟨by rw [H.out]; rfl, (((hb1.setCell (Nat.le_refl _) _).setCell (Nat.le_refl _) _).setCell (Nat.le_refl _) _).setCell (Nat.le_refl _) _⟩
          · have H : Hid (G = (Po.zero, 0)) := (by rw [Hget.out, if_neg hmm] : G = (Po.zero, 0))
            rw [if_neg hmm] at hck
            have hck2 : ∀ W, Calls Tryz.prog 100 #[.agg #[.int .i64 l0, .int .i64 l1, .int .i64 l2, .int .u32 q]] W fun e w' => e = .returned (.int .i64 1) ∧ Below W.heap.size W w' := hck
            clear hmm Hget hck
            go_wp2_with (go_at_call 100; go_must (refine (hck2 _).mono ?_; rintro e w3 ⟨rfl, hbel3⟩; obtain ⟨t0, t1, t2, t3, hbel4⟩ := hcs.out w3 hbel3; obtain ⟨n0, n1, n2, n3, f0, f1, f2, f3, hb1, hs1'⟩ := hkeep.out w3 hbel4))
            exact bodyPost_ret (v := .tuple #[pv Po.zero, .int .i64 0, .int .i64 2]) (by simp [pv, Po.zero, results, Tryz.results106, go_sem, n0, n1, n2, n3]) rfl ⟨by rw [H.out]; rfl, (((hb1.setCell (Nat.le_refl _) _).setCell (Nat.le_refl _) _).setCell (Nat.le_refl _) _).setCell (Nat.le_refl _) _⟩
      · have H : Hid (G = (Po.zero, 0)) := Hno.out (fun h => by have := (Po.may_iff _).mp h.2.2; simp only [Po.ofNums, List.getD_cons_zero, List.getD_cons_succ] at this; have := Hmx.out; omega)
        clear Hno HR HG hall Hmx
        have d1 : decide ((len : Int) - (at' : Int) < 4) = false := by simp; omega
        have d2 : decide (2147483647 < (mx : Int)) = true := by simp; omega
        go_enter Tryz.func106, Tryz.ntmps106
        go_wp2_with (first
          | (go_at_call 104; go_must (refine hall3.mono ?_; rintro e w1 ⟨a1, c1, rfl, hown1, hbel1⟩; obtain ⟨n0, n1, n2, n3, f0, f1, f2, f3, hb1, hs1'⟩ := hkeep.out w1 hbel1; obtain ⟨g, rfl, hgc, q0, q1, q2, hgl⟩ := three_of hown1 hsmall))
          | (go_at_call 113; go_must (refine (hmx _ _ _ q0 q1 q2).mono ?_; rintro e w1' ⟨rfl, hw⟩; obtain rfl : w1 = w1' := hw.symm)))
        exact bodyPost_ret (v := .tuple #[pv Po.zero, .int .i64 0, .int .i64 2]) (by simp [pv, Po.zero, results, Tryz.results106, go_sem, n0, n1, n2, n3]) rfl ⟨by rw [H.out]; rfl, (((hb1.setCell (Nat.le_refl _) _).setCell (Nat.le_refl _) _).setCell (Nat.le_refl _) _).setCell (Nat.le_refl _) _⟩
    · have H : Hid (G = (Po.zero, 0)) := Hno.out (fun h => h4 h.2.1)
      clear Hno HR HG hall
      have d1 : decide ((len : Int) - (at' : Int) < 4) = true := by simp; omega
      go_enter Tryz.func106, Tryz.ntmps106
      go_wp2_with (go_at_call 104; go_must (refine hall3.mono ?_; rintro e w1 ⟨a1, c1, rfl, hown1, hbel1⟩; obtain ⟨n0, n1, n2, n3, f0, f1, f2, f3, hb1, hs1'⟩ := hkeep.out w1 hbel1))
      exact bodyPost_ret (v := .tuple #[pv Po.zero, .int .i64 0, .int .i64 2]) (by simp [pv, Po.zero, results, Tryz.results106, go_sem, n0, n1, n2, n3]) rfl ⟨by rw [H.out]; rfl, (((hb1.setCell (Nat.le_refl _) _).setCell (Nat.le_refl _) _).setCell (Nat.le_refl _) _).setCell (Nat.le_refl _) _⟩
  · have H : Hid (G = (Po.zero, 0)) := Hno.out (fun h => hc h.1)
    have hcb : ((cd : Int) == 0) = false := by simp; omega
    clear hcd Hno HR HG
    go_enter Tryz.func106, Tryz.ntmps106
    go_wp2_with (go_at_call 104; go_must (refine hall.mono ?_; rintro e w1 ⟨a1, c1, rfl, hown1, hbel1⟩; obtain ⟨n0, n1, n2, n3, f0, f1, f2, f3, hb1, hs1'⟩ := hkeep.out w1 hbel1))
    exact bodyPost_ret (v := .tuple #[pv Po.zero, .int .i64 0, .int .i64 2]) (by simp [pv, Po.zero, results, Tryz.results106, go_sem, n0, n1, n2, n3]) rfl ⟨by rw [H.out]; rfl, (((hb1.setCell (Nat.le_refl _) _).setCell (Nat.le_refl _) _).setCell (Nat.le_refl _) _).setCell (Nat.le_refl _) _⟩
end Go.Proofs.YtikieblokfjphaaGreat
