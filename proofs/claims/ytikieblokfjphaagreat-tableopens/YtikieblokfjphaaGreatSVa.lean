/- What the reference's Bits of a key does, and its has. -/
import Derived.Test.YtikieblokfjphaaGreatMa
import Derived.Test.YtikieblokfjphaaGreatGa
import Derived.Test.YtikieblokfjphaaGreatCrc
namespace Go.Proofs.YtikieblokfjphaaGreat
open Go.RowKit

def BitsRes (w : World) (L : List Nat) (e : Ending) (w' : World) : Prop :=
  ∃ a c, e = .returned (.slice a L.length c) ∧ L.length ≤ c ∧ (a = none → L.length = 0 ∧ c = 0) ∧ w'.ownsRow w.heap.size 3 1 (.slice a L.length c) L.length (tcells ie L) ∧ Below w.heap.size w w'

set_option maxRecDepth 100000 in
set_option maxHeartbeats 2000000 in
theorem vbits_any (n : Nat) (s : ByteArray) (w : World) (hn : 1 ≤ n ∧ n ≤ 1048576) (hs : s.size ≤ 1000000) :
    Calls Tryz.prog 95 #[.int .i64 n, .string s] w (BitsRes w (Sv.bits n (kb s))) := by
  obtain ⟨C, cap, hconv, hrow⟩ := conv_row8 s w hs
  have hb0 : Below w.heap.size w (w.alloc (.cells C 5 (C.size, C.size + 1))) := below_alloc _ _
  have hof := fun W (h : Below (w.alloc (.cells C 5 (C.size, C.size + 1))).heap.size (w.alloc (.cells C 5 (C.size, C.size + 1))) W) => refof_any _ s.size cap (kb s) W (hrow.below h (Nat.le_refl _))
  have hH : Crc.more 0 (kb s) < 4294967296 := Crc.more_lt (s := 0) (kb s) (by omega) (fun x hx => kb_small s x hx)
  obtain ⟨L, hL⟩ : ∃ L, L = Sv.bits n (kb s) := ⟨_, rfl⟩
  have HL : Hid (L = (List.range 6).map (Sv.bit n (Crc.more 0 (kb s)))) := (by rw [hL]; rfl : L = (List.range 6).map (Sv.bit n (Crc.more 0 (kb s))))
  rw [← hL]
  clear hL
  generalize Crc.more 0 (kb s) = H at *
  by_cases hpar : (H * 131072 % 4294967296 + H / 32768) % 2 = 0
  · have hd : (((H : Int) * 131072 % 4294967296 + (H : Int) / 32768) % 2 == 0) = true := by simp; omega
    obtain ⟨D, hDD⟩ : ∃ D, D = Sv.turnd H := ⟨_, rfl⟩
    have hDe : (H : Int) * 131072 % 4294967296 + (H : Int) / 32768 + 1 = (D : Int) := by rw [hDD]; unfold Sv.turnd Sv.odd; rw [if_pos hpar]; omega
    have HD : Hid (D = Sv.turnd H) := hDD
    have hD8 : D ≤ 8589934592 := by rw [hDD]; unfold Sv.turnd Sv.odd; split <;> omega
    clear hDD
    go_enter Tryz.func95, Tryz.ntmps95
    go_wp2_with (go_at_call 77; go_must (refine (hof _ (Below.refl _ _).drew).mono ?_; rintro e w1 ⟨rfl, hb1⟩))
    have hown0 := made_t (s := 1) (enc := ie) (w.alloc (.cells C 5 (C.size, C.size + 1))) (B := w.heap.size) (E := 3) (by simp) (g := w.heap.size + 1) (by simp)
    have hbel0 := hb0.alloc hb0.size (.cells #[] 3)
    generalize (w.alloc (.cells C 5 (C.size, C.size + 1))).alloc (.cells #[] 3) = w2 at *
    clear hconv hrow hof hb0 hb1 hDe hpar hd
    go_loopw [7, 8] (fun v i wr => ∃ (k c : Nat) (g : Option Addr) (O : List Nat), k ≤ 6 ∧ i = .int .i64 k ∧ v = .slice g k c ∧ k ≤ c ∧ (g = none → k = 0 ∧ c = 0) ∧ Hid (O = (List.range k).map (Sv.bit n H)) ∧ wr.ownsRow w.heap.size 3 1 (.slice g k c) k (tcells ie O) ∧ Below w.heap.size w wr)
      (fun _ i _ => 6 - (intOf i).toNat)
    case atStart => exact ⟨0, 0, _, [], by omega, rfl, rfl, by omega, (fun h => by cases h), (rfl : ([] : List Nat) = (List.range 0).map (Sv.bit n H)), hown0, hbel0.drew⟩
    case round =>
      obtain ⟨k, c, g, O, hk, rfl, rfl, hkc, hgn, HO, hown, hbel⟩ := hrel
      clear hown0 hbel0
      by_cases hlt : k < 6
      · obtain ⟨M, hM⟩ : ∃ M, M = k * D := ⟨_, rfl⟩
        have hM6 : M ≤ 51539607552 := by
          rw [hM]
          exact Nat.le_trans (Nat.mul_le_mul (by omega : k ≤ 6) hD8) (by omega)
        have j1 : IntKind.u64.wrap ((k : Int) * (D : Int)) = (M : Int) := by
          rw [IntKind.wrap_u64, hM]
          have : ((k * D : Nat) : Int) ≤ 51539607552 := by omega
          rw [Int.natCast_mul] at this ⊢
          omega
        obtain ⟨V, hV⟩ : ∃ V, V = Sv.bit n H k := ⟨_, rfl⟩
        have j2 : ((H : Int) + (M : Int)) % 4294967296 % (8 * (n : Int)) = (V : Int) := by
          rw [hV, hM]
          unfold Sv.bit
          rw [← HD.out]
          simp only [Int.natCast_emod, Int.natCast_add, Int.natCast_mul]
          rfl
        have hV8 : V ≤ 8388608 := by
          rw [hV]
          have : Sv.bit n H k < 8 * n := Nat.mod_lt _ (by omega)
          omega
        have H2 : Hid (O ++ [V] = (List.range (k + 1)).map (Sv.bit n H)) := (by rw [HO.out, List.range_succ, List.map_append, hV]; rfl : O ++ [V] = (List.range (k + 1)).map (Sv.bit n H))
        clear hM hV HO
        go_wp2_with (at_builtin; go_must (refine append_t intE ieE (w0 := w) (B := w.heap.size) rfl (.tmp 29) (.tmp 42) rfl _ k O rfl (hown.alloc _) (some ⟨wr.heap.size, 0, none⟩) 1 1 [V] rfl (lit_int wr V rfl) (fun h => by cases h) (by omega) (hbel.alloc hbel.size _) (hbel.alloc hbel.size _).size ?_; intro a2 c2 w2 hc2 hn2 _ hown2 hb2 _))
        go_roundw
        case rel => exact ⟨k + 1, c2, a2, _, by omega, by go_num, rfl, hc2, hn2, H2, hown2, hb2⟩
        case measure => simp [intOf]; omega
      · obtain rfl : k = 6 := by omega
        obtain rfl : O = L := by rw [HO.out, HL.out]
        have hl6 : O.length = 6 := by rw [HO.out]; simp
        go_wp2
        go_ret
        exact ⟨g, c, by rw [hl6]; rfl, by rw [hl6]; exact hkc, by rw [hl6]; exact hgn, by rw [hl6]; exact hown, hbel⟩
  · have hd : (((H : Int) * 131072 % 4294967296 + (H : Int) / 32768) % 2 == 0) = false := by simp; omega
    obtain ⟨D, hDD⟩ : ∃ D, D = Sv.turnd H := ⟨_, rfl⟩
    have hDe : (H : Int) * 131072 % 4294967296 + (H : Int) / 32768 = (D : Int) := by rw [hDD]; unfold Sv.turnd Sv.odd; rw [if_neg hpar]; omega
    have hd2 : ((D : Int) % 2 == 0) = false := by rw [← hDe]; exact hd
    have HD : Hid (D = Sv.turnd H) := hDD
    have hD8 : D ≤ 8589934592 := by rw [hDD]; unfold Sv.turnd Sv.odd; split <;> omega
    clear hDD
    go_enter Tryz.func95, Tryz.ntmps95
    go_wp2_with (go_at_call 77; go_must (refine (hof _ (Below.refl _ _).drew).mono ?_; rintro e w1 ⟨rfl, hb1⟩))
    have hown0 := made_t (s := 1) (enc := ie) (w.alloc (.cells C 5 (C.size, C.size + 1))) (B := w.heap.size) (E := 3) (by simp) (g := w.heap.size + 1) (by simp)
    have hbel0 := hb0.alloc hb0.size (.cells #[] 3)
    generalize (w.alloc (.cells C 5 (C.size, C.size + 1))).alloc (.cells #[] 3) = w2 at *
    clear hconv hrow hof hb0 hb1 hDe hpar hd hd2
    go_loopw [7, 8] (fun v i wr => ∃ (k c : Nat) (g : Option Addr) (O : List Nat), k ≤ 6 ∧ i = .int .i64 k ∧ v = .slice g k c ∧ k ≤ c ∧ (g = none → k = 0 ∧ c = 0) ∧ Hid (O = (List.range k).map (Sv.bit n H)) ∧ wr.ownsRow w.heap.size 3 1 (.slice g k c) k (tcells ie O) ∧ Below w.heap.size w wr)
      (fun _ i _ => 6 - (intOf i).toNat)
    case atStart => exact ⟨0, 0, _, [], by omega, rfl, rfl, by omega, (fun h => by cases h), (rfl : ([] : List Nat) = (List.range 0).map (Sv.bit n H)), hown0, hbel0.drew⟩
    case round =>
      obtain ⟨k, c, g, O, hk, rfl, rfl, hkc, hgn, HO, hown, hbel⟩ := hrel
      clear hown0 hbel0
      by_cases hlt : k < 6
      · obtain ⟨M, hM⟩ : ∃ M, M = k * D := ⟨_, rfl⟩
        have hM6 : M ≤ 51539607552 := by
          rw [hM]
          exact Nat.le_trans (Nat.mul_le_mul (by omega : k ≤ 6) hD8) (by omega)
        have j1 : IntKind.u64.wrap ((k : Int) * (D : Int)) = (M : Int) := by
          rw [IntKind.wrap_u64, hM]
          have : ((k * D : Nat) : Int) ≤ 51539607552 := by omega
          rw [Int.natCast_mul] at this ⊢
          omega
        obtain ⟨V, hV⟩ : ∃ V, V = Sv.bit n H k := ⟨_, rfl⟩
        have j2 : ((H : Int) + (M : Int)) % 4294967296 % (8 * (n : Int)) = (V : Int) := by
          rw [hV, hM]
          unfold Sv.bit
          rw [← HD.out]
          simp only [Int.natCast_emod, Int.natCast_add, Int.natCast_mul]
          rfl
        have hV8 : V ≤ 8388608 := by
          rw [hV]
          have : Sv.bit n H k < 8 * n := Nat.mod_lt _ (by omega)
          omega
        have H2 : Hid (O ++ [V] = (List.range (k + 1)).map (Sv.bit n H)) := (by rw [HO.out, List.range_succ, List.map_append, hV]; rfl : O ++ [V] = (List.range (k + 1)).map (Sv.bit n H))
        clear hM hV HO
        go_wp2_with (at_builtin; go_must (refine append_t intE ieE (w0 := w) (B := w.heap.size) rfl (.tmp 29) (.tmp 42) rfl _ k O rfl (hown.alloc _) (some ⟨wr.heap.size, 0, none⟩) 1 1 [V] rfl (lit_int wr V rfl) (fun h => by cases h) (by omega) (hbel.alloc hbel.size _) (hbel.alloc hbel.size _).size ?_; intro a2 c2 w2 hc2 hn2 _ hown2 hb2 _))
        go_roundw
        case rel => exact ⟨k + 1, c2, a2, _, by omega, by go_num, rfl, hc2, hn2, H2, hown2, hb2⟩
        case measure => simp [intOf]; omega
      · obtain rfl : k = 6 := by omega
        obtain rfl : O = L := by rw [HO.out, HL.out]
        have hl6 : O.length = 6 := by rw [HO.out]; simp
        go_wp2
        go_ret
        exact ⟨g, c, by rw [hl6]; rfl, by rw [hl6]; exact hkc, by rw [hl6]; exact hgn, by rw [hl6]; exact hown, hbel⟩
end Go.Proofs.YtikieblokfjphaaGreat

/- What the reference's has, Set and Of of sieves do. -/
namespace Go.Proofs.YtikieblokfjphaaGreat
open Go.RowKit

set_option maxRecDepth 100000 in
set_option maxHeartbeats 1000000 in
theorem vin_any (a : Option Addr) (len cap : Nat) (l : List Nat) (b : Nat) (w : World) (hr : IRow w a len l) :
    Calls Tryz.prog 94 #[.slice a len cap, .int .i64 b] w fun e w' => e = .returned (.bool (decide (b ∈ l))) ∧ Below w.heap.size w w' := by
  have hll : Hid (l.length = len) := hr.1
  have hlb := hr.2.1
  obtain ⟨R, hR⟩ : ∃ R, R = decide (b ∈ l) := ⟨_, rfl⟩
  rw [← hR]
  have HR : Hid (R = decide (b ∈ l)) := hR
  clear hR
  go_enter Tryz.func94, Tryz.ntmps94
  go_wp2
  go_loopw [5] (fun i wr => ∃ k : Nat, k ≤ len ∧ i = .int .i64 k ∧ Hid (R = decide (b ∈ l.drop k)) ∧ Below w.heap.size w wr) (fun i _ => len - (intOf i).toNat)
  case atStart => exact ⟨0, by omega, rfl, (HR.out : R = decide (b ∈ l.drop 0)), Below.refl _ _⟩
  case round =>
    obtain ⟨k, hk, rfl, H, hbel⟩ := hrel
    clear HR
    by_cases hlt : k < len
    · obtain ⟨bb, off, rfl, hc⟩ := hr.cell (by omega)
      have p0 := (hbel.cell (p := ⟨bb, off + k, none⟩) (cell_lt (hc k hlt))).trans (hc k hlt)
      have hst : Hid (R = (decide (b = l.getD k 0) || decide (b ∈ l.drop (k + 1)))) := (by
        have hk' : k < l.length := by rw [hll.out]; exact hlt
        have hm : b ∈ l.drop k ↔ b = l.getD k 0 ∨ b ∈ l.drop (k + 1) := by rw [List.drop_eq_getElem_cons hk', List.mem_cons, show l.getD k 0 = l[k] by simp [hk']]
        rw [H.out, ← Bool.decide_or]
        exact decide_eq_decide.mpr hm : R = (decide (b = l.getD k 0) || decide (b ∈ l.drop (k + 1))))
      generalize l.getD k 0 = x at *
      have i0 : (0 : Int) ≤ (k : Int) := by omega
      have i1 : (k : Int) < (len : Int) := by omega
      clear H hc
      by_cases he : b = x
      · subst he
        obtain rfl : R = true := by rw [hst.out]; simp
        have hd : ((b : Int) == (b : Int)) = true := by simp
        clear hst
        go_wp2
        go_ret
        exact ⟨rfl, hbel⟩
      · have H2 : Hid (R = decide (b ∈ l.drop (k + 1))) := (by rw [hst.out]; simp [he] : R = decide (b ∈ l.drop (k + 1)))
        have hd : ((x : Int) == (b : Int)) = false := by simp; omega
        have hd2 : (x == b) = false := by simp; omega
        clear hst he
        go_wp2
        go_roundw
        case rel => exact ⟨k + 1, by omega, by go_num, H2, hbel⟩
        case measure => simp [intOf]; omega
    · obtain rfl : k = len := by omega
      have HE : Hid (R = false) := (by rw [H.out, List.drop_of_length_le (by rw [hll.out]; omega)]; simp : R = false)
      go_wp2
      go_ret
      exact ⟨by rw [HE.out]; rfl, hbel⟩

set_option maxRecDepth 100000 in
set_option maxHeartbeats 1000000 in
theorem vset_any (a : Option Addr) (len cap : Nat) (ks : List ByteArray) (n b : Nat) (w : World) (hr : StRow w a len ks) (hn : 1 ≤ n ∧ n ≤ 1048576) (hs : ∀ s ∈ ks, s.size ≤ 1000000) :
    Calls Tryz.prog 78 #[.slice a len cap, .int .i64 n, .int .i64 b] w fun e w' => e = .returned (.bool (Sv.set (ks.map kb) n b)) ∧ Below w.heap.size w w' := by
  have hll : Hid (ks.length = len) := hr.1
  have hlb := hr.2.1
  have Hs : Hid (∀ s ∈ ks, s.size ≤ 1000000) := hs
  obtain ⟨R, hR⟩ : ∃ R, R = Sv.set (ks.map kb) n b := ⟨_, rfl⟩
  rw [← hR]
  have HR : Hid (R = Sv.set (ks.map kb) n b) := hR
  clear hR hs
  go_enter Tryz.func78, Tryz.ntmps78
  go_wp2
  go_loopw [7] (fun i wr => ∃ k : Nat, k ≤ len ∧ i = .int .i64 k ∧ Hid (R = Sv.set ((ks.drop k).map kb) n b) ∧ Below w.heap.size w wr) (fun i _ => len - (intOf i).toNat)
  case atStart => exact ⟨0, by omega, rfl, (HR.out : R = Sv.set ((ks.drop 0).map kb) n b), Below.refl _ _⟩
  case round =>
    obtain ⟨k, hk, rfl, H, hbel⟩ := hrel
    clear HR
    by_cases hlt : k < len
    · obtain ⟨bb, off, rfl, hc⟩ := hr.cell (by omega)
      have p0 := (hbel.cell (p := ⟨bb, off + k, none⟩) (cell_lt (hc k hlt))).trans (hc k hlt)
      have hk' : k < ks.length := by rw [hll.out]; exact hlt
      have hst : Hid (R = (decide (b ∈ Sv.bits n (kb (ks.getD k ⟨#[]⟩))) || Sv.set ((ks.drop (k + 1)).map kb) n b)) := (by
        rw [H.out, List.drop_eq_getElem_cons hk', show ks.getD k ⟨#[]⟩ = ks[k] by simp [hk']]
        rfl : R = (decide (b ∈ Sv.bits n (kb (ks.getD k ⟨#[]⟩))) || Sv.set ((ks.drop (k + 1)).map kb) n b))
      have hsz : (ks.getD k ⟨#[]⟩).size ≤ 1000000 := Hs.out _ (by rw [show ks.getD k ⟨#[]⟩ = ks[k] by simp [hk']]; exact List.getElem_mem _)
      generalize ks.getD k ⟨#[]⟩ = s at *
      have hB := fun W => vbits_any n s W hn hsz
      have hI := fun (a : Option Addr) (c : Nat) W (h : IRow W a (Sv.bits n (kb s)).length (Sv.bits n (kb s))) => vin_any a _ c _ b W h
      have hl6 : Hid ((Sv.bits n (kb s)).length = 6) := Sv.bits_len n (kb s)
      generalize Sv.bits n (kb s) = L at *
      have i0 : (0 : Int) ≤ (k : Int) := by omega
      have i1 : (k : Int) < (len : Int) := by omega
      clear H hc hk' hsz
      cases hq : decide (b ∈ L) with
      | true =>
        rw [hq] at hI
        obtain rfl : R = true := by rw [hst.out, hq]; rfl
        clear hst hq
        go_wp2_with (first
          | (go_at_call 95; go_must (refine (hB _).mono ?_; rintro e w1 ⟨a1, c1, rfl, _, _, hown1, hb1⟩; have hw1 := hbel.trans (hb1.mono hbel.size)))
          | (go_at_call 94; go_must (refine (hI _ _ _ (trow_of_owns ieE hown1 (by omega) (by have := hl6.out; omega))).mono ?_; rintro e w2 ⟨rfl, hb2⟩; have hw2 := hw1.trans (hb2.mono hw1.size))))
        go_ret
        exact ⟨rfl, hw2⟩
      | false =>
        rw [hq] at hI
        have H2 : Hid (R = Sv.set ((ks.drop (k + 1)).map kb) n b) := (by rw [hst.out, hq]; rfl : R = Sv.set ((ks.drop (k + 1)).map kb) n b)
        clear hst hq
        go_wp2_with (first
          | (go_at_call 95; go_must (refine (hB _).mono ?_; rintro e w1 ⟨a1, c1, rfl, _, _, hown1, hb1⟩; have hw1 := hbel.trans (hb1.mono hbel.size)))
          | (go_at_call 94; go_must (refine (hI _ _ _ (trow_of_owns ieE hown1 (by omega) (by have := hl6.out; omega))).mono ?_; rintro e w2 ⟨rfl, hb2⟩; have hw2 := hw1.trans (hb2.mono hw1.size))))
        go_roundw
        case rel => exact ⟨k + 1, by omega, by go_num, H2, hw2⟩
        case measure => simp [intOf]; omega
    · obtain rfl : k = len := by omega
      have HE : Hid (R = false) := (by rw [H.out, List.drop_of_length_le (by rw [hll.out]; omega)]; rfl : R = false)
      go_wp2
      go_ret
      exact ⟨by rw [HE.out]; rfl, hbel⟩
end Go.Proofs.YtikieblokfjphaaGreat

/- What the reference's Of of keys does. -/
namespace Go.Proofs.YtikieblokfjphaaGreat
open Go.RowKit

def SieveRes (w : World) (L : List Nat) (e : Ending) (w' : World) : Prop :=
  ∃ a c, e = .returned (.slice a L.length c) ∧ L.length ≤ c ∧ (a = none → L.length = 0 ∧ c = 0) ∧ Row .u8 w' a L.length L ∧ Below w.heap.size w w'

set_option maxRecDepth 100000 in
set_option maxHeartbeats 2000000 in
theorem vof_any (a : Option Addr) (len cap : Nat) (ks : List ByteArray) (w : World) (hr : StRow w a len ks) (hlen : len ≤ 1000) (hs : ∀ s ∈ ks, s.size ≤ 1000000) :
    Calls Tryz.prog 50 #[.slice a len cap] w (SieveRes w (Sv.of (ks.map kb))) := by
  obtain ⟨N, hN⟩ : ∃ N, N = Sv.size len := ⟨_, rfl⟩
  have hN1 : 1 ≤ N ∧ N ≤ 1048576 := by rw [hN]; unfold Sv.size; omega
  have hNe : (len : Int) + (len : Int) / 10 + 1 = (N : Int) := by rw [hN]; unfold Sv.size; omega
  have hset := fun (b : Nat) W (h : Below w.heap.size w W) => vset_any a len cap ks N b W (hr.below h (Nat.le_refl _)) hN1 hs
  obtain ⟨L, hL⟩ : ∃ L, L = Sv.of (ks.map kb) := ⟨_, rfl⟩
  have HL : Hid (L = (List.range N).map (Sv.byte (ks.map kb) N)) := (by rw [hL, hN]; unfold Sv.of; rw [List.length_map, hr.1] : L = (List.range N).map (Sv.byte (ks.map kb) N))
  rw [← hL]
  have hm0 := made_t (s := 1) (enc := be) w (B := w.heap.size) (E := 5) (Nat.le_refl _) rfl
  have hb0 := below_alloc w (.cells #[] 5)
  clear hL hN hs
  go_enter Tryz.func50, Tryz.ntmps50
  go_wp2
  clear hNe
  go_loopw [4, 5] (fun v i wr => ∃ (k c : Nat) (g : Option Addr) (O : List Nat), k ≤ N ∧ i = .int .i64 k ∧ v = .slice g k c ∧ k ≤ c ∧ (g = none → k = 0 ∧ c = 0) ∧ Hid (O = (List.range k).map (Sv.byte (ks.map kb) N)) ∧ wr.ownsRow w.heap.size 5 1 (.slice g k c) k (tcells be O) ∧ Below w.heap.size w wr)
    (fun _ i _ => N - (intOf i).toNat)
  case atStart => exact ⟨0, 0, _, [], by omega, rfl, rfl, by omega, (fun h => by cases h), (rfl : ([] : List Nat) = (List.range 0).map (Sv.byte (ks.map kb) N)), hm0, hb0⟩
  case round =>
    obtain ⟨k, c, g, O, hk, rfl, rfl, hkc, hgn, HO, hown, hbel⟩ := hrel
    clear hm0 hb0
    by_cases hlt : k < N
    · obtain ⟨V, hV⟩ : ∃ V, V = Sv.byte (ks.map kb) N k := ⟨_, rfl⟩
      have hV8 : V < 256 := by rw [hV]; exact Sv.byte_lt _ _ _
      have H2 : Hid (O ++ [V] = (List.range (k + 1)).map (Sv.byte (ks.map kb) N)) := (by rw [HO.out, List.range_succ, List.map_append, hV]; rfl : O ++ [V] = (List.range (k + 1)).map (Sv.byte (ks.map kb) N))
      have HV : Hid (V = Sv.byteGo (fun q => Sv.set (ks.map kb) N (8 * k + q)) 8 0) := hV
      have i1 : (k : Int) < (N : Int) := by omega
      clear hV HO
      go_wp2
      go_loopw [6, 7] (fun t j wi => ∃ (q v : Nat) (z : Int), q ≤ 8 ∧ j = .int .i64 z ∧ Hid (z = (q : Int) - 1) ∧ t = .int .i64 v ∧ v < 2 ^ (8 - q) ∧ Hid (V = Sv.byteGo (fun q => Sv.set (ks.map kb) N (8 * k + q)) q v) ∧ Below wr.heap.size wr wi)
        (fun _ j _ => (intOf j + 1).toNat)
      case atStart => exact ⟨8, 0, 7, by omega, rfl, (by omega : (7 : Int) = ((8 : Nat) : Int) - 1), rfl, by decide, HV, Below.refl _ _⟩
      case round =>
        obtain ⟨q, v, z, hq, rfl, Hz, rfl, hv, HB, hbi⟩ := hrel
        have hbw := hbel.trans (hbi.mono hbel.size)
        clear HV
        cases q with
        | zero =>
          obtain rfl : z = -1 := by have := Hz.out; omega
          obtain rfl : V = v := HB.out
          have hown1 := owns_below hown hbi
          clear HB Hz
          have j1 : IntKind.u8.wrap (V : Int) = (V : Int) := by rw [IntKind.wrap_u8]; omega
          go_wp2_with (at_builtin; go_must (refine append_t byteE beE (w0 := w) (B := w.heap.size) rfl (.tmp 36) (.tmp 39) rfl _ k O rfl (hown1.alloc _) (some ⟨_, 0, none⟩) 1 1 [V] rfl (lit_byte _ V rfl) (fun h => by cases h) (by omega) (hbw.alloc hbw.size _) (hbw.alloc hbw.size _).size ?_; intro a2 c2 w2 hc2 hn2 _ hown2 hb2 _))
          go_roundw
          case rel => exact ⟨k + 1, c2, a2, _, by omega, by go_num, rfl, hc2, hn2, H2, hown2, hb2⟩
          case measure => simp [intOf]; omega
        | succ r =>
          obtain rfl : z = (r : Int) := by have := Hz.out; omega
          have hv2 : v * 2 + 1 < 2 ^ (8 - r) := by
            have : 2 ^ (8 - r) = 2 * 2 ^ (8 - (r + 1)) := by
              rw [show 8 - r = (8 - (r + 1)) + 1 by omega, Nat.pow_succ, Nat.mul_comm]
            omega
          have hp : 2 ^ (8 - r) ≤ 2 ^ 8 := Nat.pow_le_pow_right (by omega) (by omega)
          have hv8 : v ≤ 255 := by omega
          obtain ⟨B, hB⟩ : ∃ B, B = 8 * k + r := ⟨_, rfl⟩
          have j1 : 8 * (k : Int) + (r : Int) = (B : Int) := by omega
          have hS := fun W h => hset B W h
          have hst : Hid (V = Sv.byteGo (fun q => Sv.set (ks.map kb) N (8 * k + q)) r (v * 2 + if Sv.set (ks.map kb) N B = true then 1 else 0)) := (by rw [HB.out, hB]; rfl : V = Sv.byteGo (fun q => Sv.set (ks.map kb) N (8 * k + q)) r (v * 2 + if Sv.set (ks.map kb) N B = true then 1 else 0))
          have i0 : (0 : Int) ≤ (r : Int) := by omega
          clear HB Hz hB
          cases hq2 : Sv.set (ks.map kb) N B with
          | true =>
            rw [hq2] at hS hst
            clear hq2
            go_wp2_with (go_at_call 78; go_must (refine (hS _ hbw).mono ?_; rintro e w3 ⟨rfl, hb3⟩))
            go_roundw
            case rel => exact ⟨r, v * 2 + 1, _, by omega, rfl, (by omega : (r : Int) - 1 = (r : Int) - 1), val_int (by omega), hv2, hst, hbi.trans (hb3.mono hbi.size)⟩
            case measure => simp [intOf]
          | false =>
            rw [hq2] at hS hst
            clear hq2
            go_wp2_with (go_at_call 78; go_must (refine (hS _ hbw).mono ?_; rintro e w3 ⟨rfl, hb3⟩))
            go_roundw
            case rel => exact ⟨r, v * 2, _, by omega, rfl, (by omega : (r : Int) - 1 = (r : Int) - 1), val_int (by omega), by omega, hst, hbi.trans (hb3.mono hbi.size)⟩
            case measure => simp [intOf]
    · obtain rfl : k = N := by omega
      obtain rfl : O = L := by rw [HO.out, HL.out]
      have hlN : O.length = k := by rw [HO.out]; simp
      have hsm : ∀ x ∈ O, x < 256 := fun x hx => by
        rw [HO.out] at hx
        obtain ⟨i, _, rfl⟩ := List.mem_map.mp hx
        exact Sv.byte_lt _ _ _
      go_wp2
      go_ret
      exact ⟨g, c, by rw [hlN]; rfl, by rw [hlN]; exact hkc, by rw [hlN]; exact hgn, by rw [hlN]; exact BRow.row (trow_of_owns beE hown (by omega) (by omega)) hsm, hbel⟩
end Go.Proofs.YtikieblokfjphaaGreat

/- What the reference's Has of a key does. -/
namespace Go.Proofs.YtikieblokfjphaaGreat
open Go.RowKit

end Go.Proofs.YtikieblokfjphaaGreat
