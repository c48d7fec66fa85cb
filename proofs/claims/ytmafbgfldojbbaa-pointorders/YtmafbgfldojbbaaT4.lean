/- What slices' rotate does to a block of points. -/
import Derived.Test.YtmafbgfldojbbaaT3
namespace Go.Proofs.Ytmafbgfldojbbaa
open Go.RowKit

theorem swaprange_z (g n c : Nat) (L1 U M V L3 : List Po.P) (za zb zk : Int) (cv : Value) (w : World) (hn : n ≤ 1000000000) (h : PBlk w g n (L1 ++ U ++ M ++ V ++ L3)) (hUV : U.length = V.length) (ha : za = (L1.length : Nat)) (hk : zk = (U.length : Nat)) (hb : zb = (L1.length + U.length + M.length : Nat)) :
    Calls Try.prog 44 #[.slice (some ⟨g, 0, none⟩) n c, .int .i64 za, .int .i64 zb, .int .i64 zk, cv] w fun e w' => e = .returned (.tuple #[]) ∧ PBlk w' g n (L1 ++ V ++ M ++ U ++ L3) ∧ w.grownBy w' (some g) := by
  subst ha; subst hk; subst hb
  exact swaprange_any g n c L1 U M V L3 _ _ _ cv w hn h rfl rfl hUV.symm rfl

set_option maxRecDepth 100000 in
set_option maxHeartbeats 1000000 in
theorem rotate_any (g n c : Nat) (P1 U V P2 : List Po.P) (a m b : Nat) (cv : Value) (w : World) (hn : n ≤ 1000000000) (h : PBlk w g n (P1 ++ U ++ V ++ P2)) (ha : a = P1.length) (hm : m = a + U.length) (hb : b = m + V.length) (hU : 1 ≤ U.length) (hV : 1 ≤ V.length) :
    Calls Try.prog 43 #[.slice (some ⟨g, 0, none⟩) n c, .int .i64 a, .int .i64 m, .int .i64 b, cv] w fun e w' => e = .returned (.tuple #[]) ∧ PBlk w' g n (P1 ++ V ++ U ++ P2) ∧ w.grownBy w' (some g) := by
  have hlen := h.len
  simp only [List.length_append] at hlen
  have hbn : b ≤ n := by omega
  have ham : a ≤ m := by omega
  have hmb : m ≤ b := by omega
  have H0 : Hid (m - a = U.length ∧ b - m = V.length ∧ P1.length + U.length = m) := (by omega : m - a = U.length ∧ b - m = V.length ∧ P1.length + U.length = m)
  have i0 : IntKind.i64.wrap ((m : Int) - (a : Int)) = (m : Int) - (a : Int) := by rw [IntKind.wrap_i64]; omega
  have i1 : IntKind.i64.wrap ((b : Int) - (m : Int)) = (b : Int) - (m : Int) := by rw [IntKind.wrap_i64]; omega
  clear ha hm hb hlen
  go_enter Try.func43, Try.ntmps43
  go_wp2
  go_loopw [10, 11] (fun u v wr => ∃ (i j : Nat) (Q1 U' V' Q2 : List Po.P), u = .int .i64 i ∧ v = .int .i64 j ∧ 1 ≤ i ∧ 1 ≤ j ∧ i ≤ m ∧ m + j ≤ n ∧ Hid (U'.length = i ∧ V'.length = j ∧ Q1.length + i = m ∧ Q1 ++ V' ++ U' ++ Q2 = P1 ++ V ++ U ++ P2) ∧ PBlk wr g n (Q1 ++ U' ++ V' ++ Q2) ∧ w.grownBy wr (some g)) (fun u v _ => (intOf u).toNat + (intOf v).toNat)
  case atStart =>
    have h0 := H0.out
    exact ⟨U.length, V.length, P1, U, V, P2, val_int (by omega), val_int (by omega), hU, hV, by omega, by omega, (⟨rfl, rfl, h0.2.2, rfl⟩ : U.length = U.length ∧ V.length = V.length ∧ P1.length + U.length = m ∧ P1 ++ V ++ U ++ P2 = P1 ++ V ++ U ++ P2), h, turned_refl w g⟩
  case round =>
    obtain ⟨i, j, Q1, U', V', Q2, rfl, rfl, hi, hj, him, hmj, H, hblk, htu⟩ := hrel
    have k0 : IntKind.i64.wrap ((m : Int) - (i : Int)) = (m : Int) - (i : Int) := by rw [IntKind.wrap_i64]; omega
    rcases Nat.lt_trichotomy i j with hij | hij | hij
    · have hne : ((i : Int) == (j : Int)) = false := by simp; omega
      have hng : ¬ j < i := by omega
      have k1 : IntKind.i64.wrap ((m : Int) + (j : Int)) = (m : Int) + (j : Int) := by rw [IntKind.wrap_i64]; omega
      have k2 : IntKind.i64.wrap ((m : Int) + (j : Int) - (i : Int)) = (m : Int) + (j : Int) - (i : Int) := by rw [IntKind.wrap_i64]; omega
      have k3 : IntKind.i64.wrap ((j : Int) - (i : Int)) = (j : Int) - (i : Int) := by rw [IntKind.wrap_i64]; omega
      have hsr : ∀ za zb zk : Int, za = (m : Int) - i → zb = (m : Int) + j - i → zk = i → Calls Try.prog 44 #[.slice (some ⟨g, 0, none⟩) n c, .int .i64 za, .int .i64 zb, .int .i64 zk, cv] wr fun e w' => e = .returned (.tuple #[]) ∧ PBlk w' g n (Q1 ++ V'.drop (j - i) ++ V'.take (j - i) ++ U' ++ Q2) ∧ wr.grownBy w' (some g) := fun za zb zk h1 h2 h3 => by
        obtain ⟨e1, e2, e3, _⟩ := H.out
        refine swaprange_z g n c Q1 U' (V'.take (j - i)) (V'.drop (j - i)) Q2 za zb zk cv wr hn ?_ ?_ ?_ ?_ ?_
        · rw [List.append_assoc (Q1 ++ U'), List.take_append_drop]; exact hblk
        · rw [List.length_drop]; omega
        · omega
        · omega
        · rw [List.length_take]; omega
      go_wp2_with (go_at_call 44; go_must (refine (hsr _ _ _ ?_ ?_ ?_).mono ?_; rfl; rfl; rfl; rintro e w2 ⟨rfl, hblk2, htu2⟩))
      go_roundw
      case rel =>
        obtain ⟨e1, e2, e3, e4⟩ := H.out
        refine ⟨i, j - i, Q1, V'.drop (j - i), V'.take (j - i), U' ++ Q2, rfl, val_int (by omega), hi, by omega, him, by omega, (⟨by rw [List.length_drop]; omega, by rw [List.length_take]; omega, e3, ?_⟩ : (V'.drop (j - i)).length = i ∧ (V'.take (j - i)).length = j - i ∧ Q1.length + i = m ∧ Q1 ++ V'.take (j - i) ++ V'.drop (j - i) ++ (U' ++ Q2) = P1 ++ V ++ U ++ P2), ?_, htu.trans htu2⟩
        · rw [← e4, List.append_assoc Q1, List.take_append_drop]; simp
        · simpa using hblk2
      case measure => simp [intOf]; omega
    · subst hij
      have hsr : ∀ za zb zk : Int, za = (m : Int) - i → zb = (m : Int) → zk = i → Calls Try.prog 44 #[.slice (some ⟨g, 0, none⟩) n c, .int .i64 za, .int .i64 zb, .int .i64 zk, cv] wr fun e w' => e = .returned (.tuple #[]) ∧ PBlk w' g n (P1 ++ V ++ U ++ P2) ∧ wr.grownBy w' (some g) := fun za zb zk h1 h2 h3 => by
        obtain ⟨e1, e2, e3, e4⟩ := H.out
        have := swaprange_z g n c Q1 U' [] V' Q2 za zb zk cv wr hn (by simpa using hblk) (by omega) (by omega) (by omega) (by simp; omega)
        rw [List.append_nil, e4] at this
        exact this
      go_wp2_with (go_at_call 44; go_must (refine (hsr _ _ _ ?_ ?_ ?_).mono ?_; rfl; rfl; rfl; rintro e w2 ⟨rfl, hblk2, htu2⟩))
      first | go_end0 | refine bodyPost_ret (results_none rfl _ _ _) rfl ?_
      exact ⟨rfl, hblk2, htu.trans htu2⟩
    · have hne : ((i : Int) == (j : Int)) = false := by simp; omega
      have k3 : IntKind.i64.wrap ((i : Int) - (j : Int)) = (i : Int) - (j : Int) := by rw [IntKind.wrap_i64]; omega
      have hsr : ∀ za zb zk : Int, za = (m : Int) - i → zb = (m : Int) → zk = j → Calls Try.prog 44 #[.slice (some ⟨g, 0, none⟩) n c, .int .i64 za, .int .i64 zb, .int .i64 zk, cv] wr fun e w' => e = .returned (.tuple #[]) ∧ PBlk w' g n (Q1 ++ V' ++ U'.drop j ++ U'.take j ++ Q2) ∧ wr.grownBy w' (some g) := fun za zb zk h1 h2 h3 => by
        obtain ⟨e1, e2, e3, _⟩ := H.out
        refine swaprange_z g n c Q1 (U'.take j) (U'.drop j) V' Q2 za zb zk cv wr hn ?_ ?_ ?_ ?_ ?_
        · rw [List.append_assoc Q1, List.take_append_drop]; exact hblk
        · rw [List.length_take]; omega
        · omega
        · rw [List.length_take]; omega
        · rw [List.length_take, List.length_drop]; omega
      go_wp2_with (go_at_call 44; go_must (refine (hsr _ _ _ ?_ ?_ ?_).mono ?_; rfl; rfl; rfl; rintro e w2 ⟨rfl, hblk2, htu2⟩))
      go_roundw
      case rel =>
        obtain ⟨e1, e2, e3, e4⟩ := H.out
        refine ⟨i - j, j, Q1 ++ V', U'.drop j, U'.take j, Q2, val_int (by omega), rfl, by omega, hj, by omega, hmj, (⟨by rw [List.length_drop]; omega, by rw [List.length_take]; omega, by rw [List.length_append]; omega, ?_⟩ : (U'.drop j).length = i - j ∧ (U'.take j).length = j ∧ (Q1 ++ V').length + (i - j) = m ∧ Q1 ++ V' ++ U'.take j ++ U'.drop j ++ Q2 = P1 ++ V ++ U ++ P2), hblk2, htu.trans htu2⟩
        rw [← e4, List.append_assoc (Q1 ++ V'), List.take_append_drop]
      case measure => simp [intOf]; omega
end Go.Proofs.Ytmafbgfldojbbaa
