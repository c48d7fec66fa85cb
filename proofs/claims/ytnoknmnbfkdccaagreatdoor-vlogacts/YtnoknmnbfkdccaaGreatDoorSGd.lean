/- What the program's Put of layer 19 does with values that are not too long. -/
import Derived.Test.YtnoknmnbfkdccaaGreatDoorSGa
import Derived.Test.YtnoknmnbfkdccaaGreatDoorVR
import Derived.Test.YtnoknmnbfkdccaaGreatDoorPB
namespace Go.Proofs.YtnoknmnbfkdccaaGreatDoor
open Go.RowKit

/-- a value's frame, as it lies in a row -/
def vfe (h : VH) : List Value := [.int .i64 2, .slice h.a h.n h.c]
theorem vfE : Enc 2 vfe := ⟨fun _ => rfl, fun x u hu => by simp only [vfe, List.mem_cons, List.not_mem_nil, or_false] at hu; rcases hu with rfl | rfl <;> rfl⟩
theorem frmE : Elem 110 113 2 32 (.agg #[.int .i64 0, .slice none 0 0]) := ⟨Tryz.underlying110, by kernel_rfl, rfl, by decide, by decide⟩
theorem sg_getD (vs : List (List Nat)) (i : Nat) (h : i < vs.length) : (Sg.fr vs).getD i (0, []) = ((2 : Int), vs.getD i []) := by
  simp [Sg.fr, h]
/-- frames that have just the slices of values -/
theorem frow_vals {w : World} {a : Option Addr} {n : Nat} {hs : List VH} {vs : List (List Nat)} (hr : TRow 2 vfe vhz w a n hs) (hv : VAll w hs vs) : FRow w a n (Sg.fr vs) := by
  have hln : vs.length = n := hv.1.symm.trans hr.1
  refine ⟨by rw [Sg.fr_length, hln], by have := hr.2.1; omega, ?_⟩
  rcases Nat.eq_zero_or_pos n with h0 | h0
  · exact .inl h0
  · obtain ⟨b, off, rfl, hc⟩ := hr.at h0
    refine .inr ⟨b, off, rfl, fun i hi => ?_⟩
    rw [sg_getD vs i (by omega)]
    obtain ⟨h1, h2, h3, h4⟩ := hv.2 i (by rw [hr.1]; exact hi)
    refine ⟨(hs.getD i vhz).a, (hs.getD i vhz).n, (hs.getD i vhz).c, ?_, ?_, h1, h4, h2, by omega, by omega⟩
    · exact hc i hi 0 _ rfl
    · exact hc i hi 1 _ rfl
theorem hs_take {hs : List VH} {k : Nat} (h : k < hs.length) : hs.take k ++ [hs.getD k vhz] = hs.take (k + 1) := by
  rw [List.take_succ_eq_append_getElem h]; simp [h]

def SPutRes (w : World) (vs : List (List Nat)) (e : Ending) (w' : World) : Prop :=
  ∃ a c, e = .returned (.tuple #[.slice a (Sg.put vs).length c, .int .i64 0]) ∧ w'.ownsRow w.heap.size 5 1 (.slice a (Sg.put vs).length c) (Sg.put vs).length (kcells .u8 (Sg.put vs)) ∧ Below w.heap.size w w'

set_option maxRecDepth 100000 in
set_option maxHeartbeats 2000000 in
theorem sput_any (a : Option Addr) (len cap : Nat) (hs : List VH) (vs : List (List Nat)) (w : World) (hi : InV w a len cap hs vs) (hsm : Sg.Small vs) (hlen : len ≤ 1000) (htot : tot (Sg.fr vs) ≤ 100000) :
    Calls Tryz.prog 36 #[.slice a len cap] w (SPutRes w vs) := by
  have hhl : Hid (hs.length = len) := hi.1.1
  have hvl : Hid (vs.length = len) := hi.len
  obtain ⟨i0, hi0, hz0, hz1, hz2⟩ := info_parts Tryz.info113
  go_enter Tryz.func36, Tryz.ntmps36
  go_wp2_with (at_make; go_must (refine wpList_make_own _ rfl _ _ 110 rfl w.heap.size 113 i0 (.agg #[.int .i64 0, .slice none 0 0]) 2 Tryz.underlying110 hi0 hz0 hz1 .i64 .i64 _ len rfl rfl rfl (by rw [hz2]; omega) (by unfold maxLen; omega) (Nat.le_refl _) ?_; intro w2 hmade hg))
  have hbel0 : Below w.heap.size w w2 := (Below.refl _ _).grown hg (Nat.le_refl _) (fun k h => by cases h)
  clear hg hi0 hz0 hz1 hz2
  go_loopw [4, 12] (fun v i wr => ∃ (k : Nat) (a' : Option Addr) (c : Nat), k ≤ len ∧ i = .int .i64 k ∧ v = .slice a' k c ∧ wr.ownsRow w.heap.size 113 2 (.slice a' k c) k (tcells vfe (hs.take k)) ∧ Below w.heap.size w wr)
    (fun _ i _ => len - (intOf i).toNat)
  case atStart => exact ⟨0, _, len, by omega, rfl, rfl, hmade, hbel0⟩
  case round =>
    obtain ⟨k, a', c, hk, rfl, rfl, hown, hbel⟩ := hrel
    clear hmade hbel0
    have hsz := hbel.size
    by_cases hlt : k < len
    · obtain ⟨b, off, rfl, hc⟩ := (hi.below hbel (Nat.le_refl _)).get (by omega)
      obtain ⟨hcell, hrv, hnv, hcv, hsv⟩ := hc k hlt
      have hst : Hid (hs.take k ++ [hs.getD k vhz] = hs.take (k + 1)) := hs_take (by rw [hhl.out]; exact hlt)
      have hv4 : (hs.getD k vhz).n ≤ 4096 := by
        have h1 : vs.getD k [] = vs[k]'(by rw [hvl.out]; exact hlt) := by simp [hvl.out, hlt]
        have h2 := (hsm _ (List.getElem_mem (l := vs) (n := k) (by rw [hvl.out]; exact hlt))).1
        rw [← h1, hrv.1] at h2; exact h2
      clear hrv hnv hc hsv
      generalize hs.getD k vhz = hh at *
      obtain ⟨A, n, C⟩ := hh
      simp only at hcell hv4 hcv
      have htl := fun W => toolong_any A n C false W (by omega) (by simp; omega)
      have hlit : TRow 2 vfe vhz (wr.alloc (.cells #[.int .i64 2, .slice A n C] 113)) (some ⟨wr.heap.size, 0, none⟩) 1 [⟨A, n, C⟩] := trow_lit wr _ _ _ rfl (fun j v hj => by
        match j, hj with
        | 0, hj => exact hj
        | 1, hj => exact hj
        | j + 2, hj => simp [vfe] at hj)
      go_wp2_with (first
        | (go_at_call 66; refine (htl _).mono ?_; rintro e w1 ⟨rfl, hw1⟩; obtain rfl := hw1.symm)
        | (at_builtin; go_must (refine append_t frmE vfE (w0 := w) (B := w.heap.size) rfl (.tmp 18) (.tmp 21) rfl _ _ _ rfl (hown.alloc _) (some ⟨wr.heap.size, 0, none⟩) 1 1 [⟨A, n, C⟩] rfl hlit (fun h => by cases h) (by omega) (hbel.alloc hsz _) (by simp; omega) ?_; intro a3 c3 w3 _ _ _ hown3 hb3 _)))
      rw [hst.out] at hown3
      go_roundw
      case rel => exact ⟨k + 1, a3, c3, by omega, by go_num, rfl, hown3, hb3⟩
      case measure => simp [intOf]; omega
    · obtain rfl : k = len := by omega
      rw [List.take_of_length_le (by rw [hhl.out]; exact Nat.le_refl _)] at hown
      have hrow := trow_of_owns (d := vhz) vfE hown (by omega) (by omega)
      have hfr := frow_vals hrow (hi.below hbel (Nat.le_refl _)).2.1
      have hput := put_prog a' k c (Sg.fr vs) wr hfr hlen htot
      have hmay : Hid ((Sg.fr vs).all Fr.may = true) := (by rw [List.all_eq_true]; exact fun f hf => (Sg.fr_good hsm f hf).1 : (Sg.fr vs).all Fr.may = true)
      clear hrow hfr hown
      go_wp2_with (go_at_call 67; go_must (refine hput.mono ?_; rintro e w3 hx; obtain ⟨_, a3, c3, rfl, hown3, hbel3⟩ := hx.resolve_right (fun h => by rw [hmay.out] at h; cases h.1)))
      go_ret2
      exact ⟨a3, c3, rfl, hown3.mono hsz, hbel.trans (hbel3.mono hsz)⟩
end Go.Proofs.YtnoknmnbfkdccaaGreatDoor
