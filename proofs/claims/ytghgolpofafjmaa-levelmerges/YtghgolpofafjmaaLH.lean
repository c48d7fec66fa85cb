/- What the program's Find does. -/
import Derived.Test.YtghgolpofafjmaaLG
namespace Go.Proofs.Ytghgolpofafjmaa
open Go.RowKit

theorem filter_len (l : List Lv.T) (p : Lv.T → Bool) : (l.filter p).length ≤ l.length := List.length_filter_le ..
theorem meet_has (k : ByteArray) (z1 z2 z3 : Int) : (fun x : Lv.T => Lv.meet x ⟨z1, z2, z3, k, k⟩) = Lv.has k := by
  funext x
  unfold Lv.meet Lv.has
  rw [Bool.and_comm]
set_option maxRecDepth 100000 in
set_option maxHeartbeats 400000 in
theorem lfind_no (a : Option Addr) (len cap : Nat) (l : List Lv.T) (k : ByteArray) (w : World) (hlc : len ≤ cap) (hr : LRow w a len l) (hm : Lv.may l = false) :
    Calls Try.prog 9 #[.slice a len cap, .string k] w (Nix w) := by
  have hc := fun W r => lcheck_any a len cap l W hlc r 1 (by rw [hm]; rfl)
  go_enter Try.func9, Try.ntmps9
  go_wp2_with (go_at_call 13; go_must (refine (hc _ hr).mono ?_; rintro e w2 ⟨rfl, hb2⟩))
  go_ret
  exact ⟨⟨_, _, rfl⟩, hb2⟩
set_option maxRecDepth 100000 in
set_option maxHeartbeats 400000 in
theorem lfind_yes (a : Option Addr) (len cap : Nat) (l : List Lv.T) (k : ByteArray) (w : World) (hlc : len ≤ cap) (hr : LRow w a len l) (hnil : a = none → len = 0 ∧ cap = 0) (hm : Lv.May l) :
    Calls Try.prog 9 #[.slice a len cap, .string k] w (NRes w (nm ((Lv.ord l).filter (Lv.has k)))) := by
  have hc := fun W r => lcheck_any a len cap l W hlc r 0 (by rw [(Lv.may_iff l).mpr hm]; rfl)
  have ho := fun W r => lordered_any a len cap l W r hnil hm
  have hle : (Lv.ord l).length ≤ 64 := by rw [lord_length]; exact hm.len
  have hmo := hm.perm (Lv.ord_perm l)
  have hme := fun A C W r => lmeeting_any A (Lv.ord l).length C (Lv.ord l) 0 0 0 k k W (by omega) r
  rw [meet_has] at hme
  have hfl := filter_len (Lv.ord l) (Lv.has k)
  have hn := fun A C W r => lnums_any A ((Lv.ord l).filter (Lv.has k)).length C ((Lv.ord l).filter (Lv.has k)) W (by omega) r (fun x hx => by have := (hmo.one x (List.mem_filter.mp hx).1).n1; omega)
  have hle2 : ((Lv.ord l).filter (Lv.has k)).length ≤ 1000000000 := by omega
  have hle1 : (Lv.ord l).length ≤ 1000000000 := by omega
  clear hfl hle hmo
  generalize (Lv.ord l).filter (Lv.has k) = F at *
  generalize Lv.ord l = D at *
  go_enter Try.func9, Try.ntmps9
  go_wp2_with (first | (go_at_call 13; go_must (refine (hc _ hr).mono ?_; rintro e w2 ⟨rfl, hb2⟩)) | (go_at_call 23; go_must (refine (ho _ (hr.below hb2 (Nat.le_refl _))).mono ?_; rintro e w3 ⟨A, C, rfl, hown3, hb3⟩)) | (go_at_call 24; go_must (refine (hme A C w3 (trow_of_owns leE hown3 (by omega) hle1)).mono ?_; rintro e w4 ⟨A2, C2, rfl, hown4, hb4⟩)) | (go_at_call 22; go_must (refine (hn A2 C2 w4 (trow_of_owns leE hown4 (by omega) hle2)).mono ?_; rintro e w5 ⟨A3, C3, rfl, hown5, hb5⟩)))
  go_ret
  have hb6 := hb2.trans (hb3.mono hb2.size)
  have hb7 := hb6.trans (hb4.mono hb6.size)
  exact ⟨A3, C3, rfl, lowns_base hown5 hb7.size, hb7.trans (hb5.mono hb7.size)⟩
end Go.Proofs.Ytghgolpofafjmaa
