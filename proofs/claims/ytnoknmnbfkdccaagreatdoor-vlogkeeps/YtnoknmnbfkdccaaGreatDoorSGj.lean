/- Segments: what is put is told by its point (plain mathematics). -/
import Derived.Test.YtnoknmnbfkdccaaGreatDoorSGb
import Derived.Test.YtnoknmnbfkdccaaGreatDoorSGc
namespace Go.Proofs.YtnoknmnbfkdccaaGreatDoor
open Go.RowKit

theorem Sg.split (vs : List (List Nat)) (i : Nat) (hi : i < vs.length) (ms : List Nat) : Sg.put vs ++ ms = Sg.put (vs.take i) ++ (Va.one (vs.getD i []).length ++ (2 :: ((vs.getD i []) ++ (Fr.le4 (Crc.more 0 (2 :: (vs.getD i []))) ++ (Sg.put (vs.drop (i + 1)) ++ ms))))) := by
  have e : vs.getD i [] = vs[i] := by simp [hi]
  conv => lhs; rw [← List.take_append_drop i vs, List.drop_eq_getElem_cons hi, Sg.put_append, Sg.put_cons, ← e, Fr.put1]
  simp [List.append_assoc]
theorem Sg.value_put (k : Int) (hk1 : 1 ≤ k) (hk2 : k ≤ 2147483647) (vs : List (List Nat)) (h : Sg.Small vs) (i : Nat) (hi : i < vs.length) (ms : List Nat) (hl : (Sg.put vs).length ≤ 1000000000) :
    Sg.value (Sg.put vs ++ ms) (Sg.pt k (Sg.put (vs.take i)).length (vs.getD i [])) = (vs.getD i [], 0) := by
  have e : vs.getD i [] = vs[i] := by simp [hi]
  have hv : (vs.getD i []).length ≤ 4096 := by rw [e]; exact (h _ (List.getElem_mem hi)).1
  have hsp := Sg.split vs i hi ms
  have hle := Sg.put_take_le vs i
  generalize vs.getD i [] = v at *
  have hh := Fr.one3 (n := v.length) (by omega)
  have hhd : Sg.head v.length = (Va.one v.length).length + 1 := rfl
  have hm : Po.may (Sg.pt k (Sg.put (vs.take i)).length v) = true := by
    unfold Po.may Sg.pt; simp only [decide_eq_true_eq]; omega
  have hT : ∃ T, Sg.put vs ++ ms = (Sg.put (vs.take i) ++ Va.one v.length ++ [2]) ++ (v ++ T) ∧ (Sg.put (vs.take i) ++ Va.one v.length ++ [2]).length = (Sg.put (vs.take i)).length + Sg.head v.length :=
    ⟨Fr.le4 (Crc.more 0 (2 :: v)) ++ (Sg.put (vs.drop (i + 1)) ++ ms), by rw [hsp]; simp only [List.append_assoc, List.cons_append, List.nil_append], by rw [hhd]; simp only [List.length_append, List.length_cons, List.length_nil]; omega⟩
  obtain ⟨T, hT, hTl⟩ := hT
  have hcut : ((Sg.put vs ++ ms).drop ((Sg.put (vs.take i)).length + Sg.head v.length)).take v.length = v := by
    rw [hT, ← hTl, List.drop_left, List.take_left]
  have hln : (Sg.put vs ++ ms).length = (Sg.put (vs.take i)).length + Sg.head v.length + v.length + T.length := by
    rw [hT, List.length_append, hTl, List.length_append]; omega
  unfold Sg.value
  rw [if_pos hm]
  show (if ((Sg.put vs ++ ms).length : Int) < (((Sg.put (vs.take i)).length + Sg.head v.length : Nat) : Int) + ((v.length : Nat) : Int) then _ else if Ce.fits _ (((Sg.put vs ++ ms).drop (((Sg.put (vs.take i)).length + Sg.head v.length : Nat) : Int).toNat).take (((v.length : Nat) : Int).toNat)) = true then _ else _) = _
  rw [Int.toNat_natCast, Int.toNat_natCast, if_neg (by omega), hcut, if_pos (by simp [Ce.fits, Sg.pt])]
  show ((((Sg.put vs ++ ms).drop (((Sg.put (vs.take i)).length + Sg.head v.length : Nat) : Int).toNat).take (((v.length : Nat) : Int).toNat)), 0) = _
  rw [Int.toNat_natCast, Int.toNat_natCast, hcut]
end Go.Proofs.YtnoknmnbfkdccaaGreatDoor
