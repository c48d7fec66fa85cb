/- awake, Light; the laws TreeHolds and TreeScans, given what is asked of the program. -/
import Derived.Test.YtikieblokfjphaaGreatTRa
namespace Go.Proofs.YtikieblokfjphaaGreat
open Go.RowKit

def itB : It.I := ([98], false, Ce.zero)
def itA : It.I := ([97], true, Ce.zero)
theorem it_ex1 : It.put [] itB = [itB] := rfl
theorem it_ex2 : It.put [itB] itA = [itA, itB] := rfl
theorem item_b (w : World) : IsItem w ⟨⟨#[98]⟩, false, false, none, 0, 0, Po.zero⟩ itB := ⟨rfl, rfl, rfl, rfl, ⟨rfl, by decide, (fun x hx => by cases hx), .inl rfl⟩, (fun _ => ⟨rfl, rfl⟩), Nat.le_refl _, by unfold Po.Fits; decide, by decide⟩
theorem item_a (w : World) : IsItem w ⟨⟨#[97]⟩, true, false, none, 0, 0, Po.zero⟩ itA := ⟨rfl, rfl, rfl, rfl, ⟨rfl, by decide, (fun x hx => by cases hx), .inl rfl⟩, (fun _ => ⟨rfl, rfl⟩), Nat.le_refl _, by unfold Po.Fits; decide, by decide⟩

theorem It.putGo_mem {x z : It.I} : ∀ (d : Bool) (l : List It.I), z ∈ It.putGo x d l → z ∈ l ∨ z = x
  | d, [], h => by
    rw [It.putGo] at h
    split at h
    · cases h
    · exact .inr (List.mem_singleton.mp h)
  | d, y :: l, h => by
    rw [It.putGo, List.mem_append, List.mem_append] at h
    rcases h with h | h | h
    · split at h
      · exact .inr (List.mem_singleton.mp h)
      · cases h
    · split at h
      · cases h
      · exact .inl (by rw [List.mem_singleton.mp h]; exact List.mem_cons_self)
    · rcases It.putGo_mem _ l h with h | h
      · exact .inl (List.mem_cons_of_mem _ h)
      · exact .inr h
theorem It.fold_mem {z : It.I} : ∀ (p l : List It.I), z ∈ p.foldl It.put l → z ∈ l ∨ z ∈ p
  | [], _, h => .inl h
  | x :: p, l, h => by
    rw [List.foldl_cons] at h
    rcases It.fold_mem p _ h with h | h
    · rcases It.putGo_mem false l h with h | h
      · exact .inl h
      · exact .inr (by rw [h]; exact List.mem_cons_self)
    · exact .inr (List.mem_cons_of_mem _ h)
theorem It.all_mem {l : List It.I} {z : It.I} (h : z ∈ It.all l) : z ∈ l ∧ It.may z = true := by
  rcases It.fold_mem _ _ h with h | h
  · cases h
  · exact List.mem_filter.mp h
/-- items that are not too great -/
def Fine (gs : List IH) (n : Nat) : Prop := n ≤ 100 ∧ ∀ i, i < n → (gs.getD i ihz).key.size ≤ 200 ∧ (gs.getD i ihz).n ≤ 200

end Go.Proofs.YtikieblokfjphaaGreat
