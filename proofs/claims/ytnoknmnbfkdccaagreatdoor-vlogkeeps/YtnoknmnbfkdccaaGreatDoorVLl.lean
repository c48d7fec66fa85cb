/- What a crash leaves of a disk with one file (plain mathematics of the played disk). -/
import Derived.Test.YtnoknmnbfkdccaaGreatDoorDKP
import Derived.Test.YtnoknmnbfkdccaaGreatDoorVLd
import Derived.Test.YtnoknmnbfkdccaaGreatDoorVLf
import Derived.Test.YtnoknmnbfkdccaaGreatDoorSGj
namespace Go.Proofs.YtnoknmnbfkdccaaGreatDoor
open Go.RowKit Go.Shelf

namespace Vl
/-- a disk with one file at most, of which the bytes A are safe, P are not -/
structure Two (D : Dk.D) (A P : List Nat) : Prop where
  q : D.quota = 4194304
  fault : D.fault = 0
  is : (D.files = [(1, ⟨A ++ P, A.length⟩)] ∧ D.last = 1 ∧ D.names = [(vname 3, 1)] ∧ D.kept = [(vname 3, 1)] ∧ D.turns = []) ∨
    (A = [] ∧ P = [] ∧ D.files = [] ∧ D.last = 0 ∧ D.names = [] ∧ D.kept = [] ∧ D.turns = []) ∨
    (A = [] ∧ D.files = [(1, ⟨P, 0⟩)] ∧ D.last = 1 ∧ D.names = [(vname 3, 1)] ∧ D.kept = [] ∧ D.turns = [⟨⟨#[]⟩, vname 3, 1⟩])
theorem vname3 : vname 3 ≠ ⟨#[]⟩ := vname_ne (by decide)
theorem Two.by' {D : Dk.D} {A P : List Nat} (h : Two D A P) : Vl.by' D (vname 3) = A ++ P := by
  rcases h.is with ⟨h1, _, h3, _⟩ | ⟨h0, h1, h2, _, h4, _⟩ | ⟨h0, h1, _, h3, _⟩
  · simp [Vl.by', bs, Dk.find, h1, h3, look]
  · simp [Vl.by', bs, Dk.find, h4, look, h0, h1]
  · simp [Vl.by', bs, Dk.find, h1, h3, look, h0]
theorem Two.few {D : Dk.D} {A P : List Nat} (h : Two D A P) : D.last ≤ 1 ∧ D.turns.length ≤ 1 ∧ D.names.length ≤ 1 ∧ D.kept.length ≤ 1 := by
  rcases h.is with ⟨_, h2, h3, h4, h5⟩ | ⟨_, _, _, h3, h4, h5, h6⟩ | ⟨_, _, h2, h3, h4, h5⟩
  · rw [h2, h3, h4, h5]; decide
  · rw [h3, h4, h5, h6]; decide
  · rw [h2, h3, h4, h5]; simp
theorem Two.stop {D : Dk.D} {A P : List Nat} (h : Two D A P) (z : Int) : Two (Dk.stopped D z) A P := ⟨h.q, h.fault, h.is⟩
/-- bytes are put behind the file's -/
theorem Two.put {D : Dk.D} {A P : List Nat} (h : Two D A P) (hd : D.dead = false) (b : List Nat) (hb : A.length + P.length + b.length ≤ 100000) :
    ∃ D', Dk.append D (vname 3) b = (D', 0) ∧ Two D' A (P ++ b) ∧ (D.stop ≤ 0 → D'.dead = false ∧ D'.stop = D.stop) ∧ D'.kept = D.kept := by
  have hi := vname_is (s := 3) (by decide)
  have htick : ∀ E : Dk.D, E.fault = 0 → E.stop = D.stop → E.dead = D.dead → (Dk.tick E).quota = E.quota ∧ (Dk.tick E).fault = 0 ∧ (Dk.tick E).files = E.files ∧ (Dk.tick E).last = E.last ∧ (Dk.tick E).names = E.names ∧ (Dk.tick E).kept = E.kept ∧ (Dk.tick E).turns = E.turns ∧ (D.stop ≤ 0 → (Dk.tick E).dead = false ∧ (Dk.tick E).stop = D.stop) := fun E e1 e2 e3 => by
    refine ⟨rfl, ?_, rfl, rfl, rfl, rfl, rfl, fun hs => ?_⟩
    · simp [Dk.tick, e1]
    · simp only [Dk.tick]
      rw [e2, if_neg (by omega), if_neg (by omega), e3, hd]; exact ⟨rfl, rfl⟩
  rcases h.is with ⟨h1, h2, h3, h4, h5⟩ | ⟨h0, h1, h2, h3, h4, h5, h6⟩ | ⟨h0, h1, h2, h3, h4, h5⟩
  · obtain ⟨t1, t2, t3, t4, t5, t6, t7, t8⟩ := htick { D with files := [(1, ⟨A ++ P ++ b, A.length⟩)] } h.fault rfl rfl
    refine ⟨Dk.tick { D with files := [(1, ⟨A ++ P ++ b, A.length⟩)] }, ?_, ⟨t1.trans h.q, t2, .inl ⟨by rw [t3, List.append_assoc], t4.trans h2, t5.trans h3, t6.trans h4, t7.trans h5⟩⟩, t8, t6⟩
    have hf : Dk.find D (vname 3) = some (1, ⟨A ++ P, A.length⟩) := by simp [Dk.find, h1, h3, look]
    unfold Dk.append
    rw [if_neg (by rw [hd]; simp), if_neg (by omega), if_neg (by rw [hf, h1, h.q]; simp [Dk.sum]; omega)]
    unfold Dk.acted Dk.appended
    rw [if_neg (by rw [h.fault]; decide), hf]
    simp only [Dk.appF, h1, mput, if_true]
  · obtain ⟨t1, t2, t3, t4, t5, t6, t7, t8⟩ := htick { D with files := [(1, ⟨b, 0⟩)], last := 1, names := [(vname 3, 1)], turns := [⟨⟨#[]⟩, vname 3, 1⟩] } h.fault rfl rfl
    refine ⟨Dk.tick { D with files := [(1, ⟨b, 0⟩)], last := 1, names := [(vname 3, 1)], turns := [⟨⟨#[]⟩, vname 3, 1⟩] }, ?_, ⟨t1.trans h.q, t2, .inr (.inr ⟨h0, by rw [t3, h1]; rfl, t4, t5, t6.trans h5, t7⟩)⟩, t8, t6⟩
    have hf : Dk.find D (vname 3) = none := by simp [Dk.find, h4, look]
    unfold Dk.append
    rw [if_neg (by rw [hd]; simp), if_neg (by omega), if_neg (by rw [h4, h2, h.q]; simp [Dk.sum]; omega)]
    unfold Dk.acted Dk.appended
    rw [if_neg (by rw [h.fault]; decide), hf]
    simp only [Dk.appF, Dk.created, Dk.turned, Dk.turn, h2, h3, h4, h6, if_neg vname3, mdel, mput, List.nil_append, Nat.zero_add, if_true]
  · obtain ⟨t1, t2, t3, t4, t5, t6, t7, t8⟩ := htick { D with files := [(1, ⟨P ++ b, 0⟩)] } h.fault rfl rfl
    refine ⟨Dk.tick { D with files := [(1, ⟨P ++ b, 0⟩)] }, ?_, ⟨t1.trans h.q, t2, .inr (.inr ⟨h0, t3, t4.trans h2, t5.trans h3, t6.trans h4, t7.trans h5⟩)⟩, t8, t6⟩
    have hf : Dk.find D (vname 3) = some (1, ⟨P, 0⟩) := by simp [Dk.find, h1, h3, look]
    subst h0
    simp only [List.length_nil] at hb
    unfold Dk.append
    rw [if_neg (by rw [hd]; simp), if_neg (by omega), if_neg (by rw [hf, h1, h.q]; simp [Dk.sum]; omega)]
    unfold Dk.acted Dk.appended
    rw [if_neg (by rw [h.fault]; decide), hf]
    simp only [Dk.appF, h1, mput, if_true]
theorem Two.dead {D : Dk.D} (hd : D.dead = true) (b : List Nat) : Dk.append D (vname 3) b = (D, 9) := by unfold Dk.append; rw [if_pos hd]
/-- the file, and the names, are synced -/
theorem Two.safe {D : Dk.D} {P : List Nat} (h : Two D [] P) (hd : D.dead = false) (hs : D.stop = 0) (hk : D.kept = []) :
    ∃ D1 D2, (if (bs D (vname 3)).isSome = true then Dk.sync D (vname 3) else (D, 0)) = (D1, 0) ∧ Dk.syncNames D1 = (D2, 0) ∧ Two D2 P [] ∧ D2.dead = false ∧ D1.turns.length ≤ 1 := by
  have htick : ∀ E : Dk.D, E.fault = 0 → E.stop = 0 → Dk.tick E = E := fun E e1 e2 => (tick_oo (by omega) (by omega)).symm
  rcases h.is with ⟨h1, h2, h3, h4, h5⟩ | ⟨h0, h1, h2, h3, h4, h5, h6⟩ | ⟨h0, h1, h2, h3, h4, h5⟩
  · rw [h4] at hk; cases hk
  · have hb : bs D (vname 3) = none := by simp [bs, Dk.find, h4, look]
    refine ⟨D, D, by rw [hb]; rfl, ?_, ⟨h.q, h.fault, .inr (.inl ⟨h1, rfl, h2, h3, h4, h5, h6⟩)⟩, hd, by rw [h6]; decide⟩
    unfold Dk.syncNames Dk.acted
    rw [if_neg (by rw [hd]; simp), if_neg (by rw [h.fault]; decide)]
    have : Dk.settle D D.turns.length = D := by
      unfold Dk.settle Dk.settled
      rw [h6, h5, h2]
      simp only [List.take_nil, Dk.turns, List.foldl_nil, List.filter_nil]
      obtain ⟨q, f, l, n, k, t, s, fa, d⟩ := D
      simp only at h2 h4 h5 h6
      subst h2 h4 h5 h6
      rfl
    rw [this, htick D h.fault hs]
  · have hf : Dk.find D (vname 3) = some (1, ⟨P, 0⟩) := by simp [Dk.find, h1, h3, look]
    have hb : (bs D (vname 3)).isSome = true := by simp [bs, hf]
    refine ⟨{ D with files := [(1, ⟨P, P.length⟩)] }, { D with files := [(1, ⟨P, P.length⟩)], kept := [(vname 3, 1)], turns := [] }, ?_, ?_, ⟨h.q, h.fault, .inl ⟨by simp, h2, h3, rfl, rfl⟩⟩, hd, by show D.turns.length ≤ 1; rw [h5]; simp⟩
    · rw [if_pos hb]
      unfold Dk.sync Dk.acted
      rw [if_neg (by rw [hd]; simp), hf]
      simp only [Dk.syncF, h1, mput, if_true]
      rw [if_neg (by rw [h.fault]; decide)]
      exact congrArg (fun E => (E, (0 : Int))) (htick { D with files := [(1, ⟨P, P.length⟩)] } h.fault hs)
    · unfold Dk.syncNames Dk.acted
      rw [if_neg (by show ¬ D.dead = true; rw [hd]; simp), if_neg (by show ¬ D.fault = 1; rw [h.fault]; decide)]
      have : Dk.settle { D with files := [(1, ⟨P, P.length⟩)] } ({ D with files := [(1, ⟨P, P.length⟩)] } : Dk.D).turns.length = { D with files := [(1, ⟨P, P.length⟩)], kept := [(vname 3, 1)], turns := [] } := by
        obtain ⟨q, f, l, n, k, t, s, fa, d⟩ := D
        simp only at h1 h2 h3 h4 h5
        subst h1 h2 h3 h4 h5
        simp [Dk.settle, Dk.settled, Dk.turns, Dk.turn, vname3, mdel, mput, Dk.named]
      rw [this]
      exact congrArg (fun E => (E, (0 : Int))) (htick { D with files := [(1, ⟨P, P.length⟩)], kept := [(vname 3, 1)], turns := [] } h.fault hs)
/-- a crash leaves all that is safe, and a beginning of the rest -/
theorem Two.crash {D : Dk.D} {A P : List Nat} (h : Two D A P) (kn : Int) (zs : List Int) :
    ∃ j, j ≤ P.length ∧ Vl.by' (Dk.crash D kn zs) (vname 3) = A ++ P.take j ∧ Live (Dk.crash D kn zs) := by
  have hord : ∀ E : Dk.D, E.names = [(vname 3, 1)] → Dk.order E = [vname 3] := fun E e => by
    unfold Dk.order
    rw [e]
    simp [List.mergeSort_singleton]
  have hord0 : ∀ E : Dk.D, E.names = [] → Dk.order E = [] := fun E e => by
    unfold Dk.order
    rw [e]
    simp
  -- of a file with these bytes, by the tails
  have hone : ∀ (E : Dk.D) (A P : List Nat), E.names = [(vname 3, 1)] → E.files = [(1, ⟨A ++ P, A.length⟩)] → ∃ j, j ≤ P.length ∧ (Dk.tails E zs [vname 3]).1.names = [(vname 3, 1)] ∧ ∃ sf, (Dk.tails E zs [vname 3]).1.files = [(1, ⟨A ++ P.take j, sf⟩)] := fun E A P e1 e2 => by
    have hf : Dk.find E (vname 3) = some (1, ⟨A ++ P, A.length⟩) := by simp [Dk.find, e1, e2, look]
    have ht : Dk.tails E zs [vname 3] = Dk.tail1 (E, zs) (vname 3) := rfl
    rw [ht]
    unfold Dk.tail1
    simp only [hf]
    by_cases h0 : (A ++ P).length - A.length = 0
    · rw [if_pos h0]
      have hp : P = [] := by rw [List.length_append] at h0; exact List.length_eq_zero_iff.1 (by omega)
      exact ⟨0, by omega, e1, A.length, by rw [e2, hp]; rfl⟩
    · rw [if_neg h0]
      have hk := Dk.keep1_le zs ((A ++ P).length - A.length)
      refine ⟨Dk.keep1 zs ((A ++ P).length - A.length), by rw [List.length_append] at hk ⊢; omega, e1, A.length + Dk.keep1 zs ((A ++ P).length - A.length), ?_⟩
      simp only [e2, mput, if_true, Dk.tailF]
      rw [List.take_append, List.take_of_length_le (by omega), Nat.add_sub_cancel_left]
  have hfin : ∀ (E : Dk.D), E = Dk.settle D (min (max kn 0) (D.turns.length : Int)).toNat → (E.names = [(vname 3, 1)] ∧ E.files = [(1, ⟨A ++ P, A.length⟩)]) ∨ (E.names = [] ∧ A = []) → ∃ j, j ≤ P.length ∧ Vl.by' (Dk.crash D kn zs) (vname 3) = A ++ P.take j ∧ Live (Dk.crash D kn zs) := fun E hE hc => by
    unfold Dk.crash
    rw [← hE]
    rcases hc with ⟨e1, e2⟩ | ⟨e1, e2⟩
    · rw [hord E e1]
      obtain ⟨j, hj, hn, sf, hfl⟩ := hone E A P e1 e2
      refine ⟨j, hj, ?_, rfl, Int.le_refl _, Int.le_refl _, ?_, ?_⟩
      · simp [Vl.by', bs, Dk.find, hn, hfl, look]
      · show ((Dk.tails E zs [vname 3]).1.names.map (·.2)).Nodup
        rw [hn]; simp
      · show look (Dk.tails E zs [vname 3]).1.names ⟨#[]⟩ = none
        rw [hn]; simp [look, vname3]
    · rw [hord0 E e1]
      refine ⟨0, by omega, ?_, rfl, Int.le_refl _, Int.le_refl _, ?_, ?_⟩
      · simp [Vl.by', bs, Dk.find, Dk.tails, e1, look, e2]
      · show ((Dk.tails E zs []).1.names.map (·.2)).Nodup
        simp [Dk.tails, e1]
      · show look (Dk.tails E zs []).1.names ⟨#[]⟩ = none
        simp [Dk.tails, e1, look]
  refine hfin _ rfl ?_
  rcases h.is with ⟨h1, h2, h3, h4, h5⟩ | ⟨h0, h1, h2, h3, h4, h5, h6⟩ | ⟨h0, h1, h2, h3, h4, h5⟩
  · refine .inl ⟨?_, ?_⟩
    · simp [Dk.settle, Dk.settled, h5, h4, Dk.turns]
    · simp [Dk.settle, Dk.settled, h5, h4, h1, Dk.turns, Dk.named]
  · exact .inr ⟨by simp [Dk.settle, Dk.settled, h5, h6, Dk.turns], h0⟩
  · have hn : (min (max kn 0) (D.turns.length : Int)).toNat = 0 ∨ (min (max kn 0) (D.turns.length : Int)).toNat = 1 := by rw [h5]; simp only [List.length_singleton]; omega
    rcases hn with hn | hn
    · rw [hn]
      exact .inr ⟨by simp [Dk.settle, Dk.settled, h4, Dk.turns], h0⟩
    · rw [hn]
      refine .inl ⟨?_, ?_⟩
      · simp [Dk.settle, Dk.settled, h4, h5, Dk.turns, Dk.turn, vname3, mdel, mput]
      · simp [Dk.settle, Dk.settled, h4, h5, h1, h0, Dk.turns, Dk.turn, vname3, mdel, mput, Dk.named]
end Vl
end Go.Proofs.YtnoknmnbfkdccaaGreatDoor

/- What was put is got behind a crash, or told not to be there (plain mathematics). -/
namespace Go.Proofs.YtnoknmnbfkdccaaGreatDoor
open Go.RowKit Go.Shelf

namespace Vl
/-- a file is cut -/
theorem cut {D : Dk.D} (hO : Dk.Ok D) (hL : Live D) (s : ByteArray) (hs : (bs D s).isSome = true) (n : Nat) (hn : n ≤ (by' D s).length) :
    ∃ D', Dk.cut D s (n : Int) = (D', 0) ∧ D'.dead = false ∧ by' D' s = (by' D s).take n := by
  rcases find_cases hO s with ⟨e1, e2⟩ | ⟨k, f, e1, e2, e3⟩
  · rw [bs_none e2] at hs; cases hs
  · have hb : by' D s = f.bs := by rw [by', bs_some e2 e3]; rfl
    rw [hb] at hn
    refine ⟨{ D with files := mput D.files k (Dk.cutF f n) }, ?_, hL.dead, ?_⟩
    · unfold Dk.cut
      rw [if_neg (by rw [hL.dead]; simp), e1]
      show (if (n : Int) < 0 ∨ (f.bs.length : Int) < (n : Int) then _ else _) = _
      rw [if_neg (by omega), Int.toNat_natCast]
      exact acted hL rfl rfl
    · rw [hb]
      unfold by'
      rw [bs_put hL e2, if_pos rfl]
      rfl
theorem mended {D : Dk.D} (hO : Dk.Ok D) (hL : Live D) (s : Int) : ∃ D', Vl.mend D s = (D', 0) ∧ D'.dead = false ∧ by' D' (vname s) = (by' D (vname s)).take (right D s) := by
  have hr : right D s ≤ (by' D (vname s)).length := by unfold right; split; exact Sg.walk_le _; omega
  unfold Vl.mend
  by_cases h : right D s = (by' D (vname s)).length
  · exact ⟨D, by rw [if_pos h], hL.dead, by rw [h, List.take_length]⟩
  · rw [if_neg h]
    refine cut hO hL _ ?_ _ hr
    cases hb : bs D (vname s) with
    | some x => rfl
    | none => unfold by' at h hr; rw [hb] at h hr; simp at h hr; omega
/-- behind a crash: which values are left, by their number -/
theorem kept {D : Dk.D} (hO : Dk.Ok D) (hL : Live D) {l : List (List Nat)} (hs : Sg.Small l) (hlen : (Sg.put l).length ≤ 100000) (a k : Nat) (ha : a ≤ l.length) (hka : (Sg.put (l.take a)).length ≤ k) (hk : k ≤ (Sg.put l).length) (hb : by' D (vname 3) = (Sg.put l).take k) :
    ∃ D' mm, Vl.mend D 3 = (D', 0) ∧ D'.dead = false ∧ a ≤ mm ∧ mm ≤ l.length ∧ by' D' (vname 3) = Sg.put (l.take mm) ∧ ∀ i, i < l.length → Vl.get D' [3] (Sg.pt 3 (Sg.put (l.take i)).length (l.getD i [])) = if i < mm then (l.getD i [], 0) else ([], 3) := by
  obtain ⟨D', h1, h2, h3⟩ := mended hO hL 3
  obtain ⟨mm, hm, hw, hmk, hnext⟩ := Sg.walk_cut hs k hk
  have hR : right D 3 = (Sg.put (l.take mm)).length := by unfold right; rw [if_pos (by decide), hb, hw]
  have hpre : ∀ x, (Sg.put l).take (Sg.put (l.take x)).length = Sg.put (l.take x) := fun x => by
    have := Sg.put_append (l.take x) (l.drop x)
    rw [List.take_append_drop] at this
    rw [this, List.take_left]
  have hby : by' D' (vname 3) = Sg.put (l.take mm) := by rw [h3, hb, hR, List.take_take, Nat.min_eq_left hmk, hpre]
  have hmono : ∀ x y, x ≤ y → (Sg.put (l.take x)).length ≤ (Sg.put (l.take y)).length := fun x y h => by
    have := Sg.put_take_le (l.take y) x
    rwa [List.take_take, Nat.min_eq_left h] at this
  have ham : a ≤ mm := by
    rcases Nat.lt_or_ge mm a with h | h
    · exfalso
      have h4 := hnext (by omega)
      have h5 := Sg.put_take_succ l mm (by omega)
      have h6 := hmono (mm + 1) a h
      omega
    · exact h
  refine ⟨D', mm, h1, h2, ham, hm, hby, fun i hi => ?_⟩
  have hv : (l.getD i []).length ≤ 4096 := by
    have e : l.getD i [] = l[i] := by simp [hi]
    rw [e]; exact (hs _ (List.getElem_mem hi)).1
  have hh := Fr.one3 (n := (l.getD i []).length) (by omega)
  have hhd : Sg.head (l.getD i []).length = (Va.one (l.getD i []).length).length + 1 := rfl
  have hle := Sg.put_take_le l i
  have hmay : Po.may (Sg.pt 3 (Sg.put (l.take i)).length (l.getD i [])) = true := by unfold Po.may Sg.pt; simp only [decide_eq_true_eq]; omega
  unfold Vl.get
  rw [if_pos hmay]
  have hc : [(3 : Int)].contains (Sg.pt 3 (Sg.put (l.take i)).length (l.getD i [])).1 = true := by show [(3 : Int)].contains 3 = true; decide
  rw [if_pos hc]
  have e3 : (Sg.pt 3 (Sg.put (l.take i)).length (l.getD i [])).1 = 3 := rfl
  rw [e3, hby]
  by_cases him : i < mm
  · rw [if_pos him]
    have hsm : Sg.Small (l.take mm) := fun v hv => hs v (List.mem_of_mem_take hv)
    have hll : i < (l.take mm).length := by rw [List.length_take]; omega
    have := Sg.value_put 3 (by omega) (by omega) (l.take mm) hsm i hll [] (by have := Sg.put_take_le l mm; omega)
    rw [List.append_nil, List.take_take, Nat.min_eq_left (Nat.le_of_lt him)] at this
    have eg : (l.take mm).getD i [] = l.getD i [] := by
      rw [List.getD_eq_getElem?_getD, List.getElem?_take, if_pos him, ← List.getD_eq_getElem?_getD]
    rw [eg] at this
    exact this
  · rw [if_neg him]
    have := hmono mm i (by omega)
    unfold Sg.value
    rw [if_pos hmay]
    rw [if_pos (by show ((Sg.put (l.take mm)).length : Int) < (((Sg.put (l.take i)).length + Sg.head (l.getD i []).length : Nat) : Int) + (((l.getD i []).length : Nat) : Int); omega)]
end Vl
end Go.Proofs.YtnoknmnbfkdccaaGreatDoor
