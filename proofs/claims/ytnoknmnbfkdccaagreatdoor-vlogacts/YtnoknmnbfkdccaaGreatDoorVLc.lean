/- What acts of a disk that lives do to its files' bytes. -/
import Derived.Test.YtnoknmnbfkdccaaGreatDoorDKF
import Derived.Test.YtnoknmnbfkdccaaGreatDoorDKD
import Derived.Test.YtnoknmnbfkdccaaGreatDoorVLa
import Derived.Laws.CopyOwn
import Derived.BigQuiet
import Derived.Test.YtnoknmnbfkdccaaGreatDoorVLb
import Derived.Deep.RegionHeld3
namespace Go.Proofs.YtnoknmnbfkdccaaGreatDoor
open Go.RowKit Go.Shelf

section
variable {α β : Type} [DecidableEq α]
theorem vlook_put : ∀ (l : List (α × β)) (k : α) (v : β), look (mput l k v) k = some v
  | [], k, v => by simp [mput, look]
  | (a, x) :: l, k, v => by
    by_cases h : a = k
    · simp [mput, look, h]
    · simp [mput, look, h, vlook_put l k v]
theorem vlook_put_ne : ∀ (l : List (α × β)) (k t : α) (v : β), k ≠ t → look (mput l k v) t = look l t
  | [], k, t, v, h => by simp [mput, look, h]
  | (a, x) :: l, k, t, v, h => by
    by_cases hk : a = k
    · subst hk; simp [mput, look, h]
    · by_cases ht : a = t
      · subst ht; simp [mput, look, hk]
      · simp [mput, look, hk, ht, vlook_put_ne l k t v h]
theorem vlook_del_ne : ∀ (l : List (α × β)) (k t : α), k ≠ t → look (mdel l k) t = look l t
  | [], k, t, h => by simp [mdel]
  | (a, x) :: l, k, t, h => by
    by_cases hk : a = k
    · subst hk; simp [mdel, look, h]
    · by_cases ht : a = t
      · subst ht; simp [mdel, look, hk]
      · simp [mdel, look, hk, ht, vlook_del_ne l k t h]
theorem vlook_del : ∀ (l : List (α × β)) (k : α), (l.map (·.1)).Nodup → look (mdel l k) k = none
  | [], k, _ => by simp [mdel, look]
  | (a, x) :: l, k, h => by
    rw [List.map_cons, List.nodup_cons] at h
    by_cases hk : a = k
    · subst hk
      simp only [mdel, if_true]
      exact look_none.2 h.1
    · simp only [mdel, hk, if_false, look, vlook_del l k h.2]
end

namespace Vl
/-- a file's bytes; none: there is no such file -/
def bs (D : Dk.D) (s : ByteArray) : Option (List Nat) := (Dk.find D s).map (·.2.bs)
def by' (D : Dk.D) (s : ByteArray) : List Nat := (bs D s).getD []
/-- nothing refuses what is done; each name has a file of its own -/
structure Live (D : Dk.D) : Prop where
  dead : D.dead = false
  stop : D.stop ≤ 0
  fault : D.fault ≤ 0
  own : (D.names.map (·.2)).Nodup
  nz : look D.names ⟨#[]⟩ = none
theorem acted {D D' : Dk.D} (h : Live D) (h1 : D'.stop = D.stop) (h2 : D'.fault = D.fault) : Dk.acted D D' = (D', 0) := by
  unfold Dk.acted
  rw [if_neg (by have := h.fault; omega), ← tick_oo (by rw [h2]; exact h.fault) (by rw [h1]; exact h.stop)]
theorem bs_none {D : Dk.D} {s : ByteArray} (h : look D.names s = none) : bs D s = none := by simp [bs, Dk.find, h]
theorem bs_some {D : Dk.D} {s : ByteArray} {n : Nat} {f : Dk.F} (h : look D.names s = some n) (hf : look D.files n = some f) : bs D s = some f.bs := by simp [bs, Dk.find, h, hf]
theorem bs_zero {D : Dk.D} (h : Live D) : bs D ⟨#[]⟩ = none := bs_none h.nz
theorem find_cases {D : Dk.D} (hO : Dk.Ok D) (s : ByteArray) : (Dk.find D s = none ∧ look D.names s = none) ∨ ∃ n f, Dk.find D s = some (n, f) ∧ look D.names s = some n ∧ look D.files n = some f := by
  cases hn : look D.names s with
  | none => exact .inl ⟨by simp [Dk.find, hn], rfl⟩
  | some n =>
    obtain ⟨f, hf⟩ := look_some_of (hO.nf _ (look_mem hn))
    exact .inr ⟨n, f, by simp [Dk.find, hn, hf], rfl, hf⟩
theorem names_inj {D : Dk.D} (h : Live D) {s t : ByteArray} {n : Nat} (hs : look D.names s = some n) (ht : look D.names t = some n) : s = t := by
  have h1 := look_mem hs
  have h2 := look_mem ht
  have key : ∀ (l : List (ByteArray × Nat)), (l.map (·.2)).Nodup → (s, n) ∈ l → (t, n) ∈ l → s = t := by
    intro l
    induction l with
    | nil => intro _ h; cases h
    | cons x l ih =>
      intro hd hs ht
      rw [List.map_cons, List.nodup_cons] at hd
      rcases List.mem_cons.1 hs with rfl | hs2
      · rcases List.mem_cons.1 ht with e | ht
        · cases e; rfl
        · exact absurd (List.mem_map.2 ⟨(t, n), ht, rfl⟩) hd.1
      · rcases List.mem_cons.1 ht with rfl | ht
        · exact absurd (show (t, n).2 ∈ l.map (·.2) from List.mem_map.2 ⟨(s, n), hs2, rfl⟩) hd.1
        · exact ih hd.2 hs2 ht
  exact key _ h.own h1 h2
/-- one file turns: the others don't -/
theorem bs_put {D : Dk.D} (hL : Live D) {s : ByteArray} {n : Nat} (hs : look D.names s = some n) (g : Dk.F) (t : ByteArray) :
    bs { D with files := mput D.files n g } t = if t = s then some g.bs else bs D t := by
  by_cases h : t = s
  · subst h
    rw [if_pos rfl]
    exact bs_some (D := { D with files := mput D.files n g }) hs (vlook_put _ _ _)
  · rw [if_neg h]
    unfold bs Dk.find
    show Option.map _ (match look D.names t with | none => none | some m => (look (mput D.files n g) m).map fun f => (m, f)) = _
    cases ht : look D.names t with
    | none => rfl
    | some m =>
      have : n ≠ m := by rintro rfl; exact h (names_inj hL ht hs)
      simp only [vlook_put_ne _ _ _ _ this]
theorem sum_put {l : List (Nat × Dk.F)} {n : Nat} {f : Dk.F} (g : Dk.F) (h : look l n = some f) : Dk.sum (mput l n g) + f.bs.length = Dk.sum l + g.bs.length := by
  induction l with
  | nil => simp [look] at h
  | cons x l ih =>
    obtain ⟨a, y⟩ := x
    by_cases ha : a = n
    · simp only [look, ha, if_true, Option.some.injEq] at h
      subst h
      simp only [mput, ha, if_true, Dk.sum, List.map_cons, List.sum_cons]; omega
    · simp only [look, ha, if_false] at h
      have := ih h
      simp only [mput, ha, if_false, Dk.sum, List.map_cons, List.sum_cons] at this ⊢; omega
theorem look_apart {l : List (Nat × Dk.F)} {n m : Nat} {g : Dk.F} (h : n ≠ m) : look (l ++ [(n, g)]) m = look l m := by
  induction l with
  | nil => simp [look, h]
  | cons x l ih =>
    obtain ⟨a, y⟩ := x
    by_cases ha : a = m
    · simp [look, ha]
    · simp [look, ha, ih]

/-- bytes are put behind a file's -/
theorem append {D : Dk.D} (hO : Dk.Ok D) (hL : Live D) (s : ByteArray) (b : List Nat) (hs : 1 ≤ s.size ∧ s.size ≤ 16) (hn : D.names.length < 5000) (hq : Dk.sum D.files + b.length ≤ D.quota) :
    ∃ D', Dk.append D s b = (D', 0) ∧ Live D' ∧ (∀ t, bs D' t = if t = s then some (by' D s ++ b) else bs D t) ∧ Dk.sum D'.files = Dk.sum D.files + b.length ∧ D'.quota = D.quota := by
  have hs0 : s ≠ ⟨#[]⟩ := by rintro rfl; exact absurd hs.1 (by decide)
  rcases find_cases hO s with ⟨e1, e2⟩ | ⟨n, f, e1, e2, e3⟩
  · have hz : mdel D.names ⟨#[]⟩ = D.names := mdel_none _ _ hL.nz
    have hfr : look D.files (D.last + 1) = none := Dk.no_last hO
    have hnm : Dk.turn ⟨⟨#[]⟩, s, D.last + 1⟩ D.names = D.names ++ [(s, D.last + 1)] := by
      unfold Dk.turn
      rw [if_neg hs0, hz, mput_none _ _ _ e2]
    have hlk : ∀ t, look (D.names ++ [(s, D.last + 1)]) t = if t = s then some (D.last + 1) else look D.names t := fun t => by
      by_cases h : t = s
      · subst h; rw [if_pos rfl]; exact look_app _ e2
      · rw [if_neg h, ← mput_none _ _ (D.last + 1) e2]
        exact vlook_put_ne _ _ _ _ (fun e => h e.symm)
    have hfl : mput (D.files ++ [(D.last + 1, (⟨[], 0⟩ : Dk.F))]) (D.last + 1) (Dk.appF ⟨[], 0⟩ b) = D.files ++ [(D.last + 1, Dk.appF ⟨[], 0⟩ b)] := by
      have := mput_part (A := D.files) (B := []) (k := D.last + 1) (v := (⟨[], 0⟩ : Dk.F)) (v' := Dk.appF ⟨[], 0⟩ b) (fun x hx => by have := (hO.pos x hx).2; omega)
      exact this
    have hE : Dk.appended D s b = { D with files := D.files ++ [(D.last + 1, Dk.appF ⟨[], 0⟩ b)], last := D.last + 1, names := D.names ++ [(s, D.last + 1)], turns := D.turns ++ [⟨⟨#[]⟩, s, D.last + 1⟩] } := by
      unfold Dk.appended
      rw [e1]
      simp only [Dk.created, Dk.turned]
      rw [hnm, hfl]
    refine ⟨{ D with files := D.files ++ [(D.last + 1, Dk.appF ⟨[], 0⟩ b)], last := D.last + 1, names := D.names ++ [(s, D.last + 1)], turns := D.turns ++ [⟨⟨#[]⟩, s, D.last + 1⟩] }, ?_, ?_, ?_, ?_, rfl⟩
    · unfold Dk.append
      rw [if_neg (by rw [hL.dead]; simp), if_neg (by omega), if_neg (by omega), hE]
      exact acted hL rfl rfl
    · refine ⟨hL.dead, hL.stop, hL.fault, ?_, ?_⟩
      · show ((D.names ++ [(s, D.last + 1)]).map (·.2)).Nodup
        rw [List.map_append, List.nodup_append]
        refine ⟨hL.own, by simp, fun a ha b hb => ?_⟩
        simp only [List.map_cons, List.map_nil, List.mem_singleton] at hb
        subst hb
        obtain ⟨x, hx, rfl⟩ := List.mem_map.1 ha
        obtain ⟨y, hy, e⟩ := List.mem_map.1 (hO.nf x hx)
        have := (hO.pos y hy).2
        omega
      · show look (D.names ++ [(s, D.last + 1)]) ⟨#[]⟩ = none
        rw [hlk, if_neg (fun e => hs0 e.symm), hL.nz]
    · intro t
      have hby : by' D s = [] := by rw [by', bs_none e2]; rfl
      rw [hby, List.nil_append]
      by_cases h : t = s
      · subst h
        rw [if_pos rfl]
        refine bs_some (n := D.last + 1) (f := Dk.appF ⟨[], 0⟩ b) ?_ ?_
        · show look (D.names ++ [(t, D.last + 1)]) t = _
          rw [hlk, if_pos rfl]
        · show look (D.files ++ [(D.last + 1, Dk.appF ⟨[], 0⟩ b)]) (D.last + 1) = _
          exact look_app _ hfr
      · rw [if_neg h]
        unfold bs Dk.find
        show Option.map _ (match look (D.names ++ [(s, D.last + 1)]) t with | none => none | some m => (look (D.files ++ [(D.last + 1, Dk.appF ⟨[], 0⟩ b)]) m).map fun f => (m, f)) = _
        rw [hlk, if_neg h]
        cases ht : look D.names t with
        | none => rfl
        | some m =>
          have : D.last + 1 ≠ m := by
            obtain ⟨y, hy, e⟩ := List.mem_map.1 (hO.nf _ (look_mem ht))
            have := (hO.pos y hy).2
            simp only at e
            omega
          simp only [look_apart this]
    · show Dk.sum (D.files ++ [(D.last + 1, Dk.appF ⟨[], 0⟩ b)]) = _
      simp [Dk.sum, Dk.appF]
  · have hE : Dk.appended D s b = { D with files := mput D.files n (Dk.appF f b) } := by
      unfold Dk.appended
      rw [e1]
    refine ⟨{ D with files := mput D.files n (Dk.appF f b) }, ?_, ⟨hL.dead, hL.stop, hL.fault, hL.own, hL.nz⟩, fun t => ?_, ?_, rfl⟩
    · unfold Dk.append
      rw [if_neg (by rw [hL.dead]; simp), if_neg (by omega), if_neg (by rw [e1]; simp; omega), hE]
      exact acted hL rfl rfl
    · rw [bs_put hL e2]
      have : by' D s = f.bs := by rw [by', bs_some e2 e3]; rfl
      rw [this]
      rfl
    · have := sum_put (Dk.appF f b) e3
      rw [show (Dk.appF f b).bs.length = f.bs.length + b.length by simp [Dk.appF]] at this
      show Dk.sum (mput D.files n (Dk.appF f b)) = _
      omega
/-- a file is synced -/
theorem sync {D : Dk.D} (hO : Dk.Ok D) (hL : Live D) (s : ByteArray) (hs : (bs D s).isSome = true) :
    ∃ D', Dk.sync D s = (D', 0) ∧ Live D' ∧ (∀ t, bs D' t = bs D t) ∧ Dk.sum D'.files = Dk.sum D.files ∧ D'.quota = D.quota := by
  rcases find_cases hO s with ⟨e1, e2⟩ | ⟨n, f, e1, e2, e3⟩
  · rw [bs_none e2] at hs; cases hs
  · refine ⟨{ D with files := mput D.files n (Dk.syncF f) }, ?_, ⟨hL.dead, hL.stop, hL.fault, hL.own, hL.nz⟩, fun t => ?_, ?_, rfl⟩
    · unfold Dk.sync
      rw [if_neg (by rw [hL.dead]; simp), e1]
      exact acted hL rfl rfl
    · rw [bs_put hL e2]
      by_cases h : t = s
      · subst h; rw [if_pos rfl, bs_some e2 e3]; rfl
      · rw [if_neg h]
    · have := sum_put (Dk.syncF f) e3
      rw [show (Dk.syncF f).bs.length = f.bs.length by rfl] at this
      show Dk.sum (mput D.files n (Dk.syncF f)) = _
      omega
/-- a file is removed -/
theorem remove {D : Dk.D} (hO : Dk.Ok D) (hL : Live D) (s : ByteArray) (hs : (bs D s).isSome = true) :
    ∃ D', Dk.remove D s = (D', 0) ∧ Live D' ∧ (∀ t, bs D' t = if t = s then none else bs D t) ∧ Dk.sum D'.files = Dk.sum D.files ∧ D'.quota = D.quota := by
  rcases find_cases hO s with ⟨e1, e2⟩ | ⟨n, f, e1, e2, e3⟩
  · rw [bs_none e2] at hs; cases hs
  · have hnm : Dk.turn ⟨s, ⟨#[]⟩, 0⟩ D.names = mdel D.names s := by unfold Dk.turn; rw [if_pos rfl]
    have hE : Dk.turned D ⟨s, ⟨#[]⟩, 0⟩ = { D with names := mdel D.names s, turns := D.turns ++ [⟨s, ⟨#[]⟩, 0⟩] } := by
      unfold Dk.turned
      rw [hnm]
    refine ⟨{ D with names := mdel D.names s, turns := D.turns ++ [⟨s, ⟨#[]⟩, 0⟩] }, ?_, ?_, fun t => ?_, ?_, rfl⟩
    · unfold Dk.remove
      rw [if_neg (by rw [hL.dead]; simp), if_neg (by rw [e1]; simp), hE]
      exact acted hL rfl rfl
    · refine ⟨hL.dead, hL.stop, hL.fault, ?_, ?_⟩
      · exact ((mdel_sub D.names s).map _).nodup hL.own
      · by_cases h : s = ⟨#[]⟩
        · subst h; exact vlook_del _ _ hO.nk
        · exact (vlook_del_ne _ _ _ h).trans hL.nz
    · by_cases h : t = s
      · subst h
        rw [if_pos rfl]
        exact bs_none (vlook_del _ _ hO.nk)
      · rw [if_neg h]
        unfold bs Dk.find
        show Option.map _ (match look (mdel D.names s) t with | none => none | some m => (look D.files m).map fun f => (m, f)) = _
        rw [vlook_del_ne _ _ _ (fun e => h e.symm)]
        cases look D.names t <;> rfl
    · rfl
theorem new (q : Nat) : Live (Dk.new q) ∧ ∀ t, bs (Dk.new q) t = none := ⟨⟨rfl, Int.le_refl _, Int.le_refl _, by simp [Dk.new], rfl⟩, fun _ => rfl⟩
end Vl
end Go.Proofs.YtnoknmnbfkdccaaGreatDoor

/- Bytes of a file: the disk's Read. -/
namespace Go.Proofs.YtnoknmnbfkdccaaGreatDoor
open Go.RowKit

theorem vu8_s : (Tryz.prog.info? 5).map (·.size) = some 1 := by kernel_rfl
/-- copy of the first bytes of a row onto a new one -/
theorem vcopy_on (W : World) (dT sT ty elem e : TypeId) (hu : Tryz.prog.underlying dT = some (.slice elem)) (hs : (Tryz.prog.info? elem).map (·.size) = some 1) (R n m dcap : Nat) (sp : Option Addr) (scap : Nat) (cs ys : List Value) (hn : cs.length = n) (hm : n ≤ m)
    (hR : W.heap[R]? = some (.cells ys.toArray e (0, 0))) (hsrc : 0 < n → ∃ ad, sp = some ad ∧ ∀ (j : Nat) (v : Value), cs[j]? = some v → W.cell? (ad.add j) = some v) (hfit : ys.length = n) (h1 : ∀ v ∈ cs, v.oneCell' = true) :
    ∃ W4, (Builtin.copy_ #[dT, sT] ty #[.slice (some ⟨R, 0, none⟩) n dcap, .slice sp m scap]).run Tryz.prog W = .ok (.int .i64 (n : Int)) W4 ∧ Hid (W4.heap[R]? = some (.cells cs.toArray e (0, 0))) ∧ Below R W W4 := by
  by_cases h0 : n = 0
  · subst h0
    obtain rfl : cs = [] := List.eq_nil_of_length_eq_zero hn
    obtain rfl : ys = [] := List.eq_nil_of_length_eq_zero hfit
    exact ⟨W, run_copy_none W dT sT ty elem _ _ 0 dcap m scap hu hs (Nat.min_eq_right (Nat.zero_le _)), (hR : W.heap[R]? = some (.cells [].toArray e (0, 0))), Below.refl _ _⟩
  · obtain ⟨ad, rfl, hsr⟩ := hsrc (by omega)
    have hrun := run_copy_row (P := Tryz.prog) W dT sT ty elem R 0 n dcap ad m scap ys.toArray e cs hu hs hR (by rw [hn]; exact (Nat.min_eq_right hm).symm) hsr (by simp [hn, hfit]) h1
    rw [hn] at hrun
    have he : ys.toArray.toList.take 0 ++ cs ++ ys.toArray.toList.drop (0 + n) = cs := by simp [← hfit]
    rw [he] at hrun
    exact ⟨_, hrun, setRow_heap W R ys.toArray cs.toArray e (0, 0) hR, below_setRow (Below.refl _ _) (Nat.le_refl _) _⟩
theorem vown_ys {w : World} {B e n g : Nat} {xs : List Value} (h : w.ownsRow B e 1 (.slice (some ⟨g, 0, none⟩) n n) n xs) : ∃ ys : List Value, w.heap[g]? = some (.cells ys.toArray e (0, 0)) ∧ ys.length = n := by
  rcases h.2 with ⟨h0, _⟩ | ⟨g', cap, cur, e', _, hg, _, _, hs, _⟩
  · cases h0
  · cases e'
    exact ⟨cur.toList, by simpa using hg, by simpa using hs⟩
theorem vown_of {w : World} {g B e n : Nat} {xs : List Value} (h : w.heap[g]? = some (.cells xs.toArray e (0, 0))) (hn : xs.length = n) (hB : B ≤ g) (hm : n ≤ 1000000) : w.ownsRow B e 1 (.slice (some ⟨g, 0, none⟩) n n) n xs :=
  ⟨by omega, .inr ⟨g, n, xs.toArray, rfl, hB, h, Nat.le_refl _, by unfold maxLen; omega, by simp [hn], by simp [← hn]⟩⟩

/-- bytes that are the call's own -/
def RdRes (w : World) (bs : List Nat) (e : Ending) (w' : World) : Prop :=
  ∃ a c, e = .returned (.tuple #[.slice a bs.length c, .int .i64 0]) ∧ w'.ownsRow w.heap.size 5 1 (.slice a bs.length c) bs.length (kcells .u8 bs) ∧ Below w.heap.size w w'

set_option maxRecDepth 100000 in
set_option maxHeartbeats 2000000 in
theorem vread_any {w : World} {p : Nat} {D : Dk.D} {S : Nat → Prop} (h : DK w p D S) (s : ByteArray) (t n k : Nat) (f : Dk.F) (hf : Dk.find D s = some (k, f)) (ht : t + n ≤ f.bs.length) (hn1 : f.bs.length ≤ 100000) (hd : D.dead = false) :
    Calls Tryz.prog 87 #[.pointer (some ⟨p, 0, none⟩), .string s, .int .i64 t, .int .i64 n] w (RdRes w ((f.bs.drop t).take n)) := by
  obtain ⟨hO, fm, nm, sm, tv, J, hP, hS⟩ := h
  have hdead := dead_any hP
  rw [hd] at hdead
  rcases hP.findJ hO s with ⟨e1, e2⟩ | ⟨m, x, f', e1, e2, e3, e4⟩
  · rw [e1] at hf; cases hf
  · have hff : f' = f := by rw [e1] at hf; cases hf; rfl
    subst hff
    have hfd := find_some hP s e2 e3
    have hx := hP.each _ (look_mem e3)
    obtain ⟨a, c, hv, hr, hnc⟩ := t_shape hx.row
    obtain ⟨c0, c1, _⟩ := hx.cells
    simp only at c0 c1 hv hnc
    rw [hv] at c0
    have hown : w.ownsRow 0 5 1 (.slice a f'.bs.length c) f'.bs.length (kcells .u8 f'.bs) := by have := hx.row; simp only at this; rw [hv] at this; exact this
    obtain ⟨bs, hbs⟩ : ∃ bs, bs = (f'.bs.drop t).take n := ⟨_, rfl⟩
    have hbl : bs.length = n := by rw [hbs, List.length_take, List.length_drop]; omega
    have hsrc : ∀ W, Below w.heap.size w W → 0 < n → ∃ g, a = some ⟨g, 0, none⟩ ∧ ∀ (j : Nat) (v : Value), (kcells .u8 bs)[j]? = some v → W.cell? ⟨g, t + j, none⟩ = some v := fun W hb h0 => by
      obtain ⟨g, hg⟩ : ∃ g, a = some ⟨g, 0, none⟩ := by
        rcases hown.2 with ⟨e, h0'⟩ | ⟨g, cap, cur, e, _, _, _, _⟩
        · omega
        · cases e; exact ⟨g, rfl⟩
      subst hg
      refine ⟨g, rfl, fun j v hj => (own_cells (owns_below hown hb) ?_).1⟩
      rw [hbs] at hj
      simp only [kcells, List.getElem?_map, List.getElem?_take, List.getElem?_drop] at hj ⊢
      split at hj
      · exact hj
      · cases hj
    rw [← hbs]
    have hadd : ∀ (g o j : Nat), (⟨g, o, none⟩ : Addr).add j = ⟨g, o + j, none⟩ := fun g o j => by
      by_cases h0 : j = 0
      · subst h0; rfl
      · simp [Addr.add, h0]
    have HSR : Hid (∀ W, Below w.heap.size w W → 0 < n → ∃ ad, (if c = t then a else Option.map (fun x => x.add t) a) = some ad ∧ ∀ (j : Nat) (v : Value), (kcells .u8 bs)[j]? = some v → W.cell? (ad.add j) = some v) := (fun W hb h0 => by
      obtain ⟨g, rfl, hg⟩ := hsrc W hb h0
      refine ⟨⟨g, t, none⟩, by rw [if_neg (by omega)]; simp [hadd], fun j v hj => ?_⟩
      rw [hadd]; exact hg j v hj : ∀ W, Below w.heap.size w W → 0 < n → ∃ ad, (if c = t then a else Option.map (fun x => x.add t) a) = some ad ∧ ∀ (j : Nat) (v : Value), (kcells .u8 bs)[j]? = some v → W.cell? (ad.add j) = some v)
    clear hadd
    obtain ⟨L, hL⟩ : ∃ L, f'.bs.length = L := ⟨_, rfl⟩
    rw [hL] at c0 ht hn1 hnc hr
    obtain ⟨i0, hi0, hz0, hz1, hz2⟩ := info_parts Tryz.info5
    have hmin : min (t : Int) (L : Int) = (t : Int) := by omega
    have hq0 : x.q < w.heap.size := heap_lt hx.blk
    have d1 : ¬ ((n : Int) < 0) := by omega
    have d2 : decide ((n : Int) < 0) = false := by simp
    have d3 : ¬ ((t : Int) < 0) := by omega
    have d4 : decide ((t : Int) < 0) = false := by simp
    have hkl : Hid ((kcells .u8 bs).length = n) := (by rw [kcells, List.length_map]; exact hbl : (kcells .u8 bs).length = n)
    have h1c : Hid (∀ v ∈ kcells .u8 bs, v.oneCell' = true) := (fun v hv => by obtain ⟨x, _, rfl⟩ := List.mem_map.1 hv; rfl : ∀ v ∈ kcells .u8 bs, v.oneCell' = true)
    have HB : Hid (bs.length = n) := hbl
    have i1 : (0 : Int) ≤ (t : Int) := by omega
    have i2 : (t : Int) ≤ (L : Int) := by omega
    have i3 : t ≤ L := by omega
    have d5 : ¬ (((L - t : Nat) : Int) < (n : Int)) := by omega
    have d6 : ¬ (L - t < n) := by omega
    clear hx e3 e4 e2 e1 hf hv hown hS hO hd hbs hbl hL hsrc hP
    go_enter Tryz.func87, Tryz.ntmps87
    go_wp2_with (first
      | (go_at_call 42; go_must (refine hdead.mono ?_; rintro e w1 ⟨rfl, hw⟩; rw [hw]; clear hw w1))
      | (go_at_call 71; go_must (refine hfd.mono ?_; rintro e w1 ⟨rfl, m, hw⟩; subst hw)))
    have hbd := below_drewN w.heap.size w m
    have hsz : (w.drewN m).heap.size = w.heap.size := rfl
    go_quiet (fail)
    generalize (if c = t then a else Option.map (fun x => x.add t) a) = A at *
    go_wp2_with (at_make; go_must (refine make_full _ rfl _ _ 39 rfl w.heap.size 5 i0 _ 1 Tryz.underlying39 hi0 hz0 hz1 .i64 .i64 n rfl rfl (by rw [hz2]; omega) (by unfold maxLen; omega) (Nat.le_refl _) ?_; intro w2 hmade hbel2'; have hbel2 : Below w.heap.size w w2 := (below_drewN w.heap.size w _).trans hbel2'; obtain ⟨ys, hg2, hyl⟩ := vown_ys hmade; have HYL : Hid (ys.length = n) := hyl; clear hmade hyl; obtain ⟨W4, hrun, hR4, hb4⟩ := vcopy_on w2 39 39 3 5 5 Tryz.underlying39 vu8_s w.heap.size n (L - t) n A (c - t) (kcells .u8 bs) ys hkl.out (by omega) hg2 (HSR.out _ hbel2) HYL.out h1c.out; have hbe : Below w.heap.size w W4 := hbel2.trans (hb4.mono (Nat.le_refl _))))
    go_ret2
    refine ⟨some ⟨w.heap.size, 0, none⟩, n, by rw [HB.out]; rfl, ?_, hbe⟩
    rw [HB.out]
    exact vown_of hR4.out hkl.out (Nat.le_refl _) (by omega)
theorem vd_read {B : Nat} {w : World} {p : Nat} {D : Dk.D} (h : VD B w p D) (s : ByteArray) (t n k : Nat) (f : Dk.F) (hf : Dk.find D s = some (k, f)) (ht : t + n ≤ f.bs.length) (hn1 : f.bs.length ≤ 100000) (hd : D.dead = false) :
    Calls Tryz.prog 87 #[.pointer (some ⟨p, 0, none⟩), .string s, .int .i64 t, .int .i64 n] w (RdRes w ((f.bs.drop t).take n)) := by
  obtain ⟨S, hD, hS⟩ := h.dk
  exact vread_any hD s t n k f hf ht hn1 hd
end Go.Proofs.YtnoknmnbfkdccaaGreatDoor

/- A log's files: there, Size, read, whole. -/
namespace Go.Proofs.YtnoknmnbfkdccaaGreatDoor
open Go.RowKit Go.Shelf

theorem vworld (W : World) {f : Nat} {args : Array Value} {Q : Ending → World → Prop} (h : Calls Tryz.prog f args W Q) : Calls Tryz.prog f args W Q := h
theorem vd1 {w : World} : Below w.heap.size w w.drew := below_drewN _ _ 1
section
variable {B : Nat} {w : World} {m p : Nat} {D : Dk.D} {a : Option Addr} {n c : Nat} {segs : List Int}
theorem vd_name (h : VD B w p D) (s : Int) (hs : -9223372036854775808 ≤ s ∧ s ≤ 9223372036854775807) (W : World) (hb : Below w.heap.size w W) :
    Calls Tryz.prog 39 #[.int .i64 s] W fun e w' => e = .returned (.string (vname s)) ∧ Below W.heap.size W w' := vnameof_any s hs W (h.keep hb).tb.tab
theorem vd_size2 (h : VD B w p D) (s : ByteArray) (W : World) (hb : Below w.heap.size w W) :
    Calls Tryz.prog 60 #[.pointer (some ⟨p, 0, none⟩), .string s] W fun e w' => e = .returned (.tuple #[.int .i64 ((Vl.by' D s).length : Int), .bool (Vl.bs D s).isSome]) ∧ Below W.heap.size W w' := by
  refine (vd_size (h.keep hb) s).mono ?_
  rintro e w' ⟨rfl, hb'⟩
  refine ⟨?_, hb'⟩
  unfold Vl.by' Vl.bs
  cases Dk.find D s <;> rfl

set_option maxRecDepth 100000 in
theorem vthere_any (hL : LgAt B w m p a n c segs) (hD : VD B w p D) (s : Int) (hs : -9223372036854775808 ≤ s ∧ s ≤ 9223372036854775807) :
    Calls Tryz.prog 40 #[.pointer (some ⟨m, 0, none⟩), .int .i64 s] w fun e w' => e = .returned (.bool (Vl.bs D (vname s)).isSome) ∧ Below w.heap.size w w' := by
  have hnm := vd_name hD s hs
  have hsz := vd_size2 hD (vname s)
  obtain ⟨k0, _, _⟩ := hL.cells
  generalize vname s = S at *
  generalize (Vl.bs D S).isSome = r at *
  generalize (Vl.by' D S).length = L at *
  clear hL hD hs
  go_enter Tryz.func40, Tryz.ntmps40
  go_wp2_with fail
  go_region_held3 (fun W => W.cell? ⟨m, 0, none⟩ = some (.pointer (some ⟨p, 0, none⟩))) (first | go_keep | assumption)
    (first
      | (go_at_call 39; (with_reducible refine vworld w.drew ?_); refine (hnm _ vd1).mono ?_; rintro e w1 ⟨rfl, hb1'⟩; have hb1 : Below w.heap.size w w1 := below_of_drew hb1'; have k1 := (hb1.cell (p := ⟨m, 0, none⟩) (cell_lt k0)).trans k0)
      | (go_at_call 60; (with_reducible refine vworld w1 ?_); refine (hsz _ hb1).mono ?_; rintro e w2 ⟨rfl, hb2⟩; have k2 := (hb2.cell (p := ⟨m, 0, none⟩) (cell_lt k1)).trans k1))
  go_wp2
  go_ret
  exact ⟨rfl, hb1.trans (hb2.mono hb1.size)⟩

set_option maxRecDepth 100000 in
theorem vsize_any (hL : LgAt B w m p a n c segs) (hD : VD B w p D) (s : Int) (hs : -9223372036854775808 ≤ s ∧ s ≤ 9223372036854775807) (z : Nat) (hz : z = if segs.contains s then (Vl.by' D (vname s)).length else 0) :
    Calls Tryz.prog 25 #[.pointer (some ⟨m, 0, none⟩), .int .i64 s] w fun e w' => e = .returned (.int .i64 (z : Int)) ∧ Below w.heap.size w w' := by
  have hnm := vd_name hD s hs
  have hsz := vd_size2 hD (vname s)
  have hh := vhas_any hL s
  obtain ⟨k0, _, _⟩ := hL.cells
  cases hc : segs.contains s with
  | true =>
    rw [hc] at hh hz
    rw [if_pos rfl] at hz
    have hz' : Hid (z = (Vl.by' D (vname s)).length) := hz
    rw [← hz] at hsz
    clear hz
    generalize vname s = S at *
    generalize (Vl.bs D S).isSome = r at *
    clear hL hD hs hz'
    go_enter Tryz.func25, Tryz.ntmps25
    go_wp2_with (go_at_call 52; go_must (refine hh.mono ?_; rintro e w1 ⟨rfl, hw⟩; rw [hw]; clear hw w1))
    go_region_held3 (fun W => W.cell? ⟨m, 0, none⟩ = some (.pointer (some ⟨p, 0, none⟩))) (first | go_keep | assumption)
      (first
        | (go_at_call 39; (with_reducible refine vworld w.drew ?_); refine (hnm _ vd1).mono ?_; rintro e w1 ⟨rfl, hb1'⟩; have hb1 : Below w.heap.size w w1 := below_of_drew hb1'; have k1 := (hb1.cell (p := ⟨m, 0, none⟩) (cell_lt k0)).trans k0)
        | (go_at_call 60; (with_reducible refine vworld w1 ?_); refine (hsz _ hb1).mono ?_; rintro e w2 ⟨rfl, hb2⟩; have k2 := (hb2.cell (p := ⟨m, 0, none⟩) (cell_lt k1)).trans k1))
    go_wp2
    go_ret
    exact ⟨rfl, hb1.trans (hb2.mono hb1.size)⟩
  | false =>
    rw [hc] at hh hz
    have hz' : z = 0 := by rw [hz]; rfl
    subst hz'
    clear hz hnm hsz
    go_enter Tryz.func25, Tryz.ntmps25
    go_wp2_with (go_at_call 52; go_must (refine hh.mono ?_; rintro e w1 ⟨rfl, hw⟩; subst hw))
    go_ret
    exact ⟨rfl, Below.refl _ _⟩
theorem rd_mono {w W w' : World} {bs : List Nat} {e : Ending} (hb : Below w.heap.size w W) (h : RdRes W bs e w') : RdRes w bs e w' := by
  obtain ⟨a, c, h1, h2, h3⟩ := h
  exact ⟨a, c, h1, h2.mono hb.size, hb.trans (h3.mono hb.size)⟩
theorem vd_read2 (h : VD B w p D) (s : ByteArray) (t n : Nat) (hf : (Vl.bs D s).isSome = true) (ht : t + n ≤ (Vl.by' D s).length) (hn1 : (Vl.by' D s).length ≤ 100000) (hd : D.dead = false) (W : World) (hb : Below w.heap.size w W) :
    Calls Tryz.prog 87 #[.pointer (some ⟨p, 0, none⟩), .string s, .int .i64 t, .int .i64 n] W (RdRes W (((Vl.by' D s).drop t).take n)) := by
  have h2 := h.keep hb
  cases hk : Dk.find D s with
  | none => unfold Vl.bs at hf; rw [hk] at hf; cases hf
  | some x =>
    obtain ⟨k, f⟩ := x
    have e : Vl.by' D s = f.bs := by unfold Vl.by' Vl.bs; rw [hk]; rfl
    rw [e] at ht hn1 ⊢
    exact vd_read h2 s t n k f hk ht hn1 hd

set_option maxRecDepth 100000 in
theorem vrd_any (hL : LgAt B w m p a n c segs) (hD : VD B w p D) (s : Int) (hs : -9223372036854775808 ≤ s ∧ s ≤ 9223372036854775807) (t k : Nat) (ht : (Vl.bs D (vname s)).isSome = true → t + k ≤ (Vl.by' D (vname s)).length) (hn1 : (Vl.by' D (vname s)).length ≤ 100000) (hd : D.dead = false) :
    Calls Tryz.prog 53 #[.pointer (some ⟨m, 0, none⟩), .int .i64 s, .int .i64 t, .int .i64 k] w (RdRes w (((Vl.by' D (vname s)).drop t).take k)) := by
  have hnm := vd_name hD s hs
  have hth := vthere_any hL hD s hs
  obtain ⟨k0, _, _⟩ := hL.cells
  cases hc : (Vl.bs D (vname s)).isSome with
  | true =>
    rw [hc] at hth
    have hrd := vd_read2 hD (vname s) t k hc (ht hc) hn1 hd
    generalize ((Vl.by' D (vname s)).drop t).take k = bs at *
    generalize vname s = S at *
    clear hL hD hs ht hc hn1 hd
    go_enter Tryz.func53, Tryz.ntmps53
    go_wp2_with (go_at_call 40; go_must (refine hth.mono ?_; rintro e w1 ⟨rfl, hb1⟩; have k1 := (hb1.cell (p := ⟨m, 0, none⟩) (cell_lt k0)).trans k0))
    go_region_held3 (fun W => W.cell? ⟨m, 0, none⟩ = some (.pointer (some ⟨p, 0, none⟩))) (first | go_keep | assumption)
      (first
        | (go_at_call 39; (with_reducible refine vworld w1.drew ?_); refine (hnm _ (bd1 hb1)).mono ?_; rintro e w2 ⟨rfl, hb2'⟩; have hb2 : Below w1.heap.size w1 w2 := below_of_drew hb2'; have hb02 := hb1.trans (hb2.mono hb1.size); have k2 := (hb2.cell (p := ⟨m, 0, none⟩) (cell_lt k1)).trans k1)
        | (go_at_call 87; (with_reducible refine vworld w2 ?_); refine (hrd _ hb02).mono ?_; rintro e w3 hres; have hres2 := rd_mono hb02 hres; clear hres; obtain ⟨a3, c3, rfl, ho3, hb3⟩ := hres2; have k3 := (hb3.cell (p := ⟨m, 0, none⟩) (cell_lt k0)).trans k0))
    go_wp2
    go_ret2
    exact ⟨a3, c3, rfl, ho3, hb3⟩
  | false =>
    rw [hc] at hth
    have hz : Vl.by' D (vname s) = [] := by
      unfold Vl.by'
      cases hb : Vl.bs D (vname s) with
      | none => rfl
      | some x => rw [hb] at hc; cases hc
    rw [hz]
    clear hz ht hc hn1 hd hnm
    go_enter Tryz.func53, Tryz.ntmps53
    go_wp2_with (go_at_call 40; go_must (refine hth.mono ?_; rintro e w1 ⟨rfl, hb1⟩))
    go_ret2
    have e : (([] : List Nat).drop t).take k = [] := by simp
    rw [e]
    exact ⟨none, 0, rfl, World.ownsRow_nil _ _ _ _, hb1⟩
set_option maxRecDepth 100000 in
theorem vwhole_any (hL : LgAt B w m p a n c segs) (hD : VD B w p D) (s : Int) (hs : -9223372036854775808 ≤ s ∧ s ≤ 9223372036854775807) (hn1 : (Vl.by' D (vname s)).length ≤ 100000) (hd : D.dead = false) :
    Calls Tryz.prog 55 #[.pointer (some ⟨m, 0, none⟩), .int .i64 s] w (RdRes w (Vl.by' D (vname s))) := by
  have hnm := vd_name hD s hs
  have hsz := vd_size2 hD (vname s)
  have hrd := fun W (hb : Below w.heap.size w W) => vrd_any (hL.keep hb) (hD.keep hb) s hs 0 (Vl.by' D (vname s)).length (fun _ => by omega) hn1 hd
  rw [List.drop_zero, List.take_length] at hrd
  obtain ⟨k0, _, _⟩ := hL.cells
  generalize Vl.by' D (vname s) = bs at *
  generalize vname s = S at *
  generalize (Vl.bs D S).isSome = r at *
  obtain ⟨L, hl⟩ : ∃ L, L = bs.length := ⟨_, rfl⟩
  rw [← hl] at hsz hrd
  simp only [Int.cast_ofNat_Int] at hrd
  clear hL hD hs hd hn1 hl
  go_enter Tryz.func55, Tryz.ntmps55
  go_wp2_with fail
  go_region_held3 (fun W => W.cell? ⟨m, 0, none⟩ = some (.pointer (some ⟨p, 0, none⟩))) (first | go_keep | assumption)
    (first
      | (go_at_call 39; (with_reducible refine vworld w.drew ?_); refine (hnm _ vd1).mono ?_; rintro e w1 ⟨rfl, hb1'⟩; have hb1 : Below w.heap.size w w1 := below_of_drew hb1'; have k1 := (hb1.cell (p := ⟨m, 0, none⟩) (cell_lt k0)).trans k0)
      | (go_at_call 60; (with_reducible refine vworld w1 ?_); refine (hsz _ hb1).mono ?_; rintro e w2 ⟨rfl, hb2⟩; have k2 := (hb2.cell (p := ⟨m, 0, none⟩) (cell_lt k1)).trans k1; have hb02 := hb1.trans (hb2.mono hb1.size)))
  go_wp2_with (go_at_call 53; go_must (refine (hrd _ hb02).mono ?_; rintro e w3 hres; have hres2 := rd_mono hb02 hres; clear hres; obtain ⟨a3, c3, rfl, ho3, hb3⟩ := hres2))
  go_ret2
  exact ⟨a3, c3, rfl, ho3, hb3⟩
end
end Go.Proofs.YtnoknmnbfkdccaaGreatDoor
