/- A disk as it lies in memory: one file turns; what a disk must be. -/
import Derived.Test.YtefadkengfjdmaaDK1
namespace Go.Proofs.Ytefadkengfjdmaa
open Go.RowKit

theorem MapAt.congr {α β γ : Type} {ek : α → Value} {ev : β → Value} {ev' : γ → Value} {w : World} {b : Nat} {l : List (α × β)} {l' : List (α × γ)} (h : MapAt ek ev w b l) (he : l.map (fun x => (ek x.1, ev x.2)) = l'.map (fun x => (ek x.1, ev' x.2))) : MapAt ek ev' w b l' := by
  obtain ⟨es, c, h1, h2, h3⟩ := h
  exact ⟨es, c, h1, by simp only [EntsAre] at h2 ⊢; rw [h2, he], h3⟩

section
variable {α β γ : Type} [DecidableEq α]
theorem look_mem : ∀ {l : List (α × β)} {k : α} {v : β}, look l k = some v → (k, v) ∈ l
  | (a, x) :: l, k, v, h => by
    by_cases hk : a = k
    · simp only [look, hk, if_true, Option.some.injEq] at h
      rw [hk, h]; exact .head _
    · simp only [look, hk, if_false] at h
      exact .tail _ (look_mem h)
theorem look_part : ∀ {l : List (α × β)} {k : α} {v : β}, look l k = some v → ∃ A B, l = A ++ (k, v) :: B ∧ ∀ x ∈ A, x.1 ≠ k
  | (a, x) :: l, k, v, h => by
    by_cases hk : a = k
    · simp only [look, hk, if_true, Option.some.injEq] at h
      exact ⟨[], l, by rw [hk, h]; rfl, by simp⟩
    · simp only [look, hk, if_false] at h
      obtain ⟨A, B, rfl, hA⟩ := look_part h
      exact ⟨(a, x) :: A, B, rfl, fun y hy => by rcases List.mem_cons.1 hy with rfl | hy <;> first | exact hk | exact hA y hy⟩
theorem mput_part : ∀ {A : List (α × β)} {B : List (α × β)} {k : α} {v v' : β}, (∀ x ∈ A, x.1 ≠ k) → mput (A ++ (k, v) :: B) k v' = A ++ (k, v') :: B
  | [], B, k, v, v', _ => by simp [mput]
  | (a, x) :: A, B, k, v, v', h => by
    have hk : ¬ (a = k) := h (a, x) (.head _)
    simp only [List.cons_append, mput, hk, if_false]
    rw [mput_part fun y hy => h y (.tail _ hy)]
theorem look_none : ∀ {l : List (α × β)} {k : α}, look l k = none ↔ k ∉ l.map (·.1)
  | [], k => by simp [look]
  | (a, x) :: l, k => by
    by_cases hk : a = k
    · simp [look, hk]
    · have hk' : ¬ (k = a) := fun e => hk e.symm
      have := look_none (l := l) (k := k)
      simp only [look, hk, if_false, this, List.map_cons, List.mem_cons, hk', false_or]
theorem look_some_of {l : List (α × β)} {k : α} (h : k ∈ l.map (·.1)) : ∃ v, look l k = some v := by
  cases hl : look l k with
  | some v => exact ⟨v, rfl⟩
  | none => exact absurd h (look_none.1 hl)
theorem look_map (f : β → γ) : ∀ (l : List (α × β)) (k : α), look (l.map fun x => (x.1, f x.2)) k = (look l k).map f
  | [], _ => rfl
  | (a, x) :: l, k => by
    by_cases hk : a = k
    · simp [look, hk]
    · simp only [List.map_cons, look, hk, if_false]
      exact look_map f l k
theorem mput_keys : ∀ (l : List (α × β)) (k : α) (v : β), (mput l k v).map (·.1) = if k ∈ l.map (·.1) then l.map (·.1) else l.map (·.1) ++ [k]
  | [], k, v => rfl
  | (a, x) :: l, k, v => by
    by_cases hk : a = k
    · simp [mput, hk]
    · have hk' : ¬ (k = a) := fun e => hk e.symm
      simp only [mput, hk, if_false, List.map_cons, mput_keys l k v, List.mem_cons, hk', false_or]
      split <;> rfl
theorem mput_nodup {l : List (α × β)} {k : α} {v : β} (h : (l.map (·.1)).Nodup) : ((mput l k v).map (·.1)).Nodup := by
  rw [mput_keys]
  split
  · exact h
  · rename_i hk
    rw [List.nodup_append]
    exact ⟨h, by simp, fun a ha b hb => by simp at hb; subst hb; rintro rfl; exact hk ha⟩
theorem mdel_sub : ∀ (l : List (α × β)) (k : α), (mdel l k).Sublist l
  | [], _ => List.Sublist.refl _
  | (a, x) :: l, k => by
    by_cases hk : a = k
    · simp only [mdel, hk, if_true]; exact List.sublist_cons_self _ _
    · simp only [mdel, hk, if_false]; exact (mdel_sub l k).cons_cons _
theorem mput_mem : ∀ {l : List (α × β)} {k : α} {v : β} {x : α × β}, x ∈ mput l k v → x ∈ l ∨ x = (k, v)
  | [], _, _, _, h => by simp [mput] at h; exact .inr h
  | (a, y) :: l, k, v, x, h => by
    by_cases hk : a = k
    · simp only [mput, hk, if_true] at h
      rcases List.mem_cons.1 h with rfl | h
      · exact .inr rfl
      · exact .inl (.tail _ h)
    · simp only [mput, hk, if_false] at h
      rcases List.mem_cons.1 h with rfl | h
      · exact .inl (.head _)
      · rcases mput_mem h with h | h
        · exact .inl (.tail _ h)
        · exact .inr h
end

/-- one file of the disk has turned -/
theorem Parts.file {w w' : World} {p u fm nm sm n : Nat} {D : Dk.D} {tv : Value} {A B : List (Nat × FH × Dk.F)} {h h' : FH} {f f' : Dk.F} (hP : Parts w p D u fm nm sm tv (A ++ (n, h, f) :: B))
    (hk : ∀ k, k < w.heap.size → k ≠ h.q → h.v.ownBlock ≠ some k → w'.heap[k]? = w.heap[k]?) (hA : ∀ x ∈ A, x.1 ≠ n)
    (hF : FileAt w' h' f') (hq : h'.q = h.q) (hv : ∀ g, h'.v.ownBlock = some g → h.v.ownBlock = some g ∨ w.heap.size ≤ g) :
    Parts w' p { D with files := mput D.files n f' } u fm nm sm tv (A ++ (n, h', f') :: B) := by
  have hx := hP.each (n, h, f) (by simp)
  have hq0 := hx.blk
  have hcell : ∀ {k : Nat} {c : Array Value} {T : TypeId} {r : Nat × Nat}, w.heap[k]? = some (.cells c T r) → T ≠ 58 → T ≠ 5 → w'.heap[k]? = w.heap[k]? := fun {k c T r} hc h1 h2 =>
    hk k (heap_lt hc) (cells_ne hc hq0 h1) fun hg => by
      obtain ⟨c', hc'⟩ := own_blk hx.row hg
      exact (cells_ne hc hc' h2) rfl
  have hmap : ∀ {k : Nat} {es : Array MapEntry} {cl : Nat}, w.heap[k]? = some (.map es cl) → w'.heap[k]? = w.heap[k]? := fun {k es cl} hc =>
    hk k (heap_lt hc) (cells_map hq0 hc).symm fun hg => by
      obtain ⟨c', hc'⟩ := own_blk hx.row hg
      exact (cells_map hc' hc) rfl
  have hqs := hP.qs
  simp only [List.map_append, List.map_cons, List.nodup_append, List.nodup_cons] at hqs
  have hvs := List.pairwise_append.1 hP.vs
  have hvs2 := List.pairwise_cons.1 hvs.2.1
  have hother : ∀ x, (x ∈ A ∨ x ∈ B) → FileAt w' x.2.1 x.2.2 := fun x hx' => by
    have hm : x ∈ A ++ (n, h, f) :: B := by rcases hx' with h | h <;> simp [h]
    have hfx := hP.each x hm
    refine hfx.keep (hk _ (heap_lt hfx.blk) ?_ fun hg => ?_) fun g hg => ?_
    · rcases hx' with hx' | hx'
      · exact hqs.2.2 _ (List.mem_map.2 ⟨x, hx', rfl⟩) _ (.head _)
      · exact fun e => hqs.2.1.1 (by rw [← e]; exact List.mem_map.2 ⟨x, hx', rfl⟩)
    · obtain ⟨c', hc'⟩ := own_blk hx.row hg
      exact (cells_ne hfx.blk hc' (by decide)) rfl
    · obtain ⟨c', hc'⟩ := own_blk hfx.row hg
      refine hk g (heap_lt hc') (cells_ne hc' hq0 (by decide)) fun hg' => ?_
      rcases hx' with hx' | hx'
      · rcases hvs.2.2 x hx' (n, h, f) (.head _) with h0 | h0
        · rw [h0] at hg; cases hg
        · exact h0 (by rw [hg, hg'])
      · rcases hvs2.1 x hx' with h0 | h0
        · simp only at h0; rw [h0] at hg'; cases hg'
        · exact h0 (by rw [hg, hg'])
  have hjf := hP.jf
  refine ⟨?_, ?_, ?_, ?_, ?_, ?_, ?_, ?_, ?_, hP.ne⟩
  · exact (hcell hP.blk (by decide) (by decide)).trans hP.blk
  · rw [← hjf]
    simp only [List.map_append, List.map_cons]
    rw [mput_part]
    intro x hx'
    obtain ⟨y, hy, rfl⟩ := List.mem_map.1 hx'
    exact hA y hy
  · obtain ⟨es, c, he⟩ := hP.files.blk
    refine (hP.files.keep (hmap he)).congr ?_
    simp [fv, hq]
  · obtain ⟨es, c, he⟩ := hP.names.blk
    exact hP.names.keep (hmap he)
  · obtain ⟨es, c, he⟩ := hP.kept.blk
    exact hP.kept.keep (hmap he)
  · refine own_keep hP.turns fun g hg => ?_
    obtain ⟨c, hc⟩ := own_blk hP.turns hg
    exact hcell hc (by decide) (by decide)
  · intro x hx'
    rcases List.mem_append.1 hx' with h1 | h1
    · exact hother x (.inl h1)
    · rcases List.mem_cons.1 h1 with rfl | h1
      · exact hF
      · exact hother x (.inr h1)
  · have := hP.qs
    simp only [List.map_append, List.map_cons] at this ⊢
    rw [hq]
    exact this
  · have hfar : ∀ x, (x ∈ A ∨ x ∈ B) → ∀ g, h'.v.ownBlock = some g → x.2.1.v.ownBlock ≠ some g := fun x hx' g hg hxg => by
      have hm : x ∈ A ++ (n, h, f) :: B := by rcases hx' with h | h <;> simp [h]
      obtain ⟨c', hc'⟩ := own_blk (hP.each x hm).row hxg
      rcases hv g hg with h1 | h1
      · rcases hx' with hx' | hx'
        · rcases hvs.2.2 x hx' (n, h, f) (.head _) with h0 | h0
          · rw [h0] at hxg; cases hxg
          · exact h0 (by rw [hxg, h1])
        · rcases hvs2.1 x hx' with h0 | h0
          · simp only at h0; rw [h0] at h1; cases h1
          · exact h0 (by rw [hxg, h1])
      · have := heap_lt hc'; omega
    refine List.pairwise_append.2 ⟨hvs.1, List.pairwise_cons.2 ⟨fun x hx' => ?_, hvs2.2⟩, fun x hx' y hy => ?_⟩
    · cases hg : h'.v.ownBlock with
      | none => exact .inl rfl
      | some g => exact .inr fun e => hfar x (.inr hx') g hg e.symm
    · rcases List.mem_cons.1 hy with rfl | hy
      · cases hg : x.2.1.v.ownBlock with
        | none => exact .inl rfl
        | some g => exact .inr fun e => hfar x (.inl hx') g e.symm hg
      · exact hvs.2.2 x hx' y (.tail _ hy)

/-- what a disk must be -/
structure Dk.Ok (D : Dk.D) : Prop where
  q : D.quota ≤ 4194304
  use : Dk.sum D.files ≤ D.quota
  fk : (D.files.map (·.1)).Nodup
  pos : ∀ x ∈ D.files, 1 ≤ x.1 ∧ x.1 ≤ D.last
  nk : (D.names.map (·.1)).Nodup
  kk : (D.kept.map (·.1)).Nodup
  nf : ∀ x ∈ D.names, x.2 ∈ D.files.map (·.1)
  kf : ∀ x ∈ D.kept, x.2 ∈ D.files.map (·.1)
  tf : ∀ t ∈ D.turns, t.given ≠ ⟨#[]⟩ → t.file ∈ D.files.map (·.1)
  stop : -9223372036854775808 ≤ D.stop ∧ D.stop ≤ 9223372036854775807
  fault : -9223372036854775808 ≤ D.fault ∧ D.fault ≤ 9223372036854775807
  ns : ∀ x ∈ D.names, x.1.size ≤ 16
  ks : ∀ x ∈ D.kept, x.1.size ≤ 16
  ts : ∀ t ∈ D.turns, t.given.size ≤ 16

/-- of what was there nothing has turned but the blocks of a set -/
structure OnlyIn (S : Nat → Prop) (w w' : World) : Prop where
  os : w'.os = w.os
  tape : w'.tape = w.tape
  output : w'.output = w.output
  size : w.heap.size ≤ w'.heap.size
  block : ∀ k, k < w.heap.size → ¬ S k → w'.heap[k]? = w.heap[k]?
theorem OnlyIn.refl (S : Nat → Prop) (w : World) : OnlyIn S w w := ⟨rfl, rfl, rfl, Nat.le_refl _, fun _ _ _ => rfl⟩
theorem OnlyIn.trans {S : Nat → Prop} {a b c : World} (h : OnlyIn S a b) (k : OnlyIn (fun x => S x ∨ a.heap.size ≤ x) b c) : OnlyIn S a c :=
  ⟨k.os.trans h.os, k.tape.trans h.tape, k.output.trans h.output, Nat.le_trans h.size k.size, fun i hi hn => (k.block i (Nat.lt_of_lt_of_le hi h.size) (fun hs => hs.elim hn fun h1 => absurd hi (Nat.not_lt.2 h1))).trans (h.block i hi hn)⟩
theorem OnlyIn.mono {S S' : Nat → Prop} {a b : World} (h : OnlyIn S a b) (hs : ∀ k, k < a.heap.size → S k → S' k) : OnlyIn S' a b :=
  ⟨h.os, h.tape, h.output, h.size, fun i hi hn => h.block i hi fun hS => hn (hs i hi hS)⟩
theorem OnlyIn.of_below {S : Nat → Prop} {a b : World} (h : Below a.heap.size a b) : OnlyIn S a b := ⟨h.os, h.tape, h.output, h.size, fun i hi _ => h.block i hi⟩
theorem OnlyIn.below {S : Nat → Prop} {a b : World} {B : Nat} (h : OnlyIn S a b) (hB : B ≤ a.heap.size) (hS : ∀ k, S k → B ≤ k) : Below B a b := ⟨h.os, h.tape, h.output, h.size, fun k hk => h.block k (by omega) fun hs => by have := hS k hs; omega⟩

/-- a disk lies at p, within the blocks S -/
def DK (w : World) (p : Nat) (D : Dk.D) (S : Nat → Prop) : Prop :=
  Dk.Ok D ∧ ∃ fm nm sm tv J, Parts w p D (Dk.sum D.files) fm nm sm tv J ∧ ∀ k, foot p fm nm sm tv J k → S k
theorem DK.keep {w w' : World} {p : Nat} {D : Dk.D} {S S' : Nat → Prop} (h : DK w p D S) (hk : ∀ k, k < w.heap.size → S k → w'.heap[k]? = w.heap[k]?) (hs : ∀ k, k < w.heap.size → S k → S' k) : DK w' p D S' := by
  obtain ⟨hO, fm, nm, sm, tv, J, hP, hS⟩ := h
  exact ⟨hO, fm, nm, sm, tv, J, hP.keep fun k hf => hk k (hP.lt hf) (hS k hf), fun k hf => hs k (hP.lt hf) (hS k hf)⟩
end Go.Proofs.Ytefadkengfjdmaa
