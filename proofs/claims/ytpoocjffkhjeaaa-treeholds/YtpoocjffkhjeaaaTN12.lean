/- What the program's Scan and All do; all that is asked of the program's trees. -/
import Derived.Test.YtpoocjffkhjeaaaTN11
import Derived.Test.YtpoocjffkhjeaaaTN9
namespace Go.Proofs.Ytpoocjffkhjeaaa
open Go.RowKit

theorem walk_any {N : Nat → Prop} (w : World) (most : Int) (lo hi : ByteArray) : ∀ (t : Tn.T) (v : Option Addr) (V : World) (acc : List It.I) (a : Option Addr) (n c : Nat) (hs : List IH), It.Up t.list → (∀ x ∈ t.list, It.may x = true) → Lies N w v t → ScSt w most V acc a n c hs → n + t.list.length ≤ 5000 →
    Calls Try.prog 35 #[.pointer v, .string lo, .string hi, .func (.func 36) #[] #[.pointer (some ⟨w.heap.size + 1, 0, none⟩), .pointer (some ⟨w.heap.size, 0, none⟩)]] V (WalkRes w most (Tn.feed most acc (t.list.filter (It.inside (kb lo) (kb hi)))))
  | .e, v, V, acc, a, n, c, hs, _, _, h, hS, _ => by
    obtain rfl : v = none := h
    exact walk_nil w most lo hi V acc a n c hs hS
  | .n l y r, v, V, acc, a, n, c, hs, hu, hm, h, hS, hn => by
    obtain ⟨u1, u2, _, _⟩ := Tn.up_parts hu
    exact walk_node w most lo hi l r y v V acc a n c hs h hu (hm y (by simp [Tn.T.list])) hS hn
      (fun v V acc a n c hs h hS hn => walk_any w most lo hi l v V acc a n c hs u1 (fun x hx => hm x (by simp [Tn.T.list, hx])) h hS hn)
      (fun v V acc a n c hs h hS hn => walk_any w most lo hi r v V acc a n c hs u2 (fun x hx => hm x (by simp [Tn.T.list, hx])) h hS hn)

set_option maxRecDepth 100000 in
set_option maxHeartbeats 1000000 in
theorem tscan_any (p : Addr) (L : List It.I) (S : Nat → Prop) (lo hi : ByteArray) (most : Int) (w : World) (h : TT w p L S) (hlen : L.length ≤ 1000) (_ : -9223372036854775808 ≤ most ∧ most ≤ 9223372036854775807) :
    Calls Try.prog 20 #[.pointer (some p), .string lo, .string hi, .int .i64 most] w (TAllRes w (It.scan L (kb lo) (kb hi) most)) := by
  obtain ⟨b, v, t, N, rfl, rfl, hT⟩ := h
  have hb1 := below_alloc w (.cells #[.int .i64 most] 3)
  have hb2 := hb1.alloc hb1.size (.cells #[.slice none 0 0] 22)
  have hm := ismade_any _ _ _ _ _ (hT.on hb1).head
  obtain ⟨c0, c1, c2, c3, _⟩ := (hT.on hb2).head.cells
  have hS : ScSt w most ((w.alloc (.cells #[.int .i64 most] 3)).alloc (.cells #[.slice none 0 0] 22)) [] none 0 0 [] := by
    refine ⟨hb2, rfl, ?_, ?_, ⟨rfl, .inl ⟨rfl, rfl⟩⟩, ItHeld.nil _ _⟩
    · exact (heap_alloc_old _ _ (by simp)).trans (heap_alloc_new w _)
    · rw [show w.heap.size + 1 = (w.alloc (.cells #[.int .i64 most] 3)).heap.size by simp]
      exact heap_alloc_new _ _
  have hw := walk_any w most lo hi t v _ _ _ _ _ _ hT.up hT.may hT.lies hS (by omega)
  rw [← Tn.feed_scan]
  have HLen : Hid ((Tn.feed most [] (t.list.filter (It.inside (kb lo) (kb hi)))).1.length ≤ 1000) := (by
    have h1 := Tn.feed_len most [] (t.list.filter (It.inside (kb lo) (kb hi)))
    have h2 := List.length_filter_le (It.inside (kb lo) (kb hi)) t.list
    simp only [List.length_nil] at h1
    omega : (Tn.feed most [] (t.list.filter (It.inside (kb lo) (kb hi)))).1.length ≤ 1000)
  generalize Tn.feed most [] (t.list.filter (It.inside (kb lo) (kb hi))) = R at *
  clear hS hT hb1 hb2
  go_enter Try.func20, Try.ntmps20
  go_wp2_with (first
    | (go_at_call 31; go_must (refine hm.mono ?_; rintro e w1 ⟨rfl, hw⟩; rw [hw]; clear hw w1))
    | (go_at_call 35; go_must (refine hw.mono ?_; rintro e w3 ⟨rfl, a3, n3, c3, hs3, hS3⟩; obtain ⟨d0, d1, d2⟩ := hS3.cells)))
  go_ret
  have hl := HLen.out
  rw [hS3.num] at hl
  obtain ⟨a', c', e, hn1, hn2⟩ := t_shape hS3.own
  simp only [Value.slice.injEq] at e
  obtain ⟨rfl, _, rfl⟩ := e
  refine ⟨a3, c3, hs3, by rw [hS3.num]; rfl, ?_, hS3.below⟩
  rw [hS3.num]
  exact ⟨⟨trow_of_owns ihE hS3.own (by decide) (by omega), hS3.held.all⟩, hn1, hn2⟩

set_option maxRecDepth 100000 in
set_option maxHeartbeats 1000000 in
theorem tall_all (p : Addr) (L : List It.I) (S : Nat → Prop) (w : World) (h : TT w p L S) (hlen : L.length ≤ 1000) :
    Calls Try.prog 13 #[.pointer (some p)] w (TAllRes w L) := by
  have hl := tlen_any p L S w h
  have hs := fun W (hW : Below w.heap.size w W) => tscan_any p L S ⟨#[]⟩ ⟨#[]⟩ (L.length : Nat) W (h.keep (fun k hk => hW.block k (by obtain ⟨_, _, _, _, _, _, hT⟩ := h; exact hT.lt k hk)) hW.size) hlen (by omega)
  have e : It.scan L (kb ⟨#[]⟩) (kb ⟨#[]⟩) (L.length : Nat) = L := Tn.scan_all L
  rw [e] at hs
  clear h e
  obtain ⟨n, hn⟩ : ∃ n, n = L.length := ⟨_, rfl⟩
  rw [← hn] at hl hs
  have Hn : Hid (n = L.length) := hn
  clear hn
  go_enter Try.func13, Try.ntmps13
  go_wp2_with (first
    | (go_at_call 14; go_must (refine hl.mono ?_; rintro e w1 ⟨rfl, hb1⟩))
    | (go_at_call 20; go_must (refine (hs _ hb1).mono ?_; rintro e w2 ⟨a2, c2, hs2, rfl, hi2, hb2⟩)))
  go_ret
  exact ⟨a2, c2, hs2, rfl, hi2, hb1.trans (hb2.mono hb1.size)⟩

theorem tput_any (p : Addr) (L : List It.I) (S : Nat → Prop) (h : IH) (x : It.I) (w : World) (hT : TT w p L S) (hl : L.length ≤ 1000) (hx : IsItem w h x) : Calls Try.prog 23 #[.pointer (some p), iv h] w fun e w' => ∃ S', e = .returned (.int .i64 (if It.may x = true then 0 else 1)) ∧ TT w' p (if It.may x = true then It.put L x else L) S' ∧ (∀ k, S' k → S k ∨ w.heap.size ≤ k) ∧ Only (fun k => k = p.block) w w' := by
  obtain ⟨b, v, t, N, rfl, rfl, hT⟩ := hT
  cases hm : It.may x with
  | false =>
    refine (tput_no b v t N S h x w hT hx hm).mono ?_
    rintro e w' ⟨rfl, hb⟩
    exact ⟨S, rfl, ⟨b, v, t, N, rfl, rfl, hT.on hb⟩, fun k hk => .inl hk, Only.of_below hb⟩
  | true =>
    refine (tput_yes b v t N S h x w hT hl hx hm).mono ?_
    rintro e w' ⟨S', rfl, h1, h2, h3⟩
    exact ⟨S', rfl, h1, h2, h3⟩

/-- all that is asked of the program's trees -/
theorem treeC : TreeC TT where
  keep := fun h hk hs => h.keep hk hs
  foot := fun h k hk => by obtain ⟨_, _, _, _, _, _, hT⟩ := h; exact hT.lt k hk
  head := fun h => by obtain ⟨b, _, _, _, rfl, _, hT⟩ := h; exact hT.self
  check := tcheck_any
  sorted := fun a n c hs xs w hn hi => tsorted_any a n c hs xs w hn hi
  same := fun a n c hs xs a' n' c' hs' ys w hn hn' hi hi' => tsame_any a n c hs xs a' n' c' hs' ys w hn hn' hi hi'
  new := tnew_any
  puth := tput_any
  all := tall_all
  len := fun p L S w h _ => tlen_any p L S w h
  weight := fun p L S w h _ => tweight_any p L S w h
  get := fun p L S s w h _ _ => tget_any p L S s w h
  scan := fun p L S lo hi most w h hl _ _ hm => tscan_any p L S lo hi most w h hl hm
  clone := fun p L S w h _ => tclone_any p L S w h
end Go.Proofs.Ytpoocjffkhjeaaa
